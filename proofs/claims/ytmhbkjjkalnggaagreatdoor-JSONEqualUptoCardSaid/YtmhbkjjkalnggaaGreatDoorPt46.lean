import Derived.Test.YtmhbkjjkalnggaaGreatDoorPt44
import Derived.Test.YtmhbkjjkalnggaaGreatDoorPt45
set_option maxRecDepth 1000000
set_option maxHeartbeats 8000000
namespace Go.Proofs.YtmhbkjjkalnggaaGreatDoor
open Go.RowKit
set_option linter.unusedVariables false
theorem good_bad4 (w : World) (b : Bool) (dn : Bool) (dl : List UInt8) (dx : Int) (t : List UInt8) (A A' : Option Addr) (nl c nn c' : Nat) (hne : b = true ∨ dn = true ∨ dl ≠ [] ∨ dx ≠ 0 ∨ t ≠ [] ∨ nn ≠ 0) :
   Calls Tryz.prog 41 #[.agg (jvC 4 b ⟨dn, dl, dx⟩ t (.slice A nl c) (.slice A' nn c'))] w fun e w' => e = .returned (.bool false) /\ Below w.heap.size w w' := by
 have ht0 : (bs []).toList = [] := bs_toList []
 obtain ⟨w1, hw1⟩ : ∃ w1, w1 = w.alloc (.cells (jvC 4 b ⟨dn, dl, dx⟩ t (.slice A nl c) (.slice A' nn c')) 28) := ⟨_, rfl⟩
 have HBX : Hid (BoxJ w w1 A A' nl c nn c' (4) b ⟨dn, dl, dx⟩ t) := hid ⟨by rw [hw1]; exact Row.new _ _ _, by rw [hw1]; exact (Below.refl _ _).alloc (Nat.le_refl _) _⟩
 have x0 : w1.cell? ⟨w.heap.size, 0, none⟩ = some (.int .i64 (4)) := HBX.out.row.cell (i := 0) rfl
 have x1 : w1.cell? ⟨w.heap.size, 1, none⟩ = some (.bool b) := HBX.out.row.cell (i := 1) rfl
 have x2 : w1.cell? ⟨w.heap.size, 2, none⟩ = some (.bool dn) := HBX.out.row.cell (i := 2) rfl
 have x3 : w1.cell? ⟨w.heap.size, 3, none⟩ = some (.string (bs dl)) := HBX.out.row.cell (i := 3) rfl
 have x4 : w1.cell? ⟨w.heap.size, 4, none⟩ = some (.int .i64 dx) := HBX.out.row.cell (i := 4) rfl
 have x5 : w1.cell? ⟨w.heap.size, 5, none⟩ = some (.string (bs t)) := HBX.out.row.cell (i := 5) rfl
 have x6 : w1.cell? ⟨w.heap.size, 6, none⟩ = some (.slice A nl c) := HBX.out.row.cell (i := 6) rfl
 have x7 : w1.cell? ⟨w.heap.size, 7, none⟩ = some (.slice A' nn c') := HBX.out.row.cell (i := 7) rfl
 cases b with
 | true =>
   clear hne
   go_enter Tryz.func41, Tryz.ntmps41
   go_upto_region 1 with fail
   rw [<- hw1]
   clear hw1
   go_wp2
   go_ret
   exact ⟨rfl, HBX.out.below⟩
 | false =>
   cases dn with
   | true =>
     clear hne
     go_enter Tryz.func41, Tryz.ntmps41
     go_upto_region 1 with fail
     rw [<- hw1]
     clear hw1
     go_wp2
     go_ret
     exact ⟨rfl, HBX.out.below⟩
   | false =>
     by_cases hdl : dl = []
     · subst hdl
       by_cases hdx : dx = 0
       · subst hdx
         by_cases ht : t = []
         · subst ht
           by_cases hnn : nn = 0
           · subst hnn
             exfalso
             rcases hne with h | h | h | h | h | h <;> first | exact absurd rfl h | cases h
           · have e1 : (0 : Int) < (nn : Int) := by omega
             clear hne
             go_enter Tryz.func41, Tryz.ntmps41
             go_upto_region 1 with fail
             rw [<- hw1]
             clear hw1
             go_wp2
             go_ret
             exact ⟨rfl, HBX.out.below⟩
         · obtain ⟨e1, e2⟩ := bs_no ht
           have e3 : ((bs t).toList != []) = true := by rw [bne_iff_ne]; exact e2
           clear hne
           clear ht
           go_enter Tryz.func41, Tryz.ntmps41
           go_upto_region 1 with fail
           rw [<- hw1]
           clear hw1
           go_wp2
           go_ret
           exact ⟨rfl, HBX.out.below⟩
       · have e1 : (dx == 0) = false := by rw [beq_eq_false_iff_ne]; exact hdx
         clear hne
         clear hdx
         go_enter Tryz.func41, Tryz.ntmps41
         go_upto_region 1 with fail
         rw [<- hw1]
         clear hw1
         go_wp2
         go_ret
         exact ⟨rfl, HBX.out.below⟩
     · obtain ⟨e1, e2⟩ := bs_no hdl
       clear hne
       clear hdl
       go_enter Tryz.func41, Tryz.ntmps41
       go_upto_region 1 with fail
       rw [<- hw1]
       clear hw1
       go_wp2
       go_ret
       exact ⟨rfl, HBX.out.below⟩
theorem good_bad5 (w : World) (b : Bool) (dn : Bool) (dl : List UInt8) (dx : Int) (t : List UInt8) (A A' : Option Addr) (nl c nn c' : Nat) (hne : b = true ∨ dn = true ∨ dl ≠ [] ∨ dx ≠ 0 ∨ t ≠ []) :
   Calls Tryz.prog 41 #[.agg (jvC 5 b ⟨dn, dl, dx⟩ t (.slice A nl c) (.slice A' nn c'))] w fun e w' => e = .returned (.bool false) /\ Below w.heap.size w w' := by
 have ht0 : (bs []).toList = [] := bs_toList []
 obtain ⟨w1, hw1⟩ : ∃ w1, w1 = w.alloc (.cells (jvC 5 b ⟨dn, dl, dx⟩ t (.slice A nl c) (.slice A' nn c')) 28) := ⟨_, rfl⟩
 have HBX : Hid (BoxJ w w1 A A' nl c nn c' (5) b ⟨dn, dl, dx⟩ t) := hid ⟨by rw [hw1]; exact Row.new _ _ _, by rw [hw1]; exact (Below.refl _ _).alloc (Nat.le_refl _) _⟩
 have x0 : w1.cell? ⟨w.heap.size, 0, none⟩ = some (.int .i64 (5)) := HBX.out.row.cell (i := 0) rfl
 have x1 : w1.cell? ⟨w.heap.size, 1, none⟩ = some (.bool b) := HBX.out.row.cell (i := 1) rfl
 have x2 : w1.cell? ⟨w.heap.size, 2, none⟩ = some (.bool dn) := HBX.out.row.cell (i := 2) rfl
 have x3 : w1.cell? ⟨w.heap.size, 3, none⟩ = some (.string (bs dl)) := HBX.out.row.cell (i := 3) rfl
 have x4 : w1.cell? ⟨w.heap.size, 4, none⟩ = some (.int .i64 dx) := HBX.out.row.cell (i := 4) rfl
 have x5 : w1.cell? ⟨w.heap.size, 5, none⟩ = some (.string (bs t)) := HBX.out.row.cell (i := 5) rfl
 have x6 : w1.cell? ⟨w.heap.size, 6, none⟩ = some (.slice A nl c) := HBX.out.row.cell (i := 6) rfl
 have x7 : w1.cell? ⟨w.heap.size, 7, none⟩ = some (.slice A' nn c') := HBX.out.row.cell (i := 7) rfl
 cases b with
 | true =>
   clear hne
   go_enter Tryz.func41, Tryz.ntmps41
   go_upto_region 1 with fail
   rw [<- hw1]
   clear hw1
   go_wp2
   go_ret
   exact ⟨rfl, HBX.out.below⟩
 | false =>
   cases dn with
   | true =>
     clear hne
     go_enter Tryz.func41, Tryz.ntmps41
     go_upto_region 1 with fail
     rw [<- hw1]
     clear hw1
     go_wp2
     go_ret
     exact ⟨rfl, HBX.out.below⟩
   | false =>
     by_cases hdl : dl = []
     · subst hdl
       by_cases hdx : dx = 0
       · subst hdx
         by_cases ht : t = []
         · subst ht
           exfalso
           rcases hne with h | h | h | h | h <;> first | exact absurd rfl h | cases h
         · obtain ⟨e1, e2⟩ := bs_no ht
           have e3 : ((bs t).toList != []) = true := by rw [bne_iff_ne]; exact e2
           clear hne
           clear ht
           go_enter Tryz.func41, Tryz.ntmps41
           go_upto_region 1 with fail
           rw [<- hw1]
           clear hw1
           go_wp2
           go_ret
           exact ⟨rfl, HBX.out.below⟩
       · have e1 : (dx == 0) = false := by rw [beq_eq_false_iff_ne]; exact hdx
         clear hne
         clear hdx
         go_enter Tryz.func41, Tryz.ntmps41
         go_upto_region 1 with fail
         rw [<- hw1]
         clear hw1
         go_wp2
         go_ret
         exact ⟨rfl, HBX.out.below⟩
     · obtain ⟨e1, e2⟩ := bs_no hdl
       clear hne
       clear hdl
       go_enter Tryz.func41, Tryz.ntmps41
       go_upto_region 1 with fail
       rw [<- hw1]
       clear hw1
       go_wp2
       go_ret
       exact ⟨rfl, HBX.out.below⟩
theorem good_other (w : World) (k : Int) (b : Bool) (dn : Bool) (dl : List UInt8) (dx : Int) (t : List UInt8) (A A' : Option Addr) (nl c nn c' : Nat) (hk : k < 0 ∨ 5 < k) :
   Calls Tryz.prog 41 #[.agg (jvC k b ⟨dn, dl, dx⟩ t (.slice A nl c) (.slice A' nn c'))] w fun e w' => e = .returned (.bool false) /\ Below w.heap.size w w' := by
 obtain ⟨w1, hw1⟩ : ∃ w1, w1 = w.alloc (.cells (jvC k b ⟨dn, dl, dx⟩ t (.slice A nl c) (.slice A' nn c')) 28) := ⟨_, rfl⟩
 have HBX : Hid (BoxJ w w1 A A' nl c nn c' (k) b ⟨dn, dl, dx⟩ t) := hid ⟨by rw [hw1]; exact Row.new _ _ _, by rw [hw1]; exact (Below.refl _ _).alloc (Nat.le_refl _) _⟩
 have x0 : w1.cell? ⟨w.heap.size, 0, none⟩ = some (.int .i64 (k)) := HBX.out.row.cell (i := 0) rfl
 have x1 : w1.cell? ⟨w.heap.size, 1, none⟩ = some (.bool b) := HBX.out.row.cell (i := 1) rfl
 have x2 : w1.cell? ⟨w.heap.size, 2, none⟩ = some (.bool dn) := HBX.out.row.cell (i := 2) rfl
 have x3 : w1.cell? ⟨w.heap.size, 3, none⟩ = some (.string (bs dl)) := HBX.out.row.cell (i := 3) rfl
 have x4 : w1.cell? ⟨w.heap.size, 4, none⟩ = some (.int .i64 dx) := HBX.out.row.cell (i := 4) rfl
 have x5 : w1.cell? ⟨w.heap.size, 5, none⟩ = some (.string (bs t)) := HBX.out.row.cell (i := 5) rfl
 have x6 : w1.cell? ⟨w.heap.size, 6, none⟩ = some (.slice A nl c) := HBX.out.row.cell (i := 6) rfl
 have x7 : w1.cell? ⟨w.heap.size, 7, none⟩ = some (.slice A' nn c') := HBX.out.row.cell (i := 7) rfl
 rcases hk with hk | hk
 · have e1 : decide (k < 0) = true := decide_eq_true hk
   go_enter Tryz.func41, Tryz.ntmps41
   go_upto_region 1 with fail
   rw [<- hw1]
   clear hw1
   go_wp2
   go_ret
   exact ⟨rfl, HBX.out.below⟩
 · have e1 : decide (k < 0) = false := decide_eq_false (by omega)
   have e2 : decide (k > 5) = true := decide_eq_true hk
   go_enter Tryz.func41, Tryz.ntmps41
   go_upto_region 1 with fail
   rw [<- hw1]
   clear hw1
   go_wp2
   go_ret
   exact ⟨rfl, HBX.out.below⟩
theorem good_body4 (w : World) (R : Bool) (A A' : Option Addr) (nl c nn c' : Nat) (l : List JV) (ns : List (List UInt8)) (hlc : nl <= c) (hcm : c <= 9223372036854775807) (hnc : 0 <= c') (hcm' : c' <= 9223372036854775807)
   (hNM : ∀ i, i < 0 -> ∃ g off, A' = some ⟨g, off, none⟩ /\ ∀ V, Below w.heap.size w V -> V.cell? ⟨g, off + i, none⟩ = some (.string (bs (ns.getD i []))))
   (hU : ∀ i, i < 0 -> ∀ V, Calls Tryz.prog 72 #[.string (bs (ns.getD i []))] V fun e w' => e = .returned (.bool (Lib.validD (ns.getD i []))) /\ V = w')
   (hIH : ∀ i, i < nl -> ∀ V, Below w.heap.size w V -> ∃ g2 off2, ∃ cs2 : Array Value, A = some ⟨g2, off2, none⟩ /\ cs2.size = 8 /\ V.rangeAt g2 (off2 + i * 8) cs2.toList /\ Calls Tryz.prog 41 #[.agg cs2] V fun e w' => e = .returned (.bool (askJ (l.getD i JV.null))) /\ Below V.heap.size V w')
   (hNO : ∀ i, i < nl -> askJ (l.getD i JV.null) = false -> R = false) (hNO1 : ∀ i, i < 0 -> Lib.validD (ns.getD i []) = false -> R = false) (hNO2 : ∀ p q, p < q -> q < 0 -> ns.getD p [] = ns.getD q [] -> R = false)
   (hYES : (∀ q, q < nl -> askJ (l.getD q JV.null) = true) -> (∀ q, q < 0 -> Lib.validD (ns.getD q []) = true /\ ∀ p, p < q -> ns.getD p [] ≠ ns.getD q []) -> R = true) :
   Calls Tryz.prog 41 #[.agg (jvC 4 false ⟨false, [], 0⟩ [] (.slice A nl c) (.slice A' 0 c'))] w fun e w' => e = .returned (.bool R) /\ Below w.heap.size w w' := by
 have ht0 : (bs []).toList = [] := bs_toList []
 obtain ⟨w1, hw1⟩ : ∃ w1, w1 = w.alloc (.cells (jvC 4 false ⟨false, [], 0⟩ [] (.slice A nl c) (.slice A' 0 c')) 28) := ⟨_, rfl⟩
 have HNM := hid hNM
 have HU := hid hU
 have IH := hid hIH
 have HNO := hid hNO
 have HNO1 := hid hNO1
 have HNO2 := hid hNO2
 have HYES := hid hYES
 clear hNM hU hIH hNO hNO1 hNO2 hYES
 have HBX : Hid (BoxJ w w1 A A' nl c 0 c' 4 false ⟨false, [], 0⟩ []) := hid ⟨by rw [hw1]; exact Row.new _ _ _, by rw [hw1]; exact (Below.refl _ _).alloc (Nat.le_refl _) _⟩
 have x0 : w1.cell? ⟨w.heap.size, 0, none⟩ = some (.int .i64 (4)) := HBX.out.row.cell (i := 0) rfl
 have x1 : w1.cell? ⟨w.heap.size, 1, none⟩ = some (.bool false) := HBX.out.row.cell (i := 1) rfl
 have x2 : w1.cell? ⟨w.heap.size, 2, none⟩ = some (.bool false) := HBX.out.row.cell (i := 2) rfl
 have x3 : w1.cell? ⟨w.heap.size, 3, none⟩ = some (.string (bs [])) := HBX.out.row.cell (i := 3) rfl
 have x4 : w1.cell? ⟨w.heap.size, 4, none⟩ = some (.int .i64 0) := HBX.out.row.cell (i := 4) rfl
 have x5 : w1.cell? ⟨w.heap.size, 5, none⟩ = some (.string (bs [])) := HBX.out.row.cell (i := 5) rfl
 have x6 : w1.cell? ⟨w.heap.size, 6, none⟩ = some (.slice A nl c) := HBX.out.row.cell (i := 6) rfl
 have x7 : w1.cell? ⟨w.heap.size, 7, none⟩ = some (.slice A' 0 c') := HBX.out.row.cell (i := 7) rfl
 go_enter Tryz.func41, Tryz.ntmps41
 go_upto_region 1 with fail
 rw [<- hw1]
 clear hw1
 go_wp2_with fail
 refine (may_zero w1).mono ?_
 rintro e w2 ⟨rfl, hb⟩
 have HB2 := hid (HBX.out.call hb)
 clear hb x0 x1 x2 x3 x4 x5 x6 x7
 have x0 := HB2.out.row.cell (i := 0) (v := .int .i64 (4)) rfl
 have x5 := HB2.out.row.cell (i := 5) (v := .string (bs [])) rfl
 have x6 := HB2.out.row.cell (i := 6) (v := .slice A nl c) rfl
 have x7 := HB2.out.row.cell (i := 7) (v := .slice A' 0 c') rfl
 go_wp2_with fail
 refine (utf_nil w2).mono ?_
 rintro e w3 ⟨rfl, rfl⟩
 go_wp2_with fail
 clear x0 x5 x6 x7
 go_loopw [3] (fun v3 wr => ∃ i : Nat, i <= nl /\ v3 = .int .i64 (i : Int) /\ Hid (∀ q, q < i -> askJ (l.getD q JV.null) = true) /\ Hid (BoxJ w wr A A' nl c 0 c' 4 false ⟨false, [], 0⟩ [])) (fun v3 _ => nl - (intOf v3).toNat)
 case atStart => exact ⟨0, Nat.zero_le _, rfl, hid (fun q hq => by omega), HB2⟩
 case round =>
   clear HB2
   obtain ⟨i, hi, rfl, HAL, HB2⟩ := hrel
   have x6 := HB2.out.row.cell (i := 6) (v := .slice A nl c) rfl
   have x7 := HB2.out.row.cell (i := 7) (v := .slice A' 0 c') rfl
   by_cases hlt : i < nl
   · have hiz : (i : Int) < (nl : Int) := by omega
     obtain ⟨g2, off2, cs2, rfl, h8, hrg, hcall⟩ := IH.out i hlt wr HB2.out.below
     have HK := hid hcall
     have HRG := hid hrg
     have HI2 := hid (info_of_size h8)
     clear hcall hrg h8
     go_wp2_with (first
       | (refine ldJ (.tmp 100) g2 (off2 + i * 8) cs2 HRG.out HI2.out ?_))
     refine HK.out.mono ?_
     rintro e w4 ⟨rfl, hb⟩
     have HB4 := hid (HB2.out.call hb)
     clear hb x6 x7
     cases hr : askJ (l.getD i JV.null) with
     | false =>
       have HF : Hid (R = false) := hid (HNO.out i hlt hr)
       clear hr
       go_wp2_with fail
       go_ret
       exact ⟨by rw [HF.out]; rfl, HB4.out.below⟩
     | true =>
       have HAL2 : Hid (∀ q, q < i + 1 -> askJ (l.getD q JV.null) = true) := hid fun q hq => by
         rcases Nat.lt_or_ge q i with h | h
         · exact HAL.out q h
         · obtain rfl : q = i := by omega
           exact hr
       clear hr
       go_wp2_with fail
       exact ⟨⟨i + 1, by omega, by go_num, HAL2, HB4⟩, by simp [intOf]; omega⟩
   · obtain rfl : i = nl := by omega
     go_wp2_with fail
     go_loopw [4] (fun v4 wx => v4 = .int .i64 0 /\ Hid (BoxJ w wx A A' i c 0 c' 4 false ⟨false, [], 0⟩ [])) (fun _ _ => 0)
     case atStart => exact ⟨rfl, HB2⟩
     case round =>
       clear HB2 x6 x7
       obtain ⟨rfl, HB2⟩ := hrel
       have x7 := HB2.out.row.cell (i := 7) (v := .slice A' 0 c') rfl
       have HF : Hid (R = true) := hid (HYES.out HAL.out (fun q hq => by omega))
       go_wp2_with fail
       go_ret
       exact ⟨by rw [HF.out]; rfl, HB2.out.below⟩
theorem good_body5 (w : World) (R : Bool) (A A' : Option Addr) (nl c nn c' : Nat) (l : List JV) (ns : List (List UInt8)) (hlc : nl <= c) (hcm : c <= 9223372036854775807) (hnc : nn <= c') (hcm' : c' <= 9223372036854775807)
   (hNM : ∀ i, i < nn -> ∃ g off, A' = some ⟨g, off, none⟩ /\ ∀ V, Below w.heap.size w V -> V.cell? ⟨g, off + i, none⟩ = some (.string (bs (ns.getD i []))))
   (hU : ∀ i, i < nn -> ∀ V, Calls Tryz.prog 72 #[.string (bs (ns.getD i []))] V fun e w' => e = .returned (.bool (Lib.validD (ns.getD i []))) /\ V = w')
   (hIH : ∀ i, i < nl -> ∀ V, Below w.heap.size w V -> ∃ g2 off2, ∃ cs2 : Array Value, A = some ⟨g2, off2, none⟩ /\ cs2.size = 8 /\ V.rangeAt g2 (off2 + i * 8) cs2.toList /\ Calls Tryz.prog 41 #[.agg cs2] V fun e w' => e = .returned (.bool (askJ (l.getD i JV.null))) /\ Below V.heap.size V w')
   (hNO : ∀ i, i < nl -> askJ (l.getD i JV.null) = false -> R = false) (hNO1 : ∀ i, i < nn -> Lib.validD (ns.getD i []) = false -> R = false) (hNO2 : ∀ p q, p < q -> q < nn -> ns.getD p [] = ns.getD q [] -> R = false) (hNOL : nn ≠ nl -> R = false)
   (hYES : nn = nl -> (∀ q, q < nl -> askJ (l.getD q JV.null) = true) -> (∀ q, q < nl -> Lib.validD (ns.getD q []) = true /\ ∀ p, p < q -> ns.getD p [] ≠ ns.getD q []) -> R = true) :
   Calls Tryz.prog 41 #[.agg (jvC 5 false ⟨false, [], 0⟩ [] (.slice A nl c) (.slice A' nn c'))] w fun e w' => e = .returned (.bool R) /\ Below w.heap.size w w' := by
 have ht0 : (bs []).toList = [] := bs_toList []
 obtain ⟨w1, hw1⟩ : ∃ w1, w1 = w.alloc (.cells (jvC 5 false ⟨false, [], 0⟩ [] (.slice A nl c) (.slice A' nn c')) 28) := ⟨_, rfl⟩
 have HNM := hid hNM
 have HU := hid hU
 have IH := hid hIH
 have HNO := hid hNO
 have HNO1 := hid hNO1
 have HNO2 := hid hNO2
 have HYES := hid hYES
 have HNOL := hid hNOL
 clear hNM hU hIH hNO hNO1 hNO2 hYES hNOL
 have HBX : Hid (BoxJ w w1 A A' nl c nn c' 5 false ⟨false, [], 0⟩ []) := hid ⟨by rw [hw1]; exact Row.new _ _ _, by rw [hw1]; exact (Below.refl _ _).alloc (Nat.le_refl _) _⟩
 by_cases hln : nn = nl
 · subst hln
   have x0 : w1.cell? ⟨w.heap.size, 0, none⟩ = some (.int .i64 (5)) := HBX.out.row.cell (i := 0) rfl
   have x1 : w1.cell? ⟨w.heap.size, 1, none⟩ = some (.bool false) := HBX.out.row.cell (i := 1) rfl
   have x2 : w1.cell? ⟨w.heap.size, 2, none⟩ = some (.bool false) := HBX.out.row.cell (i := 2) rfl
   have x3 : w1.cell? ⟨w.heap.size, 3, none⟩ = some (.string (bs [])) := HBX.out.row.cell (i := 3) rfl
   have x4 : w1.cell? ⟨w.heap.size, 4, none⟩ = some (.int .i64 0) := HBX.out.row.cell (i := 4) rfl
   have x5 : w1.cell? ⟨w.heap.size, 5, none⟩ = some (.string (bs [])) := HBX.out.row.cell (i := 5) rfl
   have x6 : w1.cell? ⟨w.heap.size, 6, none⟩ = some (.slice A nn c) := HBX.out.row.cell (i := 6) rfl
   have x7 : w1.cell? ⟨w.heap.size, 7, none⟩ = some (.slice A' nn c') := HBX.out.row.cell (i := 7) rfl
   go_enter Tryz.func41, Tryz.ntmps41
   go_upto_region 1 with fail
   rw [<- hw1]
   clear hw1
   go_wp2_with fail
   refine (may_zero w1).mono ?_
   rintro e w2 ⟨rfl, hb⟩
   have HB2 := hid (HBX.out.call hb)
   clear hb x0 x1 x2 x3 x4 x5 x6 x7
   have x0 := HB2.out.row.cell (i := 0) (v := .int .i64 (5)) rfl
   have x5 := HB2.out.row.cell (i := 5) (v := .string (bs [])) rfl
   have x6 := HB2.out.row.cell (i := 6) (v := .slice A nn c) rfl
   have x7 := HB2.out.row.cell (i := 7) (v := .slice A' nn c') rfl
   go_wp2_with fail
   refine (utf_nil w2).mono ?_
   rintro e w3 ⟨rfl, rfl⟩
   go_wp2_with fail
   clear x0 x5 x6 x7
   go_loopw [3] (fun v3 wr => ∃ i : Nat, i <= nn /\ v3 = .int .i64 (i : Int) /\ Hid (∀ q, q < i -> askJ (l.getD q JV.null) = true) /\ Hid (BoxJ w wr A A' nn c nn c' 5 false ⟨false, [], 0⟩ [])) (fun v3 _ => nn - (intOf v3).toNat)
   case atStart => exact ⟨0, Nat.zero_le _, rfl, hid (fun q hq => by omega), HB2⟩
   case round =>
     clear HB2
     obtain ⟨i, hi, rfl, HAL, HB2⟩ := hrel
     have x6 := HB2.out.row.cell (i := 6) (v := .slice A nn c) rfl
     have x7 := HB2.out.row.cell (i := 7) (v := .slice A' nn c') rfl
     by_cases hlt : i < nn
     · have hiz : (i : Int) < (nn : Int) := by omega
       obtain ⟨g2, off2, cs2, rfl, h8, hrg, hcall⟩ := IH.out i hlt wr HB2.out.below
       have HK := hid hcall
       have HRG := hid hrg
       have HI2 := hid (info_of_size h8)
       clear hcall hrg h8
       go_wp2_with (first
         | (refine ldJ (.tmp 100) g2 (off2 + i * 8) cs2 HRG.out HI2.out ?_))
       refine HK.out.mono ?_
       rintro e w4 ⟨rfl, hb⟩
       have HB4 := hid (HB2.out.call hb)
       clear hb x6 x7
       cases hr : askJ (l.getD i JV.null) with
       | false =>
         have HF : Hid (R = false) := hid (HNO.out i hlt hr)
         clear hr
         go_wp2_with fail
         go_ret
         exact ⟨by rw [HF.out]; rfl, HB4.out.below⟩
       | true =>
         have HAL2 : Hid (∀ q, q < i + 1 -> askJ (l.getD q JV.null) = true) := hid fun q hq => by
           rcases Nat.lt_or_ge q i with h | h
           · exact HAL.out q h
           · obtain rfl : q = i := by omega
             exact hr
         clear hr
         go_wp2_with fail
         exact ⟨⟨i + 1, by omega, by go_num, HAL2, HB4⟩, by simp [intOf]; omega⟩
     · obtain rfl : i = nn := by omega
       go_wp2_with fail
       clear x6 x7
       go_loopw [4] (fun v4 wx => ∃ j : Nat, j <= i /\ v4 = .int .i64 (j : Int) /\ Hid (∀ q, q < j -> Lib.validD (ns.getD q []) = true /\ ∀ p, p < q -> ns.getD p [] ≠ ns.getD q []) /\ Hid (BoxJ w wx A A' i c i c' 5 false ⟨false, [], 0⟩ [])) (fun v4 _ => i - (intOf v4).toNat)
       case atStart => exact ⟨0, Nat.zero_le _, rfl, hid (fun q hq => by omega), HB2⟩
       case round =>
         clear HB2
         obtain ⟨j, hj, rfl, HNL, HB2⟩ := hrel
         have x7 := HB2.out.row.cell (i := 7) (v := .slice A' i c') rfl
         by_cases hlt2 : j < i
         · have hjz : (j : Int) < (i : Int) := by omega
           obtain ⟨g, off, rfl, hcj⟩ := HNM.out j hlt2
           have HCJ := hid hcj
           clear hcj
           go_wp2_with fail
           clear x7
           go_loopw [5] (fun v5 wy => ∃ q : Nat, q <= j /\ v5 = .int .i64 (q : Int) /\ Hid (∀ p, p < q -> ns.getD p [] ≠ ns.getD j []) /\ Hid (BoxJ w wy A (some ⟨g, off, none⟩) i c i c' 5 false ⟨false, [], 0⟩ [])) (fun v5 _ => j - (intOf v5).toNat)
           case atStart => exact ⟨0, Nat.zero_le _, rfl, hid (fun q hq => by omega), HB2⟩
           case round =>
             clear HB2
             obtain ⟨q, hq, rfl, HNE, HB2⟩ := hrel
             have x7 := HB2.out.row.cell (i := 7) (v := .slice (some ⟨g, off, none⟩) i c') rfl
             have x9 := HCJ.out _ HB2.out.below
             by_cases hlt3 : q < j
             · have hqz : (q : Int) < (i : Int) := by omega
               have hqj : (q : Int) < (j : Int) := by omega
               obtain ⟨g8, off8, e8, hcq⟩ := HNM.out q (by omega)
               injection e8 with e8
               injection e8 with e8 e9 _
               subst e8 e9
               have x8 := hcq _ HB2.out.below
               clear hcq
               by_cases hnm : ns.getD q [] = ns.getD j []
               · have HF : Hid (R = false) := hid (HNO2.out q j hlt3 hlt2 hnm)
                 rw [hnm] at x8
                 clear hnm
                 generalize ns.getD j [] = nm at *
                 have sn : ((bs nm).toList == (bs nm).toList) = true := by simp
                 go_wp2_with fail
                 go_quiet (fail)
                 clear x8 x9 x7
                 go_wp2_with fail
                 go_ret
                 exact ⟨by rw [HF.out]; rfl, (HB2.out.call (below_drewN (Below.refl _ _) _)).below⟩
               · have HNE2 : Hid (∀ p, p < q + 1 -> ns.getD p [] ≠ ns.getD j []) := hid fun p hp => by
                   rcases Nat.lt_or_ge p q with h | h
                   · exact HNE.out p h
                   · obtain rfl : p = q := by omega
                     exact hnm
                 have sn := bs_ne hnm
                 obtain ⟨nm1, hn1⟩ : ∃ nm1, nm1 = ns.getD q [] := ⟨_, rfl⟩
                 obtain ⟨nm2, hn2⟩ : ∃ nm2, nm2 = ns.getD j [] := ⟨_, rfl⟩
                 rw [<- hn1] at x8 sn
                 rw [<- hn2] at x9 sn
                 clear hnm hn1 hn2
                 go_wp2_with fail
                 go_quiet (fail)
                 clear x8 x9 x7 sn
                 go_wp2_with fail
                 exact ⟨⟨q + 1, by omega, by go_num, HNE2, hid (HB2.out.call (below_drewN (Below.refl _ _) _))⟩, by simp [intOf]; omega⟩
             · obtain rfl : q = j := by omega
               have HUJ := hid (HU.out q hlt2)
               cases hv : Lib.validD (ns.getD q []) with
               | false =>
                 have HF : Hid (R = false) := hid (HNO1.out q hlt2 hv)
                 rw [hv] at HUJ
                 clear hv
                 obtain ⟨nm, hnm⟩ : ∃ nm, nm = ns.getD q [] := ⟨_, rfl⟩
                 rw [<- hnm] at x9 HUJ
                 clear hnm
                 go_wp2_with fail
                 refine (HUJ.out _).mono ?_
                 rintro e w8 ⟨rfl, rfl⟩
                 go_wp2_with fail
                 go_ret
                 exact ⟨by rw [HF.out]; rfl, HB2.out.below⟩
               | true =>
                 have HNL2 : Hid (∀ p, p < q + 1 -> Lib.validD (ns.getD p []) = true /\ ∀ p', p' < p -> ns.getD p' [] ≠ ns.getD p []) := hid fun p hp => by
                   rcases Nat.lt_or_ge p q with h | h
                   · exact HNL.out p h
                   · obtain rfl : p = q := by omega
                     exact ⟨hv, HNE.out⟩
                 rw [hv] at HUJ
                 clear hv
                 obtain ⟨nm, hnm⟩ : ∃ nm, nm = ns.getD q [] := ⟨_, rfl⟩
                 rw [<- hnm] at x9 HUJ
                 clear hnm
                 go_wp2_with fail
                 refine (HUJ.out _).mono ?_
                 rintro e w8 ⟨rfl, rfl⟩
                 clear x9 x7
                 go_wp2_with fail
                 exact ⟨⟨q + 1, by omega, by go_num, HNL2, HB2⟩, by simp [intOf]; omega⟩
         · obtain rfl : j = i := by omega
           have HF : Hid (R = true) := hid (HYES.out (by trivial) HAL.out (fun q hq => HNL.out q hq))
           go_wp2_with fail
           go_ret
           exact ⟨by rw [HF.out]; rfl, HB2.out.below⟩
 · have e1 : ((nn : Int) != (nl : Int)) = true := by rw [bne_iff_ne]; omega
   have HF : Hid (R = false) := hid (HNOL.out hln)
   have x0 : w1.cell? ⟨w.heap.size, 0, none⟩ = some (.int .i64 (5)) := HBX.out.row.cell (i := 0) rfl
   have x1 : w1.cell? ⟨w.heap.size, 1, none⟩ = some (.bool false) := HBX.out.row.cell (i := 1) rfl
   have x2 : w1.cell? ⟨w.heap.size, 2, none⟩ = some (.bool false) := HBX.out.row.cell (i := 2) rfl
   have x3 : w1.cell? ⟨w.heap.size, 3, none⟩ = some (.string (bs [])) := HBX.out.row.cell (i := 3) rfl
   have x4 : w1.cell? ⟨w.heap.size, 4, none⟩ = some (.int .i64 0) := HBX.out.row.cell (i := 4) rfl
   have x5 : w1.cell? ⟨w.heap.size, 5, none⟩ = some (.string (bs [])) := HBX.out.row.cell (i := 5) rfl
   have x6 : w1.cell? ⟨w.heap.size, 6, none⟩ = some (.slice A nl c) := HBX.out.row.cell (i := 6) rfl
   have x7 : w1.cell? ⟨w.heap.size, 7, none⟩ = some (.slice A' nn c') := HBX.out.row.cell (i := 7) rfl
   go_enter Tryz.func41, Tryz.ntmps41
   go_upto_region 1 with fail
   rw [<- hw1]
   clear hw1
   go_wp2_with fail
   refine (may_zero w1).mono ?_
   rintro e w2 ⟨rfl, hb⟩
   have HB2 := hid (HBX.out.call hb)
   clear hb x0 x1 x2 x3 x4 x5 x6 x7
   have x0 := HB2.out.row.cell (i := 0) (v := .int .i64 (5)) rfl
   have x5 := HB2.out.row.cell (i := 5) (v := .string (bs [])) rfl
   have x6 := HB2.out.row.cell (i := 6) (v := .slice A nl c) rfl
   have x7 := HB2.out.row.cell (i := 7) (v := .slice A' nn c') rfl
   go_wp2_with fail
   refine (utf_nil w2).mono ?_
   rintro e w3 ⟨rfl, rfl⟩
   go_wp2_with fail
   go_ret
   exact ⟨by rw [HF.out]; rfl, HB2.out.below⟩
theorem pair_nodup {ns : List (List UInt8)} : (∀ q, q < ns.length -> ∀ p, p < q -> ns.getD p [] ≠ ns.getD q []) -> ns.Nodup := fun h => by
 rw [List.nodup_iff_pairwise_ne, List.pairwise_iff_getElem]
 intro i j hi hj hij e
 refine h j hj i hij ?_
 rw [List.getD_eq_getElem?_getD, List.getD_eq_getElem?_getD, List.getElem?_eq_getElem hi, List.getElem?_eq_getElem hj]
 exact e
theorem drefGood_ok : ∀ (n : Nat) (v : JV), SizeOf.sizeOf v <= n -> SmallJ v -> ∀ (F : Nat -> Prop) (cs : Array Value) (w : World), JIs w F v cs.toList ->
   Calls Tryz.prog 41 #[.agg cs] w fun e w' => e = .returned (.bool (askJ v)) /\ Below w.heap.size w w' := by
 intro n
 induction n with
 | zero => intro v hv; cases v; simp at hv
 | succ n ih =>
   intro v hv hs F cs w h
   obtain ⟨k, b, d, t, l, ns⟩ := v
   obtain ⟨dn, dl, dx⟩ := d
   have hsz : ∀ x ∈ l, SizeOf.sizeOf x <= n := fun x hx => by
     have := List.sizeOf_lt_of_mem hx
     simp only [JV.mk.sizeOf_spec] at hv
     omega
   unfold JIs at h
   obtain ⟨A, c, A', c', hcs, h1, h2, h3, h4, hnm, hkd⟩ := h
   have hcs' := Array.toList_inj.1 hcs
   subst hcs'
   unfold SmallJ at hs
   obtain ⟨s1, s2, s3, s4, s5⟩ := hs
   unfold maxLen at h2 h4 s2 s4
   have hNM : ∀ i, i < ns.length -> ∃ g off, A' = some ⟨g, off, none⟩ /\ ∀ V, Below w.heap.size w V -> V.cell? ⟨g, off + i, none⟩ = some (.string (bs (ns.getD i []))) := fun i hi => by
     obtain ⟨g, off, e, _, hlt, hc⟩ := hnm i hi
     exact ⟨g, off, e, fun V hb => (hb.cell (p := ⟨g, off + i, none⟩) hlt).trans hc⟩
   have hU : ∀ i, i < ns.length -> ∀ V, Calls Tryz.prog 72 #[.string (bs (ns.getD i []))] V fun e w' => e = .returned (.bool (Lib.validD (ns.getD i []))) /\ V = w' := fun i hi V =>
     dutf_ok _ V (s4 _ (by rw [List.getD_eq_getElem?_getD, List.getElem?_eq_getElem hi]; exact List.getElem_mem _))
   have hIH : ∀ i, i < l.length -> ∀ V, Below w.heap.size w V -> ∃ g2 off2, ∃ cs2 : Array Value, A = some ⟨g2, off2, none⟩ /\ cs2.size = 8 /\ V.rangeAt g2 (off2 + i * 8) cs2.toList /\ Calls Tryz.prog 41 #[.agg cs2] V fun e w' => e = .returned (.bool (askJ (l.getD i JV.null))) /\ Below V.heap.size V w' := fun i hi V hb => by
     obtain ⟨g2, off2, cs2, hA, h8, hj, hr⟩ := kids_cells hkd i hi
     have hm : l.getD i JV.null ∈ l := by rw [List.getD_eq_getElem?_getD, List.getElem?_eq_getElem hi]; exact List.getElem_mem _
     exact ⟨g2, off2, cs2, hA, h8, hr V hb, ih _ (hsz _ hm) (s5.get _ hm) F cs2 V (hj.below hb)⟩
   have kno : ∀ i, i < l.length -> askJ (l.getD i JV.null) = false -> askKids l = false := fun i hi h => by
     rw [<- Bool.not_eq_true, askKids_mem]
     intro hh
     have hm : l.getD i JV.null ∈ l := by rw [List.getD_eq_getElem?_getD, List.getElem?_eq_getElem hi]; exact List.getElem_mem _
     rw [hh _ hm] at h
     cases h
   have kyes : (∀ q, q < l.length -> askJ (l.getD q JV.null) = true) -> askKids l = true := fun h => askKids_mem.2 fun x hx => by
     obtain ⟨i, hi, rfl⟩ := List.mem_iff_getElem.1 hx
     have := h i hi
     rwa [List.getD_eq_getElem?_getD, List.getElem?_eq_getElem hi] at this
   by_cases k0 : k = 0
   · subst k0; rw [askJ, if_pos rfl]; exact good0 w b dn dl dx t A A' _ c _ c'
   by_cases k1 : k = 1
   · subst k1; rw [askJ, if_neg (by decide), if_pos rfl]; exact good1 w b dn dl dx t A A' _ c _ c'
   by_cases k2 : k = 2
   · subst k2
     rw [askJ, if_neg (by decide), if_neg (by decide), if_pos rfl]
     have e : (checkE ⟨dn, dl, dx⟩ == 0) = mayB ⟨dn, dl, dx⟩ := by unfold checkE; cases mayB ⟨dn, dl, dx⟩ <;> rfl
     rw [e]
     exact good2 w b dn dl dx t A A' _ c _ c' s1
   by_cases k3 : k = 3
   · subst k3; rw [askJ, if_neg (by decide), if_neg (by decide), if_neg (by decide), if_pos rfl]; exact good3 w b dn dl dx t A A' _ c _ c' (by omega)
   by_cases k4 : k = 4
   · subst k4
     have hR : askJ (.mk 4 b ⟨dn, dl, dx⟩ t l ns) = (askKids l && zB b ⟨dn, dl, dx⟩ t 0 ns.length) := by rw [askJ, if_neg (by decide), if_neg (by decide), if_neg (by decide), if_neg (by decide), if_pos rfl]
     by_cases hne : b = true ∨ dn = true ∨ dl ≠ [] ∨ dx ≠ 0 ∨ t ≠ [] ∨ ns.length ≠ 0
     · have : askJ (.mk 4 b ⟨dn, dl, dx⟩ t l ns) = false := by
         rw [hR, Bool.and_eq_false_iff]
         right
         rw [<- Bool.not_eq_true, zB_iff]
         rintro ⟨q1, q2, q3, _, q5⟩
         injection q2 with q6 q7 q8
         rcases hne with h | h | h | h | h | h
         · rw [q1] at h; cases h
         · rw [q6] at h; cases h
         · exact h q7
         · exact h q8
         · exact h q3
         · exact h q5
       rw [this]
       exact good_bad4 w b dn dl dx t A A' _ c _ c' hne
     · have b0 : b = false := by simpa using fun h => hne (.inl h)
       have d0 : dn = false := by simpa using fun h => hne (.inr (.inl h))
       have d1 : dl = [] := Decidable.byContradiction fun h => hne (.inr (.inr (.inl h)))
       have d2 : dx = 0 := Decidable.byContradiction fun h => hne (.inr (.inr (.inr (.inl h))))
       have t0 : t = [] := Decidable.byContradiction fun h => hne (.inr (.inr (.inr (.inr (.inl h)))))
       have n0 : ns = [] := List.eq_nil_of_length_eq_zero (Decidable.byContradiction fun h => hne (.inr (.inr (.inr (.inr (.inr h))))))
       subst b0 d0 d1 d2 t0 n0
       have hz : zB false ⟨false, [], 0⟩ [] 0 ([] : List (List UInt8)).length = true := by decide
       rw [hR, hz, Bool.and_true]
       exact good_body4 w (askKids l) A A' l.length c 0 c' l [] h1 (by omega) (by omega) (by omega) (fun i hi => by omega) (fun i hi => by omega) hIH kno (fun i hi => by omega) (fun p q _ hq => by omega) (fun h _ => kyes h)
   by_cases k5 : k = 5
   · subst k5
     have hR : askJ (.mk 5 b ⟨dn, dl, dx⟩ t l ns) = (ns.length == l.length && fitN ns && askKids l && zB b ⟨dn, dl, dx⟩ t 0 0) := by rw [askJ, if_neg (by decide), if_neg (by decide), if_neg (by decide), if_neg (by decide), if_neg (by decide), if_pos rfl]
     by_cases hne : b = true ∨ dn = true ∨ dl ≠ [] ∨ dx ≠ 0 ∨ t ≠ []
     · have : askJ (.mk 5 b ⟨dn, dl, dx⟩ t l ns) = false := by
         rw [hR, Bool.and_eq_false_iff]
         right
         rw [<- Bool.not_eq_true, zB_iff]
         rintro ⟨q1, q2, q3, _, q5⟩
         injection q2 with q6 q7 q8
         rcases hne with h | h | h | h | h
         · rw [q1] at h; cases h
         · rw [q6] at h; cases h
         · exact h q7
         · exact h q8
         · exact h q3
       rw [this]
       exact good_bad5 w b dn dl dx t A A' _ c _ c' hne
     · have b0 : b = false := by simpa using fun h => hne (.inl h)
       have d0 : dn = false := by simpa using fun h => hne (.inr (.inl h))
       have d1 : dl = [] := Decidable.byContradiction fun h => hne (.inr (.inr (.inl h)))
       have d2 : dx = 0 := Decidable.byContradiction fun h => hne (.inr (.inr (.inr (.inl h))))
       have t0 : t = [] := Decidable.byContradiction fun h => hne (.inr (.inr (.inr (.inr h))))
       subst b0 d0 d1 d2 t0
       have hz : zB false ⟨false, [], 0⟩ [] 0 0 = true := by decide
       rw [hR, hz, Bool.and_true]
       have fno : ∀ {P : Prop}, (fitN ns = true -> P) -> ¬ P -> fitN ns = false := fun h1 h2 => by
         cases hf : fitN ns with
         | false => rfl
         | true => exact absurd (h1 hf) h2
       refine good_body5 w _ A A' l.length c ns.length c' l ns h1 (by omega) h3 (by omega) hNM hU hIH (fun i hi h => ?_) (fun i hi h => ?_) (fun p q hp hq h => ?_) (fun h => ?_) (fun q0 q1 q2 => ?_)
       · rw [kno i hi h, Bool.and_false]
       · have hf : fitN ns = false := by
           refine fno (fun hh => ((fitN_iff ns).1 hh).1 (ns.getD i []) (by rw [List.getD_eq_getElem?_getD, List.getElem?_eq_getElem hi]; exact List.getElem_mem _)) ?_
           rw [h]; simp
         rw [hf, Bool.and_false, Bool.false_and]
       · have hf : fitN ns = false := by
           refine fno (fun hh => ((fitN_iff ns).1 hh).2) ?_
           intro hn
           rw [List.getD_eq_getElem?_getD, List.getD_eq_getElem?_getD, List.getElem?_eq_getElem hq, List.getElem?_eq_getElem (by omega : p < ns.length)] at h
           have i1 := hn.idxOf_getElem q hq
           have i2 := hn.idxOf_getElem p (by omega)
           have h' : ns[p] = ns[q] := h
           rw [h'] at i2
           omega
         rw [hf, Bool.and_false, Bool.false_and]
       · have e : (ns.length == l.length) = false := by rw [beq_eq_false_iff_ne]; exact h
         rw [e, Bool.false_and, Bool.false_and]
       · have hf : fitN ns = true := (fitN_iff ns).2 ⟨fun x hx => by
             obtain ⟨i, hi, rfl⟩ := List.mem_iff_getElem.1 hx
             have := (q2 i (by omega)).1
             rwa [List.getD_eq_getElem?_getD, List.getElem?_eq_getElem hi] at this, pair_nodup fun q hq p hp => (q2 q (by omega)).2 p hp⟩
         rw [kyes q1, hf, q0]
         simp
   · have hR : askJ (.mk k b ⟨dn, dl, dx⟩ t l ns) = false := by rw [askJ, if_neg k0, if_neg k1, if_neg k2, if_neg k3, if_neg k4, if_neg k5]
     rw [hR]
     exact good_other w k b dn dl dx t A A' _ c _ c' (by omega)
end Go.Proofs.YtmhbkjjkalnggaaGreatDoor
