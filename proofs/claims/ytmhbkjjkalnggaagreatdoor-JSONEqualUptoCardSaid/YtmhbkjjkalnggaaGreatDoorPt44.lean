import Derived.Test.YtmhbkjjkalnggaaGreatDoorPt43
import Derived.Test.YtmhbkjjkalnggaaGreatDoorPt39
namespace Go.Proofs.YtmhbkjjkalnggaaGreatDoor
open Go.RowKit
set_option maxRecDepth 1000000
set_option maxHeartbeats 8000000
theorem may_zero (V : World) : Calls Tryz.prog 71 #[.agg #[.bool false, .string (bs []), .int .i64 0]] V fun e w' => e = .returned (.bool true) /\ Below V.heap.size V w' := by
 have h := may_ok Dec.zero V (by decide)
 have e : mayB Dec.zero = true := by decide
 rw [e] at h
 exact h
theorem utf_nil (V : World) : Calls Tryz.prog 72 #[.string (bs [])] V fun e w' => e = .returned (.bool true) /\ V = w' := dutf_ok [] V (by decide)
theorem good0 (w : World) (b : Bool) (dn : Bool) (dl : List UInt8) (dx : Int) (t : List UInt8) (A A' : Option Addr) (nl c nn c' : Nat) :
   Calls Tryz.prog 41 #[.agg (jvC 0 b ⟨dn, dl, dx⟩ t (.slice A nl c) (.slice A' nn c'))] w fun e w' => e = .returned (.bool (zB b ⟨dn, dl, dx⟩ t nl nn)) /\ Below w.heap.size w w' := by
 have ht0 : (bs []).toList = [] := bs_toList []
 have fin : ∀ r, (zB b ⟨dn, dl, dx⟩ t nl nn) = r -> (Calls Tryz.prog 41 #[.agg (jvC 0 b ⟨dn, dl, dx⟩ t (.slice A nl c) (.slice A' nn c'))] w fun e w' => e = .returned (.bool r) /\ Below w.heap.size w w') -> Calls Tryz.prog 41 #[.agg (jvC 0 b ⟨dn, dl, dx⟩ t (.slice A nl c) (.slice A' nn c'))] w fun e w' => e = .returned (.bool (zB b ⟨dn, dl, dx⟩ t nl nn)) /\ Below w.heap.size w w' := fun r e h => by rw [e]; exact h
 obtain ⟨w1, hw1⟩ : ∃ w1, w1 = w.alloc (.cells (jvC 0 b ⟨dn, dl, dx⟩ t (.slice A nl c) (.slice A' nn c')) 28) := ⟨_, rfl⟩
 have HBX : Hid (BoxJ w w1 A A' nl c nn c' (0) b ⟨dn, dl, dx⟩ t) := hid ⟨by rw [hw1]; exact Row.new _ _ _, by rw [hw1]; exact (Below.refl _ _).alloc (Nat.le_refl _) _⟩
 have x0 : w1.cell? ⟨w.heap.size, 0, none⟩ = some (.int .i64 (0)) := HBX.out.row.cell (i := 0) rfl
 have x1 : w1.cell? ⟨w.heap.size, 1, none⟩ = some (.bool b) := HBX.out.row.cell (i := 1) rfl
 have x2 : w1.cell? ⟨w.heap.size, 2, none⟩ = some (.bool dn) := HBX.out.row.cell (i := 2) rfl
 have x3 : w1.cell? ⟨w.heap.size, 3, none⟩ = some (.string (bs dl)) := HBX.out.row.cell (i := 3) rfl
 have x4 : w1.cell? ⟨w.heap.size, 4, none⟩ = some (.int .i64 dx) := HBX.out.row.cell (i := 4) rfl
 have x5 : w1.cell? ⟨w.heap.size, 5, none⟩ = some (.string (bs t)) := HBX.out.row.cell (i := 5) rfl
 have x6 : w1.cell? ⟨w.heap.size, 6, none⟩ = some (.slice A nl c) := HBX.out.row.cell (i := 6) rfl
 have x7 : w1.cell? ⟨w.heap.size, 7, none⟩ = some (.slice A' nn c') := HBX.out.row.cell (i := 7) rfl
 cases b with
 | true =>
   refine fin false (by simp [zB]) ?_
   clear fin
   go_enter Tryz.func41, Tryz.ntmps41
   go_upto_region 1 with fail
   rw [<- hw1]
   clear hw1
   go_wp2
   go_ret
   exact ⟨rfl, HBX.out.below⟩
 | false =>
   cases dn with
   | true =>
     refine fin false (by simp [zB]) ?_
     clear fin
     go_enter Tryz.func41, Tryz.ntmps41
     go_upto_region 1 with fail
     rw [<- hw1]
     clear hw1
     go_wp2
     go_ret
     exact ⟨rfl, HBX.out.below⟩
   | false =>
     by_cases hdl : dl = []
     · subst hdl
       by_cases hdx : dx = 0
       · subst hdx
         by_cases ht : t = []
         · subst ht
           by_cases hnl : nl = 0
           · subst hnl
             by_cases hnn : nn = 0
             · subst hnn
               have HM : Hid (∀ V, Calls Tryz.prog 71 #[.agg #[.bool false, .string (bs []), .int .i64 0]] V fun e w' => e = .returned (.bool true) /\ Below V.heap.size V w') := hid fun V => may_zero V
               have HU : Hid (∀ V, Calls Tryz.prog 72 #[.string (bs [])] V fun e w' => e = .returned (.bool true) /\ V = w') := hid fun V => utf_nil V
               refine fin true (by simp [zB]) ?_
               clear fin
               go_enter Tryz.func41, Tryz.ntmps41
               go_upto_region 1 with fail
               rw [<- hw1]
               clear hw1
               go_wp2_with fail
               refine (HM.out w1).mono ?_
               rintro e w2 ⟨rfl, hb⟩
               have HB2 := hid (HBX.out.call hb)
               clear hb x0 x1 x2 x3 x4 x5 x6 x7
               have x0 := HB2.out.row.cell (i := 0) (v := .int .i64 (0)) rfl
               have x5 := HB2.out.row.cell (i := 5) (v := .string (bs [])) rfl
               have x6 := HB2.out.row.cell (i := 6) (v := .slice A 0 c) rfl
               have x7 := HB2.out.row.cell (i := 7) (v := .slice A' 0 c') rfl
               go_wp2_with fail
               refine (HU.out w2).mono ?_
               rintro e w3 ⟨rfl, rfl⟩
               go_wp2_with fail
               go_loopw [3] (fun v3 wr => v3 = .int .i64 0 /\ Hid (BoxJ w wr A A' 0 c 0 c' (0) false ⟨false, [], 0⟩ [])) (fun _ _ => 0)
               case atStart => exact ⟨rfl, HB2⟩
               case round =>
                 clear HB2 x0 x5 x6 x7
                 obtain ⟨rfl, HB2⟩ := hrel
                 have x6 := HB2.out.row.cell (i := 6) (v := .slice A 0 c) rfl
                 have x7 := HB2.out.row.cell (i := 7) (v := .slice A' 0 c') rfl
                 go_wp2_with fail
                 go_loopw [4] (fun v4 wx => v4 = .int .i64 0 /\ Hid (BoxJ w wx A A' 0 c 0 c' (0) false ⟨false, [], 0⟩ [])) (fun _ _ => 0)
                 case atStart => exact ⟨rfl, HB2⟩
                 case round =>
                   clear HB2 x6 x7
                   obtain ⟨rfl, HB2⟩ := hrel
                   have x6 := HB2.out.row.cell (i := 6) (v := .slice A 0 c) rfl
                   have x7 := HB2.out.row.cell (i := 7) (v := .slice A' 0 c') rfl
                   go_wp2_with fail
                   go_ret
                   exact ⟨rfl, HB2.out.below⟩
             · have e1 : (0 : Int) < (nn : Int) := by omega
               refine fin false (by simp [zB, hnn]) ?_
               clear fin
               go_enter Tryz.func41, Tryz.ntmps41
               go_upto_region 1 with fail
               rw [<- hw1]
               clear hw1
               go_wp2
               go_ret
               exact ⟨rfl, HBX.out.below⟩
           · have e1 : (0 : Int) < (nl : Int) := by omega
             refine fin false (by simp [zB, hnl]) ?_
             clear fin
             go_enter Tryz.func41, Tryz.ntmps41
             go_upto_region 1 with fail
             rw [<- hw1]
             clear hw1
             go_wp2
             go_ret
             exact ⟨rfl, HBX.out.below⟩
         · obtain ⟨e1, e2⟩ := bs_no ht
           have e3 : ((bs t).toList != []) = true := by rw [bne_iff_ne]; exact e2
           refine fin false (by simp [zB, ht]) ?_
           clear fin
           clear ht
           go_enter Tryz.func41, Tryz.ntmps41
           go_upto_region 1 with fail
           rw [<- hw1]
           clear hw1
           go_wp2
           go_ret
           exact ⟨rfl, HBX.out.below⟩
       · have e1 : (dx == 0) = false := by rw [beq_eq_false_iff_ne]; exact hdx
         refine fin false (by simp [zB, hdx]) ?_
         clear fin
         clear hdx
         go_enter Tryz.func41, Tryz.ntmps41
         go_upto_region 1 with fail
         rw [<- hw1]
         clear hw1
         go_wp2
         go_ret
         exact ⟨rfl, HBX.out.below⟩
     · obtain ⟨e1, e2⟩ := bs_no hdl
       refine fin false (by simp [zB, hdl]) ?_
       clear fin
       clear hdl
       go_enter Tryz.func41, Tryz.ntmps41
       go_upto_region 1 with fail
       rw [<- hw1]
       clear hw1
       go_wp2
       go_ret
       exact ⟨rfl, HBX.out.below⟩
theorem good1 (w : World) (b : Bool) (dn : Bool) (dl : List UInt8) (dx : Int) (t : List UInt8) (A A' : Option Addr) (nl c nn c' : Nat) :
   Calls Tryz.prog 41 #[.agg (jvC 1 b ⟨dn, dl, dx⟩ t (.slice A nl c) (.slice A' nn c'))] w fun e w' => e = .returned (.bool (zB false ⟨dn, dl, dx⟩ t nl nn)) /\ Below w.heap.size w w' := by
 have ht0 : (bs []).toList = [] := bs_toList []
 have fin : ∀ r, (zB false ⟨dn, dl, dx⟩ t nl nn) = r -> (Calls Tryz.prog 41 #[.agg (jvC 1 b ⟨dn, dl, dx⟩ t (.slice A nl c) (.slice A' nn c'))] w fun e w' => e = .returned (.bool r) /\ Below w.heap.size w w') -> Calls Tryz.prog 41 #[.agg (jvC 1 b ⟨dn, dl, dx⟩ t (.slice A nl c) (.slice A' nn c'))] w fun e w' => e = .returned (.bool (zB false ⟨dn, dl, dx⟩ t nl nn)) /\ Below w.heap.size w w' := fun r e h => by rw [e]; exact h
 obtain ⟨w1, hw1⟩ : ∃ w1, w1 = w.alloc (.cells (jvC 1 b ⟨dn, dl, dx⟩ t (.slice A nl c) (.slice A' nn c')) 28) := ⟨_, rfl⟩
 have HBX : Hid (BoxJ w w1 A A' nl c nn c' (1) b ⟨dn, dl, dx⟩ t) := hid ⟨by rw [hw1]; exact Row.new _ _ _, by rw [hw1]; exact (Below.refl _ _).alloc (Nat.le_refl _) _⟩
 have x0 : w1.cell? ⟨w.heap.size, 0, none⟩ = some (.int .i64 (1)) := HBX.out.row.cell (i := 0) rfl
 have x1 : w1.cell? ⟨w.heap.size, 1, none⟩ = some (.bool b) := HBX.out.row.cell (i := 1) rfl
 have x2 : w1.cell? ⟨w.heap.size, 2, none⟩ = some (.bool dn) := HBX.out.row.cell (i := 2) rfl
 have x3 : w1.cell? ⟨w.heap.size, 3, none⟩ = some (.string (bs dl)) := HBX.out.row.cell (i := 3) rfl
 have x4 : w1.cell? ⟨w.heap.size, 4, none⟩ = some (.int .i64 dx) := HBX.out.row.cell (i := 4) rfl
 have x5 : w1.cell? ⟨w.heap.size, 5, none⟩ = some (.string (bs t)) := HBX.out.row.cell (i := 5) rfl
 have x6 : w1.cell? ⟨w.heap.size, 6, none⟩ = some (.slice A nl c) := HBX.out.row.cell (i := 6) rfl
 have x7 : w1.cell? ⟨w.heap.size, 7, none⟩ = some (.slice A' nn c') := HBX.out.row.cell (i := 7) rfl
 cases dn with
 | true =>
   refine fin false (by simp [zB]) ?_
   clear fin
   go_enter Tryz.func41, Tryz.ntmps41
   go_upto_region 1 with fail
   rw [<- hw1]
   clear hw1
   go_wp2
   go_ret
   exact ⟨rfl, HBX.out.below⟩
 | false =>
   by_cases hdl : dl = []
   · subst hdl
     by_cases hdx : dx = 0
     · subst hdx
       by_cases ht : t = []
       · subst ht
         by_cases hnl : nl = 0
         · subst hnl
           by_cases hnn : nn = 0
           · subst hnn
             have HM : Hid (∀ V, Calls Tryz.prog 71 #[.agg #[.bool false, .string (bs []), .int .i64 0]] V fun e w' => e = .returned (.bool true) /\ Below V.heap.size V w') := hid fun V => may_zero V
             have HU : Hid (∀ V, Calls Tryz.prog 72 #[.string (bs [])] V fun e w' => e = .returned (.bool true) /\ V = w') := hid fun V => utf_nil V
             refine fin true (by simp [zB]) ?_
             clear fin
             go_enter Tryz.func41, Tryz.ntmps41
             go_upto_region 1 with fail
             rw [<- hw1]
             clear hw1
             go_wp2_with fail
             refine (HM.out w1).mono ?_
             rintro e w2 ⟨rfl, hb⟩
             have HB2 := hid (HBX.out.call hb)
             clear hb x0 x1 x2 x3 x4 x5 x6 x7
             have x0 := HB2.out.row.cell (i := 0) (v := .int .i64 (1)) rfl
             have x5 := HB2.out.row.cell (i := 5) (v := .string (bs [])) rfl
             have x6 := HB2.out.row.cell (i := 6) (v := .slice A 0 c) rfl
             have x7 := HB2.out.row.cell (i := 7) (v := .slice A' 0 c') rfl
             go_wp2_with fail
             refine (HU.out w2).mono ?_
             rintro e w3 ⟨rfl, rfl⟩
             go_wp2_with fail
             go_loopw [3] (fun v3 wr => v3 = .int .i64 0 /\ Hid (BoxJ w wr A A' 0 c 0 c' (1) b ⟨false, [], 0⟩ [])) (fun _ _ => 0)
             case atStart => exact ⟨rfl, HB2⟩
             case round =>
               clear HB2 x0 x5 x6 x7
               obtain ⟨rfl, HB2⟩ := hrel
               have x6 := HB2.out.row.cell (i := 6) (v := .slice A 0 c) rfl
               have x7 := HB2.out.row.cell (i := 7) (v := .slice A' 0 c') rfl
               go_wp2_with fail
               go_loopw [4] (fun v4 wx => v4 = .int .i64 0 /\ Hid (BoxJ w wx A A' 0 c 0 c' (1) b ⟨false, [], 0⟩ [])) (fun _ _ => 0)
               case atStart => exact ⟨rfl, HB2⟩
               case round =>
                 clear HB2 x6 x7
                 obtain ⟨rfl, HB2⟩ := hrel
                 have x6 := HB2.out.row.cell (i := 6) (v := .slice A 0 c) rfl
                 have x7 := HB2.out.row.cell (i := 7) (v := .slice A' 0 c') rfl
                 go_wp2_with fail
                 go_ret
                 exact ⟨rfl, HB2.out.below⟩
           · have e1 : (0 : Int) < (nn : Int) := by omega
             refine fin false (by simp [zB, hnn]) ?_
             clear fin
             go_enter Tryz.func41, Tryz.ntmps41
             go_upto_region 1 with fail
             rw [<- hw1]
             clear hw1
             go_wp2
             go_ret
             exact ⟨rfl, HBX.out.below⟩
         · have e1 : (0 : Int) < (nl : Int) := by omega
           refine fin false (by simp [zB, hnl]) ?_
           clear fin
           go_enter Tryz.func41, Tryz.ntmps41
           go_upto_region 1 with fail
           rw [<- hw1]
           clear hw1
           go_wp2
           go_ret
           exact ⟨rfl, HBX.out.below⟩
       · obtain ⟨e1, e2⟩ := bs_no ht
         have e3 : ((bs t).toList != []) = true := by rw [bne_iff_ne]; exact e2
         refine fin false (by simp [zB, ht]) ?_
         clear fin
         clear ht
         go_enter Tryz.func41, Tryz.ntmps41
         go_upto_region 1 with fail
         rw [<- hw1]
         clear hw1
         go_wp2
         go_ret
         exact ⟨rfl, HBX.out.below⟩
     · have e1 : (dx == 0) = false := by rw [beq_eq_false_iff_ne]; exact hdx
       refine fin false (by simp [zB, hdx]) ?_
       clear fin
       clear hdx
       go_enter Tryz.func41, Tryz.ntmps41
       go_upto_region 1 with fail
       rw [<- hw1]
       clear hw1
       go_wp2
       go_ret
       exact ⟨rfl, HBX.out.below⟩
   · obtain ⟨e1, e2⟩ := bs_no hdl
     refine fin false (by simp [zB, hdl]) ?_
     clear fin
     clear hdl
     go_enter Tryz.func41, Tryz.ntmps41
     go_upto_region 1 with fail
     rw [<- hw1]
     clear hw1
     go_wp2
     go_ret
     exact ⟨rfl, HBX.out.below⟩
theorem good2 (w : World) (b : Bool) (dn : Bool) (dl : List UInt8) (dx : Int) (t : List UInt8) (A A' : Option Addr) (nl c nn c' : Nat) (hdl : dl.length <= 9223372036854775806) :
   Calls Tryz.prog 41 #[.agg (jvC 2 b ⟨dn, dl, dx⟩ t (.slice A nl c) (.slice A' nn c'))] w fun e w' => e = .returned (.bool (mayB ⟨dn, dl, dx⟩ && zB b Dec.zero t nl nn)) /\ Below w.heap.size w w' := by
 have ht0 : (bs []).toList = [] := bs_toList []
 have fin : ∀ r, (mayB ⟨dn, dl, dx⟩ && zB b Dec.zero t nl nn) = r -> (Calls Tryz.prog 41 #[.agg (jvC 2 b ⟨dn, dl, dx⟩ t (.slice A nl c) (.slice A' nn c'))] w fun e w' => e = .returned (.bool r) /\ Below w.heap.size w w') -> Calls Tryz.prog 41 #[.agg (jvC 2 b ⟨dn, dl, dx⟩ t (.slice A nl c) (.slice A' nn c'))] w fun e w' => e = .returned (.bool (mayB ⟨dn, dl, dx⟩ && zB b Dec.zero t nl nn)) /\ Below w.heap.size w w' := fun r e h => by rw [e]; exact h
 obtain ⟨w1, hw1⟩ : ∃ w1, w1 = w.alloc (.cells (jvC 2 b ⟨dn, dl, dx⟩ t (.slice A nl c) (.slice A' nn c')) 28) := ⟨_, rfl⟩
 have HBX : Hid (BoxJ w w1 A A' nl c nn c' (2) b ⟨dn, dl, dx⟩ t) := hid ⟨by rw [hw1]; exact Row.new _ _ _, by rw [hw1]; exact (Below.refl _ _).alloc (Nat.le_refl _) _⟩
 have x0 : w1.cell? ⟨w.heap.size, 0, none⟩ = some (.int .i64 (2)) := HBX.out.row.cell (i := 0) rfl
 have x1 : w1.cell? ⟨w.heap.size, 1, none⟩ = some (.bool b) := HBX.out.row.cell (i := 1) rfl
 have x2 : w1.cell? ⟨w.heap.size, 2, none⟩ = some (.bool dn) := HBX.out.row.cell (i := 2) rfl
 have x3 : w1.cell? ⟨w.heap.size, 3, none⟩ = some (.string (bs dl)) := HBX.out.row.cell (i := 3) rfl
 have x4 : w1.cell? ⟨w.heap.size, 4, none⟩ = some (.int .i64 dx) := HBX.out.row.cell (i := 4) rfl
 have x5 : w1.cell? ⟨w.heap.size, 5, none⟩ = some (.string (bs t)) := HBX.out.row.cell (i := 5) rfl
 have x6 : w1.cell? ⟨w.heap.size, 6, none⟩ = some (.slice A nl c) := HBX.out.row.cell (i := 6) rfl
 have x7 : w1.cell? ⟨w.heap.size, 7, none⟩ = some (.slice A' nn c') := HBX.out.row.cell (i := 7) rfl
 cases b with
 | true =>
   refine fin false (by simp [zB]) ?_
   clear fin
   go_enter Tryz.func41, Tryz.ntmps41
   go_upto_region 1 with fail
   rw [<- hw1]
   clear hw1
   go_wp2
   go_ret
   exact ⟨rfl, HBX.out.below⟩
 | false =>
   by_cases ht : t = []
   · subst ht
     by_cases hnl : nl = 0
     · subst hnl
       by_cases hnn : nn = 0
       · subst hnn
         have HM : Hid (∀ V, Calls Tryz.prog 71 #[.agg #[.bool dn, .string (bs dl), .int .i64 dx]] V fun e w' => e = .returned (.bool (mayB ⟨dn, dl, dx⟩)) /\ Below V.heap.size V w') := hid fun V => may_ok ⟨dn, dl, dx⟩ V hdl
         have HU : Hid (∀ V, Calls Tryz.prog 72 #[.string (bs [])] V fun e w' => e = .returned (.bool true) /\ V = w') := hid fun V => utf_nil V
         by_cases hm : ¬ mayB ⟨dn, dl, dx⟩ = true
         · rw [Bool.not_eq_true] at hm
           refine fin false (by rw [hm]; rfl) ?_
           rw [hm] at HM
           clear fin hm
           go_enter Tryz.func41, Tryz.ntmps41
           go_upto_region 1 with fail
           rw [<- hw1]
           clear hw1
           go_wp2_with fail
           refine (HM.out w1).mono ?_
           rintro e w2 ⟨rfl, hb⟩
           have HB2 := hid (HBX.out.call hb).below
           clear hb
           go_wp2_with fail
           go_ret
           exact ⟨rfl, HB2.out⟩
         · have hm : mayB ⟨dn, dl, dx⟩ = true := by simpa using hm
           refine fin true (by simp [zB, hm, Dec.zero]) ?_
           rw [hm] at HM
           clear fin hm
           go_enter Tryz.func41, Tryz.ntmps41
           go_upto_region 1 with fail
           rw [<- hw1]
           clear hw1
           go_wp2_with fail
           refine (HM.out w1).mono ?_
           rintro e w2 ⟨rfl, hb⟩
           have HB2 := hid (HBX.out.call hb)
           clear hb x0 x1 x2 x3 x4 x5 x6 x7
           have x0 := HB2.out.row.cell (i := 0) (v := .int .i64 (2)) rfl
           have x5 := HB2.out.row.cell (i := 5) (v := .string (bs [])) rfl
           have x6 := HB2.out.row.cell (i := 6) (v := .slice A 0 c) rfl
           have x7 := HB2.out.row.cell (i := 7) (v := .slice A' 0 c') rfl
           go_wp2_with fail
           refine (HU.out w2).mono ?_
           rintro e w3 ⟨rfl, rfl⟩
           go_wp2_with fail
           go_loopw [3] (fun v3 wr => v3 = .int .i64 0 /\ Hid (BoxJ w wr A A' 0 c 0 c' (2) false ⟨dn, dl, dx⟩ [])) (fun _ _ => 0)
           case atStart => exact ⟨rfl, HB2⟩
           case round =>
             clear HB2 x0 x5 x6 x7
             obtain ⟨rfl, HB2⟩ := hrel
             have x6 := HB2.out.row.cell (i := 6) (v := .slice A 0 c) rfl
             have x7 := HB2.out.row.cell (i := 7) (v := .slice A' 0 c') rfl
             go_wp2_with fail
             go_loopw [4] (fun v4 wx => v4 = .int .i64 0 /\ Hid (BoxJ w wx A A' 0 c 0 c' (2) false ⟨dn, dl, dx⟩ [])) (fun _ _ => 0)
             case atStart => exact ⟨rfl, HB2⟩
             case round =>
               clear HB2 x6 x7
               obtain ⟨rfl, HB2⟩ := hrel
               have x6 := HB2.out.row.cell (i := 6) (v := .slice A 0 c) rfl
               have x7 := HB2.out.row.cell (i := 7) (v := .slice A' 0 c') rfl
               go_wp2_with fail
               go_ret
               exact ⟨rfl, HB2.out.below⟩
       · have e1 : (0 : Int) < (nn : Int) := by omega
         refine fin false (by simp [zB, hnn]) ?_
         clear fin
         go_enter Tryz.func41, Tryz.ntmps41
         go_upto_region 1 with fail
         rw [<- hw1]
         clear hw1
         go_wp2
         go_ret
         exact ⟨rfl, HBX.out.below⟩
     · have e1 : (0 : Int) < (nl : Int) := by omega
       refine fin false (by simp [zB, hnl]) ?_
       clear fin
       go_enter Tryz.func41, Tryz.ntmps41
       go_upto_region 1 with fail
       rw [<- hw1]
       clear hw1
       go_wp2
       go_ret
       exact ⟨rfl, HBX.out.below⟩
   · obtain ⟨e1, e2⟩ := bs_no ht
     have e3 : ((bs t).toList != []) = true := by rw [bne_iff_ne]; exact e2
     refine fin false (by simp [zB, ht]) ?_
     clear fin
     clear ht
     go_enter Tryz.func41, Tryz.ntmps41
     go_upto_region 1 with fail
     rw [<- hw1]
     clear hw1
     go_wp2
     go_ret
     exact ⟨rfl, HBX.out.below⟩
theorem good3 (w : World) (b : Bool) (dn : Bool) (dl : List UInt8) (dx : Int) (t : List UInt8) (A A' : Option Addr) (nl c nn c' : Nat) (hdl : t.length <= 9223372036854775807) :
   Calls Tryz.prog 41 #[.agg (jvC 3 b ⟨dn, dl, dx⟩ t (.slice A nl c) (.slice A' nn c'))] w fun e w' => e = .returned (.bool (Lib.validD t && zB b ⟨dn, dl, dx⟩ [] nl nn)) /\ Below w.heap.size w w' := by
 have ht0 : (bs []).toList = [] := bs_toList []
 have fin : ∀ r, (Lib.validD t && zB b ⟨dn, dl, dx⟩ [] nl nn) = r -> (Calls Tryz.prog 41 #[.agg (jvC 3 b ⟨dn, dl, dx⟩ t (.slice A nl c) (.slice A' nn c'))] w fun e w' => e = .returned (.bool r) /\ Below w.heap.size w w') -> Calls Tryz.prog 41 #[.agg (jvC 3 b ⟨dn, dl, dx⟩ t (.slice A nl c) (.slice A' nn c'))] w fun e w' => e = .returned (.bool (Lib.validD t && zB b ⟨dn, dl, dx⟩ [] nl nn)) /\ Below w.heap.size w w' := fun r e h => by rw [e]; exact h
 obtain ⟨w1, hw1⟩ : ∃ w1, w1 = w.alloc (.cells (jvC 3 b ⟨dn, dl, dx⟩ t (.slice A nl c) (.slice A' nn c')) 28) := ⟨_, rfl⟩
 have HBX : Hid (BoxJ w w1 A A' nl c nn c' (3) b ⟨dn, dl, dx⟩ t) := hid ⟨by rw [hw1]; exact Row.new _ _ _, by rw [hw1]; exact (Below.refl _ _).alloc (Nat.le_refl _) _⟩
 have x0 : w1.cell? ⟨w.heap.size, 0, none⟩ = some (.int .i64 (3)) := HBX.out.row.cell (i := 0) rfl
 have x1 : w1.cell? ⟨w.heap.size, 1, none⟩ = some (.bool b) := HBX.out.row.cell (i := 1) rfl
 have x2 : w1.cell? ⟨w.heap.size, 2, none⟩ = some (.bool dn) := HBX.out.row.cell (i := 2) rfl
 have x3 : w1.cell? ⟨w.heap.size, 3, none⟩ = some (.string (bs dl)) := HBX.out.row.cell (i := 3) rfl
 have x4 : w1.cell? ⟨w.heap.size, 4, none⟩ = some (.int .i64 dx) := HBX.out.row.cell (i := 4) rfl
 have x5 : w1.cell? ⟨w.heap.size, 5, none⟩ = some (.string (bs t)) := HBX.out.row.cell (i := 5) rfl
 have x6 : w1.cell? ⟨w.heap.size, 6, none⟩ = some (.slice A nl c) := HBX.out.row.cell (i := 6) rfl
 have x7 : w1.cell? ⟨w.heap.size, 7, none⟩ = some (.slice A' nn c') := HBX.out.row.cell (i := 7) rfl
 cases b with
 | true =>
   refine fin false (by simp [zB]) ?_
   clear fin
   go_enter Tryz.func41, Tryz.ntmps41
   go_upto_region 1 with fail
   rw [<- hw1]
   clear hw1
   go_wp2
   go_ret
   exact ⟨rfl, HBX.out.below⟩
 | false =>
   cases dn with
   | true =>
     refine fin false (by simp [zB]) ?_
     clear fin
     go_enter Tryz.func41, Tryz.ntmps41
     go_upto_region 1 with fail
     rw [<- hw1]
     clear hw1
     go_wp2
     go_ret
     exact ⟨rfl, HBX.out.below⟩
   | false =>
     by_cases hdl : dl = []
     · subst hdl
       by_cases hdx : dx = 0
       · subst hdx
         by_cases hnl : nl = 0
         · subst hnl
           by_cases hnn : nn = 0
           · subst hnn
             have HM : Hid (∀ V, Calls Tryz.prog 71 #[.agg #[.bool false, .string (bs []), .int .i64 0]] V fun e w' => e = .returned (.bool true) /\ Below V.heap.size V w') := hid fun V => may_zero V
             have HU : Hid (∀ V, Calls Tryz.prog 72 #[.string (bs t)] V fun e w' => e = .returned (.bool (Lib.validD t)) /\ V = w') := hid fun V => dutf_ok t V hdl
             by_cases hv : ¬ Lib.validD t = true
             · rw [Bool.not_eq_true] at hv
               refine fin false (by rw [hv]; rfl) ?_
               rw [hv] at HU
               clear fin hv
               go_enter Tryz.func41, Tryz.ntmps41
               go_upto_region 1 with fail
               rw [<- hw1]
               clear hw1
               go_wp2_with fail
               refine (HM.out w1).mono ?_
               rintro e w2 ⟨rfl, hb⟩
               have HB2 := hid (HBX.out.call hb)
               clear hb x0 x1 x2 x3 x4 x5 x6 x7
               have x0 := HB2.out.row.cell (i := 0) (v := .int .i64 (3)) rfl
               have x5 := HB2.out.row.cell (i := 5) (v := .string (bs t)) rfl
               have x6 := HB2.out.row.cell (i := 6) (v := .slice A 0 c) rfl
               have x7 := HB2.out.row.cell (i := 7) (v := .slice A' 0 c') rfl
               go_wp2_with fail
               refine (HU.out w2).mono ?_
               rintro e w3 ⟨rfl, rfl⟩
               go_wp2_with fail
               go_ret
               exact ⟨rfl, HB2.out.below⟩
             · have hv : Lib.validD t = true := by simpa using hv
               refine fin true (by simp [zB, hv]) ?_
               rw [hv] at HU
               clear fin hv
               go_enter Tryz.func41, Tryz.ntmps41
               go_upto_region 1 with fail
               rw [<- hw1]
               clear hw1
               go_wp2_with fail
               refine (HM.out w1).mono ?_
               rintro e w2 ⟨rfl, hb⟩
               have HB2 := hid (HBX.out.call hb)
               clear hb x0 x1 x2 x3 x4 x5 x6 x7
               have x0 := HB2.out.row.cell (i := 0) (v := .int .i64 (3)) rfl
               have x5 := HB2.out.row.cell (i := 5) (v := .string (bs t)) rfl
               have x6 := HB2.out.row.cell (i := 6) (v := .slice A 0 c) rfl
               have x7 := HB2.out.row.cell (i := 7) (v := .slice A' 0 c') rfl
               go_wp2_with fail
               refine (HU.out w2).mono ?_
               rintro e w3 ⟨rfl, rfl⟩
               go_wp2_with fail
               go_loopw [3] (fun v3 wr => v3 = .int .i64 0 /\ Hid (BoxJ w wr A A' 0 c 0 c' (3) false ⟨false, [], 0⟩ t)) (fun _ _ => 0)
               case atStart => exact ⟨rfl, HB2⟩
               case round =>
                 clear HB2 x0 x5 x6 x7
                 obtain ⟨rfl, HB2⟩ := hrel
                 have x6 := HB2.out.row.cell (i := 6) (v := .slice A 0 c) rfl
                 have x7 := HB2.out.row.cell (i := 7) (v := .slice A' 0 c') rfl
                 go_wp2_with fail
                 go_loopw [4] (fun v4 wx => v4 = .int .i64 0 /\ Hid (BoxJ w wx A A' 0 c 0 c' (3) false ⟨false, [], 0⟩ t)) (fun _ _ => 0)
                 case atStart => exact ⟨rfl, HB2⟩
                 case round =>
                   clear HB2 x6 x7
                   obtain ⟨rfl, HB2⟩ := hrel
                   have x6 := HB2.out.row.cell (i := 6) (v := .slice A 0 c) rfl
                   have x7 := HB2.out.row.cell (i := 7) (v := .slice A' 0 c') rfl
                   go_wp2_with fail
                   go_ret
                   exact ⟨rfl, HB2.out.below⟩
           · have e1 : (0 : Int) < (nn : Int) := by omega
             refine fin false (by simp [zB, hnn]) ?_
             clear fin
             go_enter Tryz.func41, Tryz.ntmps41
             go_upto_region 1 with fail
             rw [<- hw1]
             clear hw1
             go_wp2
             go_ret
             exact ⟨rfl, HBX.out.below⟩
         · have e1 : (0 : Int) < (nl : Int) := by omega
           refine fin false (by simp [zB, hnl]) ?_
           clear fin
           go_enter Tryz.func41, Tryz.ntmps41
           go_upto_region 1 with fail
           rw [<- hw1]
           clear hw1
           go_wp2
           go_ret
           exact ⟨rfl, HBX.out.below⟩
       · have e1 : (dx == 0) = false := by rw [beq_eq_false_iff_ne]; exact hdx
         refine fin false (by simp [zB, hdx]) ?_
         clear fin
         clear hdx
         go_enter Tryz.func41, Tryz.ntmps41
         go_upto_region 1 with fail
         rw [<- hw1]
         clear hw1
         go_wp2
         go_ret
         exact ⟨rfl, HBX.out.below⟩
     · obtain ⟨e1, e2⟩ := bs_no hdl
       refine fin false (by simp [zB, hdl]) ?_
       clear fin
       clear hdl
       go_enter Tryz.func41, Tryz.ntmps41
       go_upto_region 1 with fail
       rw [<- hw1]
       clear hw1
       go_wp2
       go_ret
       exact ⟨rfl, HBX.out.below⟩
end Go.Proofs.YtmhbkjjkalnggaaGreatDoor
