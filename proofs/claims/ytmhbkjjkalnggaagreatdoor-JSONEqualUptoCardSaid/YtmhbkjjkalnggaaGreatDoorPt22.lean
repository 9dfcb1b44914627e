import Derived.Test.YtmhbkjjkalnggaaGreatDoorPt21
namespace Go.Proofs.YtmhbkjjkalnggaaGreatDoor
open Go.RowKit
set_option maxRecDepth 1000000
set_option maxHeartbeats 40000000
theorem catch_panicking (p : Addr) (x k : Int) (w : World) (hc : w.cell? p = some (.int .i64 x)) (hz : w.frozen? p = false) :
   CallsD Tryz.prog 57 #[.pointer (some p)] (.panicking (panicOf k)) w fun e u' w' =>
     e = .returned (.tuple #[]) /\ u' = .panicking [{ v := .iface 33 (.int .i64 k), recovered := true }] /\ w' = w.setCell p (.int .i64 k) := by
 unfold panicOf
 have hta : ∀ (xT : TypeId) (W : World), (Instr.typeAssert (.iface 33 (.int .i64 k)) xT 33 false).run Tryz.prog W = .ok (.int .i64 k) W := fun xT W => by
   simp [Instr.typeAssert, run_underlying Tryz.underlying33]
 refine callsD_of_wpS Tryz.func57 rfl fun c₀ cs hu => ?_
 apply wpS_seq
 apply wpS_region
 simp [wpOpsS, go_sem, recoverD, hu, Tryz.ntmps57, Exit.thenS]
 apply wpS_seq
 apply wpS_region
 simp [wpOpsS, go_sem, Exit.thenS]
 refine wpS_cond (t := true) (by simp [Act.eval, Array.replicate]) ?_
 simp only [if_true]
 apply wpS_region
 simp [wpOpsS, go_sem, hta, hc, hz, bodyPostS, results, Tryz.results57]
theorem catch_idle (p : Addr) (w : World) :
   CallsD Tryz.prog 57 #[.pointer (some p)] .returning w fun e u' w' => e = .returned (.tuple #[]) /\ u' = .returning /\ w' = w := by
 refine callsD_of_wpS Tryz.func57 rfl fun c₀ cs hu => ?_
 apply wpS_seq
 apply wpS_region
 simp [wpOpsS, go_sem, recoverD, hu, Tryz.ntmps57, Exit.thenS]
 apply wpS_seq
 apply wpS_region
 simp [wpOpsS, go_sem, Exit.thenS]
 refine wpS_cond (t := false) (by simp [Act.eval, Array.replicate]) ?_
 simp only [Bool.false_eq_true, if_false]
 refine wpS_of_wp (wp_skip ?_)
 cases c₀
 simp_all [bodyPostS, results, Tryz.results57]
def Does (F : Nat) (caps : Array Value) (w : World) (R : World -> Prop) (S : Int -> World -> Prop) : Prop :=
 Calls Tryz.prog F caps w fun e w' => (e = .returned (.tuple #[]) /\ R w') ∨ ∃ k, e = .panicked (panicOf k) /\ S k w'
theorem caught_ok (F : Nat) (caps : Array Value) (w w1 : World) (hw1 : w1 = w.alloc (.cells #[.int .i64 0] 33)) (R : World -> Prop) (S : Int -> World -> Prop) (hd : Does F caps w1 R S) (hcf : ∀ W : World, (callFunc F caps).run Tryz.prog W = .ok (.enter F caps) W)
   (hR : ∀ w', R w' -> w'.cell? ⟨w.heap.size, 0, none⟩ = some (.int .i64 0) /\ w'.frozen? ⟨w.heap.size, 0, none⟩ = false)
   (hS : ∀ k w', S k w' -> w'.cell? ⟨w.heap.size, 0, none⟩ = some (.int .i64 0) /\ w'.frozen? ⟨w.heap.size, 0, none⟩ = false) :
   Calls Tryz.prog 30 #[.func (.func F) #[] caps] w fun e w' => (∃ v, e = .returned (.int .i64 0) /\ R v /\ w' = v.setCell ⟨w.heap.size, 0, none⟩ (.int .i64 0)) ∨ ∃ k v, e = .returned (.int .i64 k) /\ S k v /\ w' = v.setCell ⟨w.heap.size, 0, none⟩ (.int .i64 k) := by
 have hmf : ∀ (fn : Fn) (first cap : Array Value) (W : World), (Instr.makeFunc fn first cap).run Tryz.prog W = .ok (.func fn first cap) W := fun _ _ _ _ => rfl
 have HD := hid hd
 clear hd
 go_enter_defers Tryz.func30, Tryz.ntmps30
 go_upto_region 2 with fail
 rw [<- hw1]
 clear hw1
 go_wp2_with fail
 unfold Does at HD
 refine HD.out.mono ?_
 rintro e w2 (⟨rfl, hr⟩ | ⟨k, rfl, hs⟩)
 · obtain ⟨c0, f0⟩ := hR _ hr
   have HR := hid hr
   clear hr hR hS
   go_wp2
   refine leaves_cons (f := 57) (args := #[.pointer (some ⟨w.heap.size, 0, none⟩)]) (by simp) (by simp [go_sem]) ?_
   refine (catch_idle ⟨w.heap.size, 0, none⟩ _).mono ?_
   rintro e u' w3 ⟨rfl, rfl, rfl⟩
   have c1 : (w2.setCell ⟨w.heap.size, 0, none⟩ (.int .i64 0)).cell? ⟨w.heap.size, 0, none⟩ = some (.int .i64 0) := World.cell?_setCell_same _ _ _ c0
   simp [Leaves, settle, results, Tryz.results30, go_sem, c1]
   exact .inl ⟨w2, HR.out, rfl⟩
 · obtain ⟨c0, f0⟩ := hS _ _ hs
   have HS := hid hs
   clear hs hR hS
   go_wp2
   refine leaves_cons (f := 57) (args := #[.pointer (some ⟨w.heap.size, 0, none⟩)]) (by simp) (by simp [go_sem]) ?_
   refine (catch_panicking ⟨w.heap.size, 0, none⟩ 0 k _ c0 f0).mono ?_
   rintro e u' w3 ⟨rfl, rfl, rfl⟩
   have c1 : (w2.setCell ⟨w.heap.size, 0, none⟩ (.int .i64 k)).cell? ⟨w.heap.size, 0, none⟩ = some (.int .i64 k) := World.cell?_setCell_same _ _ _ c0
   simp [Leaves, settle, results, Tryz.results30, go_sem, c1]
   exact .inr ⟨w2, HS.out, rfl⟩
def fl0 : Fl := ⟨false, false, false, false⟩
def readR (l : List UInt8) : JV × Int := match runJ .value [] fl0 l with
 | none => (JV.null, 180)
 | some (v, f) => if judgeE f ≠ 0 then (JV.null, judgeE f) else if 1048576 < (tellJ v).length then (JV.null, 3) else (v, 0)
def Pa1Post (W : World) (p rv : Nat) (l : List UInt8) (e : Ending) (w' : World) : Prop :=
 (((readR l).2 = 0 /\ e = .returned (.tuple #[]) /\ ∃ cs : Array Value, Row w' rv 28 cs /\ cs.size = 8 /\ JIs w' (fun q => W.heap.size <= q) (readR l).1 cs.toList) ∨
   ((readR l).2 ≠ 0 /\ e = .panicked (panicOf (readR l).2) /\ (readR l).1 = JV.null /\ ∃ cs : Array Value, Row w' rv 28 cs /\ cs.size = 8)) /\ Kept (fun q => q = p ∨ q = rv) W w'
theorem jparse1_ok (W : World) (p bp rv base : Nat) (X : Txt) (l : List UInt8) (hp : Row W bp 64 #[.pointer (some ⟨p, 0, none⟩)]) (hrv : Row W rv 28 zeroJ) (hj : JAt W p X l (.slice none 0 0) (.slice none 0 0) fl0) (hX : X.l.length <= 1048576)
   (h1 : p ≠ bp) (h2 : p ≠ rv) (h3 : bp ≠ rv) (hb1 : base <= p) (hb2 : base <= rv) (htx : ∀ g off n, X.A = some ⟨g, off, n⟩ -> 0 < X.l.length -> g ≠ rv) (hT : ∀ V, Kept (fun q => base <= q) W V -> PowTab V) :
   Calls Tryz.prog 47 #[.pointer (some ⟨bp, 0, none⟩), .pointer (some ⟨rv, 0, none⟩)] W (Pa1Post W p rv l) := by
 have hlen := hj.len
 have hbs : base <= W.heap.size := Nat.le_of_lt (Nat.lt_of_le_of_lt hb2 hrv.lt)
 have HWH := hid (jwhole_ok W p X l fl0 hj hX (fun V hV => hT V (kept_mono hV fun q hq => by
   rcases hq with hq | hq
   · show base <= q; omega
   · show base <= q; omega)))
 have c0 := hp.cell (i := 0) rfl
 have HP := hid hp
 have HRV := hid hrv
 have HT := hid hT
 have HLEN : Hid (l.length <= 1048576) := hid (Nat.le_trans hlen hX)
 have HTX := hid htx
 have HJ := hid hj
 clear hp hrv hT hlen hj hX htx
 cases hr : runJ .value [] fl0 l with
 | none =>
   rw [hr] at HWH
   have hR : readR l = (JV.null, 180) := by unfold readR; rw [hr]
   have FI : Hid (∀ w1, Kept (· = p) W w1 -> Pa1Post W p rv l (.panicked (panicOf 180)) w1) := hid fun w1 hk => by
     unfold Pa1Post
     rw [hR]
     exact ⟨.inr ⟨by decide, rfl, rfl, zeroJ, HRV.out.kept hk (fun e => h2 e.symm), rfl⟩, kept_mono hk fun q e => .inl e⟩
   clear hr hR
   go_enter Tryz.func47, Tryz.ntmps47
   go_wp2_with fail
   refine HWH.out.mono ?_
   rintro e w1 ⟨rfl, hk⟩
   have HF := hid (FI.out w1 hk)
   clear hk
   go_wp2_with fail
   exact ⟨rfl, HF.out⟩
 | some y =>
   obtain ⟨v, f⟩ := y
   rw [hr] at HWH
   have HFN : Hid (FineJ v) := hid (runJ_fine _ .value [] fl0 l (Nat.le_refl _) HLEN.out trivial (fun v e => by cases e) v f hr)
   have HR : Hid (readR l = if judgeE f ≠ 0 then (JV.null, judgeE f) else if 1048576 < (tellJ v).length then (JV.null, 3) else (v, 0)) := hid (by unfold readR; rw [hr])
   clear hr
   go_enter Tryz.func47, Tryz.ntmps47
   go_wp2_with fail
   refine HWH.out.mono ?_
   rintro e w1 ⟨cl, rfl, hv, ⟨s, E, O, hj1⟩, hk1⟩
   obtain ⟨cs, hcs⟩ : ∃ cs : Array Value, cs = cl.toArray := ⟨_, rfl⟩
   have hcl : cs.toList = cl := by rw [hcs]
   rw [<- hcl] at hv
   rw [<- hcs]
   have h8 : cs.size = 8 := by have := hv.len; simpa using this
   have hrow1 : Row w1 rv 28 zeroJ := HRV.out.kept hk1 (fun e => h2 e.symm)
   have HONE : Hid (cs.all (·.oneCell') = true) := hid (by have := all_oneCell_toArray (jv_one hv); simpa using this)
   have HIN : Hid ((Tryz.prog.info? 28).map (·.size) = some cs.size) := hid (by rw [h8]; exact infoJ)
   have HTH : Hid (w1.there rv 0 cs.size) := hid (row_there hrow1 (by rw [h8]; exact Nat.le_refl _))
   obtain ⟨w2, hw2⟩ : ∃ w2, w2 = w1.setCells rv 0 cs.toList := ⟨_, rfl⟩
   have hk2 : Kept (· = rv) w1 w2 := by rw [hw2]; exact kept_setCells _ _ _ _ _ (Kept.refl _ _)
   have hrow2 : Row w2 rv 28 cs := by
     rw [hw2]
     have h9 := row_laid cs.toList [] zeroJ.toList w1 hrow1 (by rw [Array.length_toList, Array.length_toList, h8]; rfl)
     simpa using h9
   have hv2 : JIs w2 (fun q => W.heap.size <= q) v cs.toList := JIs.kept hk2 (fun q hq e => by have := HRV.out.lt; omega) _ _ hv
   have hj2 : ∃ k E O, JRd w2 p X k E O f := by
     obtain ⟨_, k, hrd, _, hkl⟩ := hj1
     refine ⟨k, E, O, ⟨hrd.row.kept hk2 (fun e => h2 e), fun i hi => ?_⟩⟩
     obtain ⟨g, off, e, hg, hlt, hc⟩ := hrd.txt i hi
     exact ⟨g, off, e, hg, Nat.lt_of_lt_of_le hlt hk2.size, (World.cell?_of_block (a := ⟨g, off + i, none⟩) (hk2.block g hlt (HTX.out g off none e (by omega)))).trans hc⟩
   have HK2 : Hid (Kept (fun q => q = p ∨ q = rv) W w2) := hid ((kept_mono hk1 fun q e => .inl e).trans' (kept_mono hk2 fun q e => .inr e))
   have c1 : w2.cell? ⟨bp, 0, none⟩ = some (.pointer (some ⟨p, 0, none⟩)) := ((HP.out.kept hk1 (fun e => h1 e.symm)).kept hk2 (fun e => h3 e)).cell (i := 0) rfl
   have HROW2 := hid hrow2
   have HV2 := hid hv2
   obtain ⟨k, E2, O2, hrd⟩ := hj2
   have HJU := hid (jjudge_ok p X k E2 O2 f w2 hrd)
   have HW2 := hid hw2
   have H8 := hid h8
   clear hv hj1 hk1 hcs hcl hrow1 hk2 hrow2 hv2 hrd hw2 h8 HWH
   go_upto_region 1 with (
     refine wpList_store_mid ?_ 28 (.tmp 1) (.tmp 3) ?_ rv 0 cs ?_ ?_ HTH.out HIN.out HONE.out ?_
     · with_reducible rfl
     · with_reducible rfl
     · rfl
     · rfl)
   simp only [Act.put]
   rw [<- HW2.out]
   go_wp2_with fail
   refine HJU.out.mono ?_
   rintro e w3 ⟨rfl, hcase⟩
   rcases hcase with ⟨hz, rfl⟩ | ⟨hz, rfl⟩
   · have HPT : Hid (PowTab w2) := hid (HT.out w2 (kept_mono HK2.out fun q hq => by
       rcases hq with hq | hq
       · show base <= q; omega
       · show base <= q; omega))
     have HME := hid (jmeasure_ok (fun q => W.heap.size <= q) rv 0 v w2 ⟨HROW2.out.lt, cs.toList, fun q u hu => by rw [Nat.zero_add]; exact HROW2.out.cell (by simpa using hu), HV2.out⟩ HFN.out HPT.out)
     have HR2 : Hid (readR l = if 1048576 < (tellJ v).length then (JV.null, 3) else (v, 0)) := hid (by rw [HR.out, if_neg (by rw [hz]; simp)])
     clear hz HJU
     go_wp2_with fail
     refine HME.out.mono ?_
     rintro e w4 ⟨hcase, hb4⟩
     have hk4 : Kept (fun q => q = p ∨ q = rv) W w4 := HK2.out.trans (keptOf_below hb4)
     have hrow4 := HROW2.out.call hb4
     have hv4 := HV2.out.below hb4
     rcases hcase with ⟨hle, rfl⟩ | ⟨hgt, rfl⟩
     · have HFI : Hid (Pa1Post W p rv l (.returned (.tuple #[])) w4) := hid (by
         have hR : readR l = (v, 0) := by rw [HR2.out, if_neg (by omega)]
         unfold Pa1Post
         rw [hR]
         exact ⟨.inl ⟨rfl, rfl, cs, hrow4, H8.out, hv4⟩, hk4⟩)
       clear hle hb4 hk4 hrow4 hv4
       go_wp2_with fail
       go_end0
       exact HFI.out
     · have HFI : Hid (Pa1Post W p rv l (.panicked (panicOf 3)) w4) := hid (by
         have hR : readR l = (JV.null, 3) := by rw [HR2.out, if_pos hgt]
         unfold Pa1Post
         rw [hR]
         exact ⟨.inr ⟨by decide, rfl, rfl, cs, hrow4, H8.out⟩, hk4⟩)
       clear hgt hb4 hk4 hrow4 hv4
       go_wp2_with fail
       exact ⟨rfl, HFI.out⟩
   · have HFI : Hid (Pa1Post W p rv l (.panicked (panicOf (judgeE f))) w2) := hid (by
       have hR : readR l = (JV.null, judgeE f) := by rw [HR.out, if_pos hz]
       unfold Pa1Post
       rw [hR]
       exact ⟨.inr ⟨hz, rfl, rfl, cs, HROW2.out, H8.out⟩, HK2.out⟩)
     clear hz HJU
     go_wp2_with fail
     exact ⟨rfl, HFI.out⟩
def parseJ (vb : Bool) (l : List UInt8) : JV × Int := if 1048576 < l.length then (JV.null, 3) else if vb = false then (JV.null, 181) else readR l
def ParPost (w : World) (v : JV) (k : Int) (e : Ending) (w' : World) : Prop := ∃ cs : Array Value, e = .returned (.tuple #[.agg cs, .int .i64 k]) /\ JIs w' (fun q => w.heap.size <= q) v cs.toList /\ Below w.heap.size w w'
theorem null_jis (W : World) (F : Nat -> Prop) : JIs W F JV.null zeroJ.toList := by
 unfold JV.null JIs
 exact ⟨none, 0, none, 0, rfl, by simp, by unfold maxLen; omega, by simp, by unfold maxLen; omega, fun i hi => by simp at hi, by unfold KidsAt; trivial⟩
theorem jparse_ok (A : Option Addr) (n c : Nat) (l : List UInt8) (vb : Bool) (w : World) (hA : Holds w A n 1 (u8s l)) (hln : l.length = n) (hnc : n <= c) (hcm : c <= 9223372036854775807) (hT : PowTab w)
   (hV : n <= 1048576 -> ∀ V, Below w.heap.size w V -> Calls Tryz.prog 46 #[.slice A n c] V fun e w' => e = .returned (.bool vb) /\ Below V.heap.size V w') :
   Calls Tryz.prog 27 #[.slice A n c] w (ParPost w (parseJ vb l).1 (parseJ vb l).2) := by
 obtain ⟨w1, hw1⟩ : ∃ w1, w1 = w.alloc (.cells zeroJ 28) := ⟨_, rfl⟩
 have hb1 : Below w.heap.size w w1 := by subst hw1; exact (Below.refl _ _).alloc (Nat.le_refl _) _
 have hrv : Row w1 w.heap.size 28 zeroJ := by subst hw1; exact Row.new _ _ _
 have HZ : Hid (∀ (V : World), Row V w.heap.size 28 zeroJ -> V.there w.heap.size 0 zeroJ.size) := hid fun V h => row_there h (Nat.le_refl _)
 have HZ8 : Hid ((Tryz.prog.info? 28).map (·.size) = some zeroJ.size) := hid infoJ
 have HZ1 : Hid (zeroJ.all (·.oneCell') = true) := hid (by kernel_rfl)
 have HB1 := hid hb1
 have HRV := hid hrv
 have HA := hid hA
 have HLN := hid hln
 have HT := hid hT
 have HNC := hid hnc
 have HVV := hid hV
 have HCM := hid hcm
 clear hb1 hrv hA hln hT hV
 obtain ⟨RR, hRR⟩ : ∃ RR, RR = parseJ vb l := ⟨_, rfl⟩
 rw [<- hRR]
 have HR : Hid (RR = if 1048576 < l.length then (JV.null, 3) else if vb = false then (JV.null, 181) else readR l) := hid hRR
 clear hRR
 have FZ : Hid (∀ (k : Int) (V : World) (old : Array Value), Row V w.heap.size 28 old -> old.size = 8 -> Below w.heap.size w V -> RR = (JV.null, k) -> (loadVar 28 ⟨w.heap.size, 0, none⟩).run Tryz.prog (V.setCells w.heap.size 0 zeroJ.toList) = .ok (.agg zeroJ) (V.setCells w.heap.size 0 zeroJ.toList) /\ ParPost w RR.1 RR.2 (.returned (.tuple #[.agg zeroJ, .int .i64 k])) (V.setCells w.heap.size 0 zeroJ.toList)) := hid (by
   intro k V old ho h8 hb hr
   have hrow : Row (V.setCells w.heap.size 0 zeroJ.toList) w.heap.size 28 zeroJ := by
     have h9 := row_laid zeroJ.toList [] old.toList V (by simpa using ho) (by rw [Array.length_toList, Array.length_toList, h8]; rfl)
     simpa using h9
   refine ⟨load_jv hrow rfl, zeroJ, by rw [hr], by rw [hr]; exact null_jis _ _, hb.trans ?_⟩
   exact (kept_setCells V w.heap.size zeroJ.toList 0 V (Kept.refl _ _)).below hb.size (fun q e => by rw [e]; exact Nat.le_refl _))
 unfold zeroJ at hw1
 go_enter Tryz.func27, Tryz.ntmps27
 go_upto_region 1 with fail
 rw [<- hw1]
 clear hw1
 by_cases hlong : 1048576 < n
 · have HRN : Hid (RR = (JV.null, 3)) := hid (by rw [HR.out, HLN.out, if_pos hlong])
   have HTH := hid (HZ.out _ HRV.out)
   go_wp2_with (
     refine wpList_store_mid ?_ 28 (.tmp 2) (.tmp 9) ?_ w.heap.size 0 zeroJ ?_ ?_ HTH.out HZ8.out HZ1.out ?_
     · with_reducible rfl
     · with_reducible rfl
     · rfl
     · rfl)
   obtain ⟨e1, e2⟩ := FZ.out 3 w1 _ HRV.out rfl HB1.out HRN.out
   refine bodyPost_ret_by (results_row_tmp rfl _ _ w.heap.size zeroJ rfl e1) rfl ?_
   exact e2
 · have hn : n <= 1048576 := by omega
   have HVC := hid (HVV.out hn w1 HB1.out)
   have HR1 : Hid (RR = if vb = false then (JV.null, 181) else readR l) := hid (by rw [HR.out, HLN.out, if_neg hlong])
   clear HR HVV
   cases vb with
   | false =>
     have HRN : Hid (RR = (JV.null, 181)) := hid (by rw [HR1.out, if_pos rfl])
     clear HR1
     go_wp2_with fail
     refine HVC.out.mono ?_
     rintro e w2 ⟨rfl, hb2⟩
     have HRV2 := hid (HRV.out.call hb2)
     have HB2 := hid (HB1.out.call hb2)
     have HTH := hid (HZ.out _ HRV2.out)
     clear hb2 HVC
     go_wp2_with (
       refine wpList_store_mid ?_ 28 (.tmp 2) (.tmp 14) ?_ w.heap.size 0 zeroJ ?_ ?_ HTH.out HZ8.out HZ1.out ?_
       · with_reducible rfl
       · with_reducible rfl
       · rfl
       · rfl)
     obtain ⟨e1, e2⟩ := FZ.out 181 w2 _ HRV2.out rfl HB2.out HRN.out
     refine bodyPost_ret_by (results_row_tmp rfl _ _ w.heap.size zeroJ rfl e1) rfl ?_
     exact e2
   | true =>
     have HR2 : Hid (RR = readR l) := hid (by rw [HR1.out, if_neg (by simp)])
     clear HR1
     go_wp2_with fail
     refine HVC.out.mono ?_
     rintro e w2 ⟨rfl, hb2⟩
     have hrv2 := HRV.out.call hb2
     have hbw2 := HB1.out.call hb2
     obtain ⟨p, hp⟩ : ∃ p, p = w2.heap.size := ⟨_, rfl⟩
     obtain ⟨w3, hw3⟩ : ∃ w3, w3 = w2.alloc (.cells #[.slice A n c, .int .i64 0, .slice none 0 0, .slice none 0 0, .bool false, .bool false, .bool false, .bool false] 67) := ⟨_, rfl⟩
     obtain ⟨w4, hw4⟩ : ∃ w4, w4 = w3.alloc (.cells #[.pointer (some ⟨p, 0, none⟩)] 64) := ⟨_, rfl⟩
     obtain ⟨w5, hw5⟩ : ∃ w5, w5 = w4.alloc (.cells #[.int .i64 0] 33) := ⟨_, rfl⟩
     have s3 : w3.heap.size = p + 1 := by rw [hw3, hp]; simp
     have s4 : w4.heap.size = p + 2 := by rw [hw4]; simp [s3]
     have b3 : Below w2.heap.size w2 w3 := by rw [hw3]; exact (Below.refl _ _).alloc (Nat.le_refl _) _
     have b4 : Below w3.heap.size w3 w4 := by rw [hw4]; exact (Below.refl _ _).alloc (Nat.le_refl _) _
     have b5 : Below w4.heap.size w4 w5 := by rw [hw5]; exact (Below.refl _ _).alloc (Nat.le_refl _) _
     have r3 : Row w3 p 67 (rdCells ⟨A, c, l⟩ 0 (.slice none 0 0) (.slice none 0 0) fl0) := by
       rw [hw3, hp]
       unfold rdCells fl0
       rw [HLN.out]
       exact Row.new _ _ _
     have r4 : Row w4 (p + 1) 64 #[.pointer (some ⟨p, 0, none⟩)] := by rw [<- s3, hw4]; exact Row.new _ _ _
     have r5 : Row w5 w4.heap.size 33 #[.int .i64 0] := by rw [hw5]; exact Row.new _ _ _
     have hbw5 : Below w.heap.size w w5 := ((hbw2.call b3).call b4).call b5
     have hrv5 := ((hrv2.call b3).call b4).call b5
     have hwp : w.heap.size < p := by rw [hp]; exact hrv2.lt
     have hj5 : JAt w5 p ⟨A, c, l⟩ l (.slice none 0 0) (.slice none 0 0) fl0 := by
       refine ⟨⟨by show l.length <= _; have := HLN.out; omega, by show l.length <= c; have := HLN.out; omega⟩, 0, ⟨(r3.call b4).call b5, fun i hi => ?_⟩, rfl, Nat.zero_le _⟩
       have hi : i < l.length := hi
       obtain ⟨b, off, e, hlt, hr⟩ := HA.out.2 (by have := HLN.out; omega)
       refine ⟨b, off, e, by omega, Nat.lt_of_lt_of_le hlt hbw5.size, (hbw5.cell (p := ⟨b, off + i, none⟩) hlt).trans ?_⟩
       refine hr i (.int .u8 (byteAt l i : Int)) ?_
       rw [u8s_get, List.getElem?_eq_getElem hi]
       unfold byteAt
       simp [List.getD, List.getElem?_eq_getElem hi]
     have hdoes : Does 47 #[.pointer (some ⟨p + 1, 0, none⟩), .pointer (some ⟨w.heap.size, 0, none⟩)] w5 (fun w' => Pa1Post w5 p w.heap.size l (.returned (.tuple #[])) w') (fun k w' => k = (readR l).2 /\ Pa1Post w5 p w.heap.size l (.panicked (panicOf k)) w') := by
       unfold Does
       refine (jparse1_ok w5 p (p + 1) w.heap.size w.heap.size ⟨A, c, l⟩ l ((r4.call b5)) hrv5 hj5 (by show l.length <= _; have := HLN.out; omega) (by omega) (by omega) (by omega) (by omega) (Nat.le_refl _) (fun g off n9 e h9 => ?_) (fun V hV => HT.out.below (hbw5.trans (hV.below hbw5.size (fun q h => h))))).mono ?_
       · have h9 : 0 < l.length := h9
         obtain ⟨b, off2, e2, hlt, _⟩ := HA.out.2 (by have := HLN.out; omega)
         have e : A = some ⟨g, off, n9⟩ := e
         rw [e] at e2
         injection e2 with e2
         injection e2 with e2 _ _
         omega
       · intro e w' hpo
         rcases hpo.1 with ⟨h1, rfl, _⟩ | ⟨h1, rfl, _⟩
         · exact .inl ⟨rfl, hpo⟩
         · exact .inr ⟨_, rfl, rfl, hpo⟩
     have hkeep : ∀ w', Kept (fun q => q = p ∨ q = w.heap.size) w5 w' -> w'.cell? ⟨w4.heap.size, 0, none⟩ = some (.int .i64 0) /\ w'.frozen? ⟨w4.heap.size, 0, none⟩ = false := fun w' hk => by
       have h9 := r5.kept hk (by rintro (e | e) <;> omega)
       exact ⟨h9.cell rfl, h9.free 0⟩
     have HCA := hid (caught_ok 47 #[.pointer (some ⟨p + 1, 0, none⟩), .pointer (some ⟨w.heap.size, 0, none⟩)] w4 w5 hw5 _ _ hdoes (fun _ => rfl) (fun w' h => hkeep w' h.2) (fun k w' h => hkeep w' h.2.2))
     have HB5 := hid hbw5
     have HWP := hid hwp
     have HS4 := hid s4
     have HS5 : Hid (w4.heap.size + 1 = w5.heap.size) := hid (by rw [hw5]; simp)
     have hmf : ∀ (fn : Fn) (first cap : Array Value) (W : World), (Instr.makeFunc fn first cap).run Tryz.prog W = .ok (.func fn first cap) W := fun _ _ _ _ => rfl
     have HHP := hid hp
     have HW3 := hid hw3
     have HW4 := hid hw4
     clear hb2 hrv2 hbw2 hp hw3 hw4 hw5 s3 s4 b3 b4 b5 r3 r4 r5 hbw5 hrv5 hwp hj5 hdoes hkeep HVC
     go_upto_region 6 with fail
     have h4 := HW4.out
     rw [HW3.out, HHP.out] at h4
     rw [<- h4, <- HHP.out]
     clear h4 HW3 HW4
     have HK6 : Hid (∀ v6 k6, Kept (fun q => q = p ∨ q = w.heap.size) w5 v6 -> Below w.heap.size w (v6.setCell ⟨w4.heap.size, 0, none⟩ k6)) := hid fun v6 k6 hk => by
       have h1 := hk.below (B := w.heap.size) HB5.out.size (fun q e => by rcases e with e | e <;> (have := HWP.out; omega))
       exact (HB5.out.trans h1).setCell (p := ⟨w4.heap.size, 0, none⟩) (by show w.heap.size <= w4.heap.size; have := HS4.out; have := HWP.out; omega) _
     have HNE : Hid (w.heap.size ≠ w4.heap.size) := hid (by have := HS4.out; have := HWP.out; omega)
     go_wp2_with fail
     refine HCA.out.mono ?_
     rintro e w6 (⟨v6, rfl, hR, rfl⟩ | ⟨k, v6, rfl, ⟨hk0, hS⟩, rfl⟩)
     · obtain ⟨hk, cs, hrow, h8, hv⟩ : (readR l).2 = 0 /\ ∃ cs : Array Value, Row v6 w.heap.size 28 cs /\ cs.size = 8 /\ JIs v6 (fun q => w5.heap.size <= q) (readR l).1 cs.toList := by
         rcases hR.1 with ⟨h1, _, cs, h2, h3, h4⟩ | ⟨_, h2, _⟩
         · exact ⟨h1, cs, h2, h3, h4⟩
         · cases h2
       have HB6 := hid (HK6.out v6 (.int .i64 0) hR.2)
       have hrow6 : Row (v6.setCell ⟨w4.heap.size, 0, none⟩ (.int .i64 0)) w.heap.size 28 cs := hrow.far HNE.out _
       have hv6 : JIs (v6.setCell ⟨w4.heap.size, 0, none⟩ (.int .i64 0)) (fun q => w.heap.size < q /\ q ≠ w4.heap.size) (readR l).1 cs.toList :=
         JIs.kept (Kept.cell _ _ _ _) (fun q h => h.2) _ _ (JIs.mono (fun q h _ => by have := HS4.out; have := HS5.out; have := HWP.out; omega) _ _ hv)
       have HROW6 := hid hrow6
       have HV6 := hid hv6
       have HRA : Hid ((v6.setCell ⟨w4.heap.size, 0, none⟩ (.int .i64 0)).rangeAt w.heap.size 0 cs.toList) := hid (fun j u hu => by rw [Nat.zero_add]; exact hrow6.cell (by simpa using hu))
       have HIN : Hid ((Tryz.prog.info? 28).map (·.size) = some cs.size) := hid (by rw [h8]; exact infoJ)
       have HONE : Hid (cs.all (·.oneCell') = true) := hid (by have := all_oneCell_toArray (jv_one hv); simpa using this)
       have HTH := hid (row_there hrow6 (Nat.le_refl _))
       have H8 := hid h8
       have HRD : Hid (RR = ((readR l).1, 0)) := hid (by rw [HR2.out, <- hk])
       clear hk hrow hrow6 hv hv6 hR h8 HCA
       generalize v6.setCell ⟨w4.heap.size, 0, none⟩ (.int .i64 0) = w7 at *
       go_wp2_with (first
         | (refine ldJ (.tmp 2) w.heap.size 0 cs HRA.out HIN.out ?_)
         | (refine wpList_store_mid ?_ 28 (.tmp 2) (.tmp 24) ?_ w.heap.size 0 cs ?_ ?_ HTH.out HIN.out HONE.out ?_
            · with_reducible rfl
            · with_reducible rfl
            · rfl
            · rfl))
       have HWF := row_setCells cs.toList 0 w7 HROW6.out (fun j u hu => by rw [Nat.zero_add]; simpa using hu)
       have hkf : Kept (· = w.heap.size) w7 (w7.setCells w.heap.size 0 cs.toList) := kept_setCells _ _ _ _ _ (Kept.refl _ _)
       refine bodyPost_ret_by (results_row_tmp rfl _ _ w.heap.size cs rfl (load_jv HWF H8.out)) rfl ?_
       rw [HRD.out]
       exact ⟨cs, rfl, JIs.mono (fun q h _ => Nat.le_of_lt h.1) _ _ (JIs.kept hkf (fun q h e => by have := h.1; omega) _ _ HV6.out), HB6.out.trans (hkf.below HB6.out.size (fun q e => by rw [e]; exact Nat.le_refl _))⟩
     · obtain ⟨hkn, hnl, cs, hrow, h8⟩ : (readR l).2 ≠ 0 /\ (readR l).1 = JV.null /\ ∃ cs : Array Value, Row v6 w.heap.size 28 cs /\ cs.size = 8 := by
         rcases hS.1 with ⟨_, h2, _⟩ | ⟨h1, _, h3, cs, h4, h5⟩
         · cases h2
         · exact ⟨h1, h3, cs, h4, h5⟩
       have HB6 := hid (HK6.out v6 (.int .i64 k) hS.2)
       have hrow6 : Row (v6.setCell ⟨w4.heap.size, 0, none⟩ (.int .i64 k)) w.heap.size 28 cs := hrow.far HNE.out _
       have HROW6 := hid hrow6
       have HRN : Hid (RR = (JV.null, k)) := hid (by rw [HR2.out, hk0, <- hnl])
       have hkb : (k != 0) = true := by rw [bne_iff_ne, hk0]; exact hkn
       have HTH := hid (row_there hrow6 (n := zeroJ.size) (by rw [h8]; exact Nat.le_refl _))
       have H8 := hid h8
       clear hkn hnl hrow hrow6 hS h8 hk0 HCA
       generalize v6.setCell ⟨w4.heap.size, 0, none⟩ (.int .i64 k) = w7 at *
       go_wp2_with (
         refine wpList_store_mid ?_ 28 (.tmp 2) (.tmp 22) ?_ w.heap.size 0 zeroJ ?_ ?_ HTH.out HZ8.out HZ1.out ?_
         · with_reducible rfl
         · with_reducible rfl
         · rfl
         · rfl)
       obtain ⟨e1, e2⟩ := FZ.out k w7 _ HROW6.out H8.out HB6.out HRN.out
       refine bodyPost_ret_by (results_row_tmp rfl _ _ w.heap.size zeroJ rfl e1) rfl ?_
       exact e2
end Go.Proofs.YtmhbkjjkalnggaaGreatDoor
