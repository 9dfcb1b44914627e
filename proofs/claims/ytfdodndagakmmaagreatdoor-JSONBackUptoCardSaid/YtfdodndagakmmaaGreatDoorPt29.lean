/- Layer 8: caught: what gives up, and why. -/
import Derived.Test.YtfdodndagakmmaaGreatDoorPt08
import Derived.Defers
import Derived.Recover
import Derived.Laws.Pointers
import Derived.Test.YtfdodndagakmmaaGreatDoorPt27
import Derived.Test.YtfdodndagakmmaaGreatDoorPt28
namespace Go.Proofs.YtfdodndagakmmaaGreatDoor
open Go.RowKit

theorem catch_panicking (p : Addr) (x k : Int) (w : World) (hc : w.cell? p = some (.int .i64 x)) (hz : w.frozen? p = false) :
    CallsD Tryz.prog 76 #[.pointer (some p)] (.panicking (panicOf k)) w fun e u' w' =>
      e = .returned (.tuple #[]) ∧ u' = .panicking [{ v := .iface 31 (.int .i64 k), recovered := true }] ∧ w' = w.setCell p (.int .i64 k) := by
  unfold panicOf
  have hta : ∀ (xT : TypeId) (W : World), (Instr.typeAssert (.iface 31 (.int .i64 k)) xT 31 false).run Tryz.prog W = .ok (.int .i64 k) W := fun xT W => by
    simp [Instr.typeAssert, run_underlying Tryz.underlying31]
  refine callsD_of_wpS Tryz.func76 rfl fun c₀ cs hu => ?_
  apply wpS_seq
  apply wpS_region
  simp [wpOpsS, go_sem, recoverD, hu, Tryz.ntmps76, Exit.thenS]
  apply wpS_seq
  apply wpS_region
  simp [wpOpsS, go_sem, Exit.thenS]
  refine wpS_cond (t := true) (by simp [Act.eval, Array.replicate]) ?_
  simp only [if_true]
  apply wpS_region
  simp [wpOpsS, go_sem, hta, hc, hz, bodyPostS, results, Tryz.results76]
theorem catch_idle (p : Addr) (w : World) :
    CallsD Tryz.prog 76 #[.pointer (some p)] .returning w fun e u' w' => e = .returned (.tuple #[]) ∧ u' = .returning ∧ w' = w := by
  refine callsD_of_wpS Tryz.func76 rfl fun c₀ cs hu => ?_
  apply wpS_seq
  apply wpS_region
  simp [wpOpsS, go_sem, recoverD, hu, Tryz.ntmps76, Exit.thenS]
  apply wpS_seq
  apply wpS_region
  simp [wpOpsS, go_sem, Exit.thenS]
  refine wpS_cond (t := false) (by simp [Act.eval, Array.replicate]) ?_
  simp only [Bool.false_eq_true, if_false]
  refine wpS_of_wp (wp_skip ?_)
  cases c₀
  simp_all [bodyPostS, results, Tryz.results76]
/-- What is handed to caught does: it goes through, or gives up by an error. -/
def Does (F : Nat) (caps : Array Value) (w : World) (R : World → Prop) (S : Int → World → Prop) : Prop :=
  Calls Tryz.prog F caps w fun e w' => (e = .returned (.tuple #[]) ∧ R w') ∨ ∃ k, e = .panicked (panicOf k) ∧ S k w'
set_option maxRecDepth 100000 in
set_option maxHeartbeats 4000000 in
theorem caught_ok (F : Nat) (caps : Array Value) (w w1 : World) (hw1 : w1 = w.alloc (.cells #[.int .i64 0] 31)) (R : World → Prop) (S : Int → World → Prop) (hd : Does F caps w1 R S) (hcf : ∀ W : World, (callFunc F caps).run Tryz.prog W = .ok (.enter F caps) W)
    (hR : ∀ w', R w' → w'.cell? ⟨w.heap.size, 0, none⟩ = some (.int .i64 0) ∧ w'.frozen? ⟨w.heap.size, 0, none⟩ = false)
    (hS : ∀ k w', S k w' → w'.cell? ⟨w.heap.size, 0, none⟩ = some (.int .i64 0) ∧ w'.frozen? ⟨w.heap.size, 0, none⟩ = false) :
    Calls Tryz.prog 40 #[.func (.func F) #[] caps] w fun e w' => (∃ v, e = .returned (.int .i64 0) ∧ R v ∧ w' = v.setCell ⟨w.heap.size, 0, none⟩ (.int .i64 0)) ∨ ∃ k v, e = .returned (.int .i64 k) ∧ S k v ∧ w' = v.setCell ⟨w.heap.size, 0, none⟩ (.int .i64 k) := by
  have hmf : ∀ (fn : Fn) (first cap : Array Value) (W : World), (Instr.makeFunc fn first cap).run Tryz.prog W = .ok (.func fn first cap) W := fun _ _ _ _ => rfl
  have HD := Lib.hid hd
  clear hd
  go_enter_defers Tryz.func40, Tryz.ntmps40
  go_upto_region 2 with fail
  rw [← hw1]
  clear hw1
  go_wp2_with fail
  unfold Does at HD
  refine HD.out.mono ?_
  rintro e w2 (⟨rfl, hr⟩ | ⟨k, rfl, hs⟩)
  · obtain ⟨c0, f0⟩ := hR _ hr
    have HR := Lib.hid hr
    clear hr hR hS
    go_wp2
    refine leaves_cons (f := 76) (args := #[.pointer (some ⟨w.heap.size, 0, none⟩)]) (by simp) (by simp [go_sem]) ?_
    refine (catch_idle ⟨w.heap.size, 0, none⟩ _).mono ?_
    rintro e u' w3 ⟨rfl, rfl, rfl⟩
    have c1 : (w2.setCell ⟨w.heap.size, 0, none⟩ (.int .i64 0)).cell? ⟨w.heap.size, 0, none⟩ = some (.int .i64 0) := World.cell?_setCell_same _ _ _ c0
    simp [Leaves, settle, results, Tryz.results40, go_sem, c1]
    exact .inl ⟨w2, HR.out, rfl⟩
  · obtain ⟨c0, f0⟩ := hS _ _ hs
    have HS := Lib.hid hs
    clear hs hR hS
    go_wp2
    refine leaves_cons (f := 76) (args := #[.pointer (some ⟨w.heap.size, 0, none⟩)]) (by simp) (by simp [go_sem]) ?_
    refine (catch_panicking ⟨w.heap.size, 0, none⟩ 0 k _ c0 f0).mono ?_
    rintro e u' w3 ⟨rfl, rfl, rfl⟩
    have c1 : (w2.setCell ⟨w.heap.size, 0, none⟩ (.int .i64 k)).cell? ⟨w.heap.size, 0, none⟩ = some (.int .i64 k) := World.cell?_setCell_same _ _ _ c0
    simp [Leaves, settle, results, Tryz.results40, go_sem, c1]
    exact .inr ⟨w2, HS.out, rfl⟩
end Go.Proofs.YtfdodndagakmmaaGreatDoor
/- Layer 8: what Parse hands to caught. -/
namespace Go.Proofs.YtfdodndagakmmaaGreatDoor
open Go.RowKit

def fl0 : Fl := ⟨false, false, false, false⟩
/-- What a text of UTF-8 that is not too long tells, and its error. -/
def readR (l : List UInt8) : JV × Int := match runJ .value [] fl0 l with
  | none => (JV.null, 180)
  | some (v, f) => if judgeE f ≠ 0 then (JV.null, judgeE f) else if 1048576 < (tellJ v).length then (JV.null, 3) else (v, 0)
def Pa1Post (W : World) (p rv : Nat) (l : List UInt8) (e : Ending) (w' : World) : Prop :=
  (((readR l).2 = 0 ∧ e = .returned (.tuple #[]) ∧ ∃ cs : Array Value, Row w' rv 30 cs ∧ cs.size = 8 ∧ JIs w' (fun q => W.heap.size ≤ q) (readR l).1 cs.toList) ∨
    ((readR l).2 ≠ 0 ∧ e = .panicked (panicOf (readR l).2) ∧ (readR l).1 = JV.null ∧ ∃ cs : Array Value, Row w' rv 30 cs ∧ cs.size = 8)) ∧ Kept (fun q => q = p ∨ q = rv) W w'
set_option maxRecDepth 1000000 in
set_option maxHeartbeats 40000000 in
theorem jparse1_ok (W : World) (p bp rv base : Nat) (X : Txt) (l : List UInt8) (hp : Row W bp 63 #[.pointer (some ⟨p, 0, none⟩)]) (hrv : Row W rv 30 zeroJ) (hj : JAt W p X l (.slice none 0 0) (.slice none 0 0) fl0) (hX : X.l.length ≤ 1048576)
    (h1 : p ≠ bp) (h2 : p ≠ rv) (h3 : bp ≠ rv) (hb1 : base ≤ p) (hb2 : base ≤ rv) (htx : ∀ g off n, X.A = some ⟨g, off, n⟩ → 0 < X.l.length → g ≠ rv) (hT : ∀ V, Kept (fun q => base ≤ q) W V → PowTab V) :
    Calls Tryz.prog 41 #[.pointer (some ⟨bp, 0, none⟩), .pointer (some ⟨rv, 0, none⟩)] W (Pa1Post W p rv l) := by
  have hlen := hj.len
  have hbs : base ≤ W.heap.size := Nat.le_of_lt (Nat.lt_of_le_of_lt hb2 hrv.lt)
  have HWH := Lib.hid (jwhole_ok W p X l fl0 hj hX (fun V hV => hT V (kept_mono hV fun q hq => by
    rcases hq with hq | hq
    · show base ≤ q; omega
    · show base ≤ q; omega)))
  have c0 := hp.cell (i := 0) rfl
  have HP := Lib.hid hp
  have HRV := Lib.hid hrv
  have HT := Lib.hid hT
  have HLEN : Hid (l.length ≤ 1048576) := Lib.hid (Nat.le_trans hlen hX)
  have HTX := Lib.hid htx
  have HJ := Lib.hid hj
  clear hp hrv hT hlen hj hX htx
  cases hr : runJ .value [] fl0 l with
  | none =>
    rw [hr] at HWH
    have hR : readR l = (JV.null, 180) := by unfold readR; rw [hr]
    have FI : Hid (∀ w1, Kept (· = p) W w1 → Pa1Post W p rv l (.panicked (panicOf 180)) w1) := Lib.hid fun w1 hk => by
      unfold Pa1Post
      rw [hR]
      exact ⟨.inr ⟨by decide, rfl, rfl, zeroJ, HRV.out.kept hk (fun e => h2 e.symm), rfl⟩, kept_mono hk fun q e => .inl e⟩
    clear hr hR
    go_enter Tryz.func41, Tryz.ntmps41
    go_wp2_with fail
    refine HWH.out.mono ?_
    rintro e w1 ⟨rfl, hk⟩
    have HF := Lib.hid (FI.out w1 hk)
    clear hk
    go_wp2_with fail
    exact ⟨rfl, HF.out⟩
  | some y =>
    obtain ⟨v, f⟩ := y
    rw [hr] at HWH
    have HFN : Hid (FineJ v) := Lib.hid (runJ_fine _ .value [] fl0 l (Nat.le_refl _) HLEN.out trivial (fun v e => by cases e) v f hr)
    have HR : Hid (readR l = if judgeE f ≠ 0 then (JV.null, judgeE f) else if 1048576 < (tellJ v).length then (JV.null, 3) else (v, 0)) := Lib.hid (by unfold readR; rw [hr])
    clear hr
    go_enter Tryz.func41, Tryz.ntmps41
    go_wp2_with fail
    refine HWH.out.mono ?_
    rintro e w1 ⟨cl, rfl, hv, ⟨s, E, O, hj1⟩, hk1⟩
    obtain ⟨cs, hcs⟩ : ∃ cs : Array Value, cs = cl.toArray := ⟨_, rfl⟩
    have hcl : cs.toList = cl := by rw [hcs]
    rw [← hcl] at hv
    rw [← hcs]
    have h8 : cs.size = 8 := by have := hv.len; simpa using this
    have hrow1 : Row w1 rv 30 zeroJ := HRV.out.kept hk1 (fun e => h2 e.symm)
    have HONE : Hid (cs.all (·.oneCell') = true) := Lib.hid (by have := all_oneCell_toArray (jv_one hv); simpa using this)
    have HIN : Hid ((Tryz.prog.info? 30).map (·.size) = some cs.size) := Lib.hid (by rw [h8]; exact infoJ)
    have HTH : Hid (w1.there rv 0 cs.size) := Lib.hid (row_there hrow1 (by rw [h8]; exact Nat.le_refl _))
    obtain ⟨w2, hw2⟩ : ∃ w2, w2 = w1.setCells rv 0 cs.toList := ⟨_, rfl⟩
    have hk2 : Kept (· = rv) w1 w2 := by rw [hw2]; exact kept_setCells _ _ _ _ _ (Kept.refl _ _)
    have hrow2 : Row w2 rv 30 cs := by
      rw [hw2]
      have h9 := row_laid cs.toList [] zeroJ.toList w1 hrow1 (by rw [Array.length_toList, Array.length_toList, h8]; rfl)
      simpa using h9
    have hv2 : JIs w2 (fun q => W.heap.size ≤ q) v cs.toList := JIs.kept hk2 (fun q hq e => by have := HRV.out.lt; omega) _ _ hv
    have hj2 : ∃ k E O, JRd w2 p X k E O f := by
      obtain ⟨_, k, hrd, _, hkl⟩ := hj1
      refine ⟨k, E, O, ⟨hrd.row.kept hk2 (fun e => h2 e), fun i hi => ?_⟩⟩
      obtain ⟨g, off, e, hg, hlt, hc⟩ := hrd.txt i hi
      exact ⟨g, off, e, hg, Nat.lt_of_lt_of_le hlt hk2.size, (World.cell?_of_block (a := ⟨g, off + i, none⟩) (hk2.block g hlt (HTX.out g off none e (by omega)))).trans hc⟩
    have HK2 : Hid (Kept (fun q => q = p ∨ q = rv) W w2) := Lib.hid ((kept_mono hk1 fun q e => .inl e).trans' (kept_mono hk2 fun q e => .inr e))
    have c1 : w2.cell? ⟨bp, 0, none⟩ = some (.pointer (some ⟨p, 0, none⟩)) := ((HP.out.kept hk1 (fun e => h1 e.symm)).kept hk2 (fun e => h3 e)).cell (i := 0) rfl
    have HROW2 := Lib.hid hrow2
    have HV2 := Lib.hid hv2
    obtain ⟨k, E2, O2, hrd⟩ := hj2
    have HJU := Lib.hid (jjudge_ok p X k E2 O2 f w2 hrd)
    have HW2 := Lib.hid hw2
    have H8 := Lib.hid h8
    clear hv hj1 hk1 hcs hcl hrow1 hk2 hrow2 hv2 hrd hw2 h8 HWH
    go_upto_region 1 with (
      refine wpList_store_mid ?_ 30 (.tmp 1) (.tmp 3) ?_ rv 0 cs ?_ ?_ HTH.out HIN.out HONE.out ?_
      · with_reducible rfl
      · with_reducible rfl
      · rfl
      · rfl)
    simp only [Act.put]
    rw [← HW2.out]
    go_wp2_with fail
    refine HJU.out.mono ?_
    rintro e w3 ⟨rfl, hcase⟩
    rcases hcase with ⟨hz, rfl⟩ | ⟨hz, rfl⟩
    · have HPT : Hid (PowTab w2) := Lib.hid (HT.out w2 (kept_mono HK2.out fun q hq => by
        rcases hq with hq | hq
        · show base ≤ q; omega
        · show base ≤ q; omega))
      have HME := Lib.hid (jmeasure_ok (fun q => W.heap.size ≤ q) rv 0 v w2 ⟨HROW2.out.lt, cs.toList, fun q u hu => by rw [Nat.zero_add]; exact HROW2.out.cell (by simpa using hu), HV2.out⟩ HFN.out HPT.out)
      have HR2 : Hid (readR l = if 1048576 < (tellJ v).length then (JV.null, 3) else (v, 0)) := Lib.hid (by rw [HR.out, if_neg (by rw [hz]; simp)])
      clear hz HJU
      go_wp2_with fail
      refine HME.out.mono ?_
      rintro e w4 ⟨hcase, hb4⟩
      have hk4 : Kept (fun q => q = p ∨ q = rv) W w4 := HK2.out.trans (keptOf_below hb4)
      have hrow4 := HROW2.out.call hb4
      have hv4 := HV2.out.below hb4
      rcases hcase with ⟨hle, rfl⟩ | ⟨hgt, rfl⟩
      · have HFI : Hid (Pa1Post W p rv l (.returned (.tuple #[])) w4) := Lib.hid (by
          have hR : readR l = (v, 0) := by rw [HR2.out, if_neg (by omega)]
          unfold Pa1Post
          rw [hR]
          exact ⟨.inl ⟨rfl, rfl, cs, hrow4, H8.out, hv4⟩, hk4⟩)
        clear hle hb4 hk4 hrow4 hv4
        go_wp2_with fail
        go_end0
        exact HFI.out
      · have HFI : Hid (Pa1Post W p rv l (.panicked (panicOf 3)) w4) := Lib.hid (by
          have hR : readR l = (JV.null, 3) := by rw [HR2.out, if_pos hgt]
          unfold Pa1Post
          rw [hR]
          exact ⟨.inr ⟨by decide, rfl, rfl, cs, hrow4, H8.out⟩, hk4⟩)
        clear hgt hb4 hk4 hrow4 hv4
        go_wp2_with fail
        exact ⟨rfl, HFI.out⟩
    · have HFI : Hid (Pa1Post W p rv l (.panicked (panicOf (judgeE f))) w2) := Lib.hid (by
        have hR : readR l = (JV.null, judgeE f) := by rw [HR.out, if_pos hz]
        unfold Pa1Post
        rw [hR]
        exact ⟨.inr ⟨hz, rfl, rfl, cs, HROW2.out, H8.out⟩, HK2.out⟩)
      clear hz HJU
      go_wp2_with fail
      exact ⟨rfl, HFI.out⟩
end Go.Proofs.YtfdodndagakmmaaGreatDoor
