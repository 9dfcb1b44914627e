/- Layer 8: Check. -/
import Derived.Test.YtjckojedafajeaaGreatDoorPt44
import Derived.Test.YtjckojedafajeaaGreatDoorPt40
namespace Go.Proofs.YtjckojedafajeaaGreatDoor
open Go.RowKit
set_option maxRecDepth 1000000 in
set_option maxHeartbeats 8000000 in
theorem jcheck_ok (F : Nat → Prop) (cs : Array Value) (v : JV) (w : World) (h : JIs w F v cs.toList) (hs : SmallJ v) (hf : askJ v = true → FineJ v) (hd : depthJ v ≤ 1000000) (hT : PowTab w) (hU : Lib.Utf8Tabs 0 1 w) :
    Calls Tryz.prog 15 #[.agg cs] w fun e w' => e = .returned (.int .i64 (checkJ v)) ∧ Below w.heap.size w w' := by
  obtain ⟨w1, hw1⟩ : ∃ w1, w1 = w.alloc (.cells cs 30) := ⟨_, rfl⟩
  obtain ⟨w2, hw2⟩ : ∃ w2, w2 = w1.alloc (.cells #[.int .i64 0] 31) := ⟨_, rfl⟩
  have b1 : Below w.heap.size w w1 := by rw [hw1]; exact (Below.refl _ _).alloc (Nat.le_refl _) _
  have b2 : Below w1.heap.size w1 w2 := by rw [hw2]; exact (Below.refl _ _).alloc (Nat.le_refl _) _
  have r1 : Row w1 w.heap.size 30 cs := by rw [hw1]; exact Row.new _ _ _
  have r2 : Row w2 w1.heap.size 31 #[.int .i64 0] := by rw [hw2]; exact Row.new _ _ _
  have b12 := b1.call b2
  have r12 := r1.call b2
  have hj : JAtP w2 F w.heap.size 0 v := ⟨r12.lt, cs.toList, fun q u hu => by rw [Nat.zero_add]; exact r12.cell (by simpa using hu), h.below b12⟩
  have hdoes : Does 38 #[.pointer (some ⟨w.heap.size, 0, none⟩)] w2 (fun w' => checkJ v = 0 ∧ Below w2.heap.size w2 w') (fun k w' => k = checkJ v ∧ Below w2.heap.size w2 w') := by
    unfold Does
    refine (jcheck1_ok F w.heap.size 0 v w2 hj hs hf hd (fun V hb => (hT.below b12).below hb) (Utf8Tabs_below hU b12)).mono ?_
    rintro e w' ⟨he, hb⟩
    by_cases h0 : checkJ v = 0
    · rw [if_pos h0] at he; exact .inl ⟨he, h0, hb⟩
    · rw [if_neg h0] at he; exact .inr ⟨_, he, rfl, hb⟩
  have hkeep : ∀ w', Below w2.heap.size w2 w' → w'.cell? ⟨w1.heap.size, 0, none⟩ = some (.int .i64 0) ∧ w'.frozen? ⟨w1.heap.size, 0, none⟩ = false := fun w' hb => ⟨(r2.call hb).cell rfl, (r2.call hb).free 0⟩
  have HCA := Lib.hid (caught_ok 38 #[.pointer (some ⟨w.heap.size, 0, none⟩)] w1 w2 hw2 _ _ hdoes (fun _ => rfl) (fun w' h => hkeep w' h.2) (fun k w' h => hkeep w' h.2))
  have hmf : ∀ (fn : Fn) (first cap : Array Value) (W : World), (Instr.makeFunc fn first cap).run Tryz.prog W = .ok (.func fn first cap) W := fun _ _ _ _ => rfl
  have HB : Hid (∀ V k, Below w2.heap.size w2 V → Below w.heap.size w (V.setCell ⟨w1.heap.size, 0, none⟩ k)) := Lib.hid fun V k hb => (b12.call hb).setCell (p := ⟨w1.heap.size, 0, none⟩) b1.size _
  clear h hs hf hd hT hU b1 b2 r1 r2 b12 r12 hj hdoes hkeep
  generalize checkJ v = r at *
  go_enter Tryz.func15, Tryz.ntmps15
  go_upto_region 1 with fail
  rw [← hw1]
  clear hw1 hw2
  go_wp2_with fail
  refine HCA.out.mono ?_
  rintro e w6 (⟨v6, rfl, ⟨h0, hb⟩, rfl⟩ | ⟨k, v6, rfl, ⟨rfl, hb⟩, rfl⟩)
  · have HR : Hid (r = 0) := Lib.hid h0
    have HB6 := Lib.hid (HB.out v6 (.int .i64 0) hb)
    clear hb h0
    generalize v6.setCell ⟨w1.heap.size, 0, none⟩ (.int .i64 0) = w7 at *
    go_wp2_with fail
    go_ret
    exact ⟨by rw [HR.out]; rfl, HB6.out⟩
  · have HB6 := Lib.hid (HB.out v6 (.int .i64 k) hb)
    clear hb
    generalize v6.setCell ⟨w1.heap.size, 0, none⟩ (.int .i64 k) = w7 at *
    go_wp2_with fail
    go_ret
    exact ⟨rfl, HB6.out⟩
end Go.Proofs.YtjckojedafajeaaGreatDoor
/- Layer 8: mayBe. -/
namespace Go.Proofs.YtjckojedafajeaaGreatDoor
open Go.RowKit
set_option maxRecDepth 1000000 in
set_option maxHeartbeats 8000000 in
theorem jmayBe_ok (F : Nat → Prop) (cs : Array Value) (v : JV) (w : World) (h : JIs w F v cs.toList) (h8 : cs.size = 8) (hs : SmallJ v) (hf : askJ v = true → FineJ v) (hd : depthJ v ≤ 1000000) (hT : PowTab w) (hU : Lib.Utf8Tabs 0 1 w) :
    Calls Tryz.prog 41 #[.agg cs] w fun e w' => e = .returned (.bool (checkJ v == 0)) ∧ Below w.heap.size w w' := by
  obtain ⟨w1, hw1⟩ : ∃ w1, w1 = w.alloc (.cells cs 30) := ⟨_, rfl⟩
  have b1 : Below w.heap.size w w1 := by rw [hw1]; exact (Below.refl _ _).alloc (Nat.le_refl _) _
  have r1 : Row w1 w.heap.size 30 cs := by rw [hw1]; exact Row.new _ _ _
  have HRA : Hid (w1.rangeAt w.heap.size 0 cs.toList) := Lib.hid (fun j u hu => by rw [Nat.zero_add]; exact r1.cell (by simpa using hu))
  have HIN : Hid ((Tryz.prog.info? 30).map (·.size) = some cs.size) := Lib.hid (by rw [h8]; exact infoJ)
  have HC := Lib.hid (jcheck_ok F cs v w1 (h.below b1) hs hf hd (hT.below b1) (Utf8Tabs_below hU b1))
  have HB := Lib.hid b1
  clear h hs hf hd hT hU b1 r1 h8
  generalize checkJ v = r at *
  go_enter Tryz.func41, Tryz.ntmps41
  go_upto_region 1 with fail
  rw [← hw1]
  clear hw1
  go_wp2_with (first
    | (refine wpList_load_mid ?_ 30 (.tmp 1) ?_ w.heap.size 0 ?_ cs.toList _ HRA.out Tryz.underlying30 rfl (by rw [Array.length_toList]; exact HIN.out) ?_
       · with_reducible rfl
       · with_reducible rfl
       · rfl))
  refine HC.out.mono ?_
  rintro e w2 ⟨rfl, hb⟩
  have HB2 := Lib.hid (HB.out.call hb)
  clear hb
  go_wp2_with fail
  go_ret
  exact ⟨rfl, HB2.out⟩
end Go.Proofs.YtjckojedafajeaaGreatDoor
