/- Layer 7: Whole. -/
import Derived.Test.YthgjelpmdndceaaDoorDecCheck
import Derived.Test.YthgjelpmdndceaaDoorDecSmall
namespace Go.Proofs.YthgjelpmdndceaaDoor
open Go.RowKit

def wholeB (d : Dec) : Bool := mayB d && decide (0 ≤ d.exp)
set_option maxHeartbeats 1000000 in
theorem whole_ok (d : Dec) (w : World) (hl : d.digits.length ≤ 9223372036854775806) :
    Calls Tryd.prog 11 #[decV d] w fun e w' => e = .returned (.bool (wholeB d)) ∧ Below w.heap.size w w' := by
  have HCK := Lib.hid (fun W => check_ok d W hl)
  have HN : Hid (mayB d = false → wholeB d = false) := Lib.hid fun h => by unfold wholeB; rw [h]; rfl
  have HY : Hid (mayB d = true → wholeB d = decide (0 ≤ d.exp)) := Lib.hid fun h => by unfold wholeB; rw [h]; rfl
  obtain ⟨neg, l, x⟩ := d
  unfold decV at *
  simp only at HCK HY hl ⊢
  obtain ⟨w1, hw1⟩ : ∃ w1, w1 = w.alloc (.cells #[.bool neg, .string (bs l), .int .i64 x] 23) := ⟨_, rfl⟩
  have HB1 : Hid (Below w.heap.size w w1) := Lib.hid (by subst hw1; exact (Below.refl _ _).alloc (Nat.le_refl _) _)
  have HR1 : Hid (Row w1 w.heap.size 23 #[.bool neg, .string (bs l), .int .i64 x]) := Lib.hid (by subst hw1; exact Row.new _ _ _)
  have c0 := HR1.out.cell (i := 0) (v := .bool neg) rfl
  have c1 := HR1.out.cell (i := 1) (v := .string (bs l)) rfl
  have c2 := HR1.out.cell (i := 2) (v := .int .i64 x) rfl
  go_enter Tryd.func11, Tryd.ntmps11
  go_upto_region 1 with fail
  rw [← hw1]
  clear hw1
  go_wp2_with fail
  refine (HCK.out _).mono ?_
  rintro e w2 ⟨rfl, hb2⟩
  have HB2 := Lib.hid (HB1.out.call hb2)
  have k2 := (HR1.out.call hb2).cell (i := 2) (v := .int .i64 x) rfl
  clear c0 c1 c2 HB1 HR1 hb2 HCK
  cases hm : mayB ⟨neg, l, x⟩ with
  | false =>
    have HX := Lib.hid (HN.out hm)
    rw [checkE_no hm]
    clear hm HN HY
    go_wp2
    go_ret
    exact ⟨by rw [HX.out]; rfl, HB2.out⟩
  | true =>
    have HX := Lib.hid (HY.out hm)
    rw [checkE_yes hm]
    clear hm HN HY
    go_wp2
    go_ret
    exact ⟨by rw [HX.out]; rfl, HB2.out⟩
end Go.Proofs.YthgjelpmdndceaaDoor
