/- Layer 3: may a log lie there? -/
import Derived.Test.YtdaefhlfalhfnaaDoorPt24
import Derived.Test.YtdaefhlfalhfnaaDoorPt25
namespace Go.Proofs.YtdaefhlfalhfnaaDoor
open Go.RowKit

theorem allowed_no (v : Value) (from_ n : Int) (w : World) (h : NoDisk w v) :
    Calls Tryd.prog 28 #[v, .int .i64 from_, .int .i64 n] w fun e w' => e = .returned (.int .i64 1) ∧ w = w' := by
  have H := Lib.hid h
  clear h
  go_enter Tryd.func28, Tryd.ntmps28
  go_wp2_with (go_at_call 50; refine (size_no v _ H.out).mono ?_; rintro e w' ⟨rfl, rfl⟩)
  go_ret
  exact ⟨rfl, rfl⟩
/-- The error of a place of n sectors from a place on. -/
def placeE (size : Nat) (from_ n : Int) : Int := if n < 4 ∨ from_ < 0 then 2 else if (size : Int) - from_ < n then 4 else 0
theorem allowed_ok {F : Nat → Prop} (p : Nat) (d : D) (from_ n : Int) (w : World) (h : DiskAt w F p d) (hw : (Lit.int .i64 from_).wf = true) :
    Calls Tryd.prog 28 #[.pointer (some ⟨p, 0, none⟩), .int .i64 from_, .int .i64 n] w fun e w' => e = .returned (.int .i64 (placeE d.size from_ n)) ∧ w = w' := by
  have H := Lib.hid h
  obtain ⟨t, ht⟩ := h
  have hs := ht.good.most
  have hp := ht.good.pos
  have hfw := bounds_i64 hw
  clear ht hw
  have hne : ((d.size : Int) == 0) = false := by simp; omega
  by_cases h1 : n < 4
  · have HE : Hid (placeE d.size from_ n = 2) := Lib.hid (by simp [placeE, h1])
    go_enter Tryd.func28, Tryd.ntmps28
    go_wp2_with (go_at_call 50; refine (size_ok p d _ H.out).mono ?_; rintro e w' ⟨rfl, rfl⟩)
    go_ret
    exact ⟨ret_int HE.out.symm, rfl⟩
  · have d1 : decide (n < 4) = false := by simp; omega
    by_cases h2 : from_ < 0
    · have HE : Hid (placeE d.size from_ n = 2) := Lib.hid (by simp [placeE, h2])
      go_enter Tryd.func28, Tryd.ntmps28
      go_wp2_with (go_at_call 50; refine (size_ok p d _ H.out).mono ?_; rintro e w' ⟨rfl, rfl⟩)
      go_ret
      exact ⟨ret_int HE.out.symm, rfl⟩
    · have d2 : decide (from_ < 0) = false := by simp; omega
      by_cases h3 : (d.size : Int) - from_ < n
      · have HE : Hid (placeE d.size from_ n = 4) := Lib.hid (by simp [placeE, h1, h2, h3])
        go_enter Tryd.func28, Tryd.ntmps28
        go_wp2_with (go_at_call 50; refine (size_ok p d _ H.out).mono ?_; rintro e w' ⟨rfl, rfl⟩)
        go_ret
        exact ⟨ret_int HE.out.symm, rfl⟩
      · have HE : Hid (placeE d.size from_ n = 0) := Lib.hid (by simp [placeE, h1, h2, h3])
        have d3 : decide ((d.size : Int) - from_ < n) = false := by simp; omega
        go_enter Tryd.func28, Tryd.ntmps28
        go_wp2_with (go_at_call 50; refine (size_ok p d _ H.out).mono ?_; rintro e w' ⟨rfl, rfl⟩)
        go_ret
        exact ⟨ret_int HE.out.symm, rfl⟩
end Go.Proofs.YtdaefhlfalhfnaaDoor
/- Layer 3: load and Open of a disk that is none, or of a place that is none. -/
namespace Go.Proofs.YtdaefhlfalhfnaaDoor
open Go.RowKit

theorem load_no (v : Value) (from_ n : Int) (w : World) (h : NoDisk w v) :
    Calls Tryd.prog 32 #[v, .int .i64 from_, .int .i64 n] w fun e w' => e = .returned (.tuple #[.pointer none, .int .i64 1]) ∧ Below w.heap.size w w' := by
  have H := Lib.hid h
  clear h
  go_enter Tryd.func32, Tryd.ntmps32
  go_wp2_with (go_at_call 28; refine (allowed_no v from_ n _ H.out).mono ?_; rintro e w' ⟨rfl, rfl⟩)
  go_ret2
  exact ⟨rfl, Below.refl _ _⟩
theorem load_not (w : World) (FD : Nat → Prop) (dp : Nat) (d : D) (from_ n : Int) (h : DiskAt w FD dp d) (hw : (Lit.int .i64 from_).wf = true) (hp : placeE d.size from_ n ≠ 0) :
    Calls Tryd.prog 32 #[.pointer (some ⟨dp, 0, none⟩), .int .i64 from_, .int .i64 n] w fun e w' => e = .returned (.tuple #[.pointer none, .int .i64 (placeE d.size from_ n)]) ∧ Below w.heap.size w w' := by
  have H := Lib.hid h
  have hne : (placeE d.size from_ n != 0) = true := by simp [hp]
  clear h hp
  go_enter Tryd.func32, Tryd.ntmps32
  go_wp2_with (go_at_call 28; refine (allowed_ok dp d from_ n _ H.out hw).mono ?_; rintro e w' ⟨rfl, rfl⟩)
  all_goals first
    | (go_ret2; exact ⟨rfl, Below.refl _ _⟩)
theorem open_no (v : Value) (from_ n : Int) (w : World) (h : NoDisk w v) :
    Calls Tryd.prog 11 #[v, .int .i64 from_, .int .i64 n] w fun e w' => e = .returned (.tuple #[.pointer none, .int .i64 1]) ∧ Below w.heap.size w w' := by
  have H := Lib.hid h
  clear h
  go_enter Tryd.func11, Tryd.ntmps11
  go_wp2_with (go_at_call 32; refine (load_no v from_ n _ H.out).mono ?_; rintro e w' ⟨rfl, hb⟩)
  go_ret2
  exact ⟨rfl, hb⟩
theorem open_not (w : World) (FD : Nat → Prop) (dp : Nat) (d : D) (from_ n : Int) (h : DiskAt w FD dp d) (hw : (Lit.int .i64 from_).wf = true) (hp : placeE d.size from_ n ≠ 0) :
    Calls Tryd.prog 11 #[.pointer (some ⟨dp, 0, none⟩), .int .i64 from_, .int .i64 n] w fun e w' => e = .returned (.tuple #[.pointer none, .int .i64 (placeE d.size from_ n)]) ∧ Below w.heap.size w w' := by
  have H := Lib.hid h
  have HP := Lib.hid hp
  have hne : (placeE d.size from_ n != 0) = true := by simp [hp]
  clear h hp
  go_enter Tryd.func11, Tryd.ntmps11
  go_wp2_with (go_at_call 32; refine (load_not _ FD dp d from_ n H.out hw HP.out).mono ?_; rintro e w' ⟨rfl, hb⟩)
  all_goals first
    | (go_ret2; exact ⟨rfl, hb⟩)
end Go.Proofs.YtdaefhlfalhfnaaDoor
