/- Layer 7's laws: what they are handed, opened. -/
import Derived.Test.YtlcbjikiodmlfaaGreatDoorPt26
import Derived.Test.YtlcbjikiodmlfaaGreatDoorPt27
namespace Go.Proofs.YtlcbjikiodmlfaaGreatDoor
open Go.RowKit Go.ChangeShapes Go.WideShapes Go.Deep

section
variable {H : Type} {enc : TypeId × Value → H} {w : World}
set_option maxRecDepth 100000 in
theorem open_dec {r : Reach} {b0 : Nat} {v : Value} {d : DataW H} {p : List MemPlace} (hv : Value.okWide Tryz.prog w r b0 24 v) (h : DataW.Trod enc Tryz.prog w 0 (fun _ => true) true 24 v d p) :
    ∃ c : Dec, v = decV c ∧ c.digits.length ≤ 9223372036854775807 := by
  obtain ⟨cs, rfl, hsz⟩ := okWide_struct Tryz.underlying24 hv
  obtain ⟨fuel, hf⟩ := h
  obtain ⟨hl2, n', hg⟩ := fields_one Tryz.underlying24 (by kernel_rfl) (by kernel_rfl) hf
  obtain ⟨v0, y0, e0, t0⟩ := hg 0 _ rfl
  obtain ⟨v1, y1, e1, t1⟩ := hg 1 _ rfl
  obtain ⟨v2, y2, e2, t2⟩ := hg 2 _ rfl
  obtain ⟨k0, hk0, _⟩ := DataW.trod_bool Tryz.underlying4 t0
  obtain ⟨k1, hk1, _, w1⟩ := DataW.trod_string Tryz.underlying9 t1
  obtain ⟨k2, hk2, _, w2⟩ := DataW.trod_int Tryz.underlying3 t2
  injection hk0 with hk0
  injection hk1 with hk1
  injection hk2 with hk2
  subst hk0; subst hk1; subst hk2
  have hcc : (Value.agg cs).cells.toList = cs.toList := by simp [Value.cells]
  rw [hcc] at hl2 e0 e1 e2
  have hl3 : cs.toList.length = 3 := hl2
  refine ⟨⟨k0, k1.data.toList, k2⟩, ?_, by have : k1.data.toList.length = k1.size := Array.length_toList; unfold maxLen at w1; simp only; omega⟩
  unfold decV
  refine agg_of (l := [.bool k0, .string (bs k1.data.toList), .int .i64 k2]) hl3 fun j hj => ?_
  rw [← bs_of]
  have hj : j < 3 := hj
  rcases (by omega : j = 0 ∨ j = 1 ∨ j = 2) with rfl | rfl | rfl
  · rw [e0]; rfl
  · rw [e1]; rfl
  · rw [e2]; rfl
end
end Go.Proofs.YtlcbjikiodmlfaaGreatDoor
