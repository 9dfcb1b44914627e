/- Layer 7's laws: a slice of decimals, opened. -/
import Derived.Test.YtlcbjikiodmlfaaGreatDoorPt46
import Derived.Test.YtlcbjikiodmlfaaGreatDoorPt16
namespace Go.Proofs.YtlcbjikiodmlfaaGreatDoor
open Go.RowKit Go.ChangeShapes Go.WideShapes Go.Deep

section
variable {H : Type} {enc : TypeId × Value → H} {w : World}
set_option maxRecDepth 100000 in
theorem open_decs {r : Reach} {b0 : Nat} {v : Value} {d : DataW H} {p : List MemPlace} (hv : Value.okWide Tryz.prog w r b0 22 v) (h : DataW.Trod enc Tryz.prog w 0 (fun _ => true) true 22 v d p) :
    ∃ A c l, v = .slice A l.length c ∧ Holds w A l.length 3 (dcs l) ∧ (∀ d ∈ l, d.digits.length ≤ 9223372036854775807) ∧ l.length ≤ 9223372036854775807 := by
  obtain ⟨fuel, h⟩ := h
  obtain ⟨va, vl, vc, rfl⟩ := okWide_slice Tryz.underlying22 hv
  have hvc : (Value.slice va vl vc).cells.toList = [.slice va vl vc] := rfl
  rw [hvc] at h
  rcases open_slice Tryz.underlying22 h with ⟨hcs, _⟩ | ⟨a, len, cap, m, n, D, Pl, hcs, hxx, hl, hm, hmm, hyy, hi⟩
  · injection hcs with hcs _
    rw [hcs]
    exact ⟨none, 0, [], rfl, Holds.nil _ _ _, fun s hs => by simp at hs, by simp⟩
  · injection hcs with hcs _
    rw [hcs]
    have hC : Tryz.prog.cellsOf 24 = 3 := by kernel_rfl
    have hlm : len ≤ m := by rw [hmm]; split <;> omega
    obtain ⟨l, hll, hq⟩ := list_of_each (α := Dec) len (fun i s => s.digits.length ≤ 9223372036854775807 ∧ ∀ j v, ([.bool s.neg, .string (bs s.digits), .int .i64 s.exp] : List Value)[j]? = some v → w.cell? (a.add (i * 3 + j)) = some v) Dec.zero fun i hil => by
      obtain ⟨cs', hc, ht⟩ := hi i (by omega)
      obtain ⟨_, hcl, hat⟩ := World.cells?_some hc
      obtain ⟨hl2, n', hf⟩ := fields_one Tryz.underlying24 (by kernel_rfl) (by kernel_rfl) ht
      obtain ⟨v0, y0, e0, t0⟩ := hf 0 _ rfl
      obtain ⟨v1, y1, e1, t1⟩ := hf 1 _ rfl
      obtain ⟨v2, y2, e2, t2⟩ := hf 2 _ rfl
      obtain ⟨k0, hk0, _⟩ := DataW.trod_bool Tryz.underlying4 t0
      obtain ⟨k1, hk1, _, w1⟩ := DataW.trod_string Tryz.underlying9 t1
      obtain ⟨k2, hk2, _, w2⟩ := DataW.trod_int Tryz.underlying3 t2
      injection hk0 with hk0
      injection hk1 with hk1
      injection hk2 with hk2
      subst hk0; subst hk1; subst hk2
      rw [hC] at hat
      refine ⟨⟨k0, k1.data.toList, k2⟩, by have : k1.data.toList.length = k1.size := Array.length_toList; unfold maxLen at w1; simp only; omega, fun j v hv => ?_⟩
      have hj : j < 3 := (List.getElem?_eq_some_iff.1 hv).1
      have h9 := hat j hj
      rw [add_add] at h9
      rw [h9]
      simp only at hv
      rw [← bs_of] at hv
      rcases (by omega : j = 0 ∨ j = 1 ∨ j = 2) with rfl | rfl | rfl
      · rw [e0]; exact hv
      · rw [e1]; exact hv
      · rw [e2]; exact hv
    subst hll
    refine ⟨some a, cap, l, rfl, holds_flat (fun s : Dec => [.bool s.neg, .string (bs s.digits), .int .i64 s.exp]) 3 (by omega) (fun _ => rfl) Dec.zero l fun k hk => (hq k hk).2, fun s hs => ?_, by unfold maxLen at *; omega⟩
    obtain ⟨i, hi, rfl⟩ := List.mem_iff_getElem.1 hs
    have := (hq i hi).1
    rwa [List.getD_eq_getElem?_getD, List.getElem?_eq_getElem hi] at this
end
end Go.Proofs.YtlcbjikiodmlfaaGreatDoor
