/- What a law is handed, opened: structs by value, slices of structs, of bytes and of numbers, at any depth. -/
import Derived.Test.YtlcbjikiodmlfaaGreatDoorPt04
import Derived.OpenShut
import Derived.ShutString
import Derived.Deep.Slices
import Derived.Deep.Fields
import Derived.ChangeSame
import Derived.ChangeSlices
import Derived.WideShapes
namespace Go.Proofs.YtlcbjikiodmlfaaGreatDoor
open Go.RowKit Go.ChangeShapes Go.WideShapes Go.Deep

theorem list_of_each {α : Type} (n : Nat) (Q : Nat → α → Prop) (z : α) (h : ∀ i, i < n → ∃ x, Q i x) : ∃ l : List α, l.length = n ∧ ∀ i, i < n → Q i (l.getD i z) := by
  induction n with
  | zero => exact ⟨[], rfl, fun i hi => by omega⟩
  | succ n ih =>
    obtain ⟨l, hl, hq⟩ := ih fun i hi => h i (by omega)
    obtain ⟨x, hx⟩ := h n (by omega)
    refine ⟨l ++ [x], by simp [hl], fun i hi => ?_⟩
    rcases Nat.lt_or_ge i n with h1 | h1
    · rw [List.getD_eq_getElem?_getD, List.getElem?_append_left (by omega), ← List.getD_eq_getElem?_getD]
      exact hq i h1
    · obtain rfl : i = n := by omega
      rw [List.getD_eq_getElem?_getD, List.getElem?_append_right (by omega), hl, Nat.sub_self]
      exact hx
theorem range_flat {α : Type} (g : α → List Value) (s : Nat) (hs : ∀ a, (g a).length = s) (z : α) {w : World} {b : Nat} : ∀ (l : List α) (off : Nat), (∀ k, k < l.length → ∀ j v, (g (l.getD k z))[j]? = some v → w.cell? ⟨b, off + (k * s + j), none⟩ = some v) → w.rangeAt b off (l.flatMap g) := by
  intro l
  induction l with
  | nil => intro off _ j v hv; simp at hv
  | cons x r ih =>
    intro off h j v hv
    rw [List.flatMap_cons] at hv
    rcases Nat.lt_or_ge j s with h1 | h1
    · rw [List.getElem?_append_left (by rw [hs]; exact h1)] at hv
      have := h 0 (by simp) j v (by simpa using hv)
      simpa using this
    · rw [List.getElem?_append_right (by rw [hs]; exact h1), hs] at hv
      have hr := ih (off + s) (fun k hk j v hv => by
        have := h (k + 1) (by simpa using hk) j v (by simpa using hv)
        rw [show off + s + (k * s + j) = off + ((k + 1) * s + j) by rw [Nat.add_mul]; omega]
        exact this) (j - s) v hv
      rw [show off + s + (j - s) = off + j by omega] at hr
      exact hr
theorem flat_length {α : Type} (g : α → List Value) (s : Nat) (hs : ∀ a, (g a).length = s) (l : List α) : (l.flatMap g).length = l.length * s := by
  induction l with
  | nil => simp
  | cons x r ih => rw [List.flatMap_cons, List.length_append, hs, ih, List.length_cons, Nat.add_mul]; omega
theorem holds_flat {α : Type} (g : α → List Value) (s : Nat) (h0 : 0 < s) (hs : ∀ a, (g a).length = s) (z : α) {w : World} {a : Addr} (l : List α) (h : ∀ k, k < l.length → ∀ j v, (g (l.getD k z))[j]? = some v → w.cell? (a.add (k * s + j)) = some v) : Holds w (some a) l.length s (l.flatMap g) := by
  refine ⟨flat_length g s hs l, fun hn => ?_⟩
  obtain ⟨b, off, spot⟩ := a
  have h1 := h 0 hn 0 ((g (l.getD 0 z))[0]'(by rw [hs]; exact h0)) (List.getElem?_eq_getElem _)
  have hspot : spot = none := by simpa [Addr.add] using World.cell?_spot h1
  subst hspot
  refine ⟨b, off, rfl, ?_, range_flat g s hs z l off fun k hk j v hv => ?_⟩
  · have := block_lt_of_cell h1
    rwa [addr_add] at this
  · have := h k hk j v hv
    rwa [addr_add] at this

section
variable {H : Type} {enc : TypeId × Value → H} {w : World}
theorem fields_one {P : Program} {base : Nat} {spare : Nat → Bool} {held : Bool} {t : TypeId} {fs : Array Field} {fuel : Nat} {cs : List Value} {x : DataW H × List MemPlace} (hs : P.underlying t = some (.struct fs)) (hone : oneCellFields P fs = true) (hC : P.cellsOf t = fs.size) (h : DataW.trod enc P w base spare held fuel t cs = some x) :
    cs.length = fs.size ∧ ∃ n, ∀ (j : Nat) (f : Field), fs[j]? = some f → ∃ v y, cs[j]? = some v ∧ DataW.trod enc P w base spare held n f.type [v] = some y := by
  obtain ⟨xs, n, _, _, hlen, hxl, hf⟩ := DataW.trod_struct hs h
  rw [hC] at hlen
  refine ⟨hlen, n, fun j f hj => ?_⟩
  have hjl : j < fs.size := (Array.getElem?_eq_some_iff.1 hj).1
  obtain ⟨ho, hk⟩ := hone_of hone j f hj
  have h1 := hf j f hj
  rw [ho, hk, List.getElem?_eq_getElem (by omega)] at h1
  have e : (cs.drop j).take 1 = [cs[j]'(by omega)] := by rw [List.drop_eq_getElem_cons (by omega)]; rfl
  rw [e] at h1
  exact ⟨_, _, List.getElem?_eq_getElem (by omega), h1⟩
/-- A struct whose fields are a cell each is the tuple of them. -/
theorem agg_of {cs : Array Value} {l : List Value} (hl : cs.toList.length = l.length) (h : ∀ j, j < l.length → cs.toList[j]? = l[j]?) : Value.agg cs = .agg l.toArray := by
  congr 1
  apply Array.toList_inj.1
  apply List.ext_getElem?
  intro j
  rcases Nat.lt_or_ge j l.length with hj | hj
  · exact h j hj
  · rw [List.getElem?_eq_none (by omega), List.getElem?_eq_none hj]
end
end Go.Proofs.YtlcbjikiodmlfaaGreatDoor
