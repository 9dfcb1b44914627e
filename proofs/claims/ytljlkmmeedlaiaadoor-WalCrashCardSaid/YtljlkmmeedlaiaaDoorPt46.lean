/- What a law is handed, opened: structs by value, slices of structs, of bytes and of numbers, at any depth. -/
import Derived.Test.YtljlkmmeedlaiaaDoorPt08
import Derived.Test.YtljlkmmeedlaiaaDoorPt01
import Derived.Deep.Slices
import Derived.Deep.Fields
import Derived.ChangeSame
import Derived.ChangeSlices
import Derived.WideShapes
import Derived.Test.YtljlkmmeedlaiaaDoorPt45
namespace Go.Proofs.YtljlkmmeedlaiaaDoor
open Go.RowKit Go.ChangeShapes Go.WideShapes Go.Deep

theorem list_of_each {α : Type} (n : Nat) (Q : Nat → α → Prop) (z : α) (h : ∀ i, i < n → ∃ x, Q i x) : ∃ l : List α, l.length = n ∧ ∀ i, i < n → Q i (l.getD i z) := by
  induction n with
  | zero => exact ⟨[], rfl, fun i hi => by omega⟩
  | succ n ih =>
    obtain ⟨l, hl, hq⟩ := ih fun i hi => h i (by omega)
    obtain ⟨x, hx⟩ := h n (by omega)
    refine ⟨l ++ [x], by simp [hl], fun i hi => ?_⟩
    rcases Nat.lt_or_ge i n with h1 | h1
    · rw [List.getD_eq_getElem?_getD, List.getElem?_append_left (by omega), ← List.getD_eq_getElem?_getD]
      exact hq i h1
    · obtain rfl : i = n := by omega
      rw [List.getD_eq_getElem?_getD, List.getElem?_append_right (by omega), hl, Nat.sub_self]
      exact hx
theorem range_flat {α : Type} (g : α → List Value) (s : Nat) (hs : ∀ a, (g a).length = s) (z : α) {w : World} {b : Nat} : ∀ (l : List α) (off : Nat), (∀ k, k < l.length → ∀ j v, (g (l.getD k z))[j]? = some v → w.cell? ⟨b, off + (k * s + j), none⟩ = some v) → w.rangeAt b off (l.flatMap g) := by
  intro l
  induction l with
  | nil => intro off _ j v hv; simp at hv
  | cons x r ih =>
    intro off h j v hv
    rw [List.flatMap_cons] at hv
    rcases Nat.lt_or_ge j s with h1 | h1
    · rw [List.getElem?_append_left (by rw [hs]; exact h1)] at hv
      have := h 0 (by simp) j v (by simpa using hv)
      simpa using this
    · rw [List.getElem?_append_right (by rw [hs]; exact h1), hs] at hv
      have hr := ih (off + s) (fun k hk j v hv => by
        have := h (k + 1) (by simpa using hk) j v (by simpa using hv)
        rw [show off + s + (k * s + j) = off + ((k + 1) * s + j) by rw [Nat.add_mul]; omega]
        exact this) (j - s) v hv
      rw [show off + s + (j - s) = off + j by omega] at hr
      exact hr
theorem flat_length {α : Type} (g : α → List Value) (s : Nat) (hs : ∀ a, (g a).length = s) (l : List α) : (l.flatMap g).length = l.length * s := by
  induction l with
  | nil => simp
  | cons x r ih => rw [List.flatMap_cons, List.length_append, hs, ih, List.length_cons, Nat.add_mul]; omega
theorem holds_flat {α : Type} (g : α → List Value) (s : Nat) (h0 : 0 < s) (hs : ∀ a, (g a).length = s) (z : α) {w : World} {a : Addr} (l : List α) (h : ∀ k, k < l.length → ∀ j v, (g (l.getD k z))[j]? = some v → w.cell? (a.add (k * s + j)) = some v) : Holds w (some a) l.length s (l.flatMap g) := by
  refine ⟨flat_length g s hs l, fun hn => ?_⟩
  obtain ⟨b, off, spot⟩ := a
  have h1 := h 0 hn 0 ((g (l.getD 0 z))[0]'(by rw [hs]; exact h0)) (List.getElem?_eq_getElem _)
  have hspot : spot = none := by simpa [Addr.add] using World.cell?_spot h1
  subst hspot
  refine ⟨b, off, rfl, ?_, range_flat g s hs z l off fun k hk j v hv => ?_⟩
  · have := block_lt_of_cell h1
    rwa [addr_add] at this
  · have := h k hk j v hv
    rwa [addr_add] at this

section
variable {H : Type} {enc : TypeId × Value → H} {w : World}
theorem fields_one {P : Program} {base : Nat} {spare : Nat → Bool} {held : Bool} {t : TypeId} {fs : Array Field} {fuel : Nat} {cs : List Value} {x : DataW H × List MemPlace} (hs : P.underlying t = some (.struct fs)) (hone : oneCellFields P fs = true) (hC : P.cellsOf t = fs.size) (h : DataW.trod enc P w base spare held fuel t cs = some x) :
    cs.length = fs.size ∧ ∃ n, ∀ (j : Nat) (f : Field), fs[j]? = some f → ∃ v y, cs[j]? = some v ∧ DataW.trod enc P w base spare held n f.type [v] = some y := by
  obtain ⟨xs, n, _, _, hlen, hxl, hf⟩ := DataW.trod_struct hs h
  rw [hC] at hlen
  refine ⟨hlen, n, fun j f hj => ?_⟩
  have hjl : j < fs.size := (Array.getElem?_eq_some_iff.1 hj).1
  obtain ⟨ho, hk⟩ := hone_of hone j f hj
  have h1 := hf j f hj
  rw [ho, hk, List.getElem?_eq_getElem (by omega)] at h1
  have e : (cs.drop j).take 1 = [cs[j]'(by omega)] := by rw [List.drop_eq_getElem_cons (by omega)]; rfl
  rw [e] at h1
  exact ⟨_, _, List.getElem?_eq_getElem (by omega), h1⟩
theorem open_nums {fuel : Nat} {v : Value} {x : DataW H × List MemPlace} (h : DataW.trod enc Tryd.prog w 0 (fun _ => true) true fuel 57 [v] = some x) :
    ∃ A c l, v = .slice A l.length c ∧ Holds w A l.length 1 (ints l) ∧ (l.length ≤ c ∧ c ≤ 9223372036854775807) ∧ ∀ y ∈ l, (Lit.int .i64 y).wf = true := by
  rcases open_ints Tryd.underlying57 Tryd.underlying3 (by kernel_rfl) h with ⟨hcs, _⟩ | ⟨a, len, cap, zs, hcs, _, hl, hm, hz, _, hcell, hwz⟩
  · injection hcs with hcs
    subst hcs
    exact ⟨none, 0, [], rfl, Holds.nil _ _ _, ⟨by simp, by omega⟩, fun y hy => by simp at hy⟩
  · injection hcs with hcs
    subst hcs
    have hz' : zs.length = cap := by simpa using hz
    have hlt : (zs.take len).length = len := by rw [List.length_take]; omega
    refine ⟨some a, cap, zs.take len, by rw [hlt], ?_, ⟨by rw [hlt]; exact hl, by unfold maxLen at hm; omega⟩, fun y hy => hwz y (List.mem_of_mem_take hy)⟩
    have e : ints (zs.take len) = (zs.take len).flatMap fun y => [.int .i64 y] := by unfold ints; induction (zs.take len) with
      | nil => rfl
      | cons a r ih => simp [ih]
    rw [e]
    refine holds_flat (fun y => [.int .i64 y]) 1 (by omega) (fun _ => rfl) 0 (zs.take len) fun k hk j v hv => ?_
    have hj : j = 0 := by have := (List.getElem?_eq_some_iff.1 hv).1; simpa using this
    subst hj
    rw [hlt] at hk
    have hc := hcell k (by omega)
    rw [Nat.mul_one, Nat.add_zero, hc]
    simpa [List.getD_eq_getElem?_getD, List.getElem?_take_of_lt hk] using hv
theorem open_fates {fuel : Nat} {v : Value} {x : DataW H × List MemPlace} (h : DataW.trod enc Tryd.prog w 0 (fun _ => true) true fuel 42 [v] = some x) :
    ∃ A c l, v = .slice A l.length c ∧ Holds w A l.length 2 (fcs l) ∧ (l.length ≤ c ∧ c ≤ 9223372036854775807) := by
  rcases open_slice Tryd.underlying42 h with ⟨hcs, _⟩ | ⟨a, len, cap, m, n, D, Pl, hcs, _, hl, hm, hmm, _, hi⟩
  · injection hcs with hcs
    subst hcs
    exact ⟨none, 0, [], rfl, Holds.nil _ _ _, ⟨by simp, by omega⟩⟩
  · injection hcs with hcs
    subst hcs
    have hC : Tryd.prog.cellsOf 75 = 2 := by kernel_rfl
    have hlm : len ≤ m := by rw [hmm]; split <;> omega
    obtain ⟨l, hll, hq⟩ := list_of_each (α := Int × Int) len (fun i q => ∀ j v, ([Value.int .i64 q.1, .int .i64 q.2] : List Value)[j]? = some v → w.cell? (a.add (i * 2 + j)) = some v) (0, 0) fun i hil => by
      obtain ⟨cs', hc, ht⟩ := hi i (by omega)
      obtain ⟨_, hcl, hat⟩ := World.cells?_some hc
      obtain ⟨hl2, n', hf⟩ := fields_one Tryd.underlying75 (by kernel_rfl) (by kernel_rfl) ht
      obtain ⟨v0, y0, e0, t0⟩ := hf 0 _ rfl
      obtain ⟨v1, y1, e1, t1⟩ := hf 1 _ rfl
      obtain ⟨k0, hk0, _, _⟩ := DataW.trod_int Tryd.underlying73 t0
      obtain ⟨k1, hk1, _, _⟩ := DataW.trod_int Tryd.underlying3 t1
      injection hk0 with hk0
      injection hk1 with hk1
      subst hk0; subst hk1
      rw [hC] at hat
      refine ⟨(k0, k1), fun j v hv => ?_⟩
      have hj : j < 2 := (List.getElem?_eq_some_iff.1 hv).1
      have h9 := hat j hj
      rw [add_add] at h9
      rw [h9]
      rcases (by omega : j = 0 ∨ j = 1) with rfl | rfl
      · rw [e0]; exact hv
      · rw [e1]; exact hv
    subst hll
    exact ⟨some a, cap, l, rfl, holds_flat _ 2 (by omega) (fun _ => rfl) (0, 0) l hq, ⟨hl, by unfold maxLen at hm; omega⟩⟩
theorem open_bytes {fuel : Nat} {v : Value} {x : DataW H × List MemPlace} (h : DataW.trod enc Tryd.prog w 0 (fun _ => true) true fuel 41 [v] = some x) :
    ∃ A n c l, v = .slice A n c ∧ Bytes w A n l ∧ (n ≤ c ∧ c ≤ 9223372036854775807) := by
  rcases open_ints Tryd.underlying41 Tryd.underlying5 (by kernel_rfl) h with ⟨hcs, _⟩ | ⟨x, l, c, zs, hcs, _, hl, hm, hz, _, hcell, hwz⟩
  · injection hcs with hcs
    subst hcs
    obtain ⟨l, h1, _, h2, h3⟩ := Bytes.of_arg (w := w) (a0 := none) (len := 0) (cap := 0) (zs := []) (.inl ⟨rfl, rfl, rfl, rfl⟩)
    exact ⟨_, _, _, l, rfl, h1, h2, h3⟩
  · injection hcs with hcs
    subst hcs
    obtain ⟨l', h1, _, h2, h3⟩ := Bytes.of_arg (w := w) (a0 := some x) (len := l) (cap := c) (zs := zs) (.inr ⟨_, rfl, hl, hm, by simpa using hz, hcell, hwz⟩)
    exact ⟨_, _, _, l', rfl, h1, h2, h3⟩
/-- A struct whose fields are a cell each is the tuple of them. -/
theorem agg_of {cs : Array Value} {l : List Value} (hl : cs.toList.length = l.length) (h : ∀ j, j < l.length → cs.toList[j]? = l[j]?) : Value.agg cs = .agg l.toArray := by
  congr 1
  apply Array.toList_inj.1
  apply List.ext_getElem?
  intro j
  rcases Nat.lt_or_ge j l.length with hj | hj
  · exact h j hj
  · rw [List.getElem?_eq_none (by omega), List.getElem?_eq_none hj]
end
end Go.Proofs.YtljlkmmeedlaiaaDoor
/- Layer 3's laws: what they are handed, opened. -/
namespace Go.Proofs.YtljlkmmeedlaiaaDoor
open Go.RowKit Go.ChangeShapes Go.WideShapes Go.Deep

section
variable {H : Type} {enc : TypeId × Value → H} {w : World}
set_option maxRecDepth 100000 in
theorem open_log {r : Reach} {b0 : Nat} {v : Value} {d : DataW H} {p : List MemPlace} (hv : Value.okWide Tryd.prog w r b0 23 v) (h : DataW.Trod enc Tryd.prog w 0 (fun _ => true) true 23 v d p) :
    ∃ sz fr n, v = .agg #[.int .i64 sz, .int .i64 fr, .int .i64 n] ∧ (Lit.int .i64 sz).wf = true ∧ (Lit.int .i64 fr).wf = true ∧ (Lit.int .i64 n).wf = true := by
  obtain ⟨cs, rfl, hsz⟩ := okWide_struct Tryd.underlying23 hv
  obtain ⟨fuel, hf⟩ := h
  obtain ⟨hl2, n', hg⟩ := fields_one Tryd.underlying23 (by kernel_rfl) (by kernel_rfl) hf
  obtain ⟨v0, y0, e0, t0⟩ := hg 0 _ rfl
  obtain ⟨v1, y1, e1, t1⟩ := hg 1 _ rfl
  obtain ⟨v2, y2, e2, t2⟩ := hg 2 _ rfl
  obtain ⟨k0, hk0, _, w0⟩ := DataW.trod_int Tryd.underlying3 t0
  obtain ⟨k1, hk1, _, w1⟩ := DataW.trod_int Tryd.underlying3 t1
  obtain ⟨k2, hk2, _, w2⟩ := DataW.trod_int Tryd.underlying3 t2
  injection hk0 with hk0
  injection hk1 with hk1
  injection hk2 with hk2
  subst hk0; subst hk1; subst hk2
  refine ⟨k0, k1, k2, ?_, w0, w1, w2⟩
  have hcc : (Value.agg cs).cells.toList = cs.toList := by simp [Value.cells]
  rw [hcc] at hl2 e0 e1 e2
  have hl3 : cs.toList.length = 3 := hl2
  refine agg_of (l := [.int .i64 k0, .int .i64 k1, .int .i64 k2]) hl3 fun j hj => ?_
  have hj : j < 3 := hj
  rcases (by omega : j = 0 ∨ j = 1 ∨ j = 2) with rfl | rfl | rfl
  · rw [e0]; rfl
  · rw [e1]; rfl
  · rw [e2]; rfl
set_option maxRecDepth 100000 in
theorem open_bytes_nil {fuel : Nat} {v : Value} {x : DataW H × List MemPlace} (h : DataW.trod enc Tryd.prog w 0 (fun _ => true) true fuel 41 [v] = some x) :
    ∃ A n c l, v = .slice A n c ∧ Bytes w A n l ∧ (A = none → n = 0 ∧ c = 0) ∧ (n ≤ c ∧ c ≤ 9223372036854775807) := by
  rcases open_ints Tryd.underlying41 Tryd.underlying5 (by kernel_rfl) h with ⟨hcs, _⟩ | ⟨x, l, c, zs, hcs, _, hl, hm, hz, _, hcell, hwz⟩
  · injection hcs with hcs
    subst hcs
    obtain ⟨l, h1, h0, h2, h3⟩ := Bytes.of_arg (w := w) (a0 := none) (len := 0) (cap := 0) (zs := []) (.inl ⟨rfl, rfl, rfl, rfl⟩)
    exact ⟨_, _, _, l, rfl, h1, h0, h2, h3⟩
  · injection hcs with hcs
    subst hcs
    obtain ⟨l', h1, h0, h2, h3⟩ := Bytes.of_arg (w := w) (a0 := some x) (len := l) (cap := c) (zs := zs) (.inr ⟨_, rfl, hl, hm, by simpa using hz, hcell, hwz⟩)
    exact ⟨_, _, _, l', rfl, h1, h0, h2, h3⟩
set_option maxRecDepth 100000 in
theorem open_wsteps {fuel : Nat} {v : Value} {x : DataW H × List MemPlace} (h : DataW.trod enc Tryd.prog w 0 (fun _ => true) true fuel 24 [v] = some x) :
    ∃ A c l, v = .slice A l.length c ∧ WScriptOk w A l ∧ (l.length ≤ c ∧ c ≤ 9223372036854775807) := by
  rcases open_slice Tryd.underlying24 h with ⟨hcs, _⟩ | ⟨a, len, cap, m, n, D, Pl, hcs, _, hl, hm, hmm, _, hi⟩
  · injection hcs with hcs
    subst hcs
    exact ⟨none, 0, [], rfl, ⟨Holds.nil _ _ _, fun s hs => by simp at hs⟩, by simp, by omega⟩
  · injection hcs with hcs
    subst hcs
    have hC : Tryd.prog.cellsOf 44 = 3 := by kernel_rfl
    have hlm : len ≤ m := by rw [hmm]; split <;> omega
    obtain ⟨l, hll, hq⟩ := list_of_each (α := WStep) len (fun i s => WStepOk w s ∧ ∀ j v, (wstepCells s)[j]? = some v → w.cell? (a.add (i * 3 + j)) = some v) noWStep fun i hil => by
      obtain ⟨cs', hc, ht⟩ := hi i (by omega)
      obtain ⟨_, hcl, hat⟩ := World.cells?_some hc
      obtain ⟨hl2, n', hf⟩ := fields_one Tryd.underlying44 (by kernel_rfl) (by kernel_rfl) ht
      obtain ⟨v0, y0, e0, t0⟩ := hf 0 _ rfl
      obtain ⟨v1, y1, e1, t1⟩ := hf 1 _ rfl
      obtain ⟨v2, y2, e2, t2⟩ := hf 2 _ rfl
      obtain ⟨k0, hk0, _, w0⟩ := DataW.trod_int Tryd.underlying3 t0
      injection hk0 with hk0
      subst hk0
      obtain ⟨A1, n1, c1, l1, rfl, b1, z1, p1⟩ := open_bytes_nil t1
      obtain ⟨A2, c2, l2, rfl, b2, p2⟩ := open_fates t2
      rw [hC] at hat
      refine ⟨⟨k0, A1, n1, c1, l1, A2, l2.length, c2⟩, ⟨b1, z1, p1, p2, w0⟩, fun j v hv => ?_⟩
      have hj : j < 3 := (List.getElem?_eq_some_iff.1 hv).1
      have h9 := hat j hj
      rw [add_add] at h9
      rw [h9]
      rcases (by omega : j = 0 ∨ j = 1 ∨ j = 2) with rfl | rfl | rfl
      · rw [e0]; exact hv
      · rw [e1]; exact hv
      · rw [e2]; exact hv
    subst hll
    refine ⟨some a, cap, l, rfl, ⟨holds_flat wstepCells 3 (by omega) (fun _ => rfl) noWStep l fun k hk => (hq k hk).2, fun s hs => ?_⟩, hl, by unfold maxLen at hm; omega⟩
    obtain ⟨i, hi, rfl⟩ := List.mem_iff_getElem.1 hs
    have := (hq i hi).1
    rwa [List.getD_eq_getElem?_getD, List.getElem?_eq_getElem hi] at this
theorem open_wscript {v : Value} {d : DataW H} {p : List MemPlace} (hv1 : ∃ A n c, v = .slice A n c) (h : DataW.Trod enc Tryd.prog w 0 (fun _ => true) true 24 v d p) :
    ∃ A c l, v = .slice A l.length c ∧ WScriptOk w A l ∧ (l.length ≤ c ∧ c ≤ 9223372036854775807) := by
  obtain ⟨A, n, c, rfl⟩ := hv1
  obtain ⟨fuel, hf⟩ := h
  have e : (Value.slice A n c).cells.toList = [.slice A n c] := by simp [Value.cells]
  rw [e] at hf
  exact open_wsteps hf
end
end Go.Proofs.YtljlkmmeedlaiaaDoor
