/- Layer 8: the innermost one that is open, as it turns. -/
import Derived.Test.YtjckojedafajeaaGreatDoorPt24
import Derived.Lib.AppendZerosOnto
namespace Go.Proofs.YtjckojedafajeaaGreatDoor
open Go.RowKit

/-- What the stack's own blocks are, that may turn. -/
def StkF (own : Nat → Nat) (base q : Nat) : Prop := base ≤ q ∧ own q ≠ 0 ∧ own q ≠ 3
theorem infoJV : (Tryz.prog.info? 30).map (fun i => (i.zero, i.size, i.bytes)) = some (some (.agg zeroJ), 8, 112) := by kernel_rfl
/-- Cells of a slice are there. -/
theorem Lies.thereAt {W : World} {F : Nat → Prop} {e : TypeId} {size g off cap n : Nat} {xs : List Value} (h : Lies W F e size (.slice (some ⟨g, off, none⟩) n cap) n xs) {j m : Nat} (hj : j + m ≤ n * size) : W.there g (off + j) m := by
  rcases h.2 with ⟨A, hv, rfl⟩ | ⟨g', off', cap', cur, hv, hF, hg, h1, h2, h3, h4⟩
  · intro i hi; omega
  · injection hv with e1 _ e3
    injection e1 with e1
    injection e1 with e1 e2
    subst e1 e2 e3
    intro i hi
    have hm : n * size ≤ cap * size := Nat.mul_le_mul_right _ h1
    refine ⟨?_, frozen_of_row W g _ cur e hg⟩
    rw [cell_of_row W g (off + j + i) cur e (0, 0) hg]
    simp; omega
/-- Cells of a slice turn. -/
theorem Lies.setCells {F : Nat → Prop} {e : TypeId} {size g off cap n : Nat} : ∀ (vs : List Value) (W : World) (xs ys : List Value), Lies W F e size (.slice (some ⟨g, off, none⟩) n cap) n (xs ++ ys) → ys.length = vs.length → Lies (W.setCells g (off + xs.length) vs) F e size (.slice (some ⟨g, off, none⟩) n cap) n (xs ++ vs)
  | [], W, xs, ys, h, hl => by
    obtain rfl : ys = [] := List.eq_nil_of_length_eq_zero hl
    exact h
  | v :: vs, W, xs, ys, h, hl => by
    obtain ⟨y, ys, rfl⟩ : ∃ y t, ys = y :: t := by
      cases ys with
      | nil => cases hl
      | cons y t => exact ⟨y, t, rfl⟩
    have hlen := h.1
    simp only [List.length_append, List.length_cons] at hlen hl
    have h1 := h.set (j := xs.length) (by omega) v
    have e1 : (xs ++ y :: ys).set xs.length v = (xs ++ [v]) ++ ys := by rw [List.set_append_right _ _ (Nat.le_refl _)]; simp
    rw [e1] at h1
    have h2 := Lies.setCells vs _ (xs ++ [v]) ys h1 (by omega)
    rw [List.length_append, List.length_singleton, ← Nat.add_assoc] at h2
    rw [World.setCells]
    simpa using h2
theorem kept_setCells (W : World) (g : Nat) : ∀ (vs : List Value) (o : Nat) (V : World), Kept (· = g) W V → Kept (· = g) W (V.setCells g o vs)
  | [], _, _, h => h
  | _ :: vs, o, V, h => by
    rw [World.setCells]
    exact kept_setCells W g vs (o + 1) _ (h.trans' (Kept.cell _ _ _ _))
theorem jv_one {W : World} {F : Nat → Prop} {v : JV} {cs : List Value} (h : JIs W F v cs) : ∀ u ∈ cs, u.oneCell' = true := by
  obtain ⟨k, b, d, t, l, ns⟩ := v
  unfold JIs at h
  obtain ⟨A, c, A', c', rfl, _⟩ := h
  intro u hu
  simp only [jvC, List.mem_cons, List.not_mem_nil, or_false] at hu
  rcases hu with rfl | rfl | rfl | rfl | rfl | rfl | rfl | rfl <;> rfl
theorem setCell_apart (w : World) (a b : Addr) (h : a.block ≠ b.block) (u v : Value) : (w.setCell a u).setCell b v = (w.setCell b v).setCell a u := by
  unfold World.setCell
  congr 1
  refine Array.ext_getElem? fun i => ?_
  simp only [Array.getElem?_modify]
  by_cases h1 : b.block = i
  · have h2 : ¬ a.block = i := fun e => h (e.trans h1.symm)
    simp only [if_pos h1, if_neg h2]
  · by_cases h2 : a.block = i
    · simp only [if_neg h1, if_pos h2]
    · simp only [if_neg h1, if_neg h2]
theorem setCells_apart (a : Addr) (u : Value) (g : Nat) (h : a.block ≠ g) : ∀ (vs : List Value) (o : Nat) (w : World), (w.setCell a u).setCells g o vs = (w.setCells g o vs).setCell a u
  | [], _, _ => rfl
  | v :: vs, o, w => by
    rw [World.setCells, World.setCells, setCell_apart w a ⟨g, o, none⟩ h u v, setCells_apart a u g h vs (o + 1)]
section
variable {W W' : World} {G : Nat → Prop} {own own' : Nat → Nat} {base : Nat} {t : Fr} {r : List Fr} {g off cap : Nat} {cs0 : List (List Value)} {L N M : Value} {css : List (List Value)}
theorem TopW.still (h : TopW W own base t r g off cap cs0 L N M css) (s : Still W W' G own own') (hd : ∀ q, G q → base ≤ q → own q = 3 ∨ own q = 6 + 3 * r.length) : TopW W' own' base t r g off cap cs0 L N M css :=
  ⟨h.all.still s fun q hg hb => by have := hd q hg hb; omega, LvsAt.still s 0 _ _ h.rest fun q hg hb => by have := hd q hg hb; rw [List.length_reverse]; omega, h.vals.still s fun q hg hb => by have := hd q hg hb; omega,
   h.list.still s fun q hg hb => by have := hd q hg hb; omega, h.names.still s fun q hg hb => by have := hd q hg hb; omega⟩
theorem Top.still (h : Top W own base t r g off cap cs0 L N M css) (s : Still W W' G own own') (hd : ∀ q, G q → base ≤ q → own q = 3) : Top W' own' base t r g off cap cs0 L N M css :=
  ⟨h.toTopW.still s fun q hg hb => .inl (hd q hg hb), h.set_.still s fun q hg hb => by have := hd q hg hb; omega⟩
/-- A cell of the level turns: what else there is stays. -/
theorem cell_still (W : World) (own : Nat → Nat) (g i : Nat) (u : Value) : Still W (W.setCell ⟨g, i, none⟩ u) (· = g) own own := ⟨Kept.cell _ _ _ _, fun _ _ => rfl⟩
theorem all_set {F : Nat → Prop} {m : Nat} {c c' : List Value} (h : Lies W F 118 9 (.slice (some ⟨g, off, none⟩) (m + 1) cap) (m + 1) (cs0.flatten ++ c)) (hl : cs0.flatten.length = m * 9) (j : Nat) (hj : j < 9) (u : Value) (hc : c.set j u = c') :
    Lies (W.setCell ⟨g, off + m * 9 + j, none⟩ u) F 118 9 (.slice (some ⟨g, off, none⟩) (m + 1) cap) (m + 1) (cs0.flatten ++ c') := by
  have h1 := h.set (j := m * 9 + j) (by omega) u
  rw [List.set_append_right _ _ (by rw [hl]; omega), hl, Nat.add_sub_cancel_left, hc, ← Nat.add_assoc] at h1
  exact h1
theorem all_cell {F : Nat → Prop} {m : Nat} {c : List Value} (h : Lies W F 118 9 (.slice (some ⟨g, off, none⟩) (m + 1) cap) (m + 1) (cs0.flatten ++ c)) (hl : cs0.flatten.length = m * 9) {j : Nat} {u : Value} (hu : c[j]? = some u) :
    W.cell? ⟨g, off + m * 9 + j, none⟩ = some u ∧ W.frozen? ⟨g, off + m * 9 + j, none⟩ = false := by
  rcases h.2 with ⟨A, hv, h0⟩ | ⟨g', off', cap', cur, hv, hF, hg, h1, h2, h3, h4⟩
  · omega
  · injection hv with e1 _ e3
    injection e1 with e1
    injection e1 with e1 e2
    subst e1 e2 e3
    refine ⟨?_, frozen_of_row W g _ cur _ hg⟩
    obtain ⟨g', off', cap', hv, _, _, _, _, hr⟩ := h.cells (by omega)
    injection hv with e1 _ _
    injection e1 with e1
    injection e1 with e1 e2 _
    subst e1 e2
    have := hr (m * 9 + j) u (by rw [List.getElem?_append_right (by rw [hl]; omega), hl, Nat.add_sub_cancel_left]; exact hu)
    rwa [← Nat.add_assoc] at this
/-- A value has been laid behind the others. -/
theorem Top.more (h : Top W own base t r g off cap cs0 L N M css) (s : Still W W' (FB own base (4 + 3 * r.length)) own own') {v : JV} {cs : List Value} (hv : JIs W (FB own base 0) v cs) {L' : Value}
    (hl : Lies W' (FB own' base (4 + 3 * r.length)) 30 8 L' (t.list.length + 1) (css.flatten ++ cs)) :
    Top (W'.setCell ⟨g, off + r.length * 9 + 6, none⟩ L') own' base ⟨t.obj, t.list ++ [v], t.names⟩ r g off cap cs0 L' N M (css ++ [cs]) := by
  have hg : own' g = 2 := (s.own g h.block.2).trans h.block.1.1
  have s2 := cell_still W' own' g (off + r.length * 9 + 6) L'
  have hd : ∀ i, i ≠ 4 + 3 * r.length → ∀ q, FB own base (4 + 3 * r.length) q → base ≤ q → own q ≠ i := fun i hi q hq _ e => hi (e.symm.trans hq.1)
  have hd2 : ∀ i, i ≠ 2 → ∀ q, q = g → base ≤ q → own' q ≠ i := fun i hi q hq _ e => hi (by rw [← e, hq, hg])
  refine ⟨⟨all_set (h.all.still s (hd 2 (by omega))) h.len 6 (by omega) L' rfl, ?_, ?_, ?_, ?_⟩, ?_⟩
  · exact LvsAt.still s2 0 _ _ (LvsAt.still s 0 _ _ h.rest fun q hq _ => by rw [hq.1, List.length_reverse]; omega) fun q hq _ => by rw [hq, hg]; omega
  · exact (JsAt.snoc (hv.still s (hd 0 (by omega))) _ _ (h.vals.still s (hd 0 (by omega)))).still s2 (hd2 0 (by omega))
  · have := hl.still s2 (hd2 (4 + 3 * r.length) (by omega))
    simpa using this
  · exact (h.names.still s (hd _ (by omega))).still s2 (hd2 _ (by omega))
  · exact (h.set_.still s (hd _ (by omega))).still s2 (hd2 _ (by omega))
/-- Its set is another. -/
theorem TopW.setM (h : TopW W own base t r g off cap cs0 L N M css) (M' : Value) : TopW (W.setCell ⟨g, off + r.length * 9 + 8, none⟩ M') own base t r g off cap cs0 L N M' css := by
  have hg := h.block.1.1
  have s2 := cell_still W own g (off + r.length * 9 + 8) M'
  have hd2 : ∀ i, i ≠ 2 → ∀ q, q = g → base ≤ q → own q ≠ i := fun i hi q hq _ e => hi (by rw [← e, hq, hg])
  refine ⟨all_set h.all h.len 8 (by omega) M' rfl, ?_, ?_, ?_, ?_⟩
  · exact LvsAt.still s2 0 _ _ h.rest fun q hq _ => by rw [hq, hg]; omega
  · exact h.vals.still s2 (hd2 0 (by omega))
  · exact h.list.still s2 (hd2 _ (by omega))
  · exact h.names.still s2 (hd2 _ (by omega))
/-- A name has been laid behind the others. -/
theorem TopW.named (h : TopW W own base t r g off cap cs0 L N M css) (s : Still W W' (FB own base (5 + 3 * r.length)) own own') {l : List UInt8} {N' : Value}
    (hl : Lies W' (FB own' base (5 + 3 * r.length)) 9 1 N' (t.names.length + 1) (t.names.map keyV ++ [keyV l])) (hs : SetAt W own base (6 + 3 * r.length) M (t.names ++ [l])) :
    Top (W'.setCell ⟨g, off + r.length * 9 + 7, none⟩ N') own' base ⟨t.obj, t.list, t.names ++ [l]⟩ r g off cap cs0 L N' M css := by
  have hg : own' g = 2 := (s.own g h.block.2).trans h.block.1.1
  have s2 := cell_still W' own' g (off + r.length * 9 + 7) N'
  have hd : ∀ i, i ≠ 5 + 3 * r.length → ∀ q, FB own base (5 + 3 * r.length) q → base ≤ q → own q ≠ i := fun i hi q hq _ e => hi (e.symm.trans hq.1)
  have hd2 : ∀ i, i ≠ 2 → ∀ q, q = g → base ≤ q → own' q ≠ i := fun i hi q hq _ e => hi (by rw [← e, hq, hg])
  refine ⟨⟨all_set (h.all.still s (hd 2 (by omega))) h.len 7 (by omega) N' rfl, ?_, ?_, ?_, ?_⟩, ?_⟩
  · exact LvsAt.still s2 0 _ _ (LvsAt.still s 0 _ _ h.rest fun q hq _ => by rw [hq.1, List.length_reverse]; omega) fun q hq _ => by rw [hq, hg]; omega
  · exact (h.vals.still s (hd 0 (by omega))).still s2 (hd2 0 (by omega))
  · exact (h.list.still s (hd _ (by omega))).still s2 (hd2 _ (by omega))
  · have := hl.still s2 (hd2 (5 + 3 * r.length) (by omega))
    simpa using this
  · exact (hs.still s (hd _ (by omega))).still s2 (hd2 _ (by omega))
end
end Go.Proofs.YtjckojedafajeaaGreatDoor
/- Layer 8: slices.Grow of nothing, as copied calls it; strings.Clone. -/
namespace Go.Proofs.YtjckojedafajeaaGreatDoor
open Go.RowKit
/-- A slice of nothing, with room. -/
def GrwPost (e : TypeId) (size : Nat) (w : World) (en : Ending) (w' : World) : Prop := ∃ v, en = .returned v ∧ Lies w' (fun q => w.heap.size ≤ q) e size v 0 [] ∧ Below w.heap.size w w'
theorem infoStrG : (Tryz.prog.info? 9).map (fun i => (i.zero, i.size, i.bytes)) = some (some (.string ⟨#[]⟩), 1, 16) := by kernel_rfl
theorem grow_run {t tn e : TypeId} {kn : IntKind} {z : Value} {size bytes : Nat} (ht : Tryz.prog.underlying t = some (.slice e)) (htn : Tryz.prog.underlying tn = some (.int kn)) (hi : (Tryz.prog.info? e).map (fun i => (i.zero, i.size, i.bytes)) = some (some z, size, bytes)) (hzs : z.cells.size = size)
    (n : Nat) (h0 : 0 < n) (hs : 0 < size) (hn : n ≤ 1000000000000) (hb : bytes ≤ 112) (w : World) :
    ∃ c X, n ≤ c ∧ c ≤ maxLen ∧ X.size = c * size ∧ ∀ ty, (Builtin.append_ #[t, tn] ty #[.slice none 0 0, .int .i64 n]).run Tryz.prog w = .ok (.slice (some ⟨w.heap.size, 0, none⟩) n c) (w.drew.alloc (.cells X e)) := by
  obtain ⟨i, hi, hz, hs1, hb1⟩ := info_parts hi
  have hnb : n * i.bytes ≤ 1000000000000 * 112 := Nat.mul_le_mul hn (by omega)
  have hge := grownCap_ge w n 0 e
  refine ⟨grownCap w n 0 e, Builtin.zeroCells z.cells n ++ Builtin.zeroCells z.cells (grownCap w n 0 e - n), hge, grownCap_le_maxLen w n 0 e (by unfold maxLen; omega), ?_, fun ty => ?_⟩
  · rw [Array.size_append, size_zeroCells, size_zeroCells, hzs, ← Nat.add_mul]
    rw [show n + (grownCap w n 0 e - n) = grownCap w n 0 e by omega]
  · have h := Lib.run_append_grow_zeros w t tn ty e i z .i64 kn ht htn hi hz none 0 0 [] (run_firstCells_none w.drew i.size 0 0 0) n h0 (by omega) (by omega) (by omega) (by omega) (growslice_fits (by omega) (by rw [Nat.zero_add]; omega))
    simp only [Nat.zero_add] at h
    have e0 : ([] : List Value).toArray = #[] := rfl
    rw [e0, Array.empty_append] at h
    exact h
theorem grow_lies (w : World) (e : TypeId) (size c : Nat) (X : Array Value) (hc : c ≤ maxLen) (hX : X.size = c * size) : Lies (w.drew.alloc (.cells X e)) (fun q => w.heap.size ≤ q) e size (.slice (some ⟨w.heap.size, 0, none⟩) 0 c) 0 [] :=
  ⟨by simp, .inr ⟨w.heap.size, 0, c, X, rfl, Nat.le_refl _, heap_alloc_new w.drew _, Nat.zero_le _, hc, by omega, by simp⟩⟩
set_option maxRecDepth 100000 in
set_option maxHeartbeats 4000000 in
theorem grow_names (n : Nat) (hn : n ≤ 1000000000000) (w : World) : Calls Tryz.prog 80 #[.slice none 0 0, .int .i64 n] w (GrwPost 9 1 w) := by
  have h1 : ¬ ((n : Int) < 0) := by omega
  have h2 : wrap64 ((n : Int) - 0) = (n : Int) := by unfold wrap64; omega
  by_cases h0 : 0 < n
  · have h4 : (0 : Int) < (n : Int) := by omega
    obtain ⟨c, X, hc1, hc2, hX, hr⟩ := grow_run Tryz.underlying28 Tryz.underlying3 infoStrG rfl n h0 (by decide) hn (by decide) w
    have HL := Lib.hid (grow_lies w 9 1 c X hc2 hX)
    have HB : Hid (Below w.heap.size w (w.drew.alloc (.cells X 9))) := Lib.hid ((Below.refl _ _).drew.alloc (Nat.le_refl _) _)
    have HR := Lib.hid hr
    unfold maxLen at hc2
    clear hX hr
    go_enter Tryz.func80, Tryz.ntmps80
    go_wp2_with (at_builtin; refine Lib.wpList_append_run _ rfl _ _ _ _ rfl _ _ rfl rfl _ _ (HR.out _) ?_)
    go_ret
    exact ⟨_, rfl, HL.out, HB.out⟩
  · obtain rfl : n = 0 := by omega
    go_enter Tryz.func80, Tryz.ntmps80
    go_wp2
    go_ret
    exact ⟨_, rfl, Lies.empty _ _ _ _ _, Below.refl _ _⟩
set_option maxRecDepth 100000 in
set_option maxHeartbeats 4000000 in
theorem grow_list (n : Nat) (hn : n ≤ 1000000000000) (w : World) : Calls Tryz.prog 81 #[.slice none 0 0, .int .i64 n] w (GrwPost 30 8 w) := by
  have h1 : ¬ ((n : Int) < 0) := by omega
  have h2 : wrap64 ((n : Int) - 0) = (n : Int) := by unfold wrap64; omega
  by_cases h0 : 0 < n
  · have h4 : (0 : Int) < (n : Int) := by omega
    obtain ⟨c, X, hc1, hc2, hX, hr⟩ := grow_run Tryz.underlying27 Tryz.underlying3 infoJV rfl n h0 (by decide) hn (by decide) w
    have HL := Lib.hid (grow_lies w 30 8 c X hc2 hX)
    have HB : Hid (Below w.heap.size w (w.drew.alloc (.cells X 30))) := Lib.hid ((Below.refl _ _).drew.alloc (Nat.le_refl _) _)
    have HR := Lib.hid hr
    unfold maxLen at hc2
    clear hX hr
    go_enter Tryz.func81, Tryz.ntmps81
    go_wp2_with (at_builtin; refine Lib.wpList_append_run _ rfl _ _ _ _ rfl _ _ rfl rfl _ _ (HR.out _) ?_)
    go_ret
    exact ⟨_, rfl, HL.out, HB.out⟩
  · obtain rfl : n = 0 := by omega
    go_enter Tryz.func81, Tryz.ntmps81
    go_wp2
    go_ret
    exact ⟨_, rfl, Lies.empty _ _ _ _ _, Below.refl _ _⟩
end Go.Proofs.YtjckojedafajeaaGreatDoor
