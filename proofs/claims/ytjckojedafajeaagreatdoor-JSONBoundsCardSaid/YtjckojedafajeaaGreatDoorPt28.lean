/- Layer 8: copied under way: the memory of a copy. -/
import Derived.Test.YtjckojedafajeaaGreatDoorPt25
import Derived.Test.YtjckojedafajeaaGreatDoorPt26
import Derived.Test.YtjckojedafajeaaGreatDoorPt27
import Derived.Test.YtjckojedafajeaaGreatDoorPt24
import Derived.BigRegion
import Derived.Deep.QuietTactic
import Derived.BigQuiet
namespace Go.Proofs.YtjckojedafajeaaGreatDoor
open Go.RowKit
mutual
/-- Nothing in it is vast. -/
def CopJ : JV → Prop
  | .mk _ _ d t l ns => d.digits.length ≤ 100000000000000 ∧ t.length ≤ 100000000000000 ∧ ns.length ≤ 1000000000000 ∧ l.length ≤ 1000000000000 ∧ (∀ x ∈ ns, x.length ≤ 100000000000000) ∧ CopKids l
def CopKids : List JV → Prop
  | [] => True
  | x :: l => CopJ x ∧ CopKids l
end
theorem CopKids.get : ∀ {l : List JV}, CopKids l → ∀ x ∈ l, CopJ x
  | [], _, x, hx => by simp at hx
  | y :: l, h, x, hx => by
    unfold CopKids at h
    rcases List.mem_cons.1 hx with rfl | hx
    · exact h.1
    · exact CopKids.get h.2 x hx
theorem CopKids.of : ∀ {l : List JV}, (∀ x ∈ l, CopJ x) → CopKids l
  | [], _ => by unfold CopKids; trivial
  | y :: l, h => by
    unfold CopKids
    exact ⟨h y (by simp), CopKids.of fun x hx => h x (by simp [hx])⟩
/-- A copy: whose blocks are whose: 0: what is in it; 2: its list's; 3: its names'. -/
def CopAt (W : World) (base : Nat) (v : JV) (cs : Array Value) : Prop :=
  match v with
  | .mk k b d t l ns => ∃ own L N css, cs = jvC k b d t L N ∧ JsAt W (FB own base 0) l css ∧ Lies W (FB own base 2) 30 8 L l.length css.flatten ∧ Lies W (FB own base 3) 9 1 N ns.length (ns.map keyV)
def CopPost (w : World) (v : JV) (e : Ending) (w' : World) : Prop := ∃ cs, e = .returned (.agg cs) ∧ CopAt w' w.heap.size v cs ∧ Below w.heap.size w w'
theorem CopAt.jis {W : World} {base : Nat} {v : JV} {cs : Array Value} (h : CopAt W base v cs) : JIs W (fun q => base ≤ q) v cs.toList := by
  obtain ⟨k, b, d, t, l, ns⟩ := v
  obtain ⟨own, L, N, css, rfl, h1, h2, h3⟩ := h
  obtain ⟨A, c, hL, a1, a2⟩ := h2.form
  obtain ⟨A', c', hN, a3, a4⟩ := h3.form
  unfold JIs
  refine ⟨A, c, A', c', by rw [hL, hN], a1, a2, a3, a4, fun i hi => ?_, ?_⟩
  · obtain ⟨g2, off2, cap2, hv, hf, _, _, hlt, hr⟩ := h3.cells (by omega)
    rw [hN] at hv
    injection hv with e1 _ _
    exact ⟨g2, off2, e1, hf.2, hlt, hr i (keyV (ns.getD i [])) (by simp [List.getD, List.getElem?_eq_getElem hi])⟩
  · by_cases h0 : l = []
    · rw [h0]; unfold KidsAt; trivial
    · obtain ⟨g2, off2, cap2, hv, hf, _, _, hlt, hr⟩ := h2.cells (List.length_pos_iff.2 h0)
      rw [hL] at hv
      injection hv with e1 _ _
      rw [e1]
      exact JsAt.kids (F := FB own base 0) hf.2 hlt (fun k hk _ => hk.2) l css 0 h1 (by simpa using hr)
/-- Under way: g: the copy's row; i names, j values are laid. -/
structure CpS (w0 : World) (g : Nat) (k : Int) (b : Bool) (d : Dec) (t : List UInt8) (l : List JV) (ns : List (List UInt8)) (i j : Nat) (own : Nat → Nat) (N L : Value) (css : List (List Value)) (W : World) : Prop where
  row : Row W g 30 (jvC k b d t L N)
  res : Row W w0.heap.size 30 zeroJ
  og : own g = 1
  ores : own w0.heap.size = 1
  vals : JsAt W (FB own w0.heap.size 0) (l.take j) css
  list : Lies W (FB own w0.heap.size 2) 30 8 L j css.flatten
  names : Lies W (FB own w0.heap.size 3) 9 1 N i ((ns.take i).map keyV)
  below : Below w0.heap.size w0 W
  ge : w0.heap.size < g
section
variable {w0 W W1 W2 : World} {g : Nat} {k : Int} {b : Bool} {d : Dec} {t : List UInt8} {l : List JV} {ns : List (List UInt8)} {i j : Nat} {own : Nat → Nat} {N L : Value} {css : List (List Value)}
theorem CpS.drew (h : CpS w0 g k b d t l ns i j own N L css W) : CpS w0 g k b d t l ns i j own N L css W.drew :=
  ⟨h.row.call (Below.refl _ _).drew, h.res.call (Below.refl _ _).drew, h.og, h.ores, JsAt.kept (G := fun _ => False) (keptOf_below (Below.refl _ _).drew) (fun _ _ => id) _ _ h.vals, h.list.below (Below.refl _ _).drew, h.names.below (Below.refl _ _).drew, h.below.drew, h.ge⟩
/-- A name more. -/
theorem CpS.name (h : CpS w0 g k b d t l ns i j own N L css W) (hi : i < ns.length) (hb : Below W.heap.size W W1) {v' : Value}
    (hl : Lies W2 (grow (fun q => FB own w0.heap.size 3 q ∧ q < W.heap.size) W1) 9 1 v' (i + 1) ((ns.take i).map keyV ++ [keyV (ns.getD i [])])) (hk : Kept (fun q => FB own w0.heap.size 3 q ∧ q < W.heap.size) W1 W2) :
    Row W2 g 30 (jvC k b d t L N) ∧ ∃ own', CpS w0 g k b d t l ns (i + 1) j own' v' L css (W2.setCell ⟨g, 7, none⟩ v') := by
  have hg3 : ∀ {q}, own q = 1 → ¬ (FB own w0.heap.size 3 q ∧ q < W.heap.size) := fun e e2 => by have := e2.1.1; omega
  have hr2 : Row W2 g 30 (jvC k b d t L N) := (h.row.call hb).kept hk (hg3 h.og)
  have hr0 : Row W2 w0.heap.size 30 zeroJ := (h.res.call hb).kept hk (hg3 h.ores)
  refine ⟨hr2, ?_⟩
  obtain ⟨own', ho'⟩ : ∃ own' : Nat → Nat, ∀ q, own' q = if q < W.heap.size then own q else if q < W1.heap.size then 4 else 3 := ⟨_, fun _ => rfl⟩
  have s1 : Still W W2 (fun q => FB own w0.heap.size 3 q ∧ q < W.heap.size) own own' := ⟨(kept_mono (F := fun _ => False) (keptOf_below hb) fun _ e => e.elim).trans' hk, fun q hq => by rw [ho', if_pos hq]⟩
  have s2 := cell_still W2 own' g 7 v'
  have eg : own' g = 1 := by rw [ho', if_pos h.row.lt]; exact h.og
  have e0 : own' w0.heap.size = 1 := by rw [ho', if_pos h.res.lt]; exact h.ores
  have hbw := h.below.size
  have hw1 := hb.size
  refine ⟨own', ?_, ?_, eg, e0, ?_, ?_, ?_, ?_, h.ge⟩
  · simpa [jvC] using hr2.set_ 7 v'
  · exact hr0.kept (Kept.cell W2 g 7 v') (fun e => by have := h.ge; omega)
  · exact (h.vals.still s1 (fun q hq _ => by rw [hq.1.1]; omega)).still s2 (fun q hq _ => by rw [hq, eg]; omega)
  · exact (h.list.still s1 (fun q hq _ => by rw [hq.1.1]; omega)).still s2 (fun q hq _ => by rw [hq, eg]; omega)
  · have e9 : (ns.take (i + 1)).map keyV = (ns.take i).map keyV ++ [keyV (ns.getD i [])] := by
      rw [List.take_add_one, List.getElem?_eq_getElem hi, List.map_append]
      simp [List.getD, List.getElem?_eq_getElem hi]
    rw [e9]
    refine Lies.still (hl.mono fun q hq => ?_) s2 (fun q hq _ => by rw [hq, eg]; omega)
    rcases hq with hq | hq
    · exact ⟨by rw [ho', if_pos hq.2]; exact hq.1.1, hq.1.2⟩
    · exact ⟨by rw [ho', if_neg (by omega), if_neg (by omega)], by omega⟩
  · have kk : Kept (fun q => w0.heap.size ≤ q) W (W2.setCell ⟨g, 7, none⟩ v') := (kept_mono s1.kept fun q e => e.1.2).setCell (grow.old (Nat.le_of_lt h.ge)) v'
    exact h.below.trans (kk.below hbw fun _ e => e)
/-- A value more. -/
theorem CpS.item (h : CpS w0 g k b d t l ns i j own N L css W) (hj : j < l.length) (hb : Below W.heap.size W W1) {v' : Value} {cs : List Value} (hv : JIs W1 (fun q => W.heap.size ≤ q) (l.getD j JV.null) cs)
    (hl : Lies W2 (grow (fun q => FB own w0.heap.size 2 q ∧ q < W.heap.size) W1) 30 8 v' (j + 1) (css.flatten ++ cs)) (hk : Kept (fun q => FB own w0.heap.size 2 q ∧ q < W.heap.size) W1 W2) :
    Row W2 g 30 (jvC k b d t L N) ∧ ∃ own', CpS w0 g k b d t l ns i (j + 1) own' N v' (css ++ [cs]) (W2.setCell ⟨g, 6, none⟩ v') := by
  have hg3 : ∀ {q}, own q = 1 → ¬ (FB own w0.heap.size 2 q ∧ q < W.heap.size) := fun e e2 => by have := e2.1.1; omega
  have hr2 : Row W2 g 30 (jvC k b d t L N) := (h.row.call hb).kept hk (hg3 h.og)
  have hr0 : Row W2 w0.heap.size 30 zeroJ := (h.res.call hb).kept hk (hg3 h.ores)
  refine ⟨hr2, ?_⟩
  obtain ⟨own', ho'⟩ : ∃ own' : Nat → Nat, ∀ q, own' q = if q < W.heap.size then own q else if q < W1.heap.size then 0 else 2 := ⟨_, fun _ => rfl⟩
  have s1 : Still W W2 (fun q => FB own w0.heap.size 2 q ∧ q < W.heap.size) own own' := ⟨(kept_mono (F := fun _ => False) (keptOf_below hb) fun _ e => e.elim).trans' hk, fun q hq => by rw [ho', if_pos hq]⟩
  have s2 := cell_still W2 own' g 6 v'
  have eg : own' g = 1 := by rw [ho', if_pos h.row.lt]; exact h.og
  have e0 : own' w0.heap.size = 1 := by rw [ho', if_pos h.res.lt]; exact h.ores
  have hbw := h.below.size
  have hw1 := hb.size
  have hv2 : JIs W2 (FB own' w0.heap.size 0) (l.getD j JV.null) cs := by
    have a1 : JIs W1 (fun q => W.heap.size ≤ q ∧ q < W1.heap.size) (l.getD j JV.null) cs := JIs.mono (fun q e1 e2 => ⟨e1, e2⟩) _ _ hv
    have a2 := JIs.kept (F := fun q => W.heap.size ≤ q ∧ q < W1.heap.size) hk (fun q e1 e2 => by have := e2.2; have := e1.1; omega) _ _ a1
    exact JIs.mono (fun q e1 _ => ⟨by rw [ho', if_neg (by have := e1.1; omega), if_pos e1.2], by have := e1.1; omega⟩) _ _ a2
  refine ⟨own', ?_, ?_, eg, e0, ?_, ?_, ?_, ?_, h.ge⟩
  · simpa [jvC] using hr2.set_ 6 v'
  · exact hr0.kept (Kept.cell W2 g 6 v') (fun e => by have := h.ge; omega)
  · have e9 : l.take (j + 1) = l.take j ++ [l.getD j JV.null] := by
      rw [List.take_add_one, List.getElem?_eq_getElem hj]
      simp [List.getD, List.getElem?_eq_getElem hj]
    rw [e9]
    exact (JsAt.snoc hv2 _ _ (h.vals.still s1 (fun q hq _ => by rw [hq.1.1]; omega))).still s2 (fun q hq _ => by rw [hq, eg]; omega)
  · rw [List.flatten_append, List.flatten_cons, List.flatten_nil, List.append_nil]
    refine Lies.still (hl.mono fun q hq => ?_) s2 (fun q hq _ => by rw [hq, eg]; omega)
    rcases hq with hq | hq
    · exact ⟨by rw [ho', if_pos hq.2]; exact hq.1.1, hq.1.2⟩
    · exact ⟨by rw [ho', if_neg (by omega), if_neg (by omega)], by omega⟩
  · exact (h.names.still s1 (fun q hq _ => by rw [hq.1.1]; omega)).still s2 (fun q hq _ => by rw [hq, eg]; omega)
  · have kk : Kept (fun q => w0.heap.size ≤ q) W (W2.setCell ⟨g, 6, none⟩ v') := (kept_mono s1.kept fun q e => e.1.2).setCell (grow.old (Nat.le_of_lt h.ge)) v'
    exact h.below.trans (kk.below hbw fun _ e => e)
/-- All is laid: what is told. -/
theorem CpS.fin (h : CpS w0 g k b d t l ns ns.length l.length own N L css W) : Row (W.setCells w0.heap.size 0 (jvC k b d t L N).toList) w0.heap.size 30 (jvC k b d t L N) ∧ CopPost w0 (.mk k b d t l ns) (.returned (.agg (jvC k b d t L N))) (W.setCells w0.heap.size 0 (jvC k b d t L N).toList) := by
  have kk := kept_setCells W w0.heap.size (jvC k b d t L N).toList 0 W (Kept.refl _ _)
  have hrow : Row (W.setCells w0.heap.size 0 (jvC k b d t L N).toList) w0.heap.size 30 (jvC k b d t L N) := by
    have h9 := row_laid (jvC k b d t L N).toList [] zeroJ.toList W (by simpa using h.res) rfl
    simpa using h9
  have hne : ∀ m, m ≠ 1 → ∀ q, q = w0.heap.size → w0.heap.size ≤ q → own q ≠ m := fun m hm q hq _ e => hm (by rw [← e, hq, h.ores])
  have s : Still W (W.setCells w0.heap.size 0 (jvC k b d t L N).toList) (· = w0.heap.size) own own := ⟨kk, fun _ _ => rfl⟩
  refine ⟨hrow, jvC k b d t L N, rfl, ⟨own, L, N, css, rfl, ?_, ?_, ?_⟩, ?_⟩
  · have := h.vals
    rw [List.take_length] at this
    exact this.still s (hne 0 (by omega))
  · exact h.list.still s (hne 2 (by omega))
  · have := h.names
    rw [List.take_length] at this
    exact this.still s (hne 3 (by omega))
  · exact h.below.trans (kk.below h.below.size fun q e => by rw [e]; exact Nat.le_refl _)
/-- Nothing is laid yet. -/
theorem CpS.start {W3 W4 : World} {N0 L0 : Value} (hr : Row W g 30 (jvC k b d t L0 N0)) (h0 : Row W w0.heap.size 30 zeroJ) (hb : Below w0.heap.size w0 W) (hg : w0.heap.size < g) (b1 : Below W.heap.size W W3) (hN : Lies W3 (fun q => W.heap.size ≤ q) 9 1 N 0 []) (b2 : Below W3.heap.size W3 W4) (hL : Lies W4 (fun q => W3.heap.size ≤ q) 30 8 L 0 []) :
    W4.frozen? ⟨g, 7, none⟩ = false ∧ W4.cell? ⟨g, 7, none⟩ = some N0 ∧ (W4.setCell ⟨g, 7, none⟩ N).frozen? ⟨g, 6, none⟩ = false ∧ (W4.setCell ⟨g, 7, none⟩ N).cell? ⟨g, 6, none⟩ = some L0 ∧
      ∃ own, CpS w0 g k b d t l ns 0 0 own N L [] ((W4.setCell ⟨g, 7, none⟩ N).setCell ⟨g, 6, none⟩ L) := by
  have r4 : Row W4 g 30 (jvC k b d t L0 N0) := (hr.call b1).call b2
  have r5 : Row (W4.setCell ⟨g, 7, none⟩ N) g 30 (jvC k b d t L0 N) := by simpa [jvC] using r4.set_ 7 N
  have r6 : Row ((W4.setCell ⟨g, 7, none⟩ N).setCell ⟨g, 6, none⟩ L) g 30 (jvC k b d t L N) := by simpa [jvC] using r5.set_ 6 L
  have kk : Kept (· = g) W4 ((W4.setCell ⟨g, 7, none⟩ N).setCell ⟨g, 6, none⟩ L) := ((Kept.refl (· = g) W4).setCell (grow.old rfl) N).setCell (grow.old rfl) L
  refine ⟨r4.free 7, r4.cell (i := 7) rfl, r5.free 6, r5.cell (i := 6) rfl, fun q => if q < W.heap.size then 1 else if q < W3.heap.size then 3 else 2, r6, ?_, ?_, ?_, trivial, ?_, ?_, ?_, hg⟩
  · exact ((h0.call b1).call b2).kept kk (fun e => by omega)
  · show (if g < W.heap.size then 1 else _) = 1
    rw [if_pos hr.lt]
  · show (if w0.heap.size < W.heap.size then 1 else _) = 1
    rw [if_pos h0.lt]
  · refine (hL.there.kept kk (fun q hq e => ?_)).mono fun q hq => ⟨?_, ?_⟩
    · have := hq.1; have := hr.lt; have := b1.size; omega
    · show (if q < W.heap.size then 1 else if q < W3.heap.size then 3 else 2) = 2
      have := hq.1; have := b1.size
      rw [if_neg (by omega), if_neg (by omega)]
    · have := hq.1; have := b1.size; have := hb.size; omega
  · refine ((hN.there.below b2).kept kk (fun q hq e => ?_)).mono fun q hq => ⟨?_, ?_⟩
    · have := hq.1; have := hr.lt; omega
    · show (if q < W.heap.size then 1 else if q < W3.heap.size then 3 else 2) = 3
      rw [if_neg (by have := hq.1; omega), if_pos hq.2]
    · have := hq.1; have := hb.size; omega
  · exact ((hb.call b1).call b2).trans (kk.below (by have := hb.size; have := b1.size; have := b2.size; omega) fun q e => by omega)
end
end Go.Proofs.YtjckojedafajeaaGreatDoor
/- Layer 8: two members, b ahead of a, as sort.Sort puts them in order. (Written by wip/genjsswp.py.) -/
namespace Go.Proofs.YtjckojedafajeaaGreatDoor
open Go.RowKit
section
open Go
variable {P : Program} {md : Region.Mode} {ops : Array Oper} {Q : Exit → Act → World → Prop} {S : World → Prop} {z : Nat}
/-- Two may come up. -/
theorem wpTill_two {i j : Nat} {o o' : Oper} {fuel : Nat} {listed : Array Bool} {a : Act} {w : World} (hr : Region.ready md ops listed = [i, j]) (ho : ops[i]? = some o) (ho' : ops[j]? = some o') (hg : o.guard = none) (hg' : o'.guard = none)
    (h : ∀ K : Act → World → Prop, (∀ a' w', ((listed.setIfInBounds i true).getD z true = false → S w') → wpTill P md ops Q z S fuel (listed.setIfInBounds i true) a' w' → K a' w') → Oper.wp P o a w K Q)
    (h' : ∀ K : Act → World → Prop, (∀ a' w', ((listed.setIfInBounds j true).getD z true = false → S w') → wpTill P md ops Q z S fuel (listed.setIfInBounds j true) a' w' → K a' w') → Oper.wp P o' a w K Q) : wpTill P md ops Q z S (fuel + 1) listed a w :=
  ⟨fun h0 => (by rw [hr] at h0; cases h0), fun q hq => by
    rw [hr] at hq
    have hq2 : q = i ∨ q = j := by simpa using hq
    rcases hq2 with rfl | rfl
    · refine wpOp_step ho fun K hK => ?_
      rw [if_pos (by simp [Region.wanted, hg])]
      exact h K fun a' w' h1 h2 => hK a' w' ⟨h1, h2⟩
    · refine wpOp_step ho' fun K hK => ?_
      rw [if_pos (by simp [Region.wanted, hg'])]
      exact h' K fun a' w' h1 h2 => hK a' w' ⟨h1, h2⟩⟩
end
theorem Lies.only {W : World} {F : Nat → Prop} {e : TypeId} {size g off c n : Nat} {xs : List Value} (h : Lies W F e size (.slice (some ⟨g, off, none⟩) n c) n xs) (_hn : 0 < n) : Lies W (· = g) e size (.slice (some ⟨g, off, none⟩) n c) n xs := by
  refine ⟨h.1, h.2.imp (fun ⟨A, e1, e2⟩ => by omega) ?_⟩
  rintro ⟨g', off', cap, cur, hv, hF, h3⟩
  injection hv with e1 _ e3
  injection e1 with e1
  injection e1 with e1 e2
  subst e1 e2 e3
  exact ⟨g, off, c, cur, rfl, rfl, h3⟩
/-- Cells of a slice turn, wherever. -/
theorem Lies.lay {F : Nat → Prop} {e : TypeId} {size g off cap n : Nat} : ∀ (vs : List Value) (W : World) (xs : List Value) (j : Nat), Lies W F e size (.slice (some ⟨g, off, none⟩) n cap) n xs → j + vs.length ≤ n * size →
    Lies (W.setCells g (off + j) vs) F e size (.slice (some ⟨g, off, none⟩) n cap) n (xs.take j ++ vs ++ xs.drop (j + vs.length))
  | [], W, xs, j, h, _ => by
    rw [World.setCells]
    simpa using h
  | v :: vs, W, xs, j, h, hl => by
    simp only [List.length_cons] at hl
    have hlen := h.1
    have h1 := h.set (j := j) (by omega) v
    have h2 := Lies.lay vs _ (xs.set j v) (j + 1) h1 (by omega)
    rw [World.setCells]
    have e1 : (xs.set j v).take (j + 1) = xs.take j ++ [v] := by
      rw [List.take_add_one, List.take_set_of_le (Nat.le_refl _), List.getElem?_set_self (by omega)]
      rfl
    have e2 : (xs.set j v).drop (j + 1 + vs.length) = xs.drop (j + 1 + vs.length) := List.drop_set_of_lt (by omega)
    rw [e1, e2] at h2
    have e3 : j + (v :: vs).length = j + 1 + vs.length := by simp only [List.length_cons]; omega
    rw [e3]
    simpa [Nat.add_assoc] using h2
/-- Two names and two values in memory, in two blocks. -/
structure Two (W : World) (nb no cn lb lo cl : Nat) (x y : ByteArray) (c0 c1 : List Value) : Prop where
  ne : nb ≠ lb
  names : Lies W (· = nb) 9 1 (.slice (some ⟨nb, no, none⟩) 2 cn) 2 [.string x, .string y]
  list : Lies W (· = lb) 30 8 (.slice (some ⟨lb, lo, none⟩) 2 cl) 2 (c0 ++ c1)
  s0 : c0.length = 8
  s1 : c1.length = 8
section
variable {W W' : World} {nb no cn lb lo cl : Nat} {x y : ByteArray} {c0 c1 : List Value}
theorem Two.below (h : Two W nb no cn lb lo cl x y c0 c1) (hb : Below W.heap.size W W') : Two W' nb no cn lb lo cl x y c0 c1 := ⟨h.ne, h.names.below hb, h.list.below hb, h.s0, h.s1⟩
theorem Two.nlt (h : Two W nb no cn lb lo cl x y c0 c1) : nb < W.heap.size := h.names.spare ⟨no, 2, cn, rfl, by obtain ⟨_, _, e, h1, _⟩ := h.names.form; injection e with _ _ e; omega⟩
theorem Two.llt (h : Two W nb no cn lb lo cl x y c0 c1) : lb < W.heap.size := h.list.spare ⟨lo, 2, cl, rfl, by obtain ⟨_, _, e, h1, _⟩ := h.list.form; injection e with _ _ e; omega⟩
theorem Two.cells (h : Two W nb no cn lb lo cl x y c0 c1) : W.cell? ⟨nb, no, none⟩ = some (.string x) ∧ W.cell? ⟨nb, no + 1, none⟩ = some (.string y) ∧ W.frozen? ⟨nb, no, none⟩ = false ∧ W.frozen? ⟨nb, no + 1, none⟩ = false := by
  obtain ⟨g, off, cap, e, _, _, _, _, hr⟩ := h.names.cells (by decide)
  injection e with e _ _
  injection e with e
  injection e with e1 e2
  subst e1 e2
  exact ⟨hr 0 _ rfl, hr 1 _ rfl, ((h.names.thereAt (j := 0) (m := 2) (by decide)) 0 (by decide)).2, ((h.names.thereAt (j := 0) (m := 2) (by decide)) 1 (by decide)).2⟩
theorem Two.ranges (h : Two W nb no cn lb lo cl x y c0 c1) : W.rangeAt lb lo c0 ∧ W.rangeAt lb (lo + 8) c1 ∧ W.there lb lo 8 ∧ W.there lb (lo + 8) 8 := by
  obtain ⟨g, off, cap, e, _, _, _, _, hr⟩ := h.list.cells (by decide)
  injection e with e _ _
  injection e with e
  injection e with e1 e2
  subst e1 e2
  refine ⟨fun j v hv => hr j v ?_, fun j v hv => ?_, h.list.thereAt (j := 0) (m := 8) (by decide), h.list.thereAt (j := 8) (m := 8) (by decide)⟩
  · rw [List.getElem?_append_left (List.getElem?_eq_some_iff.1 hv).1]; exact hv
  · have := hr (8 + j) v (by rw [List.getElem?_append_right (by rw [h.s0]; omega), h.s0, Nat.add_sub_cancel_left]; exact hv)
    rwa [← Nat.add_assoc] at this
theorem Two.swapNames (h : Two W nb no cn lb lo cl x y c0 c1) : Two (((W.setCell ⟨nb, no + 1, none⟩ (.string x)).setCell ⟨nb, no, none⟩ (.string y)).drew) nb no cn lb lo cl y x c0 c1 := by
  have a1 := (h.names.set (j := 1) (by decide) (.string x)).set (j := 0) (by decide) (.string y)
  have k1 : Kept (· = nb) W ((W.setCell ⟨nb, no + 1, none⟩ (.string x)).setCell ⟨nb, no, none⟩ (.string y)) := ((Kept.refl (· = nb) W).setCell (grow.old rfl) _).setCell (grow.old rfl) _
  exact ⟨h.ne, a1.below (Below.refl _ _).drew, (h.list.kept k1 (fun q e1 e2 => h.ne (e2.symm.trans e1))).below (Below.refl _ _).drew, h.s0, h.s1⟩
theorem Two.swapList (h : Two W nb no cn lb lo cl x y c0 c1) : Two ((W.setCells lb (lo + 8) c0).setCells lb lo c1) nb no cn lb lo cl x y c1 c0 := by
  have a1 := Lies.lay c0 W (c0 ++ c1) 8 h.list (by rw [h.s0]; decide)
  have e1 : (c0 ++ c1).take 8 ++ c0 ++ (c0 ++ c1).drop (8 + c0.length) = c0 ++ c0 := by
    rw [List.take_append_of_le_length (by rw [h.s0]; decide), List.take_of_length_le (by rw [h.s0]; decide), List.drop_of_length_le (by rw [List.length_append, h.s0, h.s1]; decide), List.append_nil]
  rw [e1] at a1
  have a2 := Lies.lay c1 _ (c0 ++ c0) 0 a1 (by rw [h.s1]; decide)
  have e2 : (c0 ++ c0).take 0 ++ c1 ++ (c0 ++ c0).drop (0 + c1.length) = c1 ++ c0 := by
    rw [List.take_zero, List.nil_append, Nat.zero_add, List.drop_append_of_le_length (by rw [h.s0, h.s1]; decide), List.drop_of_length_le (by rw [h.s0, h.s1]; decide), List.nil_append]
  rw [e2, Nat.add_zero] at a2
  have k1 : Kept (· = lb) W ((W.setCells lb (lo + 8) c0).setCells lb lo c1) := (kept_setCells _ _ _ _ _ (Kept.refl _ _)).trans' (kept_setCells _ _ _ _ _ (Kept.refl _ _))
  exact ⟨h.ne, h.names.kept k1 (fun q e1 e2 => h.ne (e1.symm.trans e2)), a2, h.s1, h.s0⟩
end
/-- The receiver. -/
def twoV (nb no cn lb lo cl : Nat) : Value := .agg #[.slice (some ⟨nb, no, none⟩) 2 cn, .slice (some ⟨lb, lo, none⟩) 2 cl]
set_option maxRecDepth 100000 in
set_option maxHeartbeats 4000000 in
theorem two_len (nb no cn lb lo cl : Nat) (W : World) :
    Calls Tryz.prog 218 #[twoV nb no cn lb lo cl] W fun e w' => e = .returned (.int .i64 2) ∧ Below W.heap.size W w' := by
  unfold twoV
  go_enter Tryz.func218, Tryz.ntmps218
  go_wp2
  go_ret
  exact ⟨rfl, (Below.refl _ _).alloc (Nat.le_refl _) _⟩
set_option maxRecDepth 100000 in
set_option maxHeartbeats 4000000 in
theorem two_less (nb no cn lb lo cl : Nat) (c0 c1 : List Value) (W : World) (h : Two W nb no cn lb lo cl ⟨#[98]⟩ ⟨#[97]⟩ c0 c1) :
    Calls Tryz.prog 219 #[twoV nb no cn lb lo cl, .int .i64 1, .int .i64 0] W fun e w' => e = .returned (.bool true) ∧ Below W.heap.size W w' := by
  unfold twoV
  obtain ⟨W1, hW1⟩ : ∃ W1, W1 = W.alloc (.cells #[.slice (some ⟨nb, no, none⟩) 2 cn, .slice (some ⟨lb, lo, none⟩) 2 cl] 112) := ⟨_, rfl⟩
  have b1 : Below W.heap.size W W1 := by rw [hW1]; exact (Below.refl _ _).alloc (Nat.le_refl _) _
  have r1 : Row W1 W.heap.size 112 #[.slice (some ⟨nb, no, none⟩) 2 cn, .slice (some ⟨lb, lo, none⟩) 2 cl] := by rw [hW1]; exact Row.new _ _ _
  have x0 := r1.cell (i := 0) rfl
  obtain ⟨y0, y1, _, _⟩ := (h.below b1).cells
  have HB := Lib.hid b1
  clear h b1 r1
  go_enter Tryz.func219, Tryz.ntmps219
  go_upto_region 1 with fail
  rw [← hW1]
  clear hW1
  go_quiet (fail)
  go_wp2
  go_ret
  exact ⟨rfl, below_drewN HB.out _⟩
set_option maxRecDepth 1000000 in
set_option maxHeartbeats 8000000 in
theorem two_swap (nb no cn lb lo cl : Nat) (c0 c1 : Array Value) (W : World) (h : Two W nb no cn lb lo cl ⟨#[98]⟩ ⟨#[97]⟩ c0.toList c1.toList) (ho0 : c0.all (·.oneCell') = true) (ho1 : c1.all (·.oneCell') = true) :
    Calls Tryz.prog 220 #[twoV nb no cn lb lo cl, .int .i64 1, .int .i64 0] W fun e w' => e = .returned (.tuple #[]) ∧ Two w' nb no cn lb lo cl ⟨#[97]⟩ ⟨#[98]⟩ c1.toList c0.toList ∧ Kept (fun q => q = nb ∨ q = lb) W w' := by
  unfold twoV
  obtain ⟨W1, hW1⟩ : ∃ W1, W1 = W.alloc (.cells #[.slice (some ⟨nb, no, none⟩) 2 cn, .slice (some ⟨lb, lo, none⟩) 2 cl] 112) := ⟨_, rfl⟩
  have b1 : Below W.heap.size W W1 := by rw [hW1]; exact (Below.refl _ _).alloc (Nat.le_refl _) _
  have r1 : Row W1 W.heap.size 112 #[.slice (some ⟨nb, no, none⟩) 2 cn, .slice (some ⟨lb, lo, none⟩) 2 cl] := by rw [hW1]; exact Row.new _ _ _
  have x0 : W1.cell? ⟨W.heap.size, 0, none⟩ = some (.slice (some ⟨nb, no, none⟩) 2 cn) := r1.cell (i := 0) rfl
  have h1 := h.below b1
  obtain ⟨y0, y1, f0, f1⟩ := h1.cells
  have H1 := Lib.hid h1
  have R1 := Lib.hid r1
  have e9 : nb ≠ W.heap.size := by have := h.nlt; omega
  have e8 := Lib.hid (show lb ≠ W.heap.size by have := h.llt; omega)
  have HK1 : Hid (Kept (fun q => q = nb ∨ q = lb) W W1) := Lib.hid (kept_mono (F := fun _ => False) (keptOf_below b1) fun _ e => e.elim)
  clear h b1 r1 h1
  go_enter Tryz.func220, Tryz.ntmps220
  go_upto_region 1 with fail
  rw [← hW1]
  clear hW1
  go_region
  have h2 := H1.out.swapNames
  obtain ⟨W2, hW2⟩ : ∃ W2, W2 = ((W1.setCell ⟨nb, no + 1, none⟩ (.string ⟨#[98]⟩)).setCell ⟨nb, no, none⟩ (.string ⟨#[97]⟩)).drew := ⟨_, rfl⟩
  rw [← hW2] at h2 ⊢
  have k2 : Kept (· = nb) W1 W2 := by rw [hW2]; exact (((Kept.refl (· = nb) W1).setCell (grow.old rfl) _).setCell (grow.old rfl) _).drew
  have r2 : Row W2 W.heap.size 112 #[.slice (some ⟨nb, no, none⟩) 2 cn, .slice (some ⟨lb, lo, none⟩) 2 cl] := R1.out.kept k2 (fun e => e9 e.symm)
  have HK2 : Hid (Kept (fun q => q = nb ∨ q = lb) W W2) := Lib.hid (HK1.out.trans' (kept_mono k2 fun q e => .inl e))
  have H2 : Hid (Two W2.drew nb no cn lb lo cl ⟨#[97]⟩ ⟨#[98]⟩ c0.toList c1.toList) := Lib.hid (h2.below (Below.refl _ _).drew)
  have hS : Row W2.drew W.heap.size 112 #[.slice (some ⟨nb, no, none⟩) 2 cn, .slice (some ⟨lb, lo, none⟩) 2 cl] := r2.call (Below.refl _ _).drew
  have HS := Lib.hid hS
  have s0 : c0.size = 8 := by have := H2.out.s0; rwa [Array.length_toList] at this
  have s1 : c1.size = 8 := by have := H2.out.s1; rwa [Array.length_toList] at this
  have HI0 : Hid ((Tryz.prog.info? 30).map (·.size) = some c0.size) := Lib.hid (by rw [s0]; exact infoJ)
  have HI1 : Hid ((Tryz.prog.info? 30).map (·.size) = some c1.size) := Lib.hid (by rw [s1]; exact infoJ)
  have HO0 := Lib.hid ho0
  have HO1 := Lib.hid ho1
  have HS0 := Lib.hid s0
  have HS1 := Lib.hid s1
  clear y0 y1 f0 f1 x0 hW2 k2 r2 h2 HK1 R1 H1 e9 s0 s1 ho0 ho1
  go_upto_region 2 with fail
  refine wp_region_till 19 (fun W' => Row W' W.heap.size 112 #[.slice (some ⟨nb, no, none⟩) 2 cn, .slice (some ⟨lb, lo, none⟩) 2 cl]) (by kernel_rfl) ?_
  refine wpTill_take (i := 0) (oi := ?_) (v := ?_) ?_ (by kernel_rfl) (by kernel_rfl) (by kernel_rfl) (by kernel_rfl) (by kernel_rfl) ?_ ?_ (by assumption) ?_
  rotate_left 2
  · simp only [List.getElem?_toArray, List.getElem?_cons_zero]; with_reducible rfl
  · exact fun _ _ _ h => h
  · refine Or.inl ⟨by rfl, ?_⟩; intro W hSw; go_simp; try with_reducible rfl
  try simp only [Act.put, List.setIfInBounds_toArray, List.set_cons_zero, List.set_cons_succ]
  refine wpTill_take (i := 1) (oi := ?_) (v := ?_) ?_ (by kernel_rfl) (by kernel_rfl) (by kernel_rfl) (by kernel_rfl) (by kernel_rfl) ?_ ?_ (by assumption) ?_
  rotate_left 2
  · simp only [List.getElem?_toArray, List.getElem?_cons_succ, List.getElem?_cons_zero]; with_reducible rfl
  · exact fun _ _ _ h => h
  · refine Or.inl ⟨by rfl, ?_⟩; intro W hSw; have q := hSw.cell (i := 1) rfl; go_simp; try with_reducible rfl
  try simp only [Act.put, List.setIfInBounds_toArray, List.set_cons_zero, List.set_cons_succ]
  refine wpTill_take (i := 2) (oi := ?_) (v := ?_) ?_ (by kernel_rfl) (by kernel_rfl) (by kernel_rfl) (by kernel_rfl) (by kernel_rfl) ?_ ?_ (by assumption) ?_
  rotate_left 2
  · simp only [List.getElem?_toArray, List.getElem?_cons_succ, List.getElem?_cons_zero]; with_reducible rfl
  · exact fun _ _ _ h => h
  · refine Or.inl ⟨by rfl, ?_⟩; intro W hSw; go_simp; try with_reducible rfl
  try simp only [Act.put, List.setIfInBounds_toArray, List.set_cons_zero, List.set_cons_succ]
  refine wpTill_take (i := 3) (oi := ?_) (v := ?_) ?_ (by kernel_rfl) (by kernel_rfl) (by kernel_rfl) (by kernel_rfl) (by kernel_rfl) ?_ ?_ (by assumption) ?_
  rotate_left 2
  · simp only [List.getElem?_toArray, List.getElem?_cons_succ, List.getElem?_cons_zero]; with_reducible rfl
  · exact fun _ _ _ h => h
  · refine Or.inl ⟨by rfl, ?_⟩; intro W hSw; go_simp; try with_reducible rfl
  try simp only [Act.put, List.setIfInBounds_toArray, List.set_cons_zero, List.set_cons_succ]
  refine wpTill_take (i := 4) (oi := ?_) (v := ?_) ?_ (by kernel_rfl) (by kernel_rfl) (by kernel_rfl) (by kernel_rfl) (by kernel_rfl) ?_ ?_ (by assumption) ?_
  rotate_left 2
  · simp only [List.getElem?_toArray, List.getElem?_cons_succ, List.getElem?_cons_zero]; with_reducible rfl
  · exact fun _ _ _ h => h
  · refine Or.inl ⟨by rfl, ?_⟩; intro W hSw; have q := hSw.cell (i := 1) rfl; go_simp; try with_reducible rfl
  try simp only [Act.put, List.setIfInBounds_toArray, List.set_cons_zero, List.set_cons_succ]
  refine wpTill_take (i := 5) (oi := ?_) (v := ?_) ?_ (by kernel_rfl) (by kernel_rfl) (by kernel_rfl) (by kernel_rfl) (by kernel_rfl) ?_ ?_ (by assumption) ?_
  rotate_left 2
  · simp only [List.getElem?_toArray, List.getElem?_cons_succ, List.getElem?_cons_zero]; with_reducible rfl
  · exact fun _ _ _ h => h
  · refine Or.inl ⟨by rfl, ?_⟩; intro W hSw; go_simp; try with_reducible rfl
  try simp only [Act.put, List.setIfInBounds_toArray, List.set_cons_zero, List.set_cons_succ]
  refine wpTill_take (i := 6) (oi := ?_) (v := ?_) ?_ (by kernel_rfl) (by kernel_rfl) (by kernel_rfl) (by kernel_rfl) (by kernel_rfl) ?_ ?_ (by assumption) ?_
  rotate_left 2
  · simp only [List.getElem?_toArray, List.getElem?_cons_succ, List.getElem?_cons_zero]; with_reducible rfl
  · exact fun _ _ _ h => h
  · refine Or.inl ⟨by rfl, ?_⟩; intro W hSw; go_simp; try with_reducible rfl
  try simp only [Act.put, List.setIfInBounds_toArray, List.set_cons_zero, List.set_cons_succ]
  refine wpTill_take (i := 7) (oi := ?_) (v := ?_) ?_ (by kernel_rfl) (by kernel_rfl) (by kernel_rfl) (by kernel_rfl) (by kernel_rfl) ?_ ?_ (by assumption) ?_
  rotate_left 2
  · simp only [List.getElem?_toArray, List.getElem?_cons_succ, List.getElem?_cons_zero]; with_reducible rfl
  · exact fun _ _ _ h => h
  · refine Or.inl ⟨by rfl, ?_⟩; intro W hSw; have q := hSw.cell (i := 1) rfl; go_simp; try with_reducible rfl
  try simp only [Act.put, List.setIfInBounds_toArray, List.set_cons_zero, List.set_cons_succ]
  refine wpTill_take (i := 8) (oi := ?_) (v := ?_) ?_ (by kernel_rfl) (by kernel_rfl) (by kernel_rfl) (by kernel_rfl) (by kernel_rfl) ?_ ?_ (by assumption) ?_
  rotate_left 2
  · simp only [List.getElem?_toArray, List.getElem?_cons_succ, List.getElem?_cons_zero]; with_reducible rfl
  · exact fun _ _ _ h => h
  · refine Or.inl ⟨by rfl, ?_⟩; intro W hSw; go_simp; try with_reducible rfl
  try simp only [Act.put, List.setIfInBounds_toArray, List.set_cons_zero, List.set_cons_succ]
  refine wpTill_take (i := 9) (oi := ?_) (v := ?_) ?_ (by kernel_rfl) (by kernel_rfl) (by kernel_rfl) (by kernel_rfl) (by kernel_rfl) ?_ ?_ (by assumption) ?_
  rotate_left 2
  · simp only [List.getElem?_toArray, List.getElem?_cons_succ, List.getElem?_cons_zero]; with_reducible rfl
  · exact fun _ _ _ h => h
  · refine Or.inl ⟨by rfl, ?_⟩; intro W hSw; go_simp; try with_reducible rfl
  try simp only [Act.put, List.setIfInBounds_toArray, List.set_cons_zero, List.set_cons_succ]
  refine wpTill_take (i := 11) (oi := ?_) (v := ?_) ?_ (by kernel_rfl) (by kernel_rfl) (by kernel_rfl) (by kernel_rfl) (by kernel_rfl) ?_ ?_ (by assumption) ?_
  rotate_left 2
  · simp only [List.getElem?_toArray, List.getElem?_cons_succ, List.getElem?_cons_zero]; with_reducible rfl
  · exact fun _ _ _ h => h
  · refine Or.inl ⟨by rfl, ?_⟩; intro W hSw; go_simp; try with_reducible rfl
  try simp only [Act.put, List.setIfInBounds_toArray, List.set_cons_zero, List.set_cons_succ]
  refine wpTill_take (i := 12) (oi := ?_) (v := ?_) ?_ (by kernel_rfl) (by kernel_rfl) (by kernel_rfl) (by kernel_rfl) (by kernel_rfl) ?_ ?_ (by assumption) ?_
  rotate_left 2
  · simp only [List.getElem?_toArray, List.getElem?_cons_succ, List.getElem?_cons_zero]; with_reducible rfl
  · exact fun _ _ _ h => h
  · refine Or.inl ⟨by rfl, ?_⟩; intro W hSw; have q := hSw.cell (i := 1) rfl; go_simp; try with_reducible rfl
  try simp only [Act.put, List.setIfInBounds_toArray, List.set_cons_zero, List.set_cons_succ]
  refine wpTill_take (i := 13) (oi := ?_) (v := ?_) ?_ (by kernel_rfl) (by kernel_rfl) (by kernel_rfl) (by kernel_rfl) (by kernel_rfl) ?_ ?_ (by assumption) ?_
  rotate_left 2
  · simp only [List.getElem?_toArray, List.getElem?_cons_succ, List.getElem?_cons_zero]; with_reducible rfl
  · exact fun _ _ _ h => h
  · refine Or.inl ⟨by rfl, ?_⟩; intro W hSw; go_simp; try with_reducible rfl
  try simp only [Act.put, List.setIfInBounds_toArray, List.set_cons_zero, List.set_cons_succ]
  refine wpTill_take (i := 14) (oi := ?_) (v := ?_) ?_ (by kernel_rfl) (by kernel_rfl) (by kernel_rfl) (by kernel_rfl) (by kernel_rfl) ?_ ?_ (by assumption) ?_
  rotate_left 2
  · simp only [List.getElem?_toArray, List.getElem?_cons_succ, List.getElem?_cons_zero]; with_reducible rfl
  · exact fun _ _ _ h => h
  · refine Or.inl ⟨by rfl, ?_⟩; intro W hSw; go_simp; try with_reducible rfl
  try simp only [Act.put, List.setIfInBounds_toArray, List.set_cons_zero, List.set_cons_succ]
  refine wpTill_two (i := 10) (j := 15) (o := ?o10) (o' := ?o15) (by kernel_rfl) ?g10 ?g15 ?p10 ?p15 ?q10 ?q15
  case g10 => simp only [List.getElem?_toArray, List.getElem?_cons_succ, List.getElem?_cons_zero]; with_reducible rfl
  case g15 => simp only [List.getElem?_toArray, List.getElem?_cons_succ, List.getElem?_cons_zero]; with_reducible rfl
  case p10 => rfl
  case p15 => rfl
  case q10 =>
    intro K1 hK1
    replace hK1 := Lib.hid hK1
    refine wp_load_mid 30 (.tmp 33) rfl lb lo ?_ c0.toList _ H2.out.ranges.1 Tryz.underlying30 rfl (by rw [Array.length_toList]; exact HI0.out) ?_
    · kernel_rfl
    refine hK1.out _ _ (fun _ => hS) ?_
    clear hK1 K1
    try simp only [Act.put, List.setIfInBounds_toArray, List.set_cons_zero, List.set_cons_succ]
    refine wpTill_one (i := 15) (o := ?_) (by kernel_rfl) ?_ ?_ ?_
    rotate_left 1
    · simp only [List.getElem?_toArray, List.getElem?_cons_succ, List.getElem?_cons_zero]; with_reducible rfl
    · rfl
    intro K1 hK1
    replace hK1 := Lib.hid hK1
    refine wp_load_mid 30 (.tmp 38) rfl lb (lo + 8) ?_ c1.toList _ H2.out.ranges.2.1 Tryz.underlying30 rfl (by rw [Array.length_toList]; exact HI1.out) ?_
    · kernel_rfl
    refine hK1.out _ _ (fun _ => hS) ?_
    clear hK1 K1
    try simp only [Act.put, List.setIfInBounds_toArray, List.set_cons_zero, List.set_cons_succ]
    refine wpTill_one (i := 16) (o := ?_) (by kernel_rfl) ?_ ?_ ?_
    rotate_left 1
    · simp only [List.getElem?_toArray, List.getElem?_cons_succ, List.getElem?_cons_zero]; with_reducible rfl
    · rfl
    intro K1 hK1
    replace hK1 := Lib.hid hK1
    go_simp
    refine hK1.out _ _ (fun _ => hS) ?_
    clear hK1 K1
    try simp only [Act.put, List.setIfInBounds_toArray, List.set_cons_zero, List.set_cons_succ]
    refine wpTill_one (i := 17) (o := ?_) (by kernel_rfl) ?_ ?_ ?_
    rotate_left 1
    · simp only [List.getElem?_toArray, List.getElem?_cons_succ, List.getElem?_cons_zero]; with_reducible rfl
    · rfl
    intro K1 hK1
    replace hK1 := Lib.hid hK1
    refine wp_store_mid 30 (.tmp 40) (.tmp 34) rfl lb (lo + 8) c0 ?_ ?_ (by rw [HS0.out]; exact H2.out.ranges.2.2.2) HI0.out HO0.out ?_
    · kernel_rfl
    · kernel_rfl
    have hS2 := HS.out.kept (kept_setCells W2.drew lb c0.toList (lo + 8) W2.drew (Kept.refl _ _)) (fun e => e8.out e.symm)
    refine hK1.out _ _ (fun _ => hS2) ?_
    clear hK1 K1
    try simp only [Act.put]
    refine wpTill_one (i := 18) (o := ?_) (by kernel_rfl) ?_ ?_ ?_
    rotate_left 1
    · simp only [List.getElem?_toArray, List.getElem?_cons_succ, List.getElem?_cons_zero]; with_reducible rfl
    · rfl
    intro K1 hK1
    replace hK1 := Lib.hid hK1
    go_simp
    refine hK1.out _ _ (fun _ => hS2) ?_
    clear hK1 K1
    try simp only [Act.put, List.setIfInBounds_toArray, List.set_cons_zero, List.set_cons_succ]
    refine wpTill_one (i := 19) (o := ?_) (by kernel_rfl) ?_ ?_ ?_
    rotate_left 1
    · simp only [List.getElem?_toArray, List.getElem?_cons_succ, List.getElem?_cons_zero]; with_reducible rfl
    · rfl
    intro K1 hK1
    replace hK1 := Lib.hid hK1
    refine wp_store_mid 30 (.tmp 41) (.tmp 39) rfl lb lo c1 ?_ ?_ ?_ HI1.out HO1.out ?_
    · kernel_rfl
    · kernel_rfl
    · have a1 := Lies.lay c0.toList W2.drew (c0.toList ++ c1.toList) 8 H2.out.list (by rw [Array.length_toList, HS0.out]; decide)
      have a2 := a1.thereAt (j := 0) (m := 8) (by decide)
      rw [HS1.out]
      simpa using a2
    refine hK1.out _ _ (fun h => by cases h) ?_
    clear hK1 K1
    try simp only [Act.put]
    refine wpTill_past _ _ _ _ (by kernel_rfl) ?_
    refine wpAny_done (by kernel_rfl) ?_ _
    go_end0
    exact ⟨rfl, H2.out.swapList, (HK2.out.drew.trans' (kept_mono (kept_setCells W2.drew lb c0.toList (lo + 8) W2.drew (Kept.refl _ _)) fun q e => .inr e)).trans' (kept_mono (kept_setCells _ lb c1.toList lo _ (Kept.refl _ _)) fun q e => .inr e)⟩
  case q15 =>
    intro K1 hK1
    replace hK1 := Lib.hid hK1
    refine wp_load_mid 30 (.tmp 38) rfl lb (lo + 8) ?_ c1.toList _ H2.out.ranges.2.1 Tryz.underlying30 rfl (by rw [Array.length_toList]; exact HI1.out) ?_
    · kernel_rfl
    refine hK1.out _ _ (fun _ => hS) ?_
    clear hK1 K1
    try simp only [Act.put, List.setIfInBounds_toArray, List.set_cons_zero, List.set_cons_succ]
    refine wpTill_one (i := 10) (o := ?_) (by kernel_rfl) ?_ ?_ ?_
    rotate_left 1
    · simp only [List.getElem?_toArray, List.getElem?_cons_succ, List.getElem?_cons_zero]; with_reducible rfl
    · rfl
    intro K1 hK1
    replace hK1 := Lib.hid hK1
    refine wp_load_mid 30 (.tmp 33) rfl lb lo ?_ c0.toList _ H2.out.ranges.1 Tryz.underlying30 rfl (by rw [Array.length_toList]; exact HI0.out) ?_
    · kernel_rfl
    refine hK1.out _ _ (fun _ => hS) ?_
    clear hK1 K1
    try simp only [Act.put, List.setIfInBounds_toArray, List.set_cons_zero, List.set_cons_succ]
    refine wpTill_one (i := 16) (o := ?_) (by kernel_rfl) ?_ ?_ ?_
    rotate_left 1
    · simp only [List.getElem?_toArray, List.getElem?_cons_succ, List.getElem?_cons_zero]; with_reducible rfl
    · rfl
    intro K1 hK1
    replace hK1 := Lib.hid hK1
    go_simp
    refine hK1.out _ _ (fun _ => hS) ?_
    clear hK1 K1
    try simp only [Act.put, List.setIfInBounds_toArray, List.set_cons_zero, List.set_cons_succ]
    refine wpTill_one (i := 17) (o := ?_) (by kernel_rfl) ?_ ?_ ?_
    rotate_left 1
    · simp only [List.getElem?_toArray, List.getElem?_cons_succ, List.getElem?_cons_zero]; with_reducible rfl
    · rfl
    intro K1 hK1
    replace hK1 := Lib.hid hK1
    refine wp_store_mid 30 (.tmp 40) (.tmp 34) rfl lb (lo + 8) c0 ?_ ?_ (by rw [HS0.out]; exact H2.out.ranges.2.2.2) HI0.out HO0.out ?_
    · kernel_rfl
    · kernel_rfl
    have hS2 := HS.out.kept (kept_setCells W2.drew lb c0.toList (lo + 8) W2.drew (Kept.refl _ _)) (fun e => e8.out e.symm)
    refine hK1.out _ _ (fun _ => hS2) ?_
    clear hK1 K1
    try simp only [Act.put]
    refine wpTill_one (i := 18) (o := ?_) (by kernel_rfl) ?_ ?_ ?_
    rotate_left 1
    · simp only [List.getElem?_toArray, List.getElem?_cons_succ, List.getElem?_cons_zero]; with_reducible rfl
    · rfl
    intro K1 hK1
    replace hK1 := Lib.hid hK1
    go_simp
    refine hK1.out _ _ (fun _ => hS2) ?_
    clear hK1 K1
    try simp only [Act.put, List.setIfInBounds_toArray, List.set_cons_zero, List.set_cons_succ]
    refine wpTill_one (i := 19) (o := ?_) (by kernel_rfl) ?_ ?_ ?_
    rotate_left 1
    · simp only [List.getElem?_toArray, List.getElem?_cons_succ, List.getElem?_cons_zero]; with_reducible rfl
    · rfl
    intro K1 hK1
    replace hK1 := Lib.hid hK1
    refine wp_store_mid 30 (.tmp 41) (.tmp 39) rfl lb lo c1 ?_ ?_ ?_ HI1.out HO1.out ?_
    · kernel_rfl
    · kernel_rfl
    · have a1 := Lies.lay c0.toList W2.drew (c0.toList ++ c1.toList) 8 H2.out.list (by rw [Array.length_toList, HS0.out]; decide)
      have a2 := a1.thereAt (j := 0) (m := 8) (by decide)
      rw [HS1.out]
      simpa using a2
    refine hK1.out _ _ (fun h => by cases h) ?_
    clear hK1 K1
    try simp only [Act.put]
    refine wpTill_past _ _ _ _ (by kernel_rfl) ?_
    refine wpAny_done (by kernel_rfl) ?_ _
    go_end0
    exact ⟨rfl, H2.out.swapList, (HK2.out.drew.trans' (kept_mono (kept_setCells W2.drew lb c0.toList (lo + 8) W2.drew (Kept.refl _ _)) fun q e => .inr e)).trans' (kept_mono (kept_setCells _ lb c1.toList lo _ (Kept.refl _ _)) fun q e => .inr e)⟩
end Go.Proofs.YtjckojedafajeaaGreatDoor
