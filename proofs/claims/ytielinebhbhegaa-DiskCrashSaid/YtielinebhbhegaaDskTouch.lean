/- Layer 2's law: which sectors a list of pieces touches, as the law notes it down. -/
import Derived.Test.YtielinebhbhegaaDskVals
namespace Go.Proofs.Ytielinebhbhegaa
open Go.RowKit Go.Shelf
attribute [local go_sem] Oper.semAt_some

def bools (n : Nat) (T : Nat → Bool) : List Value := (List.range n).map fun (i : Nat) => Value.bool (T i)
theorem bools_get (n : Nat) (T : Nat → Bool) {i : Nat} (h : i < n) : (bools n T).toArray[i]? = some (.bool (T i)) := by simp [bools, h]
theorem bools_set (n : Nat) (T : Nat → Bool) (i : Nat) : (bools n T).toArray.setIfInBounds i (.bool true) = (bools n (fun j => T j || decide (j = i))).toArray := by
  apply Array.toList_inj.1
  apply List.ext_getElem?
  intro j
  simp only [bools, List.setIfInBounds_toArray, List.getElem?_set, List.length_map, List.length_range, List.getElem?_map]
  by_cases hij : i = j
  · subst hij
    by_cases hj : i < n
    · simp [hj]
    · simp [hj]
  · have : ¬ j = i := fun h => hij h.symm
    by_cases hj : j < n <;> simp [hij, this, hj]
theorem infoBool : (Try.prog.info? 4).map (fun i => (i.zero, i.size, i.bytes)) = some (some (.bool false), 1, 1) := by kernel_rfl
section
variable {P : Program} {ops : Array Oper} {rest : List Oper} {o : Oper} {a : Act} {w : World} {Q : Exit → Act → World → Prop}
theorem wpList_make_bools (hgd : o.guard = none) (t e : TypeId) (x : Operand) (ho : o.op = .makeSlice t x x) (n : Nat) (hx : a.eval x = .int .i64 n) (ht : P.underlying t = some (.slice e))
    (hi : (P.info? e).map (fun i => (i.zero, i.size, i.bytes)) = some (some (.bool false), 1, 1)) (hn : n ≤ 281474976710656)
    (h : wpList P ops Q rest (a.put o.dst (.slice (some ⟨w.heap.size, 0, none⟩) n n)) (w.alloc (.cells (bools n fun _ => false).toArray e))) : wpList P ops Q (o :: rest) a w := by
  obtain ⟨i, hi, hz, hs, hb⟩ := info_parts hi
  have hr := run_make (P := P) w t e i _ ht hi hz .i64 .i64 n n (by omega) (Int.le_refl _) (by rw [hb]; omega) (by omega)
  rw [hs, Nat.mul_one] at hr
  have e1 : madeCells (Value.bool false).cells n = (bools n fun _ => false).toArray := by
    apply Array.toList_inj.1
    have := toList_madeCells_one (.bool false) n
    simp only [bools, List.map_const', List.length_range]
    exact this
  simp only [Int.toNat_natCast] at hr
  rw [e1] at hr
  refine wpList_plain hgd fun K hK => ?_
  unfold Oper.wp execOp
  simp only [ho, Sem.run_bind, Sem.run_pure, Result.andThen_ok, hx, hr]
  exact hK _ _ h
end
section
variable {F₁ : Fence} {n₁ : Nat} {P : Program} {ops : Array Oper} {rest : List Oper} {o : Oper} {a : Act} {w : World} {Q : Exit → Act → World → Prop}
theorem wpListIn_append_any (hgd : o.guard = none) (F : Nat → Prop) (s x : Operand) (t : TypeId)
    (ho : o.op = .call { callee := .builtin .append, args := #[s, x], argTypes := #[t, t] }) (e : TypeId) (size bytes : Nat) (z : Value) (ht : P.underlying t = some (.slice e)) (hi : (P.info? e).map (fun i => (i.zero, i.size, i.bytes)) = some (some z, size, bytes))
    (hzs : z.cells.size = size) (hsz : 0 < size) (v : Value) (n : Nat) (xs : List Value) (hs : a.eval s = v) (hown : Lies w F e size v n xs) (A : Option Addr) (m c : Nat) (news : List Value) (hx : a.eval x = .slice A m c)
    (hl : news.length = m * size) (hsrc : Source w A m news) (h1 : ∀ u ∈ news, u.oneCell' = true) (hbytes : (n + m) * bytes ≤ 140737488355328) (hb0 : 0 < bytes)
    (h : ∀ v' w', Lies w' (grow F w) e size v' (n + m) (xs ++ news) → Kept (fun g => F g ∧ Spare v g ∧ ∃ cur, w.heap[g]? = some (.cells cur e (0, 0))) w w' → wpListIn F₁ n₁ P ops Q rest (a.put o.dst v') w') : wpListIn F₁ n₁ P ops Q (o :: rest) a w := by
  obtain ⟨i, hi, hz, hs1, hb⟩ := info_parts hi
  obtain ⟨v', w', hr, h2, h3⟩ := run_append_any (P := P) w F t o.type e i z size bytes ht hi hz hs1 hb hzs hsz v n xs hown A m c news hl hsrc h1 hbytes hb0
  refine wpListIn_plain hgd fun K hK => ?_
  unfold Oper.wpIn
  refine ⟨?_, ?_⟩
  · simp [Oper.about, ho, resolve, Target.leads, Sem.run_pure]
  · rw [Oper.semAt_plain F₁ _ _ (by rw [ho]; intro c hc'; cases hc')]
    simp [execOp, ho, resolve, invoke, builtin, hs, hx, hr, Result.andThen]
    exact hK _ _ (h v' w' h2 h3)
end
theorem KeepsOthers.of_spare {F : Nat → Prop} {w w' : World} {v : Value} {e : TypeId} (h : Kept (fun g => F g ∧ Spare v g ∧ ∃ cur, w.heap[g]? = some (.cells cur e (0, 0))) w w') : KeepsOthers w w' :=
  ⟨h.size, fun k o hk ho => h.heap hk fun ⟨_, _, cur, hc⟩ => by
    rw [hk] at hc
    injection hc with hc
    rw [hc] at ho
    cases ho⟩

/-- The law's notes: which sectors are touched (block gT), a number for each piece (slice in o), both as they stand when these pieces have come by. -/
structure TouchI (W5 : World) (o n₀ gT N : Nat) (pre : List Int) (W : World) : Prop where
  row : Row W gT 4 (bools N fun i => decide ((i : Int) ∈ pre)).toArray
  ones : ∃ v, Row W o 24 #[v] ∧ Lies W (fun k => W5.heap.size ≤ k) 3 1 v pre.length (ints (List.replicate pre.length 1))
  box : Row W (gT + 1) 35 #[.slice (some ⟨gT, 0, none⟩) N N]
  kept : KB o n₀ W5 W
def TouchX (N : Nat) (c : Code) (pre : List Int) (_ : World) : Prop := c = .ret ∧ ∃ x ∈ pre, x < 0 ∨ (N : Int) ≤ x
theorem KB.grown {o n₀ : Nat} {a W W' : World} {row : Option Nat} (h : KB o n₀ a W) (hg : W.grownBy W' row) (hr : ∀ r, row = some r → n₀ ≤ r) : KB o n₀ a W' :=
  h.trans ⟨hg.os, hg.tape, hg.output, hg.size, fun k hk hn => hg.block k hk fun e => hn (.inr (hr k e.symm))⟩
theorem touch_own {W5 : World} {o n₀ gT N B : Nat} (hB : n₀ ≤ B) : OwnFrom B (fun pre W => TouchI W5 o n₀ gT N pre W) := by
  intro pre W W' row h hg hr
  have hc : ∀ {k : Nat} {cs : Array Value} {t : TypeId}, Row W k t cs → Row W' k t cs := fun {k cs t} hk => (grownBy_keeps_cells hg (fun r e => (hr r e).2) (k := k) (o := .cells cs t (0, 0)) hk rfl).trans hk
  obtain ⟨v, h1, h2⟩ := h.ones
  exact ⟨hc h.row, ⟨v, hc h1, h2.same fun g cur _ hh => hc hh⟩, hc h.box, h.kept.grown hg fun r e => Nat.le_trans hB (hr r e).1⟩
theorem touch_start {W5 : World} {o n₀ gT N : Nat} (h1 : Row W5 gT 4 (bools N fun _ => false).toArray) (h2 : Row W5 o 24 #[.slice none 0 0]) (h3 : Row W5 (gT + 1) 35 #[.slice (some ⟨gT, 0, none⟩) N N]) : TouchI W5 o n₀ gT N [] W5 :=
  ⟨by simpa using h1, ⟨_, h2, Lies.empty _ _ _ _ _⟩, h3, KB.refl _ _ _⟩
/-- A round: the sector noted down, one more number. -/
theorem touch_next {W5 W w6 : World} {o n₀ gT N i : Nat} {pre : List Int} {A : Option Addr} {c : Nat} {v : Value} (h : TouchI W5 o n₀ gT N pre W) (ho : o < n₀) (hg : gT = n₀) (hs : gT + 1 < W5.heap.size) {x : Obj}
    (hl : Lies w6 (grow (fun k => W5.heap.size ≤ k) ((W.setCell ⟨gT, i, none⟩ (.bool true)).alloc x)) 3 1 (.slice A (pre.length + 1) c) (pre.length + 1) (ints (List.replicate pre.length 1) ++ [.int .i64 1]))
    (hk : Kept (fun g => W5.heap.size ≤ g ∧ Spare v g ∧ ∃ cur, ((W.setCell ⟨gT, i, none⟩ (.bool true)).alloc x).heap[g]? = some (.cells cur 3 (0, 0))) ((W.setCell ⟨gT, i, none⟩ (.bool true)).alloc x) w6) :
    KeepsOthers W (w6.setCell ⟨o, 0, none⟩ (.slice A (pre.length + 1) c)) ∧ KB o n₀ W (w6.setCell ⟨o, 0, none⟩ (.slice A (pre.length + 1) c)) ∧ TouchI W5 o n₀ gT N (pre ++ [(i : Int)]) (w6.setCell ⟨o, 0, none⟩ (.slice A (pre.length + 1) c)) := by
  have hsz : W5.heap.size ≤ W.heap.size := h.kept.size
  have hkb : KB o n₀ W (w6.setCell ⟨o, 0, none⟩ (.slice A (pre.length + 1) c)) := by
    refine Kept.setCell ?_ (grow.old (.inl rfl)) _
    refine Kept.trans' (((Kept.refl _ W).setCell (grow.old (.inr (Nat.le_of_eq hg.symm))) _).alloc x) (hk.mono fun k _ hk => .inr ?_)
    have := hk.1
    omega
  obtain ⟨v0, h1, h2⟩ := h.ones
  have ho6 : Row w6 o 24 #[v0] := ((h1.far (p := ⟨gT, i, none⟩) (by show o ≠ gT; omega) _).alloc x).kept hk (fun hx => by have := hx.1; omega)
  refine ⟨((((KeepsOthers.setCell _ _ _).trans (KeepsOthers.alloc _ _)).trans (KeepsOthers.of_spare hk)).trans (KeepsOthers.setCell _ _ _)), hkb, ?_, ⟨_, ho6.set_ 0 _, ?_⟩, ?_, h.kept.trans hkb⟩
  · have hr := (((h.row.set_ i (.bool true)).alloc x).kept hk (fun hx => by have := hx.1; omega)).far (p := ⟨o, 0, none⟩) (by show gT ≠ o; omega) (.slice A (pre.length + 1) c)
    rw [bools_set] at hr
    have e : (fun j : Nat => decide ((j : Int) ∈ pre ++ [(i : Int)])) = fun j : Nat => decide ((j : Int) ∈ pre) || decide (j = i) := by
      funext j
      rw [← Bool.decide_or]
      congr 1
      rw [List.mem_append, List.mem_singleton]
      exact propext ⟨fun h => h.imp id (by omega), fun h => h.imp id (by omega)⟩
    rw [e]
    exact hr
  · have e : ints (List.replicate (pre ++ [(i : Int)]).length 1) = ints (List.replicate pre.length 1) ++ [.int .i64 1] := by
      rw [List.length_append, List.length_singleton, List.replicate_succ', ints_append]
      rfl
    rw [e, List.length_append, List.length_singleton]
    refine (hl.mono fun k hk => ?_).row ho6 (by decide) (Kept.cell _ _ _ _)
    rcases hk with hk | hk
    · exact hk
    · have : ((W.setCell ⟨gT, i, none⟩ (.bool true)).alloc x).heap.size = W.heap.size + 1 := by simp [World.setCell]
      omega
  · exact (((h.box.far (p := ⟨gT, i, none⟩) (by show gT + 1 ≠ gT; omega) _).alloc x).kept hk (fun hx => by have := hx.1; omega)).far (p := ⟨o, 0, none⟩) (by show gT + 1 ≠ o; omega) _
end Go.Proofs.Ytielinebhbhegaa
