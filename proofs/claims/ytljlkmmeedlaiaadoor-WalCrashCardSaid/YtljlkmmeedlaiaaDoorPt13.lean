/- Layer 2's law: a list's values, handed to rounds that write one block ahead of it. -/
import Derived.Test.YtljlkmmeedlaiaaDoorPt12
import Derived.Test.YtljlkmmeedlaiaaDoorPt10
import Derived.Test.YtljlkmmeedlaiaaDoorPt11
namespace Go.Proofs.YtljlkmmeedlaiaaDoor
open Go.RowKit Go.Shelf
attribute [local go_sem] Oper.semAt_some

/-- What a round keeps: all below n₀ but block o. -/
def KB (o n₀ : Nat) (W W' : World) : Prop := Kept (fun k => k = o ∨ n₀ ≤ k) W W'
theorem KB.refl (o n₀ : Nat) (W : World) : KB o n₀ W W := Kept.refl _ _
theorem KB.trans {o n₀ : Nat} {A B C : World} (h : KB o n₀ A B) (k : KB o n₀ B C) : KB o n₀ A C := Kept.trans' h k
theorem KB.cell {o n₀ : Nat} {W W' : World} (h : KB o n₀ W W') {p : Addr} {v : Value} (hv : W.cell? p = some v) (hn : p.block < n₀) (ho : p.block ≠ o) : W'.cell? p = some v :=
  (World.cell?_of_block (w := W) (h.block p.block (block_lt_of_cell hv) (by rintro (hx | hx); exact ho hx; omega))).trans hv
theorem KB.of {F : Nat → Prop} {o n₀ : Nat} {W W' : World} (h : Kept F W W') (hf : ∀ k, F k → k = o ∨ n₀ ≤ k) : KB o n₀ W W' := h.mono fun k _ hk => hf k hk
theorem KB.under {o n₀ B : Nat} {W W' : World} (h : Below B W W') (hB : n₀ ≤ B) : KB o n₀ W W' :=
  ⟨h.os, h.tape, h.output, h.size, fun k _ hk => h.block k (by
    rcases Nat.lt_or_ge k n₀ with h1 | h1
    · omega
    · exact absurd (.inr h1) hk)⟩
theorem KB.turn {o n₀ : Nat} {w : World} (hn : n₀ ≤ w.heap.size) (W : World) (l : Nat) (o₁ o' : Obj) (hl : w.heap.size ≤ l) (h : W.heap[l]? = some o₁) (_ : o₁.isCells = false) (_ : o₁.isWalk = false) : KB o n₀ W (W.putObj l o') := by
  have hb : Below n₀ W (W.putObj l o') := (Below.refl n₀ W).grown (grownBy_putObj' W l o') (by have := (Array.getElem?_eq_some_iff.1 h).1; omega) (fun k e => by cases e; omega)
  exact KB.under hb (Nat.le_refl _)
set_option maxRecDepth 100000 in
set_option maxHeartbeats 2000000 in
theorem values1K (l₁ q o n₀ : Nat) (A : Option Addr) (c : Nat) (l : List Int) (hn : l.length ≤ 9223372036854775807) (J Jx : List Int → World → Prop)
    (hY : ∀ pre x W, J pre W → pre.length < l.length → YieldAt Fence.wide 2 Tryd.prog l₁ (oneInt x) W fun e W' =>
      (e = .returned (.bool true) ∧ J (pre ++ [x]) W' ∧ KB o n₀ W W') ∨ (e = .returned (.bool false) ∧ Jx (pre ++ [x]) W'))
    (W : World) (hcell : W.cell? ⟨q, 0, none⟩ = some (.slice A l.length c)) (hc : ∀ k, k < l.length → ∃ b off, A = some ⟨b, off, none⟩ ∧ b < n₀ ∧ b ≠ o ∧ W.cell? ⟨b, off + k, none⟩ = some (.int .i64 (l.getD k 0))) (h0 : J [] W) :
    CallsIn Fence.wide 3 Tryd.prog 78 #[.func (.yield l₁) #[] #[], .pointer (some ⟨q, 0, none⟩)] W fun e W' => (∃ v, e = .returned v) ∧
      ((∃ ys, ys = l ∧ J ys W') ∨ (∃ pre, (pre <+: l) ∧ Jx pre W')) := by
  refine callsIn_of_wp Tryd.func78 rfl trivial ?_ rfl
  simp only [Tryd.ntmps78, List.size_toArray, List.length_cons, List.length_nil, Nat.reduceAdd, Nat.reduceSub, Array.replicate_succ, Array.replicate_zero, List.push_toArray, List.append_toArray, List.nil_append, List.cons_append]
  gi_wp2
  gi_loopw [7] (fun v7 wr => ∃ k : Nat, k ≤ l.length ∧ v7 = .int .i64 k ∧ J (l.take k) wr ∧ KB o n₀ W wr)
    (fun v7 _ => l.length - (intOf v7).toNat)
  case atStart => exact ⟨0, Nat.zero_le _, rfl, h0, KB.refl _ _ _⟩
  case round =>
    obtain ⟨k, hk, rfl, hJs, hnx⟩ := hrel
    by_cases hlt : k < l.length
    · obtain ⟨b, off, rfl, hb, hbo, hck⟩ := hc k hlt
      obtain ⟨fn, tmps, assign, body, hy, hR⟩ := hY (l.take k) (l.getD k 0) wr hJs (by simp; omega)
      have hckw := hnx.cell hck hb hbo
      have HT := Lib.hid (show l.take k ++ [l.getD k 0] = l.take (k + 1) by rw [List.take_succ_eq_append_getElem hlt]; simp [List.getD_eq_getElem?_getD, hlt])
      rw [HT.out] at hR
      unfold oneInt at hy
      clear hck hc
      generalize l.getD k 0 = x at *
      gi_wp2
      refine hR.mono ?_
      rintro e W3 (⟨rfl, hJ3, hk3⟩ | ⟨rfl, hJx3⟩)
      · have hb3 := hnx.trans hk3
        clear hckw hy hR
        gi_wp2
        go_roundw
        case rel => exact ⟨k + 1, by omega, by go_num, hJ3, hb3⟩
        case measure => simp [intOf]; omega
      · gi_wp2
        refine bodyPost_ret (results_none rfl _ _ _) rfl ?_
        exact ⟨⟨_, rfl⟩, .inr ⟨l.take (k + 1), List.take_prefix _ _, hJx3⟩⟩
    · obtain rfl : k = l.length := by omega
      rw [List.take_length] at hJs
      gi_wp2
      go_end0
      exact ⟨⟨_, rfl⟩, .inl ⟨_, rfl, hJs⟩⟩


theorem valuesK_stops (q o n₀ : Nat) (l : List Int) (hn : l.length ≤ 9223372036854775807) (hq : q < n₀) (hqo : q ≠ o) (w : World) (hw : n₀ ≤ w.heap.size) (h : ListAt n₀ q l w) {t : TypeId} {A : Option Addr} {m c : Nat} (ho : Row w o t #[.slice A m c]) :
    SeqStopsK Fence.wide 3 Tryd.prog 78 #[.pointer (some ⟨q, 0, none⟩)] oneInt (KB o n₀) (fun ys => ys = l) (fun pre => pre <+: l) l.length w := by
  intro l₁ J Jx W hW _ _ hY h0
  obtain ⟨A1, c1, h1, h2⟩ := h.below hW (by omega) hw
  refine values1K l₁ q o n₀ A1 c1 l hn J Jx hY W h1 (fun k hk => ?_) h0
  obtain ⟨b, off, e, hb, hc⟩ := h2 k hk
  refine ⟨b, off, e, hb, fun hbo => ?_, hc⟩
  subst hbo
  have hr := ho.call hW
  rcases Nat.eq_zero_or_pos (off + k) with h9 | h9
  · rw [h9, hr.cell (i := 0) rfl] at hc
    injection hc with hc
    cases hc
  · have hnone : W.cell? ⟨b, off + k, none⟩ = none := by
      rw [cell_of_row W b (off + k) _ t (0, 0) hr]
      exact Array.getElem?_eq_none (by simp; omega)
    rw [hnone] at hc
    cases hc
section
variable {F₁ : Fence} {n₁ : Nat} {P : Program} {ops : Array Oper} {rest : List Oper} {o : Oper} {a : Act} {w : World} {Q : Exit → Act → World → Prop}
theorem wpListIn_append_any (hgd : o.guard = none) (F : Nat → Prop) (s x : Operand) (t : TypeId)
    (ho : o.op = .call { callee := .builtin .append, args := #[s, x], argTypes := #[t, t] }) (e : TypeId) (size bytes : Nat) (z : Value) (ht : P.underlying t = some (.slice e)) (hi : (P.info? e).map (fun i => (i.zero, i.size, i.bytes)) = some (some z, size, bytes))
    (hzs : z.cells.size = size) (hsz : 0 < size) (v : Value) (n : Nat) (xs : List Value) (hs : a.eval s = v) (hown : Lies w F e size v n xs) (A : Option Addr) (m c : Nat) (news : List Value) (hx : a.eval x = .slice A m c)
    (hl : news.length = m * size) (hsrc : Source w A m news) (h1 : ∀ u ∈ news, u.oneCell' = true) (hbytes : (n + m) * bytes ≤ 140737488355328) (hb0 : 0 < bytes)
    (h : ∀ v' w', Lies w' (grow F w) e size v' (n + m) (xs ++ news) → Kept (fun g => F g ∧ Spare v g ∧ ∃ cur, w.heap[g]? = some (.cells cur e (0, 0))) w w' → wpListIn F₁ n₁ P ops Q rest (a.put o.dst v') w') : wpListIn F₁ n₁ P ops Q (o :: rest) a w := by
  obtain ⟨i, hi, hz, hs1, hb⟩ := info_parts hi
  obtain ⟨v', w', hr, h2, h3⟩ := run_append_any (P := P) w F t o.type e i z size bytes ht hi hz hs1 hb hzs hsz v n xs hown A m c news hl hsrc h1 hbytes hb0
  refine wpListIn_plain hgd fun K hK => ?_
  unfold Oper.wpIn
  refine ⟨?_, ?_⟩
  · simp [Oper.about, ho, resolve, Target.leads, Sem.run_pure]
  · rw [Oper.semAt_plain F₁ _ _ (by rw [ho]; intro c hc'; cases hc')]
    simp [execOp, ho, resolve, invoke, builtin, hs, hx, hr, Result.andThen]
    exact hK _ _ (h v' w' h2 h3)
end
theorem KeepsOthers.of_spare {F : Nat → Prop} {w w' : World} {v : Value} {e : TypeId} (h : Kept (fun g => F g ∧ Spare v g ∧ ∃ cur, w.heap[g]? = some (.cells cur e (0, 0))) w w') : KeepsOthers w w' :=
  ⟨h.size, fun k o hk ho => h.heap hk fun ⟨_, _, cur, hc⟩ => by
    rw [hk] at hc
    injection hc with hc
    rw [hc] at ho
    cases ho⟩

theorem KB.grown {o n₀ : Nat} {a W W' : World} {row : Option Nat} (h : KB o n₀ a W) (hg : W.grownBy W' row) (hr : ∀ r, row = some r → n₀ ≤ r) : KB o n₀ a W' :=
  h.trans ⟨hg.os, hg.tape, hg.output, hg.size, fun k hk hn => hg.block k hk fun e => hn (.inr (hr k e.symm))⟩
end Go.Proofs.YtljlkmmeedlaiaaDoor
/- Layer 3: bytes made and copied in a round of a range over a function; what a round keeps. -/
namespace Go.Proofs.YtljlkmmeedlaiaaDoor
open Go.RowKit Go.Shelf
attribute [local go_sem] Oper.semAt_some

section
variable {F₁ : Fence} {n₁ : Nat} {P : Program} {ops : Array Oper} {rest : List Oper} {o : Oper} {a : Act} {w : World} {Q : Exit → Act → World → Prop}
theorem wpListIn_make_bytes (hgd : o.guard = none) (t e : TypeId) (x : Operand) (ho : o.op = .makeSlice t x x) (n : Nat) (hx : a.eval x = .int .i64 n) (ht : P.underlying t = some (.slice e))
    (hi : (P.info? e).map (fun i => (i.zero, i.size, i.bytes)) = some (some (.int .u8 0), 1, 1)) (hn : n ≤ 281474976710656)
    (h : wpListIn F₁ n₁ P ops Q rest (a.put o.dst (.slice (some ⟨w.heap.size, 0, none⟩) n n)) (w.alloc (.cells (cellsOf (List.replicate n 0)).toArray e))) : wpListIn F₁ n₁ P ops Q (o :: rest) a w := by
  obtain ⟨i, hi, hz, hs, hb⟩ := info_parts hi
  have hr := run_make (P := P) w t e i _ ht hi hz .i64 .i64 n n (by omega) (Int.le_refl _) (by rw [hb]; omega) (by omega)
  rw [hs, Nat.mul_one] at hr
  have e1 : madeCells (Value.int .u8 0).cells n = (cellsOf (List.replicate n 0)).toArray := by
    apply Array.toList_inj.1
    have := toList_madeCells_one (.int .u8 0) n
    simp only [cellsOf, List.map_replicate]
    exact this
  simp only [Int.toNat_natCast] at hr
  rw [e1] at hr
  refine wpListIn_plain hgd fun K hK => ?_
  unfold Oper.wpIn
  refine ⟨?_, ?_⟩
  · simp [Oper.about, ho]
  · rw [Oper.semAt_plain F₁ _ _ (by rw [ho]; intro c hc'; cases hc')]
    simp [execOp, ho, hx, hr, Result.andThen]
    exact hK _ _ h
/-- 'copy(d, s)' of all of s, which is not empty, into a row of bytes, from place 'off' on. -/
theorem wpListIn_copy_bytes (hgd : o.guard = none) (d s : Operand) (t e : TypeId) (ho : o.op = .call { callee := .builtin .copy, args := #[d, s], argTypes := #[t, t] }) (ht : P.underlying t = some (.slice e))
    (hi : (P.info? e).map (·.size) = some 1) (g off dn dc : Nat) (A : Option Addr) (n c : Nat) (l cur : List Nat) (hd : a.eval d = .slice (some ⟨g, off, none⟩) dn dc) (hs : a.eval s = .slice A n c)
    (hA : Bytes w A n l) (h0 : 0 < n) (hle : n ≤ dn) (hg : Row w g e (cellsOf cur).toArray) (hfit : off + n ≤ cur.length)
    (h : ∀ w', Row w' g e (cellsOf (over cur off l)).toArray → Kept (· = g) w w' → wpListIn F₁ n₁ P ops Q rest (a.put o.dst (goInt n)) w') : wpListIn F₁ n₁ P ops Q (o :: rest) a w := by
  have hlen : (cellsOf l).length = n := by rw [cellsOf_length, hA.len]
  obtain ⟨b, off2, rfl, _, hcell⟩ := hA.at_ h0
  have hr := run_copy_row (P := P) w t t o.type e g off dn dc ⟨b, off2, none⟩ n c (cellsOf cur).toArray e (cellsOf l) ht hi hg (by rw [hlen]; exact (Nat.min_eq_left hle).symm) hcell (by rw [hlen, List.size_toArray, cellsOf_length]; exact hfit) (cellsOf_one l)
  rw [hlen] at hr
  have e1 : ((cellsOf cur).toArray.toList.take off ++ cellsOf l ++ (cellsOf cur).toArray.toList.drop (off + n)).toArray = (cellsOf (over cur off l)).toArray := by
    unfold over
    rw [hA.len]
    simp [cellsOf]
  rw [e1] at hr
  refine wpListIn_plain hgd fun K hK => ?_
  unfold Oper.wpIn
  refine ⟨?_, ?_⟩
  · simp [Oper.about, ho, resolve, Target.leads, Sem.run_pure]
  · rw [Oper.semAt_plain F₁ _ _ (by rw [ho]; intro c hc'; cases hc')]
    simp [execOp, ho, resolve, invoke, builtin, hd, hs, hr, Result.andThen]
    exact hK _ _ (h _ (setRow_heap _ _ _ _ _ _ hg) ((Kept.refl _ _).setRow (grow.old (F := (· = g)) rfl) _))
end
theorem Kept.cellOf {F : Nat → Prop} {w w' : World} (h : Kept F w w') {p : Addr} {v : Value} (hv : w.cell? p = some v) (hp : ¬ F p.block) : w'.cell? p = some v :=
  (World.cell?_of_block (w := w) (h.block p.block (block_lt_of_cell hv) hp)).trans hv
/-- What a round touches are cells alone. -/
theorem KeepsOthers.of_kept {F : Nat → Prop} {w w' : World} (h : Kept F w w') (hF : ∀ k, F k → k < w.heap.size → ∃ cs t fr, w.heap[k]? = some (.cells cs t fr)) : KeepsOthers w w' :=
  ⟨h.size, fun k o hk ho => h.heap hk fun hf => by
    obtain ⟨cs, t, fr, hc⟩ := hF k hf (lt_of_heap hk)
    rw [hk] at hc
    injection hc with hc
    rw [hc] at ho
    cases ho⟩
theorem KeepsOthers.of_below {w w' : World} (h : Below w.heap.size w w') : KeepsOthers w w' := ⟨h.size, fun k _ hk _ => (h.block k (lt_of_heap hk)).trans hk⟩
theorem kept_turn {X : Nat → Prop} {w : World} (hX : ∀ k, w.heap.size ≤ k → X k) (W : World) (l : Nat) (o₁ o' : Obj) (hl : w.heap.size ≤ l) (_ : W.heap[l]? = some o₁) (_ : o₁.isCells = false) (_ : o₁.isWalk = false) : Kept X W (W.putObj l o') := by
  have hg := grownBy_putObj' W l o'
  exact ⟨hg.os, hg.tape, hg.output, hg.size, fun k hk hn => hg.block k hk fun e => hn (by cases e; exact hX _ hl)⟩
theorem kept_grown {X : Nat → Prop} {a W W' : World} {row : Option Nat} (h : Kept X a W) (hg : W.grownBy W' row) (hr : ∀ r, row = some r → X r) : Kept X a W' :=
  h.trans' ⟨hg.os, hg.tape, hg.output, hg.size, fun k hk hn => hg.block k hk fun e => hn (hr k e.symm)⟩
/-- Rows and slices stay as an iterator's step turns what is no cells. -/
theorem Row.grown {W W' : World} {row : Option Nat} {k : Nat} {cs : Array Value} {t : TypeId} (hk : Row W k t cs) (hg : W.grownBy W' row) (hr : ∀ r, row = some r → ∃ o : Obj, W.heap[r]? = some o ∧ o.isCells = false) : Row W' k t cs :=
  (grownBy_keeps_cells hg hr (k := k) (o := .cells cs t (0, 0)) hk rfl).trans hk
theorem Lies.grown {W W' : World} {row : Option Nat} {F : Nat → Prop} {e : TypeId} {size n : Nat} {v : Value} {xs : List Value} (h : Lies W F e size v n xs) (hg : W.grownBy W' row) (hr : ∀ r, row = some r → ∃ o : Obj, W.heap[r]? = some o ∧ o.isCells = false) : Lies W' F e size v n xs :=
  h.same fun _ cur _ hh => Row.grown (t := e) (cs := cur) hh hg hr
end Go.Proofs.YtljlkmmeedlaiaaDoor
