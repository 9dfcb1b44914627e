/- Layer 2's law: a list's values, handed to rounds that write one block ahead of it. -/
import Derived.Test.YtdaefhlfalhfnaaDoorPt14
import Derived.Test.YtdaefhlfalhfnaaDoorPt11
namespace Go.Proofs.YtdaefhlfalhfnaaDoor
open Go.RowKit Go.Shelf
attribute [local go_sem] Oper.semAt_some

/-- What a round keeps: all below n₀ but block o. -/
def KB (o n₀ : Nat) (W W' : World) : Prop := Kept (fun k => k = o ∨ n₀ ≤ k) W W'
theorem KB.refl (o n₀ : Nat) (W : World) : KB o n₀ W W := Kept.refl _ _
theorem KB.trans {o n₀ : Nat} {A B C : World} (h : KB o n₀ A B) (k : KB o n₀ B C) : KB o n₀ A C := Kept.trans' h k
theorem KB.cell {o n₀ : Nat} {W W' : World} (h : KB o n₀ W W') {p : Addr} {v : Value} (hv : W.cell? p = some v) (hn : p.block < n₀) (ho : p.block ≠ o) : W'.cell? p = some v :=
  (World.cell?_of_block (w := W) (h.block p.block (block_lt_of_cell hv) (by rintro (hx | hx); exact ho hx; omega))).trans hv
theorem KB.of {F : Nat → Prop} {o n₀ : Nat} {W W' : World} (h : Kept F W W') (hf : ∀ k, F k → k = o ∨ n₀ ≤ k) : KB o n₀ W W' := h.mono fun k _ hk => hf k hk
theorem KB.under {o n₀ B : Nat} {W W' : World} (h : Below B W W') (hB : n₀ ≤ B) : KB o n₀ W W' :=
  ⟨h.os, h.tape, h.output, h.size, fun k _ hk => h.block k (by
    rcases Nat.lt_or_ge k n₀ with h1 | h1
    · omega
    · exact absurd (.inr h1) hk)⟩
theorem KB.turn {o n₀ : Nat} {w : World} (hn : n₀ ≤ w.heap.size) (W : World) (l : Nat) (o₁ o' : Obj) (hl : w.heap.size ≤ l) (h : W.heap[l]? = some o₁) (_ : o₁.isCells = false) (_ : o₁.isWalk = false) : KB o n₀ W (W.putObj l o') := by
  have hb : Below n₀ W (W.putObj l o') := (Below.refl n₀ W).grown (grownBy_putObj' W l o') (by have := (Array.getElem?_eq_some_iff.1 h).1; omega) (fun k e => by cases e; omega)
  exact KB.under hb (Nat.le_refl _)
set_option maxRecDepth 100000 in
set_option maxHeartbeats 2000000 in
theorem values1K (l₁ q o n₀ : Nat) (A : Option Addr) (c : Nat) (l : List Int) (hn : l.length ≤ 9223372036854775807) (J Jx : List Int → World → Prop)
    (hY : ∀ pre x W, J pre W → pre.length < l.length → YieldAt Fence.wide 2 Tryd.prog l₁ (oneInt x) W fun e W' =>
      (e = .returned (.bool true) ∧ J (pre ++ [x]) W' ∧ KB o n₀ W W') ∨ (e = .returned (.bool false) ∧ Jx (pre ++ [x]) W'))
    (W : World) (hcell : W.cell? ⟨q, 0, none⟩ = some (.slice A l.length c)) (hc : ∀ k, k < l.length → ∃ b off, A = some ⟨b, off, none⟩ ∧ b < n₀ ∧ b ≠ o ∧ W.cell? ⟨b, off + k, none⟩ = some (.int .i64 (l.getD k 0))) (h0 : J [] W) :
    CallsIn Fence.wide 3 Tryd.prog 78 #[.func (.yield l₁) #[] #[], .pointer (some ⟨q, 0, none⟩)] W fun e W' => (∃ v, e = .returned v) ∧
      ((∃ ys, ys = l ∧ J ys W') ∨ (∃ pre, (pre <+: l) ∧ Jx pre W')) := by
  refine callsIn_of_wp Tryd.func78 rfl trivial ?_ rfl
  simp only [Tryd.ntmps78, List.size_toArray, List.length_cons, List.length_nil, Nat.reduceAdd, Nat.reduceSub, Array.replicate_succ, Array.replicate_zero, List.push_toArray, List.append_toArray, List.nil_append, List.cons_append]
  gi_wp2
  gi_loopw [7] (fun v7 wr => ∃ k : Nat, k ≤ l.length ∧ v7 = .int .i64 k ∧ J (l.take k) wr ∧ KB o n₀ W wr)
    (fun v7 _ => l.length - (intOf v7).toNat)
  case atStart => exact ⟨0, Nat.zero_le _, rfl, h0, KB.refl _ _ _⟩
  case round =>
    obtain ⟨k, hk, rfl, hJs, hnx⟩ := hrel
    by_cases hlt : k < l.length
    · obtain ⟨b, off, rfl, hb, hbo, hck⟩ := hc k hlt
      obtain ⟨fn, tmps, assign, body, hy, hR⟩ := hY (l.take k) (l.getD k 0) wr hJs (by simp; omega)
      have hckw := hnx.cell hck hb hbo
      have HT := Lib.hid (show l.take k ++ [l.getD k 0] = l.take (k + 1) by rw [List.take_succ_eq_append_getElem hlt]; simp [List.getD_eq_getElem?_getD, hlt])
      rw [HT.out] at hR
      unfold oneInt at hy
      clear hck hc
      generalize l.getD k 0 = x at *
      gi_wp2
      refine hR.mono ?_
      rintro e W3 (⟨rfl, hJ3, hk3⟩ | ⟨rfl, hJx3⟩)
      · have hb3 := hnx.trans hk3
        clear hckw hy hR
        gi_wp2
        go_roundw
        case rel => exact ⟨k + 1, by omega, by go_num, hJ3, hb3⟩
        case measure => simp [intOf]; omega
      · gi_wp2
        refine bodyPost_ret (results_none rfl _ _ _) rfl ?_
        exact ⟨⟨_, rfl⟩, .inr ⟨l.take (k + 1), List.take_prefix _ _, hJx3⟩⟩
    · obtain rfl : k = l.length := by omega
      rw [List.take_length] at hJs
      gi_wp2
      go_end0
      exact ⟨⟨_, rfl⟩, .inl ⟨_, rfl, hJs⟩⟩


theorem valuesK_stops (q o n₀ : Nat) (l : List Int) (hn : l.length ≤ 9223372036854775807) (hq : q < n₀) (hqo : q ≠ o) (w : World) (hw : n₀ ≤ w.heap.size) (h : ListAt n₀ q l w) {t : TypeId} {A : Option Addr} {m c : Nat} (ho : Row w o t #[.slice A m c]) :
    SeqStopsK Fence.wide 3 Tryd.prog 78 #[.pointer (some ⟨q, 0, none⟩)] oneInt (KB o n₀) (fun ys => ys = l) (fun pre => pre <+: l) l.length w := by
  intro l₁ J Jx W hW _ _ hY h0
  obtain ⟨A1, c1, h1, h2⟩ := h.below hW (by omega) hw
  refine values1K l₁ q o n₀ A1 c1 l hn J Jx hY W h1 (fun k hk => ?_) h0
  obtain ⟨b, off, e, hb, hc⟩ := h2 k hk
  refine ⟨b, off, e, hb, fun hbo => ?_, hc⟩
  subst hbo
  have hr := ho.call hW
  rcases Nat.eq_zero_or_pos (off + k) with h9 | h9
  · rw [h9, hr.cell (i := 0) rfl] at hc
    injection hc with hc
    cases hc
  · have hnone : W.cell? ⟨b, off + k, none⟩ = none := by
      rw [cell_of_row W b (off + k) _ t (0, 0) hr]
      exact Array.getElem?_eq_none (by simp; omega)
    rw [hnone] at hc
    cases hc
section
variable {F₁ : Fence} {n₁ : Nat} {P : Program} {ops : Array Oper} {rest : List Oper} {o : Oper} {a : Act} {w : World} {Q : Exit → Act → World → Prop}
theorem wpListIn_append_any (hgd : o.guard = none) (F : Nat → Prop) (s x : Operand) (t : TypeId)
    (ho : o.op = .call { callee := .builtin .append, args := #[s, x], argTypes := #[t, t] }) (e : TypeId) (size bytes : Nat) (z : Value) (ht : P.underlying t = some (.slice e)) (hi : (P.info? e).map (fun i => (i.zero, i.size, i.bytes)) = some (some z, size, bytes))
    (hzs : z.cells.size = size) (hsz : 0 < size) (v : Value) (n : Nat) (xs : List Value) (hs : a.eval s = v) (hown : Lies w F e size v n xs) (A : Option Addr) (m c : Nat) (news : List Value) (hx : a.eval x = .slice A m c)
    (hl : news.length = m * size) (hsrc : Source w A m news) (h1 : ∀ u ∈ news, u.oneCell' = true) (hbytes : (n + m) * bytes ≤ 140737488355328) (hb0 : 0 < bytes)
    (h : ∀ v' w', Lies w' (grow F w) e size v' (n + m) (xs ++ news) → Kept (fun g => F g ∧ Spare v g ∧ ∃ cur, w.heap[g]? = some (.cells cur e (0, 0))) w w' → wpListIn F₁ n₁ P ops Q rest (a.put o.dst v') w') : wpListIn F₁ n₁ P ops Q (o :: rest) a w := by
  obtain ⟨i, hi, hz, hs1, hb⟩ := info_parts hi
  obtain ⟨v', w', hr, h2, h3⟩ := run_append_any (P := P) w F t o.type e i z size bytes ht hi hz hs1 hb hzs hsz v n xs hown A m c news hl hsrc h1 hbytes hb0
  refine wpListIn_plain hgd fun K hK => ?_
  unfold Oper.wpIn
  refine ⟨?_, ?_⟩
  · simp [Oper.about, ho, resolve, Target.leads, Sem.run_pure]
  · rw [Oper.semAt_plain F₁ _ _ (by rw [ho]; intro c hc'; cases hc')]
    simp [execOp, ho, resolve, invoke, builtin, hs, hx, hr, Result.andThen]
    exact hK _ _ (h v' w' h2 h3)
end
theorem KeepsOthers.of_spare {F : Nat → Prop} {w w' : World} {v : Value} {e : TypeId} (h : Kept (fun g => F g ∧ Spare v g ∧ ∃ cur, w.heap[g]? = some (.cells cur e (0, 0))) w w') : KeepsOthers w w' :=
  ⟨h.size, fun k o hk ho => h.heap hk fun ⟨_, _, cur, hc⟩ => by
    rw [hk] at hc
    injection hc with hc
    rw [hc] at ho
    cases ho⟩

theorem KB.grown {o n₀ : Nat} {a W W' : World} {row : Option Nat} (h : KB o n₀ a W) (hg : W.grownBy W' row) (hr : ∀ r, row = some r → n₀ ≤ r) : KB o n₀ a W' :=
  h.trans ⟨hg.os, hg.tape, hg.output, hg.size, fun k hk hn => hg.block k hk fun e => hn (.inr (hr k e.symm))⟩
end Go.Proofs.YtdaefhlfalhfnaaDoor
