/- Layer 7: words gone over from the highest one down (slices.Backward). -/
import Derived.RangeFuncNested
import Derived.RangeFuncBound
import Derived.RangeFuncCalls
import Derived.RangeFuncLeaves
import Derived.RangeFuncFrom
import Derived.Shelf.Abstract
import Derived.Shelf.RegionOpen
import Derived.OwnWalkIn
import Derived.TacticsInMore
import Derived.LoopNIn
import Derived.LoopIn
import Derived.ControlIn
import Derived.Test.YtjckojedafajeaaGreatDoorPt06
namespace Go.Proofs.YtjckojedafajeaaGreatDoor
open Go.RowKit Go.Shelf
attribute [local go_sem] Oper.semAt_some

/-! ### Of no program: appending in a round; what grows -/
section
variable {F₁ : Fence} {n₁ : Nat} {P : Program} {ops : Array Oper} {rest : List Oper} {o : Oper} {a : Act} {w : World} {Q : Exit → Act → World → Prop}
theorem wpListIn_append_any (hgd : o.guard = none) (F : Nat → Prop) (s x : Operand) (t : TypeId)
    (ho : o.op = .call { callee := .builtin .append, args := #[s, x], argTypes := #[t, t] }) (e : TypeId) (size bytes : Nat) (z : Value) (ht : P.underlying t = some (.slice e)) (hi : (P.info? e).map (fun i => (i.zero, i.size, i.bytes)) = some (some z, size, bytes))
    (hzs : z.cells.size = size) (hsz : 0 < size) (v : Value) (n : Nat) (xs : List Value) (hs : a.eval s = v) (hown : Lies w F e size v n xs) (A : Option Addr) (m c : Nat) (news : List Value) (hx : a.eval x = .slice A m c)
    (hl : news.length = m * size) (hsrc : Source w A m news) (h1 : ∀ u ∈ news, u.oneCell' = true) (hbytes : (n + m) * bytes ≤ 140737488355328) (hb0 : 0 < bytes)
    (h : ∀ v' w', Lies w' (grow F w) e size v' (n + m) (xs ++ news) → Kept (fun g => F g ∧ Spare v g ∧ ∃ cur, w.heap[g]? = some (.cells cur e (0, 0))) w w' → wpListIn F₁ n₁ P ops Q rest (a.put o.dst v') w') : wpListIn F₁ n₁ P ops Q (o :: rest) a w := by
  obtain ⟨i, hi, hz, hs1, hb⟩ := info_parts hi
  obtain ⟨v', w', hr, h2, h3⟩ := run_append_any (P := P) w F t o.type e i z size bytes ht hi hz hs1 hb hzs hsz v n xs hown A m c news hl hsrc h1 hbytes hb0
  refine wpListIn_plain hgd fun K hK => ?_
  unfold Oper.wpIn
  refine ⟨?_, ?_⟩
  · simp [Oper.about, ho, resolve, Target.leads, Sem.run_pure]
  · rw [Oper.semAt_plain F₁ _ _ (by rw [ho]; intro c hc'; cases hc')]
    simp [execOp, ho, resolve, invoke, builtin, hs, hx, hr, Result.andThen]
    exact hK _ _ (h v' w' h2 h3)
end
theorem KeepsOthers.of_spare {F : Nat → Prop} {w w' : World} {v : Value} {e : TypeId} (h : Kept (fun g => F g ∧ Spare v g ∧ ∃ cur, w.heap[g]? = some (.cells cur e (0, 0))) w w') : KeepsOthers w w' :=
  ⟨h.size, fun k o hk ho => h.heap hk fun ⟨_, _, cur, hc⟩ => by
    rw [hk] at hc
    injection hc with hc
    rw [hc] at ho
    cases ho⟩
theorem KeepsOthers.of_kept {F : Nat → Prop} {w w' : World} (h : Kept F w w') (hF : ∀ k, F k → k < w.heap.size → ∃ cs t fr, w.heap[k]? = some (.cells cs t fr)) : KeepsOthers w w' :=
  ⟨h.size, fun k o hk ho => h.heap hk fun hx => by
    obtain ⟨cs, t, fr, hc⟩ := hF k hx (lt_of_heap hk)
    rw [hk] at hc
    injection hc with hc
    rw [hc] at ho
    cases ho⟩
theorem KeepsOthers.of_below {w w' : World} (h : Below w.heap.size w w') : KeepsOthers w w' := ⟨h.size, fun k _ hk _ => (h.block k (lt_of_heap hk)).trans hk⟩
theorem kept_turn {X : Nat → Prop} {w : World} (hX : ∀ k, w.heap.size ≤ k → X k) (W : World) (l : Nat) (o₁ o' : Obj) (hl : w.heap.size ≤ l) (_ : W.heap[l]? = some o₁) (_ : o₁.isCells = false) (_ : o₁.isWalk = false) : Kept X W (W.putObj l o') := by
  have hg := grownBy_putObj' W l o'
  exact ⟨hg.os, hg.tape, hg.output, hg.size, fun k hk hn => hg.block k hk fun e => hn (by cases e; exact hX _ hl)⟩
theorem kept_grown {X : Nat → Prop} {a W W' : World} {row : Option Nat} (h : Kept X a W) (hg : W.grownBy W' row) (hr : ∀ r, row = some r → X r) : Kept X a W' :=
  h.trans' ⟨hg.os, hg.tape, hg.output, hg.size, fun k hk hn => hg.block k hk fun e => hn (hr k e.symm)⟩
theorem Kept.cellOf {F : Nat → Prop} {w w' : World} (h : Kept F w w') {p : Addr} {v : Value} (hv : w.cell? p = some v) (hp : ¬ F p.block) : w'.cell? p = some v :=
  (World.cell?_of_block (w := w) (h.block p.block (block_lt_of_cell hv) hp)).trans hv
theorem Row.grown {W W' : World} {row : Option Nat} {k : Nat} {cs : Array Value} {t : TypeId} (hk : Row W k t cs) (hg : W.grownBy W' row) (hr : ∀ r, row = some r → ∃ o : Obj, W.heap[r]? = some o ∧ o.isCells = false) : Row W' k t cs :=
  (grownBy_keeps_cells hg hr (k := k) (o := .cells cs t (0, 0)) hk rfl).trans hk
theorem Lies.grown {W W' : World} {row : Option Nat} {F : Nat → Prop} {e : TypeId} {size n : Nat} {v : Value} {xs : List Value} (h : Lies W F e size v n xs) (hg : W.grownBy W' row) (hr : ∀ r, row = some r → ∃ o : Obj, W.heap[r]? = some o ∧ o.isCells = false) : Lies W' F e size v n xs :=
  h.same fun _ cur _ hh => Row.grown (t := e) (cs := cur) hh hg hr

/-! ### Backward -/
/-- The first j of N, from behind. -/
def frBack (N j : Nat) : List (Fin N) := (List.range j).filterMap fun i => if h : i < N then some ⟨N - 1 - i, by omega⟩ else none
theorem frBack_succ {N j : Nat} (h : j < N) : frBack N (j + 1) = frBack N j ++ [⟨N - 1 - j, by omega⟩] := by simp [frBack, List.range_succ, List.filterMap_append, h]
theorem frBack_length {N j : Nat} (h : j ≤ N) : (frBack N j).length = j := by
  induction j with
  | zero => rfl
  | succ j ih => rw [frBack_succ (by omega), List.length_append, ih (by omega)]; rfl
def oneWord (l : List Nat) {N : Nat} (j : Fin N) : Array Value := #[.int .i64 (j.val : Int), .int .u64 (wat l j.val : Int)]
/-- Block q holds a slice of these words. -/
def BackAt (n₀ q : Nat) (l : List Nat) (W : World) : Prop :=
  ∃ A c, W.cell? ⟨q, 0, none⟩ = some (.slice A l.length c) ∧ l.length ≤ c ∧ c ≤ 9223372036854775807 ∧ ∀ k, k < l.length → ∃ b off, A = some ⟨b, off, none⟩ ∧ b < n₀ ∧ W.cell? ⟨b, off + k, none⟩ = some (.int .u64 (wat l k : Int))

set_option maxRecDepth 100000 in
set_option maxHeartbeats 2000000 in
theorem back1 (l₁ n₀ q : Nat) (l : List Nat) (N : Nat) (hN : N = l.length) (hn : N ≤ 4611686018427387904) (Kp : World → World → Prop) (hKc : ∀ W W', Kp W W' → BackAt n₀ q l W → BackAt n₀ q l W') (J Jx : List (Fin N) → World → Prop)
    (hY : ∀ pre x W, J pre W → pre.length < N → YieldAt Fence.wide 2 Tryz.prog l₁ (oneWord l x) W fun e W' =>
      (e = .returned (.bool true) ∧ J (pre ++ [x]) W' ∧ Kp W W') ∨ (e = .returned (.bool false) ∧ Jx (pre ++ [x]) W'))
    (W : World) (hB : BackAt n₀ q l W) (h0 : J [] W) :
    CallsIn Fence.wide 3 Tryz.prog 198 #[.func (.yield l₁) #[] #[], .pointer (some ⟨q, 0, none⟩)] W fun e W' => (∃ v, e = .returned v) ∧
      ((∃ ys, ys = frBack N N ∧ J ys W') ∨ (∃ pre, (∃ j, j ≤ N ∧ pre = frBack N j) ∧ Jx pre W')) := by
  refine callsIn_of_wp Tryz.func198 rfl trivial ?_ rfl
  simp only [Tryz.ntmps198, List.size_toArray, List.length_cons, List.length_nil, Nat.reduceAdd, Nat.reduceSub, Array.replicate_succ, Array.replicate_zero, List.push_toArray, List.append_toArray, List.nil_append, List.cons_append]
  have hB0 := hB
  obtain ⟨A0, c0, k0, _, k2, _⟩ := hB0
  rw [← hN] at k0
  have HN := Lib.hid hN
  clear hN
  gi_wp2
  clear k0
  gi_loopw [3] (fun v3 wr => ∃ j : Nat, j ≤ N ∧ v3 = .int .i64 ((N : Int) - 1 - j) ∧ J (frBack N j) wr ∧ BackAt n₀ q l wr)
    (fun v3 _ => (intOf v3 + 1).toNat)
  case atStart => exact ⟨0, Nat.zero_le _, by simp, h0, hB⟩
  case round =>
    obtain ⟨j, hj, rfl, hJ, hb⟩ := hrel
    by_cases hlt : j < N
    · obtain ⟨fn, tmps, assign, body, hy, hR⟩ := hY (frBack N j) ⟨N - 1 - j, by omega⟩ wr hJ (by rw [frBack_length hj]; exact hlt)
      rw [← frBack_succ hlt] at hR
      obtain ⟨A, c, c1, h1, h2, h3⟩ := hb
      obtain ⟨b, off, rfl, _, hck⟩ := h3 (N - 1 - j) (by rw [← HN.out]; omega)
      have HK : Hid (∀ W', Kp wr W' → BackAt n₀ q l W') := Lib.hid fun W' hk => hKc wr W' hk ⟨_, c, c1, h1, h2, h3⟩
      unfold oneWord at hy
      obtain ⟨i, hi⟩ : ∃ i, i = N - 1 - j := ⟨_, rfl⟩
      simp only at hy
      rw [← hi] at hy hck
      rw [← HN.out] at c1 h1
      have hii : (N : Int) - 1 - j = (i : Int) := by omega
      rw [hii]
      have hiN : i < N := by omega
      have HI : Hid (i = N - 1 - j) := Lib.hid hi
      clear hY hKc h3 hJ hB h0 hi hii
      generalize wat l i = x at *
      gi_wp2
      refine hR.mono ?_
      rintro e W3 (⟨rfl, hJ3, hk3⟩ | ⟨rfl, hJx3⟩)
      · have hb3 := HK.out W3 hk3
        clear hck hy hR hk3 HK c1
        gi_wp2
        go_roundw
        case rel => exact ⟨j + 1, by omega, by have := HI.out; go_num, hJ3, hb3⟩
        case measure => simp [intOf]
      · gi_wp2
        refine bodyPost_ret (results_none rfl _ _ _) rfl ?_
        exact ⟨⟨_, rfl⟩, .inr ⟨frBack N (j + 1), ⟨j + 1, by omega, rfl⟩, hJx3⟩⟩
    · obtain rfl : j = N := by omega
      have h9 : ¬ (0 : Int) ≤ (j : Int) - 1 - j := by omega
      gi_wp2
      go_end0
      exact ⟨⟨_, rfl⟩, .inl hJ⟩

theorem BackAt.kept {n₀ q : Nat} {l : List Nat} {W W' : World} {F : Nat → Prop} (h : BackAt n₀ q l W) (hb : Kept F W W') (hq : ¬ F q) (hF : ∀ k, k < n₀ → ¬ F k) : BackAt n₀ q l W' := by
  obtain ⟨A, c, h1, h2, h3, h4⟩ := h
  refine ⟨A, c, hb.cellOf h1 hq, h2, h3, fun k hk => ?_⟩
  obtain ⟨b, off, e, hlt, hc⟩ := h4 k hk
  exact ⟨b, off, e, hlt, hb.cellOf hc (hF _ hlt)⟩
theorem BackAt.below {n₀ B q : Nat} {l : List Nat} {W W' : World} (h : BackAt n₀ q l W) (hb : Below B W W') (hq : q < B) (hB : n₀ ≤ B) : BackAt n₀ q l W' := by
  obtain ⟨A, c, h1, h2, h3, h4⟩ := h
  refine ⟨A, c, (hb.cell (p := ⟨q, 0, none⟩) hq).trans h1, h2, h3, fun k hk => ?_⟩
  obtain ⟨b, off, e, hlt, hc⟩ := h4 k hk
  exact ⟨b, off, e, hlt, (hb.cell (p := ⟨b, off + k, none⟩) (by show b < B; omega)).trans hc⟩
theorem back_stops (n₀ q : Nat) (l : List Nat) (N : Nat) (hN : N = l.length) (hn : N ≤ 4611686018427387904) (Kp : World → World → Prop) (hKc : ∀ W W', Kp W W' → BackAt n₀ q l W → BackAt n₀ q l W') (w : World) (hq : q < w.heap.size) (hw : n₀ ≤ w.heap.size) (h : BackAt n₀ q l w) :
    SeqStopsK Fence.wide 3 Tryz.prog 198 #[.pointer (some ⟨q, 0, none⟩)] (oneWord l (N := N)) Kp (fun ys => ys = frBack N N) (fun pre => ∃ j, j ≤ N ∧ pre = frBack N j) N w := by
  intro l₁ J Jx W hW _ _ hY h0
  exact back1 l₁ n₀ q l N hN hn Kp hKc J Jx hY W (h.below hW hq hw) h0
/-- What Backward hands back. -/
def BackPost (n₁ : Nat) (w : World) (l : List Nat) (e : Ending) (w' : World) : Prop :=
  e = .returned (.func (.func 198) #[] #[.pointer (some ⟨w.heap.size, 0, none⟩)]) ∧ BackAt n₁ w.heap.size l w' ∧ Below w.heap.size w w' ∧ w'.heap.size = w.heap.size + 1
theorem back_ok (v : Value) (l : List Nat) (w₁ w : World) (h : Wds w₁ v l) (hbe : Below w₁.heap.size w₁ w) :
    Calls Tryz.prog 195 #[v] w (BackPost w₁.heap.size w l) := by
  obtain ⟨h0, A, c, rfl, h2, h3, _, h4⟩ := h
  have hb : Below w.heap.size w (w.alloc (.cells #[.slice A l.length c] 181)) := (Below.refl _ _).alloc (Nat.le_refl _) _
  have HL : Hid (BackAt w₁.heap.size w.heap.size l (w.alloc (.cells #[.slice A l.length c] 181))) := Lib.hid ⟨A, c, (Row.new w _ _).cell rfl, h2, h3, fun k hk => by
    obtain ⟨b, off, e, hlt, hr⟩ := h4 (by omega)
    exact ⟨b, off, e, hlt, ((hbe.call hb).cell (p := ⟨b, off + k, none⟩) hlt).trans (hr k _ (u64s_get l hk))⟩⟩
  have HB := Lib.hid hb
  clear hb h4 hbe
  go_enter Tryz.func195, Tryz.ntmps195
  go_wp2
  go_ret
  exact ⟨rfl, HL.out, HB.out, by simp⟩
end Go.Proofs.YtjckojedafajeaaGreatDoor
