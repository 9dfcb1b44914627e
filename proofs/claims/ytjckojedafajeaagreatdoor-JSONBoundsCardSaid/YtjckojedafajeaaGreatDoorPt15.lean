/- Of no program: a region whose operations come in an order that is drawn, in a round of a range over a function (as wip/wal's WalHeld, for seats without wal). -/
import Derived.Test.YtjckojedafajeaaGreatDoorPt07
import Derived.OrdersHeld
import Derived.OrdersIn
import Derived.Test.YtjckojedafajeaaGreatDoorPt14
namespace Go.Proofs.YtjckojedafajeaaGreatDoor
open Go.RowKit Go.Shelf
attribute [local go_sem] Oper.semAt_some

section
variable {F₁ : Fence} {n₁ : Nat} {P : Program} {ops : Array Oper} {rest : List Oper} {o : Oper} {a : Act} {w : World} {Q : Exit → Act → World → Prop}
theorem run_slice2 {P : Program} (w : World) (t e : TypeId) (ht : P.underlying t = some (.slice e)) (hi1 : (P.info? e).map (·.size) = some 1) (g off n c a1 b1 : Nat) (ka kb : IntKind) (h1 : a1 ≤ b1) (h2 : b1 ≤ c) (h3 : a1 < c) :
    (Instr.sliceAt t (.slice (some ⟨g, off, none⟩) n c) (some (.int ka a1)) (some (.int kb b1)) none).run P w = .ok (.slice (some ⟨g, off + a1, none⟩) (b1 - a1) (c - a1)) w := by
  obtain ⟨i, hi, hs⟩ : ∃ i, P.info? e = some i ∧ i.size = 1 := by
    cases h : P.info? e with
    | none => rw [h] at hi1; cases hi1
    | some i => rw [h] at hi1; exact ⟨i, rfl, Option.some.inj hi1⟩
  have e1 : ¬ c = a1 := by omega
  simp [Instr.sliceAt, Instr.slice, Instr.sliceBounds, Instr.sliceBound, asIntOf, go_sem, run_underlying ht, sizeOf, typeInfo, hi, hs, h1, h2, e1, Addr.add]
theorem wpListIn_slice2 (hgd : o.guard = none) (t e : TypeId) (x lo hi : Operand) (ho : o.op = .slice t x (some lo) (some hi) none) (ht : P.underlying t = some (.slice e)) (hi1 : (P.info? e).map (·.size) = some 1) (g off n c a1 b1 : Nat) (ka kb : IntKind)
    (hx : a.eval x = .slice (some ⟨g, off, none⟩) n c) (hlo : a.eval lo = .int ka a1) (hhi : a.eval hi = .int kb b1) (h1 : a1 ≤ b1) (h2 : b1 ≤ c) (h3 : a1 < c)
    (h : wpListIn F₁ n₁ P ops Q rest (a.put o.dst (.slice (some ⟨g, off + a1, none⟩) (b1 - a1) (c - a1))) w) : wpListIn F₁ n₁ P ops Q (o :: rest) a w := by
  have hr := run_slice2 (P := P) w t e ht hi1 g off n c a1 b1 ka kb h1 h2 h3
  refine wpListIn_plain hgd fun K hK => ?_
  unfold Oper.wpIn
  refine ⟨?_, ?_⟩
  · simp [Oper.about, ho]
  · rw [Oper.semAt_plain F₁ _ _ (by rw [ho]; intro c hc'; cases hc')]
    simp [execOp, ho, hx, hlo, hhi, hr, Result.andThen]
    exact hK _ _ h
theorem run_slice1 {P : Program} (w : World) (t e : TypeId) (ht : P.underlying t = some (.slice e)) (hi1 : (P.info? e).map (·.size) = some 1) (g off n c a1 : Nat) (ka : IntKind) (h1 : a1 ≤ n) (h3 : a1 < c) :
    (Instr.sliceAt t (.slice (some ⟨g, off, none⟩) n c) (some (.int ka a1)) none none).run P w = .ok (.slice (some ⟨g, off + a1, none⟩) (n - a1) (c - a1)) w := by
  obtain ⟨i, hi, hs⟩ : ∃ i, P.info? e = some i ∧ i.size = 1 := by
    cases h : P.info? e with
    | none => rw [h] at hi1; cases hi1
    | some i => rw [h] at hi1; exact ⟨i, rfl, Option.some.inj hi1⟩
  have e1 : ¬ c = a1 := by omega
  simp [Instr.sliceAt, Instr.slice, Instr.sliceBounds, Instr.sliceBound, asIntOf, go_sem, run_underlying ht, sizeOf, typeInfo, hi, hs, h1, e1, Addr.add]
theorem wpListIn_slice1 (hgd : o.guard = none) (t e : TypeId) (x lo : Operand) (ho : o.op = .slice t x (some lo) none none) (ht : P.underlying t = some (.slice e)) (hi1 : (P.info? e).map (·.size) = some 1) (g off n c a1 : Nat) (ka : IntKind)
    (hx : a.eval x = .slice (some ⟨g, off, none⟩) n c) (hlo : a.eval lo = .int ka a1) (h1 : a1 ≤ n) (h3 : a1 < c)
    (h : wpListIn F₁ n₁ P ops Q rest (a.put o.dst (.slice (some ⟨g, off + a1, none⟩) (n - a1) (c - a1))) w) : wpListIn F₁ n₁ P ops Q (o :: rest) a w := by
  have hr := run_slice1 (P := P) w t e ht hi1 g off n c a1 ka h1 h3
  refine wpListIn_plain hgd fun K hK => ?_
  unfold Oper.wpIn
  refine ⟨?_, ?_⟩
  · simp [Oper.about, ho]
  · rw [Oper.semAt_plain F₁ _ _ (by rw [ho]; intro c hc'; cases hc')]
    simp [execOp, ho, hx, hlo, hr, Result.andThen]
    exact hK _ _ h
end
open Go Go.RowKit

/-- The operation yields its value in every world that meets S, and calls no function. -/
structure YieldsS (P : Program) (ops : Array Oper) (S : World → Prop) (o : Oper) (v : Value) (a : Act) : Prop where
  wanted : Region.wanted o (yielded ops a.tmps) = true
  val : ∀ w, S w → (execOp a.eval o).run P w = .ok (.value v) w
  about : ∀ w, o.about P w a.eval = none
/-- One operation of a region, which yields a value or none. -/
def opP (P : Program) (ops : Array Oper) (i : Nat) (K : Act → World → Prop) (a : Act) (w : World) : Prop :=
  ∃ o, ops[i]? = some o ∧ o.about P w a.eval = none ∧ Region.wanted o (yielded ops a.tmps) = true ∧ ∃ x w', ((execOp a.eval o).run P w = .ok (.value x) w' ∨ ((execOp a.eval o).run P w = .ok .skip w' ∧ x = undef)) ∧ K (a.put o.dst x) w'
theorem opP_mono {P : Program} {ops : Array Oper} {i : Nat} {K K' : Act → World → Prop} {a : Act} {w : World} (h : ∀ a w, K a w → K' a w) (hh : opP P ops i K a w) : opP P ops i K' a w := by
  obtain ⟨o, h1, h2, h3, x, w', h4, h5⟩ := hh
  exact ⟨o, h1, h2, h3, x, w', h4, h _ _ h5⟩
/-- Whatever order is drawn, S holds all the way. -/
def wpP (P : Program) (md : Region.Mode) (ops : Array Oper) (S : World → Prop) (Q : Act → World → Prop) : Nat → Array Bool → Act → World → Prop
  | 0, listed, a, w => Region.ready md ops listed = [] ∧ Q a w
  | fuel + 1, listed, a, w => (Region.ready md ops listed = [] → Q a w) ∧ ∀ i ∈ Region.ready md ops listed, opP P ops i (fun a' w' => S w' ∧ wpP P md ops S Q fuel (listed.setIfInBounds i true) a' w') a w
section
variable {P : Program} {md : Region.Mode} {ops : Array Oper} {S : World → Prop} {Q : Act → World → Prop}
theorem wpP_in {F : Fence} {n : Nat} {Q' : Exit → Act → World → Prop} (hd : ∀ (j : Nat) (o : Oper) c, ops[j]? = some o → o.op ≠ .defer c) (hq : ∀ a w, Q a w → Q' .normal a w) : ∀ (fuel : Nat) (listed : Array Bool) (a : Act) (w : World), wpP P md ops S Q fuel listed a w → wpAnyIn F n P md ops Q' fuel listed a w
  | 0, _, _, _, h => ⟨h.1, hq _ _ h.2⟩
  | fuel + 1, listed, a, w, h => ⟨fun h0 => hq _ _ (h.1 h0), fun i hi => by
      obtain ⟨o, h1, h2, h3, x, w', h4, _, h5⟩ := h.2 i hi
      have h6 : wpAnyIn F n P md ops Q' fuel (listed.setIfInBounds i true) (a.put o.dst x) w' := wpP_in hd hq fuel _ _ _ h5
      unfold wpOpIn
      simp only [h1, h3, if_true]
      unfold Oper.wpIn
      refine ⟨fun f hf => (by rw [h2] at hf; cases hf), ?_⟩
      rw [Oper.semAt_eq F.round _ _ (hd i o · h1)]
      rcases h4 with h4 | ⟨h4, rfl⟩
      · rw [h4]; exact h6
      · rw [h4]; exact h6⟩
theorem YieldsS.op {i : Nat} {o : Oper} {v : Value} {a : Act} (hi : ops[i]? = some o) (hy : YieldsS P ops S o v a) {K : Act → World → Prop} {w : World} (hS : S w) (h : K (a.put o.dst v) w) : opP P ops i K a w :=
  ⟨o, hi, hy.about w, hy.wanted, v, w, .inl (hy.val w hS), h⟩
theorem opP_put {j : Nat} {oi oj : Oper} {v : Value} (hj : ops[j]? = some oj) (hap : oi.apart ops oj = true)
    (hsi : ∀ cs b, oi.op ≠ .select cs b) (hsj : ∀ cs b, oj.op ≠ .select cs b) {K : Act → World → Prop} {a : Act} {w : World}
    (hy : YieldsS P ops S oi v a) (h : opP P ops j K (a.put oi.dst v) w) : opP P ops j (fun a' w' => YieldsS P ops S oi v a' ∧ K (a'.put oi.dst v) w') a w := by
  obtain ⟨h1, h2, h3⟩ := Oper.apart_spec hap
  obtain ⟨o, ho, ha, hw, x, w', hx, hK⟩ := h
  rw [hj] at ho
  obtain rfl := Option.some.inj ho
  rw [wanted_put oj a oi.dst v h1] at hw
  rw [about_put oj w a oi.dst v h1] at ha
  rw [execOp_put oj hsj a oi.dst v h1] at hx
  refine ⟨oj, hj, ha, hw, x, w', hx, ⟨?_, fun w1 hS => ?_, fun w1 => ?_⟩, ?_⟩
  · rw [wanted_put oi a oj.dst x h3]; exact hy.wanted
  · rw [execOp_put oi hsi a oj.dst x h3]; exact hy.val w1 hS
  · rw [about_put oi w1 a oj.dst x h3]; exact hy.about w1
  · rw [← Act.put_comm a v x h2]; exact hK
theorem wpP_first {i : Nat} {oi : Oper} {v : Value} (hi : ops[i]? = some oi) (hsel : ∀ (j : Nat) (o : Oper) cs b, ops[j]? = some o → o.op ≠ .select cs b) :
    ∀ (fuel : Nat) (listed : Array Bool) (a : Act) (w : World),
      (∀ j oj, ops[j]? = some oj → j ≠ i → listed.getD j true = false → (∀ e ∈ oj.after, Region.binds md e = true → e.on ≠ i) → oi.apart ops oj = true) →
      i ∈ Region.ready md ops listed → YieldsS P ops S oi v a → S w →
      wpP P md ops S Q fuel (listed.setIfInBounds i true) (a.put oi.dst v) w → wpP P md ops S Q (fuel + 1) listed a w := by
  intro fuel
  induction fuel with
  | zero =>
    intro listed a w _ hr hy hS H
    refine ⟨fun h => (by rw [h] at hr; cases hr), fun j hj => ?_⟩
    by_cases hji : j = i
    · subst hji; exact hy.op hi hS ⟨hS, H⟩
    · have := ready_mono hj hji
      rw [H.1] at this
      cases this
  | succ fuel ih =>
    intro listed a w hfree hr hy hS H
    refine ⟨fun h => (by rw [h] at hr; cases hr), fun j hj => ?_⟩
    by_cases hji : j = i
    · subst hji; exact hy.op hi hS ⟨hS, H⟩
    · have h1 := H.2 j (ready_mono hj hji)
      obtain ⟨hjun, oj, hoj, hall⟩ := mem_ready.1 hj
      have hnot : ∀ e ∈ oj.after, Region.binds md e = true → e.on ≠ i := fun e he hb heq => by
        have h1 := hall e he hb
        have h0 := (mem_ready.1 hr).1
        rw [heq] at h1
        rcases Nat.lt_or_ge i listed.size with h' | h'
        · simp [h'] at h0 h1; rw [h0] at h1; cases h1
        · simp [Array.getElem?_eq_none h'] at h1
      have h2 := opP_put hoj (hfree j oj hoj hji hjun hnot) (fun cs b => hsel i oi cs b hi) (fun cs b => hsel j oj cs b hoj) hy h1
      have hfree' : ∀ k ok, ops[k]? = some ok → k ≠ i → (listed.setIfInBounds j true).getD k true = false →
          (∀ e ∈ ok.after, Region.binds md e = true → e.on ≠ i) → oi.apart ops ok = true := fun k ok hk hki hun hno => by
        refine hfree k ok hk hki ?_ hno
        by_cases hjk : j = k
        · subst hjk; exact hjun
        · rw [getD_set_ne true hjk] at hun; exact hun
      refine opP_mono (fun a' w' h3 => ⟨h3.2.1, ih (listed.setIfInBounds j true) a' w' hfree' (ready_mono hr (Ne.symm hji)) h3.1 h3.2.1 ?_⟩) h2
      rw [Array.setIfInBounds_comm _ _ hji]
      exact h3.2.2
theorem wpP_take {i : Nat} {oi : Oper} {v : Value} {fuel : Nat} {listed : Array Bool} {a : Act} {w : World} (hi : ops[i]? = some oi)
    (hs : Region.noSelect ops = true) (hf : Region.free md ops listed i = true) (hr : (Region.ready md ops listed).contains i = true)
    (hy : YieldsS P ops S oi v a) (hS : S w)
    (h : wpP P md ops S Q fuel (listed.setIfInBounds i true) (a.put oi.dst v) w) : wpP P md ops S Q (fuel + 1) listed a w :=
  wpP_first hi (Region.noSelect_spec hs) fuel listed a w (Region.free_spec hi hf) (by simpa using hr) hy hS h
/-- One alone may come up. -/
theorem wpP_one {i : Nat} {fuel : Nat} {listed : Array Bool} {a : Act} {w : World} (hr : Region.ready md ops listed = [i])
    (h : opP P ops i (fun a' w' => S w' ∧ wpP P md ops S Q fuel (listed.setIfInBounds i true) a' w') a w) : wpP P md ops S Q (fuel + 1) listed a w :=
  ⟨fun h0 => (by rw [hr] at h0; cases h0), fun j hj => by
    rw [hr] at hj
    obtain rfl := List.mem_singleton.1 hj
    exact h⟩
theorem wpP_done {fuel : Nat} {listed : Array Bool} {a : Act} {w : World} (hr : Region.ready md ops listed = []) (h : Q a w) : wpP P md ops S Q fuel listed a w := by
  cases fuel with
  | zero => exact ⟨hr, h⟩
  | succ fuel => exact ⟨fun _ => h, fun i hi => (by rw [hr] at hi; cases hi)⟩
theorem opP_run {i : Nat} {o : Oper} {K : Act → World → Prop} {a : Act} {w w' : World} {x : Value} (hi : ops[i]? = some o) (hab : o.about P w a.eval = none) (hw : Region.wanted o (yielded ops a.tmps) = true) (hr : (execOp a.eval o).run P w = .ok (.value x) w') (h : K (a.put o.dst x) w') : opP P ops i K a w :=
  ⟨o, hi, hab, hw, x, w', .inl hr, h⟩
theorem opP_skip {i : Nat} {o : Oper} {K : Act → World → Prop} {a : Act} {w w' : World} (hi : ops[i]? = some o) (hab : o.about P w a.eval = none) (hw : Region.wanted o (yielded ops a.tmps) = true) (hr : (execOp a.eval o).run P w = .ok .skip w') (h : K (a.put o.dst undef) w') : opP P ops i K a w :=
  ⟨o, hi, hab, hw, undef, w', .inr ⟨hr, rfl⟩, h⟩
theorem opP_append {i : Nat} {o : Oper} {K : Act → World → Prop} {a : Act} {w : World} (hi0 : ops[i]? = some o) (hgd : o.guard = none) (F : Nat → Prop) (s x : Operand) (t : TypeId)
    (ho : o.op = .call { callee := .builtin .append, args := #[s, x], argTypes := #[t, t] }) (e : TypeId) (size bytes : Nat) (z : Value) (ht : P.underlying t = some (.slice e)) (hi : (P.info? e).map (fun i => (i.zero, i.size, i.bytes)) = some (some z, size, bytes))
    (hzs : z.cells.size = size) (hsz : 0 < size) (v : Value) (n : Nat) (xs : List Value) (hs : a.eval s = v) (hown : Lies w F e size v n xs) (A : Option Addr) (m c : Nat) (news : List Value) (hx : a.eval x = .slice A m c)
    (hl : news.length = m * size) (hsrc : Source w A m news) (h1 : ∀ u ∈ news, u.oneCell' = true) (hbytes : (n + m) * bytes ≤ 140737488355328) (hb0 : 0 < bytes)
    (h : ∀ v' w', Lies w' (grow F w) e size v' (n + m) (xs ++ news) → Kept (fun g => F g ∧ Spare v g ∧ ∃ cur, w.heap[g]? = some (.cells cur e (0, 0))) w w' → K (a.put o.dst v') w') : opP P ops i K a w := by
  obtain ⟨j, hj, hz, hs1, hb⟩ := info_parts hi
  obtain ⟨v', w', hr, h2, h3⟩ := run_append_any (P := P) w F t o.type e j z size bytes ht hj hz hs1 hb hzs hsz v n xs hown A m c news hl hsrc h1 hbytes hb0
  refine ⟨o, hi0, ?_, by simp [Region.wanted, hgd], v', w', .inl ?_, h v' w' h2 h3⟩
  · simp [Oper.about, ho, resolve, Target.leads, Sem.run_pure]
  · simp [execOp, ho, resolve, invoke, builtin, hs, hx, hr, Result.andThen]
def noDefer (o : Oper) : Bool := match o.op with | .defer _ => false | _ => true
theorem wpIn_region_held {F : Fence} {n k : Nat} {Q' : Exit → Act → World → Prop} {a : Act} {w : World} (hm : P.follows .mixedOrders = true) (hd : ops.toList.all noDefer = true)
    (h : wpP P .any ops S (fun a w => Q' .normal a w) ops.size (Array.replicate ops.size false) a w.drew) : (Code.region k ops true).wpIn F n P Q' a w :=
  wpIn_region_any hm (wpP_in (fun j o c hj ho => by
    have h1 := List.all_eq_true.1 hd o (by simpa using Array.mem_of_getElem? hj)
    unfold noDefer at h1
    rw [ho] at h1
    cases h1) (fun _ _ h => h) _ _ _ _ h)
theorem exec_slice2 {o : Oper} {a : Act} {w : World} (t e : TypeId) (x lo hi : Operand) (ho : o.op = .slice t x (some lo) (some hi) none) (ht : P.underlying t = some (.slice e)) (hi1 : (P.info? e).map (·.size) = some 1) (g off n c a1 b1 : Nat) (ka kb : IntKind)
    (hx : a.eval x = .slice (some ⟨g, off, none⟩) n c) (hlo : a.eval lo = .int ka a1) (hhi : a.eval hi = .int kb b1) (h1 : a1 ≤ b1) (h2 : b1 ≤ c) (h3 : a1 < c) {m : Nat} (hm : b1 - a1 = m) : (execOp a.eval o).run P w = .ok (.value (.slice (some ⟨g, off + a1, none⟩) m (c - a1))) w := by
  subst hm
  have hr := run_slice2 (P := P) w t e ht hi1 g off n c a1 b1 ka kb h1 h2 h3
  simp [execOp, ho, hx, hlo, hhi, hr, Result.andThen]
theorem exec_slice1 {o : Oper} {a : Act} {w : World} (t e : TypeId) (x lo : Operand) (ho : o.op = .slice t x (some lo) none none) (ht : P.underlying t = some (.slice e)) (hi1 : (P.info? e).map (·.size) = some 1) (g off n c a1 : Nat) (ka : IntKind)
    (hx : a.eval x = .slice (some ⟨g, off, none⟩) n c) (hlo : a.eval lo = .int ka a1) (h1 : a1 ≤ n) (h3 : a1 < c) : (execOp a.eval o).run P w = .ok (.value (.slice (some ⟨g, off + a1, none⟩) (n - a1) (c - a1))) w := by
  have hr := run_slice1 (P := P) w t e ht hi1 g off n c a1 ka h1 h3
  simp [execOp, ho, hx, hlo, hr, Result.andThen]
theorem run_from {P : Program} (w : World) (t e : TypeId) (ht : P.underlying t = some (.slice e)) (hi1 : (P.info? e).map (·.size) = some 1) (A : Option Addr) (n c a1 : Nat) (ka : IntKind) (h1 : a1 ≤ n) :
    (Instr.sliceAt t (.slice A n c) (some (.int ka a1)) none none).run P w = .ok (cutFrom A n c a1 1) w := by
  obtain ⟨i, hi, hs⟩ : ∃ i, P.info? e = some i ∧ i.size = 1 := by
    cases h : P.info? e with
    | none => rw [h] at hi1; cases hi1
    | some i => rw [h] at hi1; exact ⟨i, rfl, Option.some.inj hi1⟩
  simp [Instr.sliceAt, Instr.slice, Instr.sliceBounds, Instr.sliceBound, asIntOf, go_sem, run_underlying ht, sizeOf, typeInfo, hi, hs, h1, cutFrom]
theorem exec_from {o : Oper} {a : Act} {w : World} (t e : TypeId) (x lo : Operand) (ho : o.op = .slice t x (some lo) none none) (ht : P.underlying t = some (.slice e)) (hi1 : (P.info? e).map (·.size) = some 1) (A : Option Addr) (n c a1 : Nat) (ka : IntKind)
    (hx : a.eval x = .slice A n c) (hlo : a.eval lo = .int ka a1) (h1 : a1 ≤ n) : (execOp a.eval o).run P w = .ok (.value (cutFrom A n c a1 1)) w := by
  have hr := run_from (P := P) w t e ht hi1 A n c a1 ka h1
  simp [execOp, ho, hx, hlo, hr, Result.andThen]
/-- Two may come up. -/
theorem wpP_two {i j : Nat} {fuel : Nat} {listed : Array Bool} {a : Act} {w : World} (hr : Region.ready md ops listed = [i, j])
    (h1 : opP P ops i (fun a' w' => S w' ∧ wpP P md ops S Q fuel (listed.setIfInBounds i true) a' w') a w) (h2 : opP P ops j (fun a' w' => S w' ∧ wpP P md ops S Q fuel (listed.setIfInBounds j true) a' w') a w) : wpP P md ops S Q (fuel + 1) listed a w :=
  ⟨fun h0 => (by rw [hr] at h0; cases h0), fun k hk => by
    rw [hr] at hk
    rcases List.mem_cons.1 hk with rfl | hk
    · exact h1
    · obtain rfl := List.mem_singleton.1 hk
      exact h2⟩
end

theorem wpP_rest {F : Fence} {n : Nat} {P : Program} {md : Region.Mode} {ops : Array Oper} {S : World → Prop} {Q : Exit → Act → World → Prop} {fuel : Nat} {listed : Array Bool} {a : Act} {w : World} (hd : ops.toList.all noDefer = true)
    (h : wpP P md ops S (fun a w => Q .normal a w) fuel listed a w) : wpAnyIn F n P md ops Q fuel listed a w :=
  wpP_in (fun j o c hj ho => by
    have h1 := List.all_eq_true.1 hd o (by simpa using Array.mem_of_getElem? hj)
    unfold noDefer at h1
    rw [ho] at h1
    cases h1) (fun _ _ h => h) _ _ _ _ h
theorem wpP_restK {F : Fence} {n : Nat} {P : Program} {md : Region.Mode} {ops : Array Oper} {S : World → Prop} {Q : Exit → Act → World → Prop} {fuel : Nat} {listed : Array Bool} {a : Act} {w : World} (k : Nat) (l : Array Bool) (hk : fuel = k) (hl : listed = l) (hd : ops.toList.all noDefer = true)
    (h : wpP P md ops S (fun a w => Q .normal a w) k l a w) : wpAnyIn F n P md ops Q fuel listed a w := by
  subst hk hl
  exact wpP_rest hd h
end Go.Proofs.YtjckojedafajeaaGreatDoor
/- Layer 8: word. -/
namespace Go.Proofs.YtjckojedafajeaaGreatDoor
open Go.RowKit

theorem u8s_get (l : List UInt8) (j : Nat) : (u8s l)[j]? = (l[j]?).map fun b => Value.int .u8 (b.toNat : Int) := by unfold u8s; rw [List.getElem?_map]
/-- The text from a place on, as a slice. -/
theorem JRd.rest {w : World} {p : Nat} {X : Txt} {k : Nat} {E O : Value} {f : Fl} (h : JRd w p X k E O f) (hk : k ≤ X.l.length) (hc : X.l.length ≤ X.c) :
    ∃ A, cutFrom X.A X.l.length X.c k 1 = .slice A (X.l.length - k) (X.c - k) ∧ Holds w A (X.l.drop k).length 1 (u8s (X.l.drop k)) := by
  refine ⟨_, rfl, by rw [u8s_length, Nat.mul_one], fun h0 => ?_⟩
  rw [List.length_drop] at h0
  obtain ⟨g, off, hA, _, hg, _⟩ := h.txt 0 (by omega)
  refine ⟨g, off + k, ?_, hg, fun j v hv => ?_⟩
  · rw [if_neg (by omega), hA]
    simp [Addr.add]
  · rw [u8s_get, List.getElem?_drop] at hv
    have hj : k + j < X.l.length := by
      rcases Nat.lt_or_ge (k + j) X.l.length with h9 | h9
      · exact h9
      · rw [List.getElem?_eq_none h9] at hv; cases hv
    obtain ⟨g2, off2, hA2, _, _, hc2⟩ := h.txt (k + j) hj
    rw [hA] at hA2
    injection hA2 with hA2
    injection hA2 with e1 e2 _
    subst e1 e2
    rw [← Nat.add_assoc] at hc2
    rw [hc2]
    rw [List.getElem?_eq_getElem hj] at hv
    rw [← hv]
    unfold byteAt
    simp [List.getD, List.getElem?_eq_getElem hj]
theorem keptOf_below {F : Nat → Prop} {w w' : World} (h : Below w.heap.size w w') : Kept F w w' := ⟨h.os, h.tape, h.output, h.size, fun k hk _ => h.block k hk⟩
theorem bytesRow_holds (W : World) (q : List UInt8) (cp : Nat) (e : TypeId) (fr : Nat × Nat) : Holds ((W.alloc (.cells (bytesRow (bs q) cp) e fr)).drew) (some ⟨W.heap.size, 0, none⟩) q.length 1 (u8s q) := by
  have h0 : ((W.alloc (.cells (bytesRow (bs q) cp) e fr)).drew).heap[W.heap.size]? = some (.cells (bytesRow (bs q) cp) e fr) := heap_alloc_new W _
  refine ⟨by rw [u8s_length, Nat.mul_one], fun _ => ⟨W.heap.size, 0, rfl, lt_of_heap h0, fun j v hv => ?_⟩⟩
  rw [Nat.zero_add, cell_of_row _ _ _ _ _ _ h0]
  rw [u8s_get] at hv
  have hj : j < q.length := by
    rcases Nat.lt_or_ge j q.length with h9 | h9
    · exact h9
    · rw [List.getElem?_eq_none h9] at hv; cases hv
  rw [List.getElem?_eq_getElem hj] at hv
  unfold bytesRow
  rw [Array.getElem?_append_left (by simp [bs]; exact hj), ← hv]
  simp [bs, hj]
set_option maxRecDepth 100000 in
set_option maxHeartbeats 4000000 in
theorem jwordK_ok (p : Nat) (X : Txt) (q : List UInt8) (k : Nat) (E O : Value) (f : Fl) (w : World) (h : JRd w p X k E O f) (hk : k ≤ X.l.length) (hl : X.l.length ≤ 9223372036854775806) (hc : X.l.length ≤ X.c) (hq : 0 < q.length) :
    Calls Tryz.prog 92 #[.pointer (some ⟨p, 0, none⟩), .string (bs q)] w fun e w' => e = .returned (.bool (pfx q (X.l.drop k))) ∧ (if pfx q (X.l.drop k) then JRd w' p X (k + q.length) E O f else JRd w' p X k E O f) ∧ Kept (· = p) w w' := by
  have H := Lib.hid h
  have hqs : (bs q).size = q.length := bs_size q
  have HLE := Lib.hid (fun hb : pfx q (X.l.drop k) = true => pfx_len hb)
  have hcv : ∀ W : World, (convert 9 22 (.string (bs q))).run Tryz.prog W = .ok (.slice (some ⟨W.heap.size, 0, none⟩) q.length (grownCap W q.length 0 5)) ((W.alloc (.cells (bytesRow (bs q) (grownCap W q.length 0 5)) 5 ((bytesRow (bs q) (grownCap W q.length 0 5)).size, (bytesRow (bs q) (grownCap W q.length 0 5)).size + 1))).drew) := fun W => by
    have h9 := run_bytes_of_string (P := Tryz.prog) W 9 22 5 (bs q) Tryz.underlying9 Tryz.underlying22 Tryz.underlying5
    rw [hqs] at h9
    exact h9
  obtain ⟨A, hA, hHo⟩ := h.rest hk hc
  have hsl : ∀ W : World, (Instr.sliceAt 22 (.slice X.A X.l.length X.c) (some (.int .i64 (k : Int))) none none).run Tryz.prog W = .ok (.slice A (X.l.length - k) (X.c - k)) W := fun W => by
    rw [← hA]
    exact run_from (P := Tryz.prog) W 22 5 Tryz.underlying22 (by kernel_rfl) X.A X.l.length X.c k .i64 hk
  have HPF : Hid (∀ (W : World) (B : Option Addr) (d : Nat), Below w.heap.size w W → Holds W B q.length 1 (u8s q) → Calls Tryz.prog 116 #[.slice A (X.l.length - k) (X.c - k), .slice B q.length d] W fun e w' => e = .returned (.bool (pfx q (X.l.drop k))) ∧ Below W.heap.size W w') :=
    Lib.hid fun W B d hb hB => (bprefix_ok A B (X.c - k) d (X.l.length - k) q.length (X.l.drop k) q (by rw [List.length_drop]) rfl hq (by omega) W (hHo.below hb) hB).mono fun e w' hx => ⟨hx.1, hx.2 ▸ Below.refl _ _⟩
  have HRW := Lib.hid (fun (W : World) cp e fr => bytesRow_holds W q cp e fr)
  clear hA hHo h
  generalize pfx q (X.l.drop k) = b at *
  generalize hm : q.length = m at *
  generalize hn : X.l.length - k = nk at *
  generalize hck : X.c - k = ck at *
  have c0 := H.out.row.cell (i := 0) (v := .slice X.A X.l.length X.c) rfl
  have c1 := H.out.row.cell (i := 1) (v := .int .i64 (k : Int)) rfl
  go_enter Tryz.func92, Tryz.ntmps92
  clear hn hck hm
  go_upto_region 1 with fail
  refine wp_region_held_drew (S := (fun W => Below w.heap.size w W ∧ JRd W p X k E O f)) (by kernel_rfl) (⟨(Below.refl _ _).drew, H.out.below (Below.refl _ _).drew⟩) (fun hHeld => ?_)
  refine wpAnyH_take (i := 0) (oi := ?_) (v := ?_) ?_ (by kernel_rfl) (by kernel_rfl) (by kernel_rfl) ?_ ?_ (by assumption) ?_
  rotate_left 2
  · simp only [List.getElem?_toArray, List.getElem?_cons_zero]; with_reducible rfl
  · exact fun _ _ _ h => h
  · refine Or.inl ⟨by rfl, ?_⟩; intro W hSw; go_simp; try with_reducible rfl
  try simp only [Act.put, List.setIfInBounds_toArray, List.set_cons_zero, List.set_cons_succ]
  refine wpAnyH_take (i := 1) (oi := ?_) (v := ?_) ?_ (by kernel_rfl) (by kernel_rfl) (by kernel_rfl) ?_ ?_ (by assumption) ?_
  rotate_left 2
  · simp only [List.getElem?_toArray, List.getElem?_cons_succ, List.getElem?_cons_zero]; with_reducible rfl
  · exact fun _ _ _ h => h
  · refine Or.inl ⟨by rfl, ?_⟩; intro W hSw; go_simp; try with_reducible rfl
  try simp only [Act.put, List.setIfInBounds_toArray, List.set_cons_zero, List.set_cons_succ]
  refine wpAnyH_take (i := 2) (oi := ?_) (v := ?_) ?_ (by kernel_rfl) (by kernel_rfl) (by kernel_rfl) ?_ ?_ (by assumption) ?_
  rotate_left 2
  · simp only [List.getElem?_toArray, List.getElem?_cons_succ, List.getElem?_cons_zero]; with_reducible rfl
  · exact fun _ _ _ h => h
  · refine Or.inl ⟨by rfl, ?_⟩; intro W hSw; go_simp; try with_reducible rfl
  try simp only [Act.put, List.setIfInBounds_toArray, List.set_cons_zero, List.set_cons_succ]
  refine wpAnyH_take (i := 3) (oi := ?_) (v := ?_) ?_ (by kernel_rfl) (by kernel_rfl) (by kernel_rfl) ?_ ?_ (by assumption) ?_
  rotate_left 2
  · simp only [List.getElem?_toArray, List.getElem?_cons_succ, List.getElem?_cons_zero]; with_reducible rfl
  · exact fun _ _ _ h => h
  · refine Or.inl ⟨by rfl, ?_⟩; intro W hSw; have q0 := hSw.2.row.cell (i := 0) (v := .slice X.A X.l.length X.c) rfl; go_simp; try with_reducible rfl
  try simp only [Act.put, List.setIfInBounds_toArray, List.set_cons_zero, List.set_cons_succ]
  refine wpAnyH_take (i := 4) (oi := ?_) (v := ?_) ?_ (by kernel_rfl) (by kernel_rfl) (by kernel_rfl) ?_ ?_ (by assumption) ?_
  rotate_left 2
  · simp only [List.getElem?_toArray, List.getElem?_cons_succ, List.getElem?_cons_zero]; with_reducible rfl
  · exact fun _ _ _ h => h
  · refine Or.inl ⟨by rfl, ?_⟩; intro W hSw; go_simp; try with_reducible rfl
  try simp only [Act.put, List.setIfInBounds_toArray, List.set_cons_zero, List.set_cons_succ]
  refine wpAnyH_take (i := 5) (oi := ?_) (v := ?_) ?_ (by kernel_rfl) (by kernel_rfl) (by kernel_rfl) ?_ ?_ (by assumption) ?_
  rotate_left 2
  · simp only [List.getElem?_toArray, List.getElem?_cons_succ, List.getElem?_cons_zero]; with_reducible rfl
  · exact fun _ _ _ h => h
  · refine Or.inl ⟨by rfl, ?_⟩; intro W hSw; go_simp; try with_reducible rfl
  try simp only [Act.put, List.setIfInBounds_toArray, List.set_cons_zero, List.set_cons_succ]
  refine wpAnyH_take (i := 6) (oi := ?_) (v := ?_) ?_ (by kernel_rfl) (by kernel_rfl) (by kernel_rfl) ?_ ?_ (by assumption) ?_
  rotate_left 2
  · simp only [List.getElem?_toArray, List.getElem?_cons_succ, List.getElem?_cons_zero]; with_reducible rfl
  · exact fun _ _ _ h => h
  · refine Or.inl ⟨by rfl, ?_⟩; intro W hSw; go_simp; try with_reducible rfl
  try simp only [Act.put, List.setIfInBounds_toArray, List.set_cons_zero, List.set_cons_succ]
  refine wpAnyH_take (i := 7) (oi := ?_) (v := ?_) ?_ (by kernel_rfl) (by kernel_rfl) (by kernel_rfl) ?_ ?_ (by assumption) ?_
  rotate_left 2
  · simp only [List.getElem?_toArray, List.getElem?_cons_succ, List.getElem?_cons_zero]; with_reducible rfl
  · exact fun _ _ _ h => h
  · refine Or.inl ⟨by rfl, ?_⟩; intro W hSw; have q1 := hSw.2.row.cell (i := 1) (v := .int .i64 (k : Int)) rfl; go_simp; try with_reducible rfl
  try simp only [Act.put, List.setIfInBounds_toArray, List.set_cons_zero, List.set_cons_succ]
  refine wpAnyH_take (i := 8) (oi := ?_) (v := ?_) ?_ (by kernel_rfl) (by kernel_rfl) (by kernel_rfl) ?_ ?_ (by assumption) ?_
  rotate_left 2
  · simp only [List.getElem?_toArray, List.getElem?_cons_succ, List.getElem?_cons_zero]; with_reducible rfl
  · exact fun _ _ _ h => h
  · refine Or.inl ⟨by rfl, ?_⟩; intro W hSw; go_simp; try with_reducible rfl
  try simp only [Act.put, List.setIfInBounds_toArray, List.set_cons_zero, List.set_cons_succ]
  refine wpAnyH_take (i := 9) (oi := ?_) (v := ?_) ?_ (by kernel_rfl) (by kernel_rfl) (by kernel_rfl) ?_ ?_ (by assumption) ?_
  rotate_left 2
  · simp only [List.getElem?_toArray, List.getElem?_cons_succ, List.getElem?_cons_zero]; with_reducible rfl
  · exact fun _ _ _ h => h
  · refine Or.inl ⟨by rfl, ?_⟩; intro W hSw; go_simp; try with_reducible rfl
  try simp only [Act.put, List.setIfInBounds_toArray, List.set_cons_zero, List.set_cons_succ]
  refine wpAnyH_ready (rs := [10]) (by kernel_rfl) (by simp) ?_
  refine AllReadyH.cons (o := ?_) ?_ (fun K1 hK1 => ?_) AllReadyH.nil
  rotate_left 1
  · simp only [List.getElem?_toArray, List.getElem?_cons_succ, List.getElem?_cons_zero]; with_reducible rfl
  rw [if_pos (by rfl)]
  go_simp
  refine hK1.out _ _ (⟨(hHeld.1.alloc hHeld.1.size _).drew, hHeld.2.below ((Below.refl _ _).alloc (Nat.le_refl _) _).drew⟩) (fun hHeld1 => ?_)
  clear hK1 K1
  try simp only [Act.put, List.setIfInBounds_toArray, List.set_cons_zero, List.set_cons_succ]
  refine wpAnyH_ready (rs := [11]) (by kernel_rfl) (by simp) ?_
  refine AllReadyH.cons (o := ?_) ?_ (fun K2 hK2 => ?_) AllReadyH.nil
  rotate_left 1
  · simp only [List.getElem?_toArray, List.getElem?_cons_succ, List.getElem?_cons_zero]; with_reducible rfl
  rw [if_pos (by rfl)]
  go_simp
  refine (HPF.out _ _ _ hHeld1.1 (HRW.out _ _ _ _)).mono ?_
  rintro e5 w5 ⟨rfl, hb5⟩
  go_wp2_with fail
  refine hK2.out _ _ (⟨hHeld1.1.call hb5, hHeld1.2.below hb5⟩) (fun hHeld2 => ?_)
  clear hK2 K2
  try simp only [Act.put, List.setIfInBounds_toArray, List.set_cons_zero, List.set_cons_succ]
  refine wpAnyH_take (i := 12) (oi := ?_) (v := ?_) ?_ (by kernel_rfl) (by kernel_rfl) (by kernel_rfl) ?_ ?_ (by assumption) ?_
  rotate_left 2
  · simp only [List.getElem?_toArray, List.getElem?_cons_succ, List.getElem?_cons_zero]; with_reducible rfl
  · exact fun _ _ _ h => h
  · refine Or.inl ⟨by rfl, ?_⟩; intro W hSw; go_simp; try with_reducible rfl
  try simp only [Act.put, List.setIfInBounds_toArray, List.set_cons_zero, List.set_cons_succ]
  refine wpAnyH_done (by kernel_rfl) ?_ _
  have HJ := Lib.hid hHeld2.2
  have HB := Lib.hid hHeld2.1
  have d1 := HJ.out.row.cell (i := 1) (v := .int .i64 (k : Int)) rfl
  have g1 := HJ.out.row.free 1
  clear hHeld hHeld1 hHeld2 hb5 hcv hsl c0 c1
  have HK := Lib.hid (keptOf_below (F := (· = p)) HB.out)
  cases b with
  | false =>
    go_wp2
    go_ret
    exact ⟨rfl, HJ.out, HK.out⟩
  | true =>
    have hle := HLE.out rfl
    rw [List.length_drop] at hle
    go_wp2
    go_ret
    have hkk : Kept (· = p) w5 (w5.setCell ⟨p, 1, none⟩ (.int .i64 ((k + m : Nat) : Int))) := Kept.cell _ _ _ _
    exact ⟨rfl, HJ.out.step hkk (by simpa [rdCells] using HJ.out.row.set_ 1 (.int .i64 ((k + m : Nat) : Int))), HK.out.trans' hkk⟩
theorem jword_ok (p : Nat) (X : Txt) (q s : List UInt8) (E O : Value) (f : Fl) (w : World) (h : JAt w p X s E O f) (hq : 0 < q.length) :
    Calls Tryz.prog 92 #[.pointer (some ⟨p, 0, none⟩), .string (bs q)] w fun e w' => e = .returned (.bool (pfx q s)) ∧ JTo p X (if pfx q s then s.drop q.length else s) E O f w w' := by
  obtain ⟨hl, k, hr, rfl, hk⟩ := h
  refine (jwordK_ok p X q k E O f w hr hk hl.1 hl.2 hq).mono ?_
  rintro e w' ⟨rfl, hj, hkp⟩
  refine ⟨rfl, ?_, hkp⟩
  split
  · rename_i hb
    rw [if_pos hb] at hj
    have := pfx_len hb
    rw [List.length_drop] at this
    exact ⟨hl, _, hj, by rw [List.drop_drop], by omega⟩
  · rename_i hb
    rw [if_neg hb] at hj
    exact ⟨hl, _, hj, rfl, hk⟩
end Go.Proofs.YtjckojedafajeaaGreatDoor
