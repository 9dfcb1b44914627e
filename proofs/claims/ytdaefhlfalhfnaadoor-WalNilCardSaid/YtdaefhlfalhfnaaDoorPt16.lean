/- Layer 3: bytes made and copied in a round of a range over a function; what a round keeps. -/
import Derived.Test.YtdaefhlfalhfnaaDoorPt12
import Derived.Test.YtdaefhlfalhfnaaDoorPt13
import Derived.Test.YtdaefhlfalhfnaaDoorPt15
namespace Go.Proofs.YtdaefhlfalhfnaaDoor
open Go.RowKit Go.Shelf
attribute [local go_sem] Oper.semAt_some

section
variable {F₁ : Fence} {n₁ : Nat} {P : Program} {ops : Array Oper} {rest : List Oper} {o : Oper} {a : Act} {w : World} {Q : Exit → Act → World → Prop}
theorem wpListIn_make_bytes (hgd : o.guard = none) (t e : TypeId) (x : Operand) (ho : o.op = .makeSlice t x x) (n : Nat) (hx : a.eval x = .int .i64 n) (ht : P.underlying t = some (.slice e))
    (hi : (P.info? e).map (fun i => (i.zero, i.size, i.bytes)) = some (some (.int .u8 0), 1, 1)) (hn : n ≤ 281474976710656)
    (h : wpListIn F₁ n₁ P ops Q rest (a.put o.dst (.slice (some ⟨w.heap.size, 0, none⟩) n n)) (w.alloc (.cells (cellsOf (List.replicate n 0)).toArray e))) : wpListIn F₁ n₁ P ops Q (o :: rest) a w := by
  obtain ⟨i, hi, hz, hs, hb⟩ := info_parts hi
  have hr := run_make (P := P) w t e i _ ht hi hz .i64 .i64 n n (by omega) (Int.le_refl _) (by rw [hb]; omega) (by omega)
  rw [hs, Nat.mul_one] at hr
  have e1 : madeCells (Value.int .u8 0).cells n = (cellsOf (List.replicate n 0)).toArray := by
    apply Array.toList_inj.1
    have := toList_madeCells_one (.int .u8 0) n
    simp only [cellsOf, List.map_replicate]
    exact this
  simp only [Int.toNat_natCast] at hr
  rw [e1] at hr
  refine wpListIn_plain hgd fun K hK => ?_
  unfold Oper.wpIn
  refine ⟨?_, ?_⟩
  · simp [Oper.about, ho]
  · rw [Oper.semAt_plain F₁ _ _ (by rw [ho]; intro c hc'; cases hc')]
    simp [execOp, ho, hx, hr, Result.andThen]
    exact hK _ _ h
/-- 'copy(d, s)' of all of s, which is not empty, into a row of bytes, from place 'off' on. -/
theorem wpListIn_copy_bytes (hgd : o.guard = none) (d s : Operand) (t e : TypeId) (ho : o.op = .call { callee := .builtin .copy, args := #[d, s], argTypes := #[t, t] }) (ht : P.underlying t = some (.slice e))
    (hi : (P.info? e).map (·.size) = some 1) (g off dn dc : Nat) (A : Option Addr) (n c : Nat) (l cur : List Nat) (hd : a.eval d = .slice (some ⟨g, off, none⟩) dn dc) (hs : a.eval s = .slice A n c)
    (hA : Bytes w A n l) (h0 : 0 < n) (hle : n ≤ dn) (hg : Row w g e (cellsOf cur).toArray) (hfit : off + n ≤ cur.length)
    (h : ∀ w', Row w' g e (cellsOf (over cur off l)).toArray → Kept (· = g) w w' → wpListIn F₁ n₁ P ops Q rest (a.put o.dst (goInt n)) w') : wpListIn F₁ n₁ P ops Q (o :: rest) a w := by
  have hlen : (cellsOf l).length = n := by rw [cellsOf_length, hA.len]
  obtain ⟨b, off2, rfl, _, hcell⟩ := hA.at_ h0
  have hr := run_copy_row (P := P) w t t o.type e g off dn dc ⟨b, off2, none⟩ n c (cellsOf cur).toArray e (cellsOf l) ht hi hg (by rw [hlen]; exact (Nat.min_eq_left hle).symm) hcell (by rw [hlen, List.size_toArray, cellsOf_length]; exact hfit) (cellsOf_one l)
  rw [hlen] at hr
  have e1 : ((cellsOf cur).toArray.toList.take off ++ cellsOf l ++ (cellsOf cur).toArray.toList.drop (off + n)).toArray = (cellsOf (over cur off l)).toArray := by
    unfold over
    rw [hA.len]
    simp [cellsOf]
  rw [e1] at hr
  refine wpListIn_plain hgd fun K hK => ?_
  unfold Oper.wpIn
  refine ⟨?_, ?_⟩
  · simp [Oper.about, ho, resolve, Target.leads, Sem.run_pure]
  · rw [Oper.semAt_plain F₁ _ _ (by rw [ho]; intro c hc'; cases hc')]
    simp [execOp, ho, resolve, invoke, builtin, hd, hs, hr, Result.andThen]
    exact hK _ _ (h _ (setRow_heap _ _ _ _ _ _ hg) ((Kept.refl _ _).setRow (grow.old (F := (· = g)) rfl) _))
end
theorem Kept.cellOf {F : Nat → Prop} {w w' : World} (h : Kept F w w') {p : Addr} {v : Value} (hv : w.cell? p = some v) (hp : ¬ F p.block) : w'.cell? p = some v :=
  (World.cell?_of_block (w := w) (h.block p.block (block_lt_of_cell hv) hp)).trans hv
/-- What a round touches are cells alone. -/
theorem KeepsOthers.of_kept {F : Nat → Prop} {w w' : World} (h : Kept F w w') (hF : ∀ k, F k → k < w.heap.size → ∃ cs t fr, w.heap[k]? = some (.cells cs t fr)) : KeepsOthers w w' :=
  ⟨h.size, fun k o hk ho => h.heap hk fun hf => by
    obtain ⟨cs, t, fr, hc⟩ := hF k hf (lt_of_heap hk)
    rw [hk] at hc
    injection hc with hc
    rw [hc] at ho
    cases ho⟩
theorem KeepsOthers.of_below {w w' : World} (h : Below w.heap.size w w') : KeepsOthers w w' := ⟨h.size, fun k _ hk _ => (h.block k (lt_of_heap hk)).trans hk⟩
theorem kept_turn {X : Nat → Prop} {w : World} (hX : ∀ k, w.heap.size ≤ k → X k) (W : World) (l : Nat) (o₁ o' : Obj) (hl : w.heap.size ≤ l) (_ : W.heap[l]? = some o₁) (_ : o₁.isCells = false) (_ : o₁.isWalk = false) : Kept X W (W.putObj l o') := by
  have hg := grownBy_putObj' W l o'
  exact ⟨hg.os, hg.tape, hg.output, hg.size, fun k hk hn => hg.block k hk fun e => hn (by cases e; exact hX _ hl)⟩
theorem kept_grown {X : Nat → Prop} {a W W' : World} {row : Option Nat} (h : Kept X a W) (hg : W.grownBy W' row) (hr : ∀ r, row = some r → X r) : Kept X a W' :=
  h.trans' ⟨hg.os, hg.tape, hg.output, hg.size, fun k hk hn => hg.block k hk fun e => hn (hr k e.symm)⟩
/-- Rows and slices stay as an iterator's step turns what is no cells. -/
theorem Row.grown {W W' : World} {row : Option Nat} {k : Nat} {cs : Array Value} {t : TypeId} (hk : Row W k t cs) (hg : W.grownBy W' row) (hr : ∀ r, row = some r → ∃ o : Obj, W.heap[r]? = some o ∧ o.isCells = false) : Row W' k t cs :=
  (grownBy_keeps_cells hg hr (k := k) (o := .cells cs t (0, 0)) hk rfl).trans hk
theorem Lies.grown {W W' : World} {row : Option Nat} {F : Nat → Prop} {e : TypeId} {size n : Nat} {v : Value} {xs : List Value} (h : Lies W F e size v n xs) (hg : W.grownBy W' row) (hr : ∀ r, row = some r → ∃ o : Obj, W.heap[r]? = some o ∧ o.isCells = false) : Lies W' F e size v n xs :=
  h.same fun _ cur _ hh => Row.grown (t := e) (cs := cur) hh hg hr
end Go.Proofs.YtdaefhlfalhfnaaDoor
/- Layer 3: a range over a function whose handed values are known by what their blocks hold: the body is walked only at values that meet a predicate in the world in which they are handed over. -/
namespace Go.Proofs.YtdaefhlfalhfnaaDoor
open Go.RowKit Go.Shelf

variable {F : Fence} {n : Nat} {P : Program}

/-- An iterator's contract: it hands values over that meet Pr, one by one. -/
def SeqP {α : Type} (F : Fence) (n : Nat) (P : Program) (gf : Nat) (lb : Array Value) (encs : α → Array Value) (Kp : World → World → Prop) (Pr : List α → α → World → Prop) (S Sp : List α → Prop) (N : Nat) (w : World) : Prop :=
  ∀ (l : Nat) (J Jx : List α → World → Prop) (W : World), Below w.heap.size w W → AbidesFrom W.heap.size J → AbidesFrom W.heap.size Jx →
    (∀ pre x W1, J pre W1 → Pr pre x W1 → pre.length < N → YieldAt F (n - 1) P l (encs x) W1 fun e W' =>
      (e = .returned (.bool true) ∧ J (pre ++ [x]) W' ∧ Kp W1 W') ∨ (e = .returned (.bool false) ∧ Jx (pre ++ [x]) W')) →
    J [] W → CallsIn F n P gf (#[.func (.yield l) #[] #[]] ++ lb) W fun e W' => (∃ v, e = .returned v) ∧ ((∃ xs, S xs ∧ J xs W') ∨ (∃ pre, Sp pre ∧ Jx pre W'))

/-- The two blocks of a loop over a function: its record, and the list of what is deferred. -/
structure AtLoop (k : Nat) (r : Loop) (W : World) : Prop where
  rcd : W.heap[k + 1]? = some (.loop r)
  lst : W.heap[k]? = some (.deferred (some []))
theorem AtLoop.keeps {k : Nat} {r : Loop} {W W' : World} (h : AtLoop k r W) (hk : KeepsOthers W W') : AtLoop k r W' := ⟨hk.same _ _ h.rcd rfl, hk.same _ _ h.lst rfl⟩
theorem AtLoop.turn {k : Nat} {r : Loop} {W : World} (h : AtLoop k r W) (r' : Loop) : AtLoop k r' (W.putObj (k + 1) (.loop r')) :=
  ⟨World.putObj_heap_same (lt_of_heap h.rcd), (World.putObj_heap_other (by omega)).trans h.lst⟩
theorem AtLoop.walks {k : Nat} {r : Loop} {W W' : World} {row : Option Nat} (h : AtLoop k r W) (hg : W.grownBy W' row) (hr : ∀ x, row = some x → ∃ o : Obj, W.heap[x]? = some o ∧ o.isWalk = true) : AtLoop k r W' :=
  ⟨(grownBy_keeps hg hr h.rcd rfl).trans h.rcd, (grownBy_keeps hg hr h.lst rfl).trans h.lst⟩

theorem wpIn_rangeP {α : Type} {g : Operand} {ps : Array Tmp} {assign body : Code} {Q : Exit → Act → World → Prop} {a : Act} {w : World}
    (hro : F.round = none) (h1 : 1 ≤ n) {gf : Nat} {lb : Array Value} (hg : a.eval g = .func (.func gf) #[] lb) (hFg : F.fn gf) (eg : ∀ args w, (callFunc gf args).run P w = .ok (.enter gf args) w)
    {encs : α → Array Value} {Kp : World → World → Prop} {Pr : List α → α → World → Prop} {S Sp : List α → Prop} {N : Nat} {w0 : World} (hseq : SeqP F (n - 1) P gf lb encs Kp Pr S Sp N w0)
    (hKt : ∀ {A B C : World}, Kp A B → Kp B C → Kp A C) (hKb : ∀ (W : World) (l : Nat) (o o' : Obj), w.heap.size ≤ l → W.heap[l]? = some o → o.isCells = false → o.isWalk = false → Kp W (W.putObj l o'))
    (hPb : ∀ (pre : List α) (x : α) (W : World) (l : Nat) (o o' : Obj), W.heap[l]? = some o → o.isCells = false → Pr pre x W → Pr pre x (W.putObj l o')) (hb0 : Below w0.heap.size w0 w) (hps : ∀ x, (encs x).size = ps.size)
    (I : List α → World → Prop) (Ix : Code → List α → World → Prop) (hI : OwnFrom w.heap.size I) (hIx : ∀ c, OwnFrom w.heap.size (Ix c)) (h0 : I [] w) (a₁ : α → Act)
    (hassign : ∀ (l : Nat) (x : α) (W : World) (K : Act → World → Prop), K (a₁ x) W →
      assign.wpIn (F.inRound l) (n - 1 - 1) P (Exit.then K (fun _ _ _ => False)) { tmps := (ps.zip (encs x)).foldl (fun t (p, v) => t.setIfInBounds p v) a.tmps, defers := [] } W)
    (hbody : ∀ (l : Nat) (pre : List α) (x : α) (W : World), I pre W → Pr pre x W → pre.length < N → body.wpIn (F.inRound l) (n - 1 - 1) P (ownPostK Kp I Ix (pre ++ [x]) W) (a₁ x) W)
    (hdone : ∀ (D : Nat) (xs : List α) (W : World), w.heap.size ≤ D → S xs → I xs W → W.heap[D]? = some (.deferred (some [])) → Q .normal { a with defers := { target := .collected D, args := #[] } :: a.defers } W)
    (hstop : ∀ (D : Nat) (c : Code) (pre : List α) (W : World), w.heap.size ≤ D → Sp pre → Ix c pre W → W.heap[D]? = some (.deferred (some [])) → c.wpIn F n P Q { a with defers := { target := .collected D, args := #[] } :: a.defers } W) :
    (Code.rangeFunc g ps assign body).wpIn F n P Q a w := by
  refine wpIn_rangeFunc fun fn hfn => ?_
  rw [hro]
  let R : LoopState → Option Code → Loop := fun st pe => { state := st, pending := pe, fn := fn, tmps := a.tmps, params := ps, assign := assign, body := body, defers := w.heap.size }
  have hbw : Below w.heap.size w ((w.alloc (.deferred (some []))).alloc (.loop (R .ready none))) := ((Below.refl _ _).alloc (Nat.le_refl _) _).alloc (by simp) _
  have hat : AtLoop w.heap.size (R .ready none) ((w.alloc (.deferred (some []))).alloc (.loop (R .ready none))) := by
    refine ⟨?_, ?_⟩
    · have := World.alloc_heap_new (w.alloc (.deferred (some []))) (.loop (R .ready none))
      rwa [World.size_alloc] at this
    · exact (Below.heap_alloc _ _ _ (by simp)).trans (World.alloc_heap_new w _)
  have hI0 := hI.alloc (.loop (R .ready none)) (hI.alloc (.deferred (some [])) h0)
  have hsz1 : ((w.alloc (.deferred (some []))).alloc (.loop (R .ready none))).heap.size = w.heap.size + 2 := by simp
  have hrun := run_enterLoop_outer (P := P) (w := w) fn a.tmps ps assign body
  change _ = Result.ok _ ((w.alloc (.deferred (some []))).alloc (.loop (R .ready none))) at hrun
  generalize (w.alloc (.deferred (some []))).alloc (.loop (R .ready none)) = W1 at *
  have hsmall : ∀ {A : World} {row : Option Nat}, (∀ r, row = some r → W1.heap.size ≤ r ∧ ∃ o : Obj, A.heap[r]? = some o ∧ o.isWalk = true) → ∀ r, row = some r → w.heap.size ≤ r ∧ ∃ o : Obj, A.heap[r]? = some o ∧ o.isCells = false := fun hr r e => by
    obtain ⟨hB, o, ho, hw⟩ := hr r e
    exact ⟨by omega, o, ho, Obj.not_cells_of_walk hw⟩
  refine ⟨w.heap.size + 1, _, W1, { target := .fn (.func gf) lb, args := #[.func (.yield (w.heap.size + 1)) #[] #[]] }, W1, gf, #[.func (.yield (w.heap.size + 1)) #[] #[]] ++ lb, W1, hrun, ?_, ?_, ?_, fun _ => h1, ?_⟩
  · simp only [resolve, hg]
    simp [go_sem]
  · intro f' hf'
    simp [Target.leads] at hf'
    subst hf'
    exact hFg
  · simp [invoke, go_sem, eg]
  refine (hseq (w.heap.size + 1) (fun pre W => I pre W ∧ AtLoop w.heap.size (R .ready none) W) (fun pre W => ∃ c, Ix c pre W ∧ AtLoop w.heap.size (R .done (some c)) W) W1 (hb0.trans (hbw.mono hb0.size)) ?_ ?_ ?_ ⟨hI0, hat⟩).mono ?_
  · exact fun s A B row hs hg' hr => ⟨hI s A B row hs.1 hg' (hsmall hr), hs.2.walks hg' fun r e => (hr r e).2⟩
  · rintro s A B row ⟨c, hc, hl⟩ hg' hr
    exact ⟨c, hIx c s A B row hc hg' (hsmall hr), hl.walks hg' fun r e => (hr r e).2⟩
  · rintro pre x W ⟨hi, hl⟩ hpr hlen
    refine ⟨fn, _, assign, body, run_yield (P := P) (args := encs x) hl.rcd (hps x), roundIn_of_wpIn hfn (hassign _ x W _ ⟨_, run_beginRound hl.rcd rfl, ?_⟩)⟩
    have hbusy : AtLoop w.heap.size { R .ready none with state := .busy } (W.putObj (w.heap.size + 1) (.loop { R .ready none with state := .busy })) := hl.turn _
    have hkp : Kp W (W.putObj (w.heap.size + 1) (.loop { R .ready none with state := .busy })) := hKb _ _ _ _ (Nat.le_succ _) hl.rcd rfl rfl
    have hi2 : I pre (W.putObj (w.heap.size + 1) (.loop { R .ready none with state := .busy })) := hI.putObj _ hi (Nat.le_succ _) hl.rcd rfl
    have hpr2 : Pr pre x (W.putObj (w.heap.size + 1) (.loop { R .ready none with state := .busy })) := hPb pre x W _ _ _ hl.rcd rfl hpr
    refine wpIn_mono (hbody _ pre x _ hi2 hpr2 hlen) ?_
    have leave : ∀ (c : Code) (W3 : World), KeepsOthers (W.putObj (w.heap.size + 1) (.loop { R .ready none with state := .busy })) W3 → Ix c (pre ++ [x]) W3 →
        (Instr.endRound (w.heap.size + 1) (some c)).run P W3 = .ok (.bool false) (W3.putObj (w.heap.size + 1) (.loop (R .done (some c)))) ∧ ∃ c', Ix c' (pre ++ [x]) (W3.putObj (w.heap.size + 1) (.loop (R .done (some c)))) ∧ AtLoop w.heap.size (R .done (some c')) (W3.putObj (w.heap.size + 1) (.loop (R .done (some c)))) := fun c W3 hk hx =>
      ⟨run_endRound (P := P) (some c) (hbusy.keeps hk).rcd, c, (hIx c).putObj _ hx (Nat.le_succ _) (hbusy.keeps hk).rcd rfl, (hbusy.keeps hk).turn _⟩
    rintro e a3 W3 hp
    cases e with
    | normal =>
      obtain ⟨hk3, hkp3, hi3⟩ := hp
      have hb3 := hbusy.keeps hk3
      exact ⟨_, _, run_endRound (P := P) none hb3.rcd, .inl ⟨rfl, ⟨hI.putObj _ hi3 (Nat.le_succ _) hb3.rcd rfl, hb3.turn _⟩, hKt (hKt hkp hkp3) (hKb _ _ _ _ (Nat.le_succ _) hb3.rcd rfl rfl)⟩⟩
    | ret =>
      obtain ⟨hr, c', h2, h3⟩ := leave .ret W3 hp.1 hp.2
      exact ⟨_, _, hr, .inr ⟨rfl, c', h2, h3⟩⟩
    | exit id =>
      obtain ⟨hr, c', h2, h3⟩ := leave (.exit id) W3 hp.1 hp.2
      exact ⟨_, _, hr, .inr ⟨rfl, c', h2, h3⟩⟩
    | goto t =>
      obtain ⟨hr, c', h2, h3⟩ := leave (.goto t) W3 hp.1 hp.2
      exact ⟨_, _, hr, .inr ⟨rfl, c', h2, h3⟩⟩
    | panic ch => exact hp.elim
    | outgrown => exact hp.elim
  · rintro e W2 ⟨⟨v, rfl⟩, (⟨xs, hS, hi, hl⟩ | ⟨pre, hSp, c, hi, hl⟩)⟩
    · exact ⟨none, _, run_endLoop (P := P) hl.rcd (by simp [R]), hdone _ xs _ (Nat.le_refl _) hS (hI.putObj _ hi (Nat.le_succ _) hl.rcd rfl) (hl.turn _).lst⟩
    · exact ⟨some c, _, run_endLoop (P := P) hl.rcd (by simp [R]), hstop _ c pre _ (Nat.le_refl _) hSp ((hIx c).putObj _ hi (Nat.le_succ _) hl.rcd rfl) (hl.turn _).lst⟩
end Go.Proofs.YtdaefhlfalhfnaaDoor
