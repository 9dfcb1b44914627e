/- Layer 3: load and Open of a disk that is none, or of a place that is none. -/
import Derived.Test.YtljlkmmeedlaiaaDoorPt25
import Derived.Test.YtljlkmmeedlaiaaDoorPt33
import Derived.Test.YtljlkmmeedlaiaaDoorPt13
import Derived.Test.YtljlkmmeedlaiaaDoorPt26
import Derived.Test.YtljlkmmeedlaiaaDoorPt28
namespace Go.Proofs.YtljlkmmeedlaiaaDoor
open Go.RowKit

theorem load_no (v : Value) (from_ n : Int) (w : World) (h : NoDisk w v) :
    Calls Tryd.prog 32 #[v, .int .i64 from_, .int .i64 n] w fun e w' => e = .returned (.tuple #[.pointer none, .int .i64 1]) ∧ Below w.heap.size w w' := by
  have H := Lib.hid h
  clear h
  go_enter Tryd.func32, Tryd.ntmps32
  go_wp2_with (go_at_call 28; refine (allowed_no v from_ n _ H.out).mono ?_; rintro e w' ⟨rfl, rfl⟩)
  go_ret2
  exact ⟨rfl, Below.refl _ _⟩
theorem load_not (w : World) (FD : Nat → Prop) (dp : Nat) (d : D) (from_ n : Int) (h : DiskAt w FD dp d) (hw : (Lit.int .i64 from_).wf = true) (hp : placeE d.size from_ n ≠ 0) :
    Calls Tryd.prog 32 #[.pointer (some ⟨dp, 0, none⟩), .int .i64 from_, .int .i64 n] w fun e w' => e = .returned (.tuple #[.pointer none, .int .i64 (placeE d.size from_ n)]) ∧ Below w.heap.size w w' := by
  have H := Lib.hid h
  have hne : (placeE d.size from_ n != 0) = true := by simp [hp]
  clear h hp
  go_enter Tryd.func32, Tryd.ntmps32
  go_wp2_with (go_at_call 28; refine (allowed_ok dp d from_ n _ H.out hw).mono ?_; rintro e w' ⟨rfl, rfl⟩)
  all_goals first
    | (go_ret2; exact ⟨rfl, Below.refl _ _⟩)
theorem open_no (v : Value) (from_ n : Int) (w : World) (h : NoDisk w v) :
    Calls Tryd.prog 11 #[v, .int .i64 from_, .int .i64 n] w fun e w' => e = .returned (.tuple #[.pointer none, .int .i64 1]) ∧ Below w.heap.size w w' := by
  have H := Lib.hid h
  clear h
  go_enter Tryd.func11, Tryd.ntmps11
  go_wp2_with (go_at_call 32; refine (load_no v from_ n _ H.out).mono ?_; rintro e w' ⟨rfl, hb⟩)
  go_ret2
  exact ⟨rfl, hb⟩
theorem open_not (w : World) (FD : Nat → Prop) (dp : Nat) (d : D) (from_ n : Int) (h : DiskAt w FD dp d) (hw : (Lit.int .i64 from_).wf = true) (hp : placeE d.size from_ n ≠ 0) :
    Calls Tryd.prog 11 #[.pointer (some ⟨dp, 0, none⟩), .int .i64 from_, .int .i64 n] w fun e w' => e = .returned (.tuple #[.pointer none, .int .i64 (placeE d.size from_ n)]) ∧ Below w.heap.size w w' := by
  have H := Lib.hid h
  have HP := Lib.hid hp
  have hne : (placeE d.size from_ n != 0) = true := by simp [hp]
  clear h hp
  go_enter Tryd.func11, Tryd.ntmps11
  go_wp2_with (go_at_call 32; refine (load_not _ FD dp d from_ n H.out hw HP.out).mono ?_; rintro e w' ⟨rfl, hb⟩)
  all_goals first
    | (go_ret2; exact ⟨rfl, hb⟩)
end Go.Proofs.YtljlkmmeedlaiaaDoor
/- Layer 3: a range over a function whose handed values are known by what their blocks hold: the body is walked only at values that meet a predicate in the world in which they are handed over. -/
namespace Go.Proofs.YtljlkmmeedlaiaaDoor
open Go.RowKit Go.Shelf

variable {F : Fence} {n : Nat} {P : Program}

/-- An iterator's contract: it hands values over that meet Pr, one by one. -/
def SeqP {α : Type} (F : Fence) (n : Nat) (P : Program) (gf : Nat) (lb : Array Value) (encs : α → Array Value) (Kp : World → World → Prop) (Pr : List α → α → World → Prop) (S Sp : List α → Prop) (N : Nat) (w : World) : Prop :=
  ∀ (l : Nat) (J Jx : List α → World → Prop) (W : World), Below w.heap.size w W → AbidesFrom W.heap.size J → AbidesFrom W.heap.size Jx →
    (∀ pre x W1, J pre W1 → Pr pre x W1 → pre.length < N → YieldAt F (n - 1) P l (encs x) W1 fun e W' =>
      (e = .returned (.bool true) ∧ J (pre ++ [x]) W' ∧ Kp W1 W') ∨ (e = .returned (.bool false) ∧ Jx (pre ++ [x]) W')) →
    J [] W → CallsIn F n P gf (#[.func (.yield l) #[] #[]] ++ lb) W fun e W' => (∃ v, e = .returned v) ∧ ((∃ xs, S xs ∧ J xs W') ∨ (∃ pre, Sp pre ∧ Jx pre W'))

/-- The two blocks of a loop over a function: its record, and the list of what is deferred. -/
structure AtLoop (k : Nat) (r : Loop) (W : World) : Prop where
  rcd : W.heap[k + 1]? = some (.loop r)
  lst : W.heap[k]? = some (.deferred (some []))
theorem AtLoop.keeps {k : Nat} {r : Loop} {W W' : World} (h : AtLoop k r W) (hk : KeepsOthers W W') : AtLoop k r W' := ⟨hk.same _ _ h.rcd rfl, hk.same _ _ h.lst rfl⟩
theorem AtLoop.turn {k : Nat} {r : Loop} {W : World} (h : AtLoop k r W) (r' : Loop) : AtLoop k r' (W.putObj (k + 1) (.loop r')) :=
  ⟨World.putObj_heap_same (lt_of_heap h.rcd), (World.putObj_heap_other (by omega)).trans h.lst⟩
theorem AtLoop.walks {k : Nat} {r : Loop} {W W' : World} {row : Option Nat} (h : AtLoop k r W) (hg : W.grownBy W' row) (hr : ∀ x, row = some x → ∃ o : Obj, W.heap[x]? = some o ∧ o.isWalk = true) : AtLoop k r W' :=
  ⟨(grownBy_keeps hg hr h.rcd rfl).trans h.rcd, (grownBy_keeps hg hr h.lst rfl).trans h.lst⟩

theorem wpIn_rangeP {α : Type} {g : Operand} {ps : Array Tmp} {assign body : Code} {Q : Exit → Act → World → Prop} {a : Act} {w : World}
    (hro : F.round = none) (h1 : 1 ≤ n) {gf : Nat} {lb : Array Value} (hg : a.eval g = .func (.func gf) #[] lb) (hFg : F.fn gf) (eg : ∀ args w, (callFunc gf args).run P w = .ok (.enter gf args) w)
    {encs : α → Array Value} {Kp : World → World → Prop} {Pr : List α → α → World → Prop} {S Sp : List α → Prop} {N : Nat} {w0 : World} (hseq : SeqP F (n - 1) P gf lb encs Kp Pr S Sp N w0)
    (hKt : ∀ {A B C : World}, Kp A B → Kp B C → Kp A C) (hKb : ∀ (W : World) (l : Nat) (o o' : Obj), w.heap.size ≤ l → W.heap[l]? = some o → o.isCells = false → o.isWalk = false → Kp W (W.putObj l o'))
    (hPb : ∀ (pre : List α) (x : α) (W : World) (l : Nat) (o o' : Obj), W.heap[l]? = some o → o.isCells = false → Pr pre x W → Pr pre x (W.putObj l o')) (hb0 : Below w0.heap.size w0 w) (hps : ∀ x, (encs x).size = ps.size)
    (I : List α → World → Prop) (Ix : Code → List α → World → Prop) (hI : OwnFrom w.heap.size I) (hIx : ∀ c, OwnFrom w.heap.size (Ix c)) (h0 : I [] w) (a₁ : α → Act)
    (hassign : ∀ (l : Nat) (x : α) (W : World) (K : Act → World → Prop), K (a₁ x) W →
      assign.wpIn (F.inRound l) (n - 1 - 1) P (Exit.then K (fun _ _ _ => False)) { tmps := (ps.zip (encs x)).foldl (fun t (p, v) => t.setIfInBounds p v) a.tmps, defers := [] } W)
    (hbody : ∀ (l : Nat) (pre : List α) (x : α) (W : World), I pre W → Pr pre x W → pre.length < N → body.wpIn (F.inRound l) (n - 1 - 1) P (ownPostK Kp I Ix (pre ++ [x]) W) (a₁ x) W)
    (hdone : ∀ (D : Nat) (xs : List α) (W : World), w.heap.size ≤ D → S xs → I xs W → W.heap[D]? = some (.deferred (some [])) → Q .normal { a with defers := { target := .collected D, args := #[] } :: a.defers } W)
    (hstop : ∀ (D : Nat) (c : Code) (pre : List α) (W : World), w.heap.size ≤ D → Sp pre → Ix c pre W → W.heap[D]? = some (.deferred (some [])) → c.wpIn F n P Q { a with defers := { target := .collected D, args := #[] } :: a.defers } W) :
    (Code.rangeFunc g ps assign body).wpIn F n P Q a w := by
  refine wpIn_rangeFunc fun fn hfn => ?_
  rw [hro]
  let R : LoopState → Option Code → Loop := fun st pe => { state := st, pending := pe, fn := fn, tmps := a.tmps, params := ps, assign := assign, body := body, defers := w.heap.size }
  have hbw : Below w.heap.size w ((w.alloc (.deferred (some []))).alloc (.loop (R .ready none))) := ((Below.refl _ _).alloc (Nat.le_refl _) _).alloc (by simp) _
  have hat : AtLoop w.heap.size (R .ready none) ((w.alloc (.deferred (some []))).alloc (.loop (R .ready none))) := by
    refine ⟨?_, ?_⟩
    · have := World.alloc_heap_new (w.alloc (.deferred (some []))) (.loop (R .ready none))
      rwa [World.size_alloc] at this
    · exact (Below.heap_alloc _ _ _ (by simp)).trans (World.alloc_heap_new w _)
  have hI0 := hI.alloc (.loop (R .ready none)) (hI.alloc (.deferred (some [])) h0)
  have hsz1 : ((w.alloc (.deferred (some []))).alloc (.loop (R .ready none))).heap.size = w.heap.size + 2 := by simp
  have hrun := run_enterLoop_outer (P := P) (w := w) fn a.tmps ps assign body
  change _ = Result.ok _ ((w.alloc (.deferred (some []))).alloc (.loop (R .ready none))) at hrun
  generalize (w.alloc (.deferred (some []))).alloc (.loop (R .ready none)) = W1 at *
  have hsmall : ∀ {A : World} {row : Option Nat}, (∀ r, row = some r → W1.heap.size ≤ r ∧ ∃ o : Obj, A.heap[r]? = some o ∧ o.isWalk = true) → ∀ r, row = some r → w.heap.size ≤ r ∧ ∃ o : Obj, A.heap[r]? = some o ∧ o.isCells = false := fun hr r e => by
    obtain ⟨hB, o, ho, hw⟩ := hr r e
    exact ⟨by omega, o, ho, Obj.not_cells_of_walk hw⟩
  refine ⟨w.heap.size + 1, _, W1, { target := .fn (.func gf) lb, args := #[.func (.yield (w.heap.size + 1)) #[] #[]] }, W1, gf, #[.func (.yield (w.heap.size + 1)) #[] #[]] ++ lb, W1, hrun, ?_, ?_, ?_, fun _ => h1, ?_⟩
  · simp only [resolve, hg]
    simp [go_sem]
  · intro f' hf'
    simp [Target.leads] at hf'
    subst hf'
    exact hFg
  · simp [invoke, go_sem, eg]
  refine (hseq (w.heap.size + 1) (fun pre W => I pre W ∧ AtLoop w.heap.size (R .ready none) W) (fun pre W => ∃ c, Ix c pre W ∧ AtLoop w.heap.size (R .done (some c)) W) W1 (hb0.trans (hbw.mono hb0.size)) ?_ ?_ ?_ ⟨hI0, hat⟩).mono ?_
  · exact fun s A B row hs hg' hr => ⟨hI s A B row hs.1 hg' (hsmall hr), hs.2.walks hg' fun r e => (hr r e).2⟩
  · rintro s A B row ⟨c, hc, hl⟩ hg' hr
    exact ⟨c, hIx c s A B row hc hg' (hsmall hr), hl.walks hg' fun r e => (hr r e).2⟩
  · rintro pre x W ⟨hi, hl⟩ hpr hlen
    refine ⟨fn, _, assign, body, run_yield (P := P) (args := encs x) hl.rcd (hps x), roundIn_of_wpIn hfn (hassign _ x W _ ⟨_, run_beginRound hl.rcd rfl, ?_⟩)⟩
    have hbusy : AtLoop w.heap.size { R .ready none with state := .busy } (W.putObj (w.heap.size + 1) (.loop { R .ready none with state := .busy })) := hl.turn _
    have hkp : Kp W (W.putObj (w.heap.size + 1) (.loop { R .ready none with state := .busy })) := hKb _ _ _ _ (Nat.le_succ _) hl.rcd rfl rfl
    have hi2 : I pre (W.putObj (w.heap.size + 1) (.loop { R .ready none with state := .busy })) := hI.putObj _ hi (Nat.le_succ _) hl.rcd rfl
    have hpr2 : Pr pre x (W.putObj (w.heap.size + 1) (.loop { R .ready none with state := .busy })) := hPb pre x W _ _ _ hl.rcd rfl hpr
    refine wpIn_mono (hbody _ pre x _ hi2 hpr2 hlen) ?_
    have leave : ∀ (c : Code) (W3 : World), KeepsOthers (W.putObj (w.heap.size + 1) (.loop { R .ready none with state := .busy })) W3 → Ix c (pre ++ [x]) W3 →
        (Instr.endRound (w.heap.size + 1) (some c)).run P W3 = .ok (.bool false) (W3.putObj (w.heap.size + 1) (.loop (R .done (some c)))) ∧ ∃ c', Ix c' (pre ++ [x]) (W3.putObj (w.heap.size + 1) (.loop (R .done (some c)))) ∧ AtLoop w.heap.size (R .done (some c')) (W3.putObj (w.heap.size + 1) (.loop (R .done (some c)))) := fun c W3 hk hx =>
      ⟨run_endRound (P := P) (some c) (hbusy.keeps hk).rcd, c, (hIx c).putObj _ hx (Nat.le_succ _) (hbusy.keeps hk).rcd rfl, (hbusy.keeps hk).turn _⟩
    rintro e a3 W3 hp
    cases e with
    | normal =>
      obtain ⟨hk3, hkp3, hi3⟩ := hp
      have hb3 := hbusy.keeps hk3
      exact ⟨_, _, run_endRound (P := P) none hb3.rcd, .inl ⟨rfl, ⟨hI.putObj _ hi3 (Nat.le_succ _) hb3.rcd rfl, hb3.turn _⟩, hKt (hKt hkp hkp3) (hKb _ _ _ _ (Nat.le_succ _) hb3.rcd rfl rfl)⟩⟩
    | ret =>
      obtain ⟨hr, c', h2, h3⟩ := leave .ret W3 hp.1 hp.2
      exact ⟨_, _, hr, .inr ⟨rfl, c', h2, h3⟩⟩
    | exit id =>
      obtain ⟨hr, c', h2, h3⟩ := leave (.exit id) W3 hp.1 hp.2
      exact ⟨_, _, hr, .inr ⟨rfl, c', h2, h3⟩⟩
    | goto t =>
      obtain ⟨hr, c', h2, h3⟩ := leave (.goto t) W3 hp.1 hp.2
      exact ⟨_, _, hr, .inr ⟨rfl, c', h2, h3⟩⟩
    | panic ch => exact hp.elim
    | outgrown => exact hp.elim
  · rintro e W2 ⟨⟨v, rfl⟩, (⟨xs, hS, hi, hl⟩ | ⟨pre, hSp, c, hi, hl⟩)⟩
    · exact ⟨none, _, run_endLoop (P := P) hl.rcd (by simp [R]), hdone _ xs _ (Nat.le_refl _) hS (hI.putObj _ hi (Nat.le_succ _) hl.rcd rfl) (hl.turn _).lst⟩
    · exact ⟨some c, _, run_endLoop (P := P) hl.rcd (by simp [R]), hstop _ c pre _ (Nat.le_refl _) hSp ((hIx c).putObj _ hi (Nat.le_succ _) hl.rcd rfl) (hl.turn _).lst⟩
end Go.Proofs.YtljlkmmeedlaiaaDoor
/- Layer 3: Batches: the list is cloned; what hands them over comes later. -/
namespace Go.Proofs.YtljlkmmeedlaiaaDoor
open Go.RowKit

/-- What Batches hands back: a function over a variable that holds a list of batches of its own. -/
def BatchesPost (w : World) (xs : List Bat) (e : Ending) (w' : World) : Prop :=
  ∃ q v, e = .returned (.func (.func 59) #[] #[.pointer (some ⟨q, 0, none⟩)]) ∧ w.heap.size ≤ q ∧ Row w' q 36 #[v] ∧ Lies w' (grow noBlock w) 41 1 v xs.length (bvs xs) ∧ Below w.heap.size w w'
theorem batches_no (v : Value) (w : World) (h : NoLog w v) :
    Calls Tryd.prog 35 #[v] w (BatchesPost w []) := by
  obtain ⟨w0, hw0⟩ : ∃ w0, w0 = w.alloc (.cells #[.slice none 0 0] 36) := ⟨_, rfl⟩
  have hb0 : Below w.heap.size w w0 := by subst hw0; exact (Below.refl _ _).alloc (Nat.le_refl _) _
  have hr0 : Row w0 w.heap.size 36 #[.slice none 0 0] := by subst hw0; exact Row.new _ _ _
  have H := Lib.hid (h.below hb0)
  have HF : Hid (BatchesPost w [] (.returned (.func (.func 59) #[] #[.pointer (some ⟨w.heap.size, 0, none⟩)])) w0) := Lib.hid ⟨_, _, rfl, Nat.le_refl _, hr0, Lies.empty _ _ _ _ _, hb0⟩
  rw [hw0] at H HF
  clear h hb0 hr0 hw0
  go_enter Tryd.func35, Tryd.ntmps35
  go_wp2_with (go_at_call 36; refine (lnone_no v _ H.out).mono ?_; rintro e w' ⟨rfl, rfl⟩)
  go_ret
  exact HF.out
theorem batches_ok (w : World) (FL FD : Nat → Prop) (p : Nat) (l : L) (d : D) (vb : Value) (xs : List Bat) (h : LogOn w FL FD p l d) (h1 : LogIs w FL p l vb xs) (hn : xs.length ≤ 1000000) :
    Calls Tryd.prog 35 #[.pointer (some ⟨p, 0, none⟩)] w (BatchesPost w xs) := by
  obtain ⟨A, c, hv, _, _, hh⟩ := h1.list.holds
  subst hv
  obtain ⟨w0, hw0⟩ : ∃ w0, w0 = w.alloc (.cells #[.slice none 0 0] 36) := ⟨_, rfl⟩
  have hb0 : Below w.heap.size w w0 := by subst hw0; exact (Below.refl _ _).alloc (Nat.le_refl _) _
  have hr0 : Row w0 w.heap.size 36 #[.slice none 0 0] := by subst hw0; exact Row.new _ _ _
  have H := Lib.hid (h.call hb0)
  have hc6 := (h1.below hb0).c6
  have HCL : Hid (Calls Tryd.prog 58 #[.slice A xs.length c] w0 (CloneOf w0 41 1 xs.length (bvs xs))) := Lib.hid (cloneBats A c xs w0 (hh.below hb0) hn)
  have HB0 := Lib.hid hb0
  have HR0 := Lib.hid hr0
  have HSZ : Hid (w0.heap.size = w.heap.size + 1) := Lib.hid (by subst hw0; simp)
  rw [hw0] at hc6
  clear h h1 hh hb0 hr0
  go_enter Tryd.func35, Tryd.ntmps35
  go_wp2_with (go_at_call 36; rw [← hw0]; refine (lnone_ok _ FL FD p l d H.out).mono ?_; rintro e w' ⟨rfl, rfl⟩; rw [← hw0] at hc6; clear hw0)
  refine HCL.out.mono ?_
  rintro e w2 ⟨v, rfl, hl, hb2⟩
  have hr2 := HR0.out.call hb2
  have hc2 := hr2.cell (i := 0) (v := .slice none 0 0) rfl
  have hf2 := hr2.free 0
  obtain ⟨A2, c2, rfl, _, _⟩ := hl.form
  have HF : Hid (BatchesPost w xs (.returned (.func (.func 59) #[] #[.pointer (some ⟨w.heap.size, 0, none⟩)])) (w2.setCell ⟨w.heap.size, 0, none⟩ (.slice A2 xs.length c2))) := Lib.hid
    ⟨_, _, rfl, Nat.le_refl _, by have := hr2.set_ 0 (.slice A2 xs.length c2); simpa using this, (hl.row hr2 (by decide) (Kept.cell _ _ _ _)).mono (fun k hk => by
      rcases hk with hk | hk
      · exact hk.elim
      · exact .inr (Nat.le_trans HB0.out.size hk)), (HB0.out.call hb2).setCell (p := ⟨w.heap.size, 0, none⟩) (Nat.le_refl _) _⟩
  clear hl hb2 hr2 hc6
  go_wp2_with fail
  go_ret
  exact HF.out
end Go.Proofs.YtljlkmmeedlaiaaDoor
