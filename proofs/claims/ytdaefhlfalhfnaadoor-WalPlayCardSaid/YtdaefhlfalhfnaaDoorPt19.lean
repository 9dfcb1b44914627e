/- Layer 3's laws: are two lists of batches the same? -/
import Derived.Test.YtdaefhlfalhfnaaDoorPt18
import Derived.BigQuiet
import Derived.Test.YtdaefhlfalhfnaaDoorPt14
namespace Go.Proofs.YtdaefhlfalhfnaaDoor
open Go.RowKit

/-- Texts, as a list of them lies in memory. -/
def txt (l : List Nat) : Value := .string (textOf l)
def txts (ws : List (List Nat)) : List Value := ws.map txt
theorem txts_one (ws : List (List Nat)) : ∀ v ∈ txts ws, v.oneCell' = true := by
  intro v hv
  obtain ⟨b, _, rfl⟩ := List.mem_map.1 hv
  rfl
theorem text_ne {a b : List Nat} (ha : Small a) (hb : Small b) (h : a ≠ b) : ((textOf a).toList == (textOf b).toList) = false := beq_eq_false_iff_ne.2 fun e => h (textOf_inj ha hb e)
theorem Holds.txt {w : World} {A : Option Addr} {ws : List (List Nat)} (h : Holds w A ws.length 1 (txts ws)) {k : Nat} (hk : k < ws.length) : ∃ g off, A = some ⟨g, off, none⟩ ∧ w.cell? ⟨g, off + k, none⟩ = some (.string (textOf (ws.getD k []))) := by
  obtain ⟨g, off, e, _, hr⟩ := h.2 (by omega)
  refine ⟨g, off, e, ?_⟩
  have := hr k (Go.Proofs.YtdaefhlfalhfnaaDoor.txt (ws.getD k [])) (by simp [txts, List.getD_eq_getElem?_getD, hk])
  exact this
set_option maxHeartbeats 1000000 in
theorem same_wal_ok (Aa : Option Addr) (ca : Nat) (ys : List Bat) (Ab : Option Addr) (cb : Nat) (ws : List (List Nat)) (F : Nat → Prop) (w : World) (ha : Lies w F 41 1 (.slice Aa ys.length ca) ys.length (bvs ys)) (hb : ∀ b ∈ ys, BatOk w F b)
    (hs : Holds w Ab ws.length 1 (txts ws)) (hsm : ∀ b ∈ ws, Small b) (hy : ys.length ≤ 1000000) (_ : ws.length ≤ 1000000) :
    Calls Tryd.prog 17 #[.slice Aa ys.length ca, .slice Ab ws.length cb] w fun e w' => e = .returned (.bool (decide (ys.map (·.l) = ws))) ∧ Below w.heap.size w w' := by
  have HA := Lib.hid ha
  have HB := Lib.hid hb
  have HS := Lib.hid hs
  have HSM := Lib.hid hsm
  clear ha hb hs hsm
  by_cases hlen : ys.length = ws.length
  · go_enter Tryd.func17, Tryd.ntmps17
    go_wp2_with fail
    go_loopw [5] (fun v5 wr => ∃ k : Nat, k ≤ ws.length ∧ v5 = .int .i64 k ∧ (ys.map (·.l)).take k = ws.take k ∧ Below w.heap.size w wr) (fun v5 _ => ws.length - (intOf v5).toNat)
    case atStart => exact ⟨0, Nat.zero_le _, rfl, by simp, Below.refl _ _⟩
    case round =>
      obtain ⟨k, hk, rfl, htk, hbw⟩ := hrel
      by_cases hlt : k < ws.length
      · have hlt2 : k < ys.length := by omega
        obtain ⟨g, off, cap, hvv, _, hk1, hk2, _, hrng⟩ := (HA.out.below hbw).cells (by omega)
        injection hvv with hA _ hcc
        subst hA
        subst hcc
        have hc1 : wr.cell? ⟨g, off + k, none⟩ = some (ys.getD k ⟨none, 0, []⟩).v := hrng k _ (by simp [bvs, List.getD_eq_getElem?_getD, hlt2])
        have hmem : ys.getD k ⟨none, 0, []⟩ ∈ ys := by rw [List.getD_eq_getElem?_getD, List.getElem?_eq_getElem hlt2]; exact List.getElem_mem hlt2
        have hmem2 : ws.getD k [] ∈ ws := by rw [List.getD_eq_getElem?_getD, List.getElem?_eq_getElem hlt]; exact List.getElem_mem hlt
        have hbk := (HB.out _ hmem).below hbw
        have hsk := HSM.out _ hmem2
        obtain ⟨g2, off2, hA2, hc2⟩ := (HS.out.below hbw).txt hlt
        subst hA2
        obtain ⟨bA, bc, hbv, hbb, _, _, _⟩ := lies_bytes hbk.lies hbk.small
        have hbs := hbk.small
        have hget : ys.getD k ⟨none, 0, []⟩ = ys[k] := by simp [List.getD_eq_getElem?_getD, hlt2]
        have hget2 : ws.getD k [] = ws[k] := by simp [List.getD_eq_getElem?_getD, hlt]
        have HEQ : Hid ((ys.getD k ⟨none, 0, []⟩).l = ws.getD k [] → (ys.map (·.l)).take (k + 1) = ws.take (k + 1)) := Lib.hid fun he => by
          rw [List.take_succ_eq_append_getElem (by rw [List.length_map]; exact hlt2), List.take_succ_eq_append_getElem hlt, htk]
          congr 2
          rw [List.getElem_map, ← hget, he, hget2]
        have HNE : Hid ((ys.getD k ⟨none, 0, []⟩).l ≠ ws.getD k [] → decide (ys.map (·.l) = ws) = false) := Lib.hid fun hne => by
          simp only [decide_eq_false_iff_not]
          intro he
          apply hne
          have h9 : (ys.map (·.l))[k]? = ws[k]? := by rw [he]
          rw [List.getElem?_map, List.getElem?_eq_getElem hlt2, List.getElem?_eq_getElem hlt] at h9
          rw [hget, hget2]
          exact Option.some.inj h9
        rw [hbv] at hc1
        have hconv : ∀ W, Below wr.heap.size wr W → (convert 41 9 (.slice bA (ys.getD k ⟨none, 0, []⟩).l.length bc)).run Tryd.prog W = .ok (.string (textOf (ys.getD k ⟨none, 0, []⟩).l)) W := fun W hW => run_text (hbb.below hW) 41 9 5 bc Tryd.underlying41 Tryd.underlying5 Tryd.underlying9
        clear hrng hmem hmem2 hbk hbv hbb htk hget hget2
        generalize (ys.getD k ⟨none, 0, []⟩).l = la at *
        generalize ws.getD k [] = lb at *
        by_cases he : la = lb
        · subst he
          have HT := Lib.hid (HEQ.out rfl)
          clear HEQ HNE hsk hbs
          have hconv0 := hconv wr (Below.refl _ _)
          have hconv1 := hconv wr.drew ((Below.refl _ _).drew)
          clear hconv
          go_upto_region 6 with fail
          go_region
          go_wp2
          go_round
          case rel => exact ⟨k + 1, by omega, by go_num, HT.out, hbw.drew⟩
          case measure => simp [intOf]; omega
        · have HF := Lib.hid (HNE.out he)
          have HN := Lib.hid (text_ne hbs hsk he)
          clear HEQ HNE
          have hconv0 := hconv wr (Below.refl _ _)
          have hconv1 := hconv wr.drew ((Below.refl _ _).drew)
          clear hconv hsk hbs he
          generalize textOf la = ta at *
          generalize textOf lb = tb at *
          have hn1 := HN.out
          go_upto_region 6 with fail
          go_region
          go_wp2
          go_ret
          exact ⟨by rw [HF.out]; rfl, hbw.drew⟩
      · obtain rfl : k = ws.length := by omega
        have HF : Hid (decide (ys.map (·.l) = ws) = true) := Lib.hid (by
          rw [List.take_of_length_le (by rw [List.length_map]; omega), List.take_length] at htk
          simpa using htk)
        clear htk
        go_wp2
        go_ret
        exact ⟨by rw [HF.out]; rfl, hbw⟩
  · have HF : Hid (decide (ys.map (·.l) = ws) = false) := Lib.hid (by
      simp only [decide_eq_false_iff_not]
      intro he
      exact hlen (by rw [← he, List.length_map]))
    have hne : (((ys.length : Nat) : Int) != ((ws.length : Nat) : Int)) = true := by simp; omega
    go_enter Tryd.func17, Tryd.ntmps17
    go_wp2
    go_ret
    exact ⟨by rw [HF.out]; rfl, Below.refl _ _⟩
end Go.Proofs.YtdaefhlfalhfnaaDoor
/- Layer 3: a range over a function whose handed values are known by what their blocks hold: the body is walked only at values that meet a predicate in the world in which they are handed over. -/
namespace Go.Proofs.YtdaefhlfalhfnaaDoor
open Go.RowKit Go.Shelf

variable {F : Fence} {n : Nat} {P : Program}

/-- An iterator's contract: it hands values over that meet Pr, one by one. -/
def SeqP {α : Type} (F : Fence) (n : Nat) (P : Program) (gf : Nat) (lb : Array Value) (encs : α → Array Value) (Kp : World → World → Prop) (Pr : List α → α → World → Prop) (S Sp : List α → Prop) (N : Nat) (w : World) : Prop :=
  ∀ (l : Nat) (J Jx : List α → World → Prop) (W : World), Below w.heap.size w W → AbidesFrom W.heap.size J → AbidesFrom W.heap.size Jx →
    (∀ pre x W1, J pre W1 → Pr pre x W1 → pre.length < N → YieldAt F (n - 1) P l (encs x) W1 fun e W' =>
      (e = .returned (.bool true) ∧ J (pre ++ [x]) W' ∧ Kp W1 W') ∨ (e = .returned (.bool false) ∧ Jx (pre ++ [x]) W')) →
    J [] W → CallsIn F n P gf (#[.func (.yield l) #[] #[]] ++ lb) W fun e W' => (∃ v, e = .returned v) ∧ ((∃ xs, S xs ∧ J xs W') ∨ (∃ pre, Sp pre ∧ Jx pre W'))

/-- The two blocks of a loop over a function: its record, and the list of what is deferred. -/
structure AtLoop (k : Nat) (r : Loop) (W : World) : Prop where
  rcd : W.heap[k + 1]? = some (.loop r)
  lst : W.heap[k]? = some (.deferred (some []))
theorem AtLoop.keeps {k : Nat} {r : Loop} {W W' : World} (h : AtLoop k r W) (hk : KeepsOthers W W') : AtLoop k r W' := ⟨hk.same _ _ h.rcd rfl, hk.same _ _ h.lst rfl⟩
theorem AtLoop.turn {k : Nat} {r : Loop} {W : World} (h : AtLoop k r W) (r' : Loop) : AtLoop k r' (W.putObj (k + 1) (.loop r')) :=
  ⟨World.putObj_heap_same (lt_of_heap h.rcd), (World.putObj_heap_other (by omega)).trans h.lst⟩
theorem AtLoop.walks {k : Nat} {r : Loop} {W W' : World} {row : Option Nat} (h : AtLoop k r W) (hg : W.grownBy W' row) (hr : ∀ x, row = some x → ∃ o : Obj, W.heap[x]? = some o ∧ o.isWalk = true) : AtLoop k r W' :=
  ⟨(grownBy_keeps hg hr h.rcd rfl).trans h.rcd, (grownBy_keeps hg hr h.lst rfl).trans h.lst⟩

theorem wpIn_rangeP {α : Type} {g : Operand} {ps : Array Tmp} {assign body : Code} {Q : Exit → Act → World → Prop} {a : Act} {w : World}
    (hro : F.round = none) (h1 : 1 ≤ n) {gf : Nat} {lb : Array Value} (hg : a.eval g = .func (.func gf) #[] lb) (hFg : F.fn gf) (eg : ∀ args w, (callFunc gf args).run P w = .ok (.enter gf args) w)
    {encs : α → Array Value} {Kp : World → World → Prop} {Pr : List α → α → World → Prop} {S Sp : List α → Prop} {N : Nat} {w0 : World} (hseq : SeqP F (n - 1) P gf lb encs Kp Pr S Sp N w0)
    (hKt : ∀ {A B C : World}, Kp A B → Kp B C → Kp A C) (hKb : ∀ (W : World) (l : Nat) (o o' : Obj), w.heap.size ≤ l → W.heap[l]? = some o → o.isCells = false → o.isWalk = false → Kp W (W.putObj l o'))
    (hPb : ∀ (pre : List α) (x : α) (W : World) (l : Nat) (o o' : Obj), W.heap[l]? = some o → o.isCells = false → Pr pre x W → Pr pre x (W.putObj l o')) (hb0 : Below w0.heap.size w0 w) (hps : ∀ x, (encs x).size = ps.size)
    (I : List α → World → Prop) (Ix : Code → List α → World → Prop) (hI : OwnFrom w.heap.size I) (hIx : ∀ c, OwnFrom w.heap.size (Ix c)) (h0 : I [] w) (a₁ : α → Act)
    (hassign : ∀ (l : Nat) (x : α) (W : World) (K : Act → World → Prop), K (a₁ x) W →
      assign.wpIn (F.inRound l) (n - 1 - 1) P (Exit.then K (fun _ _ _ => False)) { tmps := (ps.zip (encs x)).foldl (fun t (p, v) => t.setIfInBounds p v) a.tmps, defers := [] } W)
    (hbody : ∀ (l : Nat) (pre : List α) (x : α) (W : World), I pre W → Pr pre x W → pre.length < N → body.wpIn (F.inRound l) (n - 1 - 1) P (ownPostK Kp I Ix (pre ++ [x]) W) (a₁ x) W)
    (hdone : ∀ (D : Nat) (xs : List α) (W : World), w.heap.size ≤ D → S xs → I xs W → W.heap[D]? = some (.deferred (some [])) → Q .normal { a with defers := { target := .collected D, args := #[] } :: a.defers } W)
    (hstop : ∀ (D : Nat) (c : Code) (pre : List α) (W : World), w.heap.size ≤ D → Sp pre → Ix c pre W → W.heap[D]? = some (.deferred (some [])) → c.wpIn F n P Q { a with defers := { target := .collected D, args := #[] } :: a.defers } W) :
    (Code.rangeFunc g ps assign body).wpIn F n P Q a w := by
  refine wpIn_rangeFunc fun fn hfn => ?_
  rw [hro]
  let R : LoopState → Option Code → Loop := fun st pe => { state := st, pending := pe, fn := fn, tmps := a.tmps, params := ps, assign := assign, body := body, defers := w.heap.size }
  have hbw : Below w.heap.size w ((w.alloc (.deferred (some []))).alloc (.loop (R .ready none))) := ((Below.refl _ _).alloc (Nat.le_refl _) _).alloc (by simp) _
  have hat : AtLoop w.heap.size (R .ready none) ((w.alloc (.deferred (some []))).alloc (.loop (R .ready none))) := by
    refine ⟨?_, ?_⟩
    · have := World.alloc_heap_new (w.alloc (.deferred (some []))) (.loop (R .ready none))
      rwa [World.size_alloc] at this
    · exact (Below.heap_alloc _ _ _ (by simp)).trans (World.alloc_heap_new w _)
  have hI0 := hI.alloc (.loop (R .ready none)) (hI.alloc (.deferred (some [])) h0)
  have hsz1 : ((w.alloc (.deferred (some []))).alloc (.loop (R .ready none))).heap.size = w.heap.size + 2 := by simp
  have hrun := run_enterLoop_outer (P := P) (w := w) fn a.tmps ps assign body
  change _ = Result.ok _ ((w.alloc (.deferred (some []))).alloc (.loop (R .ready none))) at hrun
  generalize (w.alloc (.deferred (some []))).alloc (.loop (R .ready none)) = W1 at *
  have hsmall : ∀ {A : World} {row : Option Nat}, (∀ r, row = some r → W1.heap.size ≤ r ∧ ∃ o : Obj, A.heap[r]? = some o ∧ o.isWalk = true) → ∀ r, row = some r → w.heap.size ≤ r ∧ ∃ o : Obj, A.heap[r]? = some o ∧ o.isCells = false := fun hr r e => by
    obtain ⟨hB, o, ho, hw⟩ := hr r e
    exact ⟨by omega, o, ho, Obj.not_cells_of_walk hw⟩
  refine ⟨w.heap.size + 1, _, W1, { target := .fn (.func gf) lb, args := #[.func (.yield (w.heap.size + 1)) #[] #[]] }, W1, gf, #[.func (.yield (w.heap.size + 1)) #[] #[]] ++ lb, W1, hrun, ?_, ?_, ?_, fun _ => h1, ?_⟩
  · simp only [resolve, hg]
    simp [go_sem]
  · intro f' hf'
    simp [Target.leads] at hf'
    subst hf'
    exact hFg
  · simp [invoke, go_sem, eg]
  refine (hseq (w.heap.size + 1) (fun pre W => I pre W ∧ AtLoop w.heap.size (R .ready none) W) (fun pre W => ∃ c, Ix c pre W ∧ AtLoop w.heap.size (R .done (some c)) W) W1 (hb0.trans (hbw.mono hb0.size)) ?_ ?_ ?_ ⟨hI0, hat⟩).mono ?_
  · exact fun s A B row hs hg' hr => ⟨hI s A B row hs.1 hg' (hsmall hr), hs.2.walks hg' fun r e => (hr r e).2⟩
  · rintro s A B row ⟨c, hc, hl⟩ hg' hr
    exact ⟨c, hIx c s A B row hc hg' (hsmall hr), hl.walks hg' fun r e => (hr r e).2⟩
  · rintro pre x W ⟨hi, hl⟩ hpr hlen
    refine ⟨fn, _, assign, body, run_yield (P := P) (args := encs x) hl.rcd (hps x), roundIn_of_wpIn hfn (hassign _ x W _ ⟨_, run_beginRound hl.rcd rfl, ?_⟩)⟩
    have hbusy : AtLoop w.heap.size { R .ready none with state := .busy } (W.putObj (w.heap.size + 1) (.loop { R .ready none with state := .busy })) := hl.turn _
    have hkp : Kp W (W.putObj (w.heap.size + 1) (.loop { R .ready none with state := .busy })) := hKb _ _ _ _ (Nat.le_succ _) hl.rcd rfl rfl
    have hi2 : I pre (W.putObj (w.heap.size + 1) (.loop { R .ready none with state := .busy })) := hI.putObj _ hi (Nat.le_succ _) hl.rcd rfl
    have hpr2 : Pr pre x (W.putObj (w.heap.size + 1) (.loop { R .ready none with state := .busy })) := hPb pre x W _ _ _ hl.rcd rfl hpr
    refine wpIn_mono (hbody _ pre x _ hi2 hpr2 hlen) ?_
    have leave : ∀ (c : Code) (W3 : World), KeepsOthers (W.putObj (w.heap.size + 1) (.loop { R .ready none with state := .busy })) W3 → Ix c (pre ++ [x]) W3 →
        (Instr.endRound (w.heap.size + 1) (some c)).run P W3 = .ok (.bool false) (W3.putObj (w.heap.size + 1) (.loop (R .done (some c)))) ∧ ∃ c', Ix c' (pre ++ [x]) (W3.putObj (w.heap.size + 1) (.loop (R .done (some c)))) ∧ AtLoop w.heap.size (R .done (some c')) (W3.putObj (w.heap.size + 1) (.loop (R .done (some c)))) := fun c W3 hk hx =>
      ⟨run_endRound (P := P) (some c) (hbusy.keeps hk).rcd, c, (hIx c).putObj _ hx (Nat.le_succ _) (hbusy.keeps hk).rcd rfl, (hbusy.keeps hk).turn _⟩
    rintro e a3 W3 hp
    cases e with
    | normal =>
      obtain ⟨hk3, hkp3, hi3⟩ := hp
      have hb3 := hbusy.keeps hk3
      exact ⟨_, _, run_endRound (P := P) none hb3.rcd, .inl ⟨rfl, ⟨hI.putObj _ hi3 (Nat.le_succ _) hb3.rcd rfl, hb3.turn _⟩, hKt (hKt hkp hkp3) (hKb _ _ _ _ (Nat.le_succ _) hb3.rcd rfl rfl)⟩⟩
    | ret =>
      obtain ⟨hr, c', h2, h3⟩ := leave .ret W3 hp.1 hp.2
      exact ⟨_, _, hr, .inr ⟨rfl, c', h2, h3⟩⟩
    | exit id =>
      obtain ⟨hr, c', h2, h3⟩ := leave (.exit id) W3 hp.1 hp.2
      exact ⟨_, _, hr, .inr ⟨rfl, c', h2, h3⟩⟩
    | goto t =>
      obtain ⟨hr, c', h2, h3⟩ := leave (.goto t) W3 hp.1 hp.2
      exact ⟨_, _, hr, .inr ⟨rfl, c', h2, h3⟩⟩
    | panic ch => exact hp.elim
    | outgrown => exact hp.elim
  · rintro e W2 ⟨⟨v, rfl⟩, (⟨xs, hS, hi, hl⟩ | ⟨pre, hSp, c, hi, hl⟩)⟩
    · exact ⟨none, _, run_endLoop (P := P) hl.rcd (by simp [R]), hdone _ xs _ (Nat.le_refl _) hS (hI.putObj _ hi (Nat.le_succ _) hl.rcd rfl) (hl.turn _).lst⟩
    · exact ⟨some c, _, run_endLoop (P := P) hl.rcd (by simp [R]), hstop _ c pre _ (Nat.le_refl _) hSp ((hIx c).putObj _ hi (Nat.le_succ _) hl.rcd rfl) (hl.turn _).lst⟩
end Go.Proofs.YtdaefhlfalhfnaaDoor
