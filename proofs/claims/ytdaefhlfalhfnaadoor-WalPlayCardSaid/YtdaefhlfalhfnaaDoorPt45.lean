/- Layer 3, pure: what a disk holds where a log lies, between its calls. -/
import Derived.Test.YtdaefhlfalhfnaaDoorPt43
import Derived.Test.YtdaefhlfalhfnaaDoorPt44
import Derived.Test.YtdaefhlfalhfnaaDoorPt03
namespace Go.Proofs.YtdaefhlfalhfnaaDoor

theorem readW_at (f : Int → List Nat) (a : Int) (l : List Nat) : ∀ (m k : Nat), k < m → readW f a l m (a + (k : Int)) = secOf l k
  | 0, k, h => by omega
  | m + 1, k, h => by
    show upd (readW f a l m) (a + m) (secOf l m) (a + (k : Int)) = _
    unfold upd
    by_cases hk : k = m
    · subst hk; simp
    · rw [if_neg (by omega)]
      exact readW_at f a l m k (by omega)
theorem secOf_own {l : List Nat} (h : l.length = 512) : secOf l 0 = l := by
  unfold secOf
  rw [Nat.zero_mul, List.drop_zero, List.take_of_length_le (by omega)]
set_option maxRecDepth 100000 in
theorem cutP_spec (r j0 : Nat) (x : List Nat) (N : Nat) : ∀ j, j ≤ N → (cutP r j0 x (frTo N j)).length = j * 512 ∧ ∀ i, i < j → secOf (cutP r j0 x (frTo N j)) i = secL r (j0 + i) (partL x i)
  | 0, _ => ⟨by simp [frTo, cutP], fun i hi => by omega⟩
  | j + 1, h => by
    obtain ⟨h1, h2⟩ := cutP_spec r j0 x N j (by omega)
    have hl : (secL r (j0 + j) (partL x j)).length = 512 := secL_len r (j0 + j) (part := partL x j) (by rw [partL_len]; omega)
    have e : cutP r j0 x (frTo N (j + 1)) = cutP r j0 x (frTo N j) ++ secL r (j0 + j) (partL x j) := by
      rw [frTo_succ (by omega), cutP_snoc, frTo_length (by omega)]
    rw [e]
    refine ⟨by rw [List.length_append, h1, hl]; omega, fun i hi => ?_⟩
    by_cases hij : i = j
    · subst hij
      unfold secOf
      rw [List.drop_append_of_le_length (by omega), ← h1, List.drop_length, List.nil_append, List.take_of_length_le (by omega)]
    · rw [← h2 i (by omega)]
      have hle : (i + 1) * 512 ≤ j * 512 := Nat.mul_le_mul_right _ (by omega)
      unfold secOf
      rw [List.drop_append_of_le_length (by omega), List.take_append_of_le_length (by rw [List.length_drop]; omega)]
theorem secOf_cutL {r o : Nat} {b : List Nat} {i : Nat} (h : i < costN b.length) : secOf (cutL r o b) i = cutS r o b i := (cutP_spec r o (batchL b) (costN b.length) (costN b.length) (Nat.le_refl _)).2 i h
set_option maxRecDepth 100000 in
theorem cutS_run {r o : Nat} {b : List Nat} {i : Nat} (hr : r < 18446744073709551616) : runL (cutS r o b i) = r ∧ runL ((cutS r o b i).drop 500) = r := secL_run (partL_le _ _) hr
/-- A log without torn sectors: head, batches, and nothing behind them that counts. -/
structure Clean (f : Int → List Nat) (a n R B used : Nat) (bs : List (List Nat)) : Prop where
  sec : ∀ k, Sec (f k)
  head : headVal (f ((a + R % 2 : Nat) : Int)) (R % 2) = (R, B)
  other : (headVal (f ((a + (R + 1) % 2 : Nat) : Int)) ((R + 1) % 2)).1 < R
  laid : ∃ xs last, LaidOut f ((a : Int) + 2) B R 0 0 xs used last ∧ xs.map (·.2) = bs
  base1 : 1 ≤ B
  base : B ≤ R
  run : R < 4611686018427387904
  n4 : 4 ≤ n
  n9 : n ≤ 65536
  fit : used + 2 ≤ n
  rest : ∀ j, used ≤ j → j < n - 2 → runL (f ((a : Int) + 2 + (j : Int))) < B ∧ runL ((f ((a : Int) + 2 + (j : Int))).drop 500) < B
theorem two_cases (R : Nat) : (R % 2 = 0 ∧ (R + 1) % 2 = 1) ∨ (R % 2 = 1 ∧ (R + 1) % 2 = 0) := by omega
set_option maxRecDepth 100000 in
theorem Clean.sel {f : Int → List Nat} {a n R B used : Nat} {bs : List (List Nat)} (h : Clean f a n R B used bs) : headSel f a = (R, B) := by
  have h1 := h.head
  have h2 := h.other
  unfold headSel
  rcases two_cases R with ⟨e1, e2⟩ | ⟨e1, e2⟩
  · rw [e1] at h1
    rw [e2] at h2
    have g1 : headVal (f (a : Int)) 0 = (R, B) := h1
    have g2 : (headVal (f ((a : Int) + 1)) 1).1 < R := h2
    rw [g1, if_neg (by simp only []; omega)]
  · rw [e1] at h1
    rw [e2] at h2
    have g1 : headVal (f ((a : Int) + 1)) 1 = (R, B) := h1
    have g2 : (headVal (f (a : Int)) 0).1 < R := h2
    rw [g1, if_pos (by simp only []; omega)]
set_option maxRecDepth 100000 in
theorem LaidOut.runs {f : Int → List Nat} {a : Int} {B R : Nat} (hR : R < 18446744073709551616) : ∀ {xs : List (Nat × List Nat)} {o p used last : Nat}, LaidOut f a B R o p xs used last → ∀ j, o ≤ j → j < used → runL (f (a + (j : Int))) ≤ R ∧ runL ((f (a + (j : Int))).drop 500) ≤ R
  | [], o, p, used, last, h, j, h1, h2 => by have := h.1; omega
  | (r, b) :: xs, o, p, used, last, h, j, h1, h2 => by
    obtain ⟨_, _, hr, _, hc, hrest⟩ := h
    by_cases hj : j < o + costN b.length
    · have e := hc (j - o) (by omega)
      rw [show o + (j - o) = j by omega] at e
      rw [e]
      have := cutS_run (r := r) (o := o) (b := b) (i := j - o) (by omega)
      omega
    · exact LaidOut.runs hR hrest j (by omega) h2
set_option maxRecDepth 100000 in
theorem Clean.good {f : Int → List Nat} {a n R B used : Nat} {bs : List (List Nat)} (h : Clean f a n R B used bs) : GoodLog f a n := by
  have hs := h.sel
  unfold GoodLog
  rw [hs]
  have hb := h.base
  have hb1 := h.base1
  have hr := h.run
  refine ⟨by show 1 ≤ R; omega, fun j hj => ?_⟩
  show _ ≤ R
  by_cases hu : j < used
  · obtain ⟨xs, last, hl, _⟩ := h.laid
    exact (hl.runs (by omega) j (Nat.zero_le _) hu).1
  · have := (h.rest j (by omega) hj).1
    omega
set_option maxRecDepth 100000 in
theorem Clean.load {f : Int → List Nat} {a n R B used : Nat} {bs : List (List Nat)} (h : Clean f a n R B used bs) (dp : Nat) : loadL dp a n f = ⟨dp, a, n, R, B, used, bs, false⟩ := by
  have hs := h.sel
  have hr := h.run
  have hn := h.n9
  have hf := h.fit
  obtain ⟨xs, last, hl, hb⟩ := h.laid
  obtain ⟨c', e1, e2, e3, e4, e5, e6⟩ := scan_laid (N := n - 2) (by omega) (by omega) hl (by omega) (c := sc0) rfl rfl rfl rfl
  have e7 : scan B c' (bodyFrom f ((a : Int) + 2) (n - 2) used) = c' := scan_dead e3 fun hu => by
    have h9 := (h.rest used (Nat.le_refl _) hu).1
    unfold countsB
    rw [decide_eq_false_iff_not]
    omega
  unfold loadL
  rw [hs]
  simp only []
  rw [e1, e7, e5, e6, hb]
  rfl
theorem headVal_of (r b : Nat) (hr : r < 4611686018427387904) (hb : b ≤ r) : headVal (headL r b) (r % 2) = (r, b) := headL_val hr hb rfl
set_option maxRecDepth 100000 in
/-- Another head was written, beside the old one. -/
theorem Clean.turn {f : Int → List Nat} {a n R B used : Nat} {bs : List (List Nat)} (h : Clean f a n R B used bs) (hr : R + 1 < 4611686018427387904) {at_ : Nat} (hat : at_ = (R + 1) % 2) : Clean (readW f ((a : Int) + at_) (headL (R + 1) B) 1) a n (R + 1) B used bs := by
  subst hat
  have hb := h.base
  have e0 : (a : Int) + (((R + 1) % 2 : Nat) : Int) = ((a + (R + 1) % 2 : Nat) : Int) := by omega
  have hin : readW f ((a : Int) + (((R + 1) % 2 : Nat) : Int)) (headL (R + 1) B) 1 ((a + (R + 1) % 2 : Nat) : Int) = headL (R + 1) B := by
    have := readW_at f ((a : Int) + (((R + 1) % 2 : Nat) : Int)) (headL (R + 1) B) 1 0 (by omega)
    rw [secOf_own (headL_len _ _)] at this
    rw [← e0]
    simpa using this
  have hout : ∀ k : Int, k ≠ ((a + (R + 1) % 2 : Nat) : Int) → readW f ((a : Int) + (((R + 1) % 2 : Nat) : Int)) (headL (R + 1) B) 1 k = f k := fun k hk => readW_out _ _ _ _ _ (by omega)
  have hbody : ∀ j : Nat, readW f ((a : Int) + (((R + 1) % 2 : Nat) : Int)) (headL (R + 1) B) 1 ((a : Int) + 2 + (j : Int)) = f ((a : Int) + 2 + (j : Int)) := fun j => hout _ (by omega)
  have e2 : (R + 1 + 1) % 2 = R % 2 := by omega
  have hne : R % 2 ≠ (R + 1) % 2 := by omega
  obtain ⟨xs, last, hl, hbs⟩ := h.laid
  refine ⟨readW_sec h.sec _ (headL_small _ _) (by rw [headL_len]) 1 (Nat.le_refl _), ?_, ?_, ⟨xs, last, hl.keep (by omega) (fun j _ _ => hbody j), hbs⟩, h.base1, by omega, hr, h.n4, h.n9, h.fit, fun j h1 h2 => ?_⟩
  · rw [hin]; exact headVal_of (R + 1) B hr (by omega)
  · rw [e2, hout _ (by omega), h.head]; show R < R + 1; omega
  · rw [hbody]; exact h.rest j h1 h2
set_option maxRecDepth 100000 in
/-- A head with itself as its base: the log is empty. -/
theorem Clean.reset {f : Int → List Nat} {a n R B used : Nat} {bs : List (List Nat)} (h : Clean f a n R B used bs) (hr : R + 1 < 4611686018427387904) {at_ : Nat} (hat : at_ = (R + 1) % 2) : Clean (readW f ((a : Int) + at_) (headL (R + 1) (R + 1)) 1) a n (R + 1) (R + 1) 0 [] := by
  subst hat
  have hb := h.base
  have e0 : (a : Int) + (((R + 1) % 2 : Nat) : Int) = ((a + (R + 1) % 2 : Nat) : Int) := by omega
  have hin : readW f ((a : Int) + (((R + 1) % 2 : Nat) : Int)) (headL (R + 1) (R + 1)) 1 ((a + (R + 1) % 2 : Nat) : Int) = headL (R + 1) (R + 1) := by
    have := readW_at f ((a : Int) + (((R + 1) % 2 : Nat) : Int)) (headL (R + 1) (R + 1)) 1 0 (by omega)
    rw [secOf_own (headL_len _ _)] at this
    rw [← e0]
    simpa using this
  have hout : ∀ k : Int, k ≠ ((a + (R + 1) % 2 : Nat) : Int) → readW f ((a : Int) + (((R + 1) % 2 : Nat) : Int)) (headL (R + 1) (R + 1)) 1 k = f k := fun k hk => readW_out _ _ _ _ _ (by omega)
  have hbody : ∀ j : Nat, readW f ((a : Int) + (((R + 1) % 2 : Nat) : Int)) (headL (R + 1) (R + 1)) 1 ((a : Int) + 2 + (j : Int)) = f ((a : Int) + 2 + (j : Int)) := fun j => hout _ (by omega)
  have e2 : (R + 1 + 1) % 2 = R % 2 := by omega
  have hne : R % 2 ≠ (R + 1) % 2 := by omega
  have hn4 := h.n4
  obtain ⟨xs, last, hl, hbs⟩ := h.laid
  refine ⟨readW_sec h.sec _ (headL_small _ _) (by rw [headL_len]) 1 (Nat.le_refl _), ?_, ?_, ⟨[], 0, ⟨rfl, rfl⟩, rfl⟩, by omega, Nat.le_refl _, hr, h.n4, h.n9, by omega, fun j h1 h2 => ?_⟩
  · rw [hin]; exact headVal_of (R + 1) (R + 1) hr (Nat.le_refl _)
  · rw [e2, hout _ (by omega), h.head]; show R < R + 1; omega
  · rw [hbody]
    by_cases hu : j < used
    · have := hl.runs (by have := h.run; omega) j (Nat.zero_le _) hu
      omega
    · have := h.rest j (by omega) h2
      omega
set_option maxRecDepth 100000 in
/-- A batch more. -/
theorem Clean.append {f : Int → List Nat} {a n R B used : Nat} {bs : List (List Nat)} (h : Clean f a n R B used bs) {b : List Nat} (hs : Small b) {m at_ : Nat} (hm : m = costN b.length) (hat : at_ = 2 + used) (hfit : used + m + 2 ≤ n) : Clean (readW f ((a : Int) + at_) (cutL R used b) m) a n R B (used + m) (bs ++ [b]) := by
  subst hat; subst hm
  have hr := h.run
  have hn9 := h.n9
  have hb4 : b.length < 4294967296 := by unfold costN at hfit; omega
  have e0 : (a : Int) + ((2 + used : Nat) : Int) = (a : Int) + 2 + (used : Int) := by omega
  rw [e0]
  have hlen : (cutL R used b).length = costN b.length * 512 := by unfold cutL; rw [cutP_len, frTo_length (Nat.le_refl _)]
  have hsm : Small (cutL R used b) := cutP_small R used ((leB_small _ _).append hs) _
  have hin : ∀ i, i < costN b.length → readW f ((a : Int) + 2 + (used : Int)) (cutL R used b) (costN b.length) ((a : Int) + 2 + ((used + i : Nat) : Int)) = cutS R used b i := fun i hi => by
    have := readW_at f ((a : Int) + 2 + (used : Int)) (cutL R used b) (costN b.length) i hi
    rw [secOf_cutL hi] at this
    rw [← this]
    congr 1
    omega
  have hout : ∀ k : Int, k < (a : Int) + 2 + (used : Int) ∨ (a : Int) + 2 + (used : Int) + (costN b.length : Nat) ≤ k → readW f ((a : Int) + 2 + (used : Int)) (cutL R used b) (costN b.length) k = f k := fun k hk => readW_out _ _ _ _ _ hk
  obtain ⟨xs, last, hl, hbs⟩ := h.laid
  refine ⟨readW_sec h.sec _ hsm hlen _ (Nat.le_refl _), ?_, ?_, ⟨xs ++ [(R, b)], R, LaidOut.snoc h.base (Nat.le_refl _) hb4 (hl.keep (Nat.le_refl _) (fun j _ h2 => hout _ (.inl (by omega)))) (hl.last_le (Nat.zero_le _)) hin, by rw [List.map_append, hbs]; rfl⟩, h.base1, h.base, hr, h.n4, h.n9, hfit, fun j h1 h2 => ?_⟩
  · rw [hout _ (.inl (by omega))]; exact h.head
  · rw [hout _ (.inl (by omega))]; exact h.other
  · rw [hout _ (.inr (by omega))]; exact h.rest j (by omega) h2
set_option maxRecDepth 100000 in
theorem secOf_fmtL {n i : Nat} (hn : 4 ≤ n) (hi : i < n) : secOf (fmtL n) i = if i = 1 then headL 1 1 else zsec := by
  have hH := headL_len 1 1
  have e : fmtL n = List.replicate 512 0 ++ (headL 1 1 ++ List.replicate (n * 512 - 1024) 0) := by
    unfold fmtL over
    rw [hH, List.take_replicate, List.drop_replicate, Nat.min_eq_left (by omega)]
  have h0 : (List.replicate 512 0 : List Nat).length = 512 := List.length_replicate
  rw [e]
  unfold secOf
  by_cases h1 : i = 1
  · subst h1
    rw [if_pos rfl, List.drop_left' (by rw [h0]), List.take_left' hH]
  · rw [if_neg h1]
    by_cases h2 : i = 0
    · subst h2
      rw [Nat.zero_mul, List.drop_zero, List.take_left' h0]
      rfl
    · obtain ⟨k, rfl⟩ : ∃ k, i = k + 2 := ⟨i - 2, by omega⟩
      have e2 : (k + 2) * 512 = (List.replicate 512 0 ++ headL 1 1 : List Nat).length + k * 512 := by rw [List.length_append, h0, hH]; omega
      rw [← List.append_assoc, e2, ← List.drop_drop, List.drop_left, List.drop_replicate, List.take_replicate, Nat.min_eq_left (by omega)]
      rfl
set_option maxRecDepth 100000 in
theorem Clean.format {f : Int → List Nat} {a n : Nat} (hs : ∀ k, Sec (f k)) (hn : 4 ≤ n) (hn9 : n ≤ 65536) : Clean (readW f (a : Int) (fmtL n) n) a n 1 1 0 [] := by
  have hin : ∀ i : Nat, i < n → readW f (a : Int) (fmtL n) n ((a : Int) + (i : Int)) = if i = 1 then headL 1 1 else zsec := fun i hi => by
    rw [readW_at f (a : Int) (fmtL n) n i hi, secOf_fmtL hn hi]
  refine ⟨readW_sec hs _ (fmtL_small n) (fmtL_len hn) _ (Nat.le_refl _), ?_, ?_, ⟨[], 0, ⟨rfl, rfl⟩, rfl⟩, Nat.le_refl _, Nat.le_refl _, by decide, hn, hn9, by omega, fun j _ h2 => ?_⟩
  · have := hin 1 (by omega)
    rw [if_pos rfl] at this
    show headVal (readW f (a : Int) (fmtL n) n ((a : Int) + ((1 : Nat) : Int))) 1 = (1, 1)
    rw [this]
    exact headVal_of 1 1 (by decide) (Nat.le_refl _)
  · have := hin 0 (by omega)
    rw [if_neg (by decide)] at this
    show (headVal (readW f (a : Int) (fmtL n) n ((a : Int) + ((0 : Nat) : Int))) 0).1 < 1
    rw [this, headVal_zero]
    decide
  · have := hin (2 + j) (by omega)
    rw [if_neg (by omega)] at this
    have e : (a : Int) + 2 + (j : Int) = (a : Int) + ((2 + j : Nat) : Int) := by omega
    rw [e, this]
    exact ⟨by have := runL_zero 0; rw [List.drop_zero] at this; omega, by rw [runL_zero]; decide⟩
end Go.Proofs.YtdaefhlfalhfnaaDoor
/- Layer 3: a log's calls over a disk without faults, as a caller sees them. -/
namespace Go.Proofs.YtdaefhlfalhfnaaDoor
open Go.RowKit

/-- A disk without faults to come, whose sectors f tells; the caller's blocks O are none of its. -/
def DiskSt (W : World) (O : Nat → Prop) (dp size : Nat) (f : Int → List Nat) : Prop :=
  ∃ FD d, DiskAt W FD dp d ∧ (∀ k, FD k → k < W.heap.size) ∧ d.size = size ∧ Still d f ∧ d.fates = [] ∧ ∀ k, O k → k < W.heap.size ∧ ¬ FD k
/-- A log on such a disk, without torn sectors. -/
def LogSt (W : World) (O : Nat → Prop) (dp p size a n R B used : Nat) (bs : List (List Nat)) : Prop :=
  ∃ FL FD d f, LogOn W FL FD p ⟨dp, a, n, R, B, used, bs, false⟩ d ∧ d.size = size ∧ Still d f ∧ d.fates = [] ∧ Clean f a n R B used bs ∧ ∀ k, O k → k < W.heap.size ∧ ¬ FL k ∧ ¬ FD k
section
variable {W W' : World} {O : Nat → Prop} {dp p size a n R B used : Nat} {bs : List (List Nat)} {f : Int → List Nat}
theorem DiskSt.call (h : DiskSt W O dp size f) (hb : Below W.heap.size W W') : DiskSt W' O dp size f := by
  obtain ⟨FD, d, h1, h2, h3, h4, h5, h6⟩ := h
  exact ⟨FD, d, h1.below hb, fun k hk => Nat.lt_of_lt_of_le (h2 k hk) hb.size, h3, h4, h5, fun k hk => ⟨Nat.lt_of_lt_of_le (h6 k hk).1 hb.size, (h6 k hk).2⟩⟩
theorem LogSt.call (h : LogSt W O dp p size a n R B used bs) (hb : Below W.heap.size W W') : LogSt W' O dp p size a n R B used bs := by
  obtain ⟨FL, FD, d, f, h1, h2, h3, h4, h5, h6⟩ := h
  exact ⟨FL, FD, d, f, h1.call hb, h2, h3, h4, h5, fun k hk => ⟨Nat.lt_of_lt_of_le (h6 k hk).1 hb.size, (h6 k hk).2⟩⟩
/-- The caller has blocks of its own behind a call that made them. -/
theorem LogSt.own (h : LogSt W O dp p size a n R B used bs) (hb : Below W.heap.size W W') {O' : Nat → Prop} (hO : ∀ k, O' k → O k ∨ (W.heap.size ≤ k ∧ k < W'.heap.size)) : LogSt W' O' dp p size a n R B used bs := by
  obtain ⟨FL, FD, d, f, h1, h2, h3, h4, h5, h6⟩ := h
  refine ⟨FL, FD, d, f, h1.call hb, h2, h3, h4, h5, fun k hk => ?_⟩
  rcases hO k hk with hk | hk
  · exact ⟨Nat.lt_of_lt_of_le (h6 k hk).1 hb.size, (h6 k hk).2⟩
  · exact ⟨hk.2, fun hl => by have := h1.thereL k hl; omega, fun hd => by have := h1.thereD k hd; omega⟩
theorem LogSt.less (h : LogSt W O dp p size a n R B used bs) {O' : Nat → Prop} (hO : ∀ k, O' k → O k) : LogSt W O' dp p size a n R B used bs := by
  obtain ⟨FL, FD, d, f, h1, h2, h3, h4, h5, h6⟩ := h
  exact ⟨FL, FD, d, f, h1, h2, h3, h4, h5, fun k hk => h6 k (hO k hk)⟩
/-- Its disk. -/
theorem LogSt.disk (h : LogSt W O dp p size a n R B used bs) : ∃ f, DiskSt W O dp size f ∧ Clean f a n R B used bs ∧ a + n ≤ size := by
  obtain ⟨FL, FD, d, f, h1, h2, h3, h4, h5, h6⟩ := h
  exact ⟨f, ⟨FD, d, h1.disk, h1.thereD, h2, h3, h4, fun k hk => ⟨(h6 k hk).1, (h6 k hk).2.2⟩⟩, h5, by rw [← h2]; exact h1.size⟩
/-- What a call leaves of the caller's blocks. -/
theorem kept_own {FL FD : Nat → Prop} (hO : ∀ k, O k → k < W.heap.size ∧ ¬ FL k ∧ ¬ FD k) (hk : Kept (fun k => FL k ∨ FD k) W W') : Kept (fun k => ¬ O k) W W' :=
  hk.mono fun k _ hx ho => by
    rcases hx with hx | hx
    · exact (hO k ho).2.1 hx
    · exact (hO k ho).2.2 hx
theorem LogSt.of_left {FL FD : Nat → Prop} {l : L} {d' : D} {f' : Int → List Nat} {R' B' used' : Nat} {bs' : List (List Nat)} (hO : ∀ k, O k → k < W.heap.size ∧ ¬ FL k ∧ ¬ FD k) (hl : Left W FL FD p l d' W') (he : l = ⟨dp, a, n, R', B', used', bs', false⟩) (hsz : d'.size = size) (hst : Still d' f') (hft : d'.fates = []) (hc : Clean f' a n R' B' used' bs') :
    LogSt W' O dp p size a n R' B' used' bs' ∧ Kept (fun k => ¬ O k) W W' := by
  subst he
  obtain ⟨⟨FL', FD', h1, h2, h3⟩, hk⟩ := hl
  refine ⟨⟨FL', FD', d', f', h1, hsz, hst, hft, hc, fun k ho => ⟨Nat.lt_of_lt_of_le (hO k ho).1 hk.size, fun hl => ?_, fun hd => ?_⟩⟩, kept_own hO hk⟩
  · rcases h2 k hl with h9 | h9
    · exact (hO k ho).2.1 h9
    · have := (hO k ho).1; omega
  · rcases h3 k hd with h9 | h9
    · exact (hO k ho).2.2 h9
    · have := (hO k ho).1; omega
theorem st_format (h : DiskSt W O dp size f) (hn : 4 ≤ n) (hfit : a + n ≤ size) :
    Calls Tryd.prog 10 #[.pointer (some ⟨dp, 0, none⟩), .int .i64 a, .int .i64 n] W fun e w' => e = .returned (.int .i64 0) ∧ DiskSt w' O dp size (readW f (a : Int) (fmtL n) n) ∧ Kept (fun k => ¬ O k) W w' := by
  obtain ⟨FD, d, h1, h2, h3, h4, h5, h6⟩ := h
  refine (format_ok W FD dp d f a n h1 h2 h4 h5 hn (by omega)).mono ?_
  rintro e w' ⟨rfl, d', g1, g2, g3, g4, g5⟩
  refine ⟨rfl, ⟨_, d', g1.there, fun k hk => hk.2, by rw [g2, h3], g3, g4, fun k ho => ⟨Nat.lt_of_lt_of_le (h6 k ho).1 g5.size, fun hd => ?_⟩⟩, g5.mono fun k _ hx ho => (h6 k ho).2 hx⟩
  rcases hd.1 with h9 | h9
  · exact (h6 k ho).2 h9
  · have := (h6 k ho).1; omega
theorem st_open (h : DiskSt W O dp size f) (hc : Clean f a n R B used bs) (hfit : a + n ≤ size) (hr : R + 1 < 4611686018427387904) :
    Calls Tryd.prog 11 #[.pointer (some ⟨dp, 0, none⟩), .int .i64 a, .int .i64 n] W fun e w' => ∃ p, e = .returned (.tuple #[.pointer (some ⟨p, 0, none⟩), .int .i64 0]) ∧ LogSt w' O dp p size a n (R + 1) B used bs ∧ Kept (fun k => ¬ O k) W w' := by
  obtain ⟨FD, d, h1, h2, h3, h4, h5, h6⟩ := h
  have hs := hc.sel
  refine (open_ok W FD dp d f a n (R + 1) ((R + 1) % 2) h1 h2 h4 h5 hc.n4 (by omega) (by rw [hs]) rfl).mono ?_
  rintro e w' (⟨hbad, _⟩ | ⟨_, _, FL, FD', p, d', rfl, hon, hsz, hst, hft, hF, hD, hk⟩)
  · exact absurd ⟨hc.good, hr⟩ hbad
  · rw [hc.load dp] at hon
    rw [hs] at hst
    refine ⟨p, rfl, ⟨FL, FD', d', _, hon, by rw [hsz, h3], hst, hft, hc.turn hr rfl, fun k ho => ⟨Nat.lt_of_lt_of_le (h6 k ho).1 hk.size, fun hl => ?_, fun hd => ?_⟩⟩, hk.mono fun k _ hx ho => (h6 k ho).2 hx⟩
    · have := hF k hl
      have := (h6 k ho).1
      omega
    · rcases hD k hd with h9 | h9
      · exact (h6 k ho).2 h9
      · have := (h6 k ho).1; omega
theorem st_reset (h : LogSt W O dp p size a n R B used bs) (hr : R + 1 < 4611686018427387904) :
    Calls Tryd.prog 15 #[.pointer (some ⟨p, 0, none⟩)] W fun e w' => e = .returned (.int .i64 0) ∧ LogSt w' O dp p size a n (R + 1) (R + 1) 0 [] ∧ Kept (fun k => ¬ O k) W w' := by
  obtain ⟨FL, FD, d, f, h1, h2, h3, h4, h5, h6⟩ := h
  refine (reset_ok W FL FD p _ d f (R + 1) ((R + 1) % 2) rfl rfl h1 h3 rfl hr).mono ?_
  rintro e w' (⟨rfl, d', hl, hsz, hst, hft⟩ | ⟨_, hf, _⟩)
  · exact ⟨rfl, LogSt.of_left h6 hl rfl (by rw [hsz, h2]) hst (hft h4) (h5.reset hr rfl)⟩
  · exact absurd h4 hf
theorem st_append {g off c len : Nat} {b : List Nat} (h : LogSt W O dp p size a n R B used bs) (hA : Bytes W (some ⟨g, off, none⟩) len b) (hg : O g) (hfit : used + costN len + 2 ≤ n) (hbs : bs.length ≤ 1000000) :
    Calls Tryd.prog 13 #[.pointer (some ⟨p, 0, none⟩), .slice (some ⟨g, off, none⟩) len c] W fun e w' => e = .returned (.int .i64 0) ∧ LogSt w' O dp p size a n R B (used + costN len) (bs ++ [b]) ∧ Kept (fun k => ¬ O k) W w' := by
  obtain ⟨FL, FD, d, f, h1, h2, h3, h4, h5, h6⟩ := h
  have hlen := hA.len
  refine (append_ok W FL FD p _ d f (some ⟨g, off, none⟩) len c (costN len) (2 + used) b h1 h3 rfl hA (fun _ x e => ?_) rfl rfl hfit hbs (fun i hi => ?_)).mono ?_
  · injection e with e; subst e
    exact (h6 g hg).2
  · refine .inr (.inl ?_)
    have e : (a : Int) + ((2 + used : Nat) : Int) + (i : Int) = (a : Int) + 2 + ((used + i : Nat) : Int) := by omega
    show runL ((f ((a : Int) + ((2 + used : Nat) : Int) + (i : Int))).drop 500) < B
    rw [e]
    exact (h5.rest (used + i) (by omega) (by omega)).2
  · rintro e w' (⟨rfl, d', hl, hsz, hst, hft⟩ | ⟨_, hf, _⟩)
    · exact ⟨rfl, LogSt.of_left h6 hl rfl (by rw [hsz, h2]) hst (hft h4) (h5.append hA.2.1 (by rw [hlen]) rfl hfit)⟩
    · exact absurd h4 hf
theorem st_full {A : Option Addr} {c len : Nat} (h : LogSt W O dp p size a n R B used bs) (hfit : n < used + costN len + 2) :
    Calls Tryd.prog 13 #[.pointer (some ⟨p, 0, none⟩), .slice A len c] W fun e w' => e = .returned (.int .i64 6) ∧ Below W.heap.size W w' := by
  obtain ⟨FL, FD, d, f, h1, h2, h3, h4, h5, h6⟩ := h
  refine append_full W FL FD p _ d A len c h1 rfl ?_
  unfold roomL
  show ((n : Int) - 2 - (used : Int)) * 488 - 4 < (len : Int)
  have := h5.fit
  unfold costN at hfit
  omega
theorem st_state (h : LogSt W O dp p size a n R B used bs) :
    Calls Tryd.prog 19 #[.pointer (some ⟨p, 0, none⟩)] W fun e w' => e = .returned (.tuple #[.int .i64 bs.length, .int .i64 (max (((n : Int) - 2 - used) * 488 - 4) 0), .int .u64 R, .bool false]) ∧ Below W.heap.size W w' := by
  obtain ⟨FL, FD, d, f, h1, _⟩ := h
  exact state_ok W FL FD p _ d h1
theorem st_look (h : DiskSt W O dp size f) (hc : Clean f a n R B used bs) (hfit : a + n ≤ size) (hbs : bs.length ≤ 1000000) (hsm : ∀ b ∈ bs, b.length ≤ 140737488355328) :
    Calls Tryd.prog 12 #[.pointer (some ⟨dp, 0, none⟩), .int .i64 a, .int .i64 n] W (LookPost W bs 0) := by
  obtain ⟨FD, d, h1, h2, h3, h4, h5, h6⟩ := h
  have hl := hc.load dp
  have e : (loadL dp a n f).bs = bs := by rw [hl]
  have := look_ok W FD dp d f a n h1 h2 h4.read h4.sec hc.n4 (by omega) hc.good (by rw [e]; exact hbs) (by rw [e]; exact hsm)
  rwa [e] at this
end
end Go.Proofs.YtdaefhlfalhfnaaDoor
