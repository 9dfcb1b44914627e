/- Layer 3, pure: what a disk holds where a log lies, between its calls. -/
import Derived.Test.YtljlkmmeedlaiaaDoorPt38
import Derived.Test.YtljlkmmeedlaiaaDoorPt39
import Derived.Test.YtljlkmmeedlaiaaDoorPt09
import Derived.Test.YtljlkmmeedlaiaaDoorPt12
namespace Go.Proofs.YtljlkmmeedlaiaaDoor

theorem readW_at (f : Int → List Nat) (a : Int) (l : List Nat) : ∀ (m k : Nat), k < m → readW f a l m (a + (k : Int)) = secOf l k
  | 0, k, h => by omega
  | m + 1, k, h => by
    show upd (readW f a l m) (a + m) (secOf l m) (a + (k : Int)) = _
    unfold upd
    by_cases hk : k = m
    · subst hk; simp
    · rw [if_neg (by omega)]
      exact readW_at f a l m k (by omega)
theorem secOf_own {l : List Nat} (h : l.length = 512) : secOf l 0 = l := by
  unfold secOf
  rw [Nat.zero_mul, List.drop_zero, List.take_of_length_le (by omega)]
set_option maxRecDepth 100000 in
theorem cutP_spec (r j0 : Nat) (x : List Nat) (N : Nat) : ∀ j, j ≤ N → (cutP r j0 x (frTo N j)).length = j * 512 ∧ ∀ i, i < j → secOf (cutP r j0 x (frTo N j)) i = secL r (j0 + i) (partL x i)
  | 0, _ => ⟨by simp [frTo, cutP], fun i hi => by omega⟩
  | j + 1, h => by
    obtain ⟨h1, h2⟩ := cutP_spec r j0 x N j (by omega)
    have hl : (secL r (j0 + j) (partL x j)).length = 512 := secL_len r (j0 + j) (part := partL x j) (by rw [partL_len]; omega)
    have e : cutP r j0 x (frTo N (j + 1)) = cutP r j0 x (frTo N j) ++ secL r (j0 + j) (partL x j) := by
      rw [frTo_succ (by omega), cutP_snoc, frTo_length (by omega)]
    rw [e]
    refine ⟨by rw [List.length_append, h1, hl]; omega, fun i hi => ?_⟩
    by_cases hij : i = j
    · subst hij
      unfold secOf
      rw [List.drop_append_of_le_length (by omega), ← h1, List.drop_length, List.nil_append, List.take_of_length_le (by omega)]
    · rw [← h2 i (by omega)]
      have hle : (i + 1) * 512 ≤ j * 512 := Nat.mul_le_mul_right _ (by omega)
      unfold secOf
      rw [List.drop_append_of_le_length (by omega), List.take_append_of_le_length (by rw [List.length_drop]; omega)]
theorem secOf_cutL {r o : Nat} {b : List Nat} {i : Nat} (h : i < costN b.length) : secOf (cutL r o b) i = cutS r o b i := (cutP_spec r o (batchL b) (costN b.length) (costN b.length) (Nat.le_refl _)).2 i h
set_option maxRecDepth 100000 in
theorem cutS_run {r o : Nat} {b : List Nat} {i : Nat} (hr : r < 18446744073709551616) : runL (cutS r o b i) = r ∧ runL ((cutS r o b i).drop 500) = r := secL_run (partL_le _ _) hr
/-- A log without torn sectors: head, batches, and nothing behind them that counts. -/
structure Clean (f : Int → List Nat) (a n R B used : Nat) (bs : List (List Nat)) : Prop where
  sec : ∀ k, Sec (f k)
  head : headVal (f ((a + R % 2 : Nat) : Int)) (R % 2) = (R, B)
  other : (headVal (f ((a + (R + 1) % 2 : Nat) : Int)) ((R + 1) % 2)).1 < R
  laid : ∃ xs last, LaidOut f ((a : Int) + 2) B R 0 0 xs used last ∧ xs.map (·.2) = bs
  base1 : 1 ≤ B
  base : B ≤ R
  run : R < 4611686018427387904
  n4 : 4 ≤ n
  n9 : n ≤ 65536
  fit : used + 2 ≤ n
  rest : ∀ j, used ≤ j → j < n - 2 → runL (f ((a : Int) + 2 + (j : Int))) < B ∧ runL ((f ((a : Int) + 2 + (j : Int))).drop 500) < B
theorem two_cases (R : Nat) : (R % 2 = 0 ∧ (R + 1) % 2 = 1) ∨ (R % 2 = 1 ∧ (R + 1) % 2 = 0) := by omega
set_option maxRecDepth 100000 in
theorem Clean.sel {f : Int → List Nat} {a n R B used : Nat} {bs : List (List Nat)} (h : Clean f a n R B used bs) : headSel f a = (R, B) := by
  have h1 := h.head
  have h2 := h.other
  unfold headSel
  rcases two_cases R with ⟨e1, e2⟩ | ⟨e1, e2⟩
  · rw [e1] at h1
    rw [e2] at h2
    have g1 : headVal (f (a : Int)) 0 = (R, B) := h1
    have g2 : (headVal (f ((a : Int) + 1)) 1).1 < R := h2
    rw [g1, if_neg (by simp only []; omega)]
  · rw [e1] at h1
    rw [e2] at h2
    have g1 : headVal (f ((a : Int) + 1)) 1 = (R, B) := h1
    have g2 : (headVal (f (a : Int)) 0).1 < R := h2
    rw [g1, if_pos (by simp only []; omega)]
set_option maxRecDepth 100000 in
theorem LaidOut.runs {f : Int → List Nat} {a : Int} {B R : Nat} (hR : R < 18446744073709551616) : ∀ {xs : List (Nat × List Nat)} {o p used last : Nat}, LaidOut f a B R o p xs used last → ∀ j, o ≤ j → j < used → runL (f (a + (j : Int))) ≤ R ∧ runL ((f (a + (j : Int))).drop 500) ≤ R
  | [], o, p, used, last, h, j, h1, h2 => by have := h.1; omega
  | (r, b) :: xs, o, p, used, last, h, j, h1, h2 => by
    obtain ⟨_, _, hr, _, hc, hrest⟩ := h
    by_cases hj : j < o + costN b.length
    · have e := hc (j - o) (by omega)
      rw [show o + (j - o) = j by omega] at e
      rw [e]
      have := cutS_run (r := r) (o := o) (b := b) (i := j - o) (by omega)
      omega
    · exact LaidOut.runs hR hrest j (by omega) h2
set_option maxRecDepth 100000 in
theorem Clean.good {f : Int → List Nat} {a n R B used : Nat} {bs : List (List Nat)} (h : Clean f a n R B used bs) : GoodLog f a n := by
  have hs := h.sel
  unfold GoodLog
  rw [hs]
  have hb := h.base
  have hb1 := h.base1
  have hr := h.run
  refine ⟨by show 1 ≤ R; omega, fun j hj => ?_⟩
  show _ ≤ R
  by_cases hu : j < used
  · obtain ⟨xs, last, hl, _⟩ := h.laid
    exact (hl.runs (by omega) j (Nat.zero_le _) hu).1
  · have := (h.rest j (by omega) hj).1
    omega
set_option maxRecDepth 100000 in
theorem Clean.load {f : Int → List Nat} {a n R B used : Nat} {bs : List (List Nat)} (h : Clean f a n R B used bs) (dp : Nat) : loadL dp a n f = ⟨dp, a, n, R, B, used, bs, false⟩ := by
  have hs := h.sel
  have hr := h.run
  have hn := h.n9
  have hf := h.fit
  obtain ⟨xs, last, hl, hb⟩ := h.laid
  obtain ⟨c', e1, e2, e3, e4, e5, e6⟩ := scan_laid (N := n - 2) (by omega) (by omega) hl (by omega) (c := sc0) rfl rfl rfl rfl
  have e7 : scan B c' (bodyFrom f ((a : Int) + 2) (n - 2) used) = c' := scan_dead e3 fun hu => by
    have h9 := (h.rest used (Nat.le_refl _) hu).1
    unfold countsB
    rw [decide_eq_false_iff_not]
    omega
  unfold loadL
  rw [hs]
  simp only []
  rw [e1, e7, e5, e6, hb]
  rfl
theorem headVal_of (r b : Nat) (hr : r < 4611686018427387904) (hb : b ≤ r) : headVal (headL r b) (r % 2) = (r, b) := headL_val hr hb rfl
set_option maxRecDepth 100000 in
/-- Another head was written, beside the old one. -/
theorem Clean.turn {f : Int → List Nat} {a n R B used : Nat} {bs : List (List Nat)} (h : Clean f a n R B used bs) (hr : R + 1 < 4611686018427387904) {at_ : Nat} (hat : at_ = (R + 1) % 2) : Clean (readW f ((a : Int) + at_) (headL (R + 1) B) 1) a n (R + 1) B used bs := by
  subst hat
  have hb := h.base
  have e0 : (a : Int) + (((R + 1) % 2 : Nat) : Int) = ((a + (R + 1) % 2 : Nat) : Int) := by omega
  have hin : readW f ((a : Int) + (((R + 1) % 2 : Nat) : Int)) (headL (R + 1) B) 1 ((a + (R + 1) % 2 : Nat) : Int) = headL (R + 1) B := by
    have := readW_at f ((a : Int) + (((R + 1) % 2 : Nat) : Int)) (headL (R + 1) B) 1 0 (by omega)
    rw [secOf_own (headL_len _ _)] at this
    rw [← e0]
    simpa using this
  have hout : ∀ k : Int, k ≠ ((a + (R + 1) % 2 : Nat) : Int) → readW f ((a : Int) + (((R + 1) % 2 : Nat) : Int)) (headL (R + 1) B) 1 k = f k := fun k hk => readW_out _ _ _ _ _ (by omega)
  have hbody : ∀ j : Nat, readW f ((a : Int) + (((R + 1) % 2 : Nat) : Int)) (headL (R + 1) B) 1 ((a : Int) + 2 + (j : Int)) = f ((a : Int) + 2 + (j : Int)) := fun j => hout _ (by omega)
  have e2 : (R + 1 + 1) % 2 = R % 2 := by omega
  have hne : R % 2 ≠ (R + 1) % 2 := by omega
  obtain ⟨xs, last, hl, hbs⟩ := h.laid
  refine ⟨readW_sec h.sec _ (headL_small _ _) (by rw [headL_len]) 1 (Nat.le_refl _), ?_, ?_, ⟨xs, last, hl.keep (by omega) (fun j _ _ => hbody j), hbs⟩, h.base1, by omega, hr, h.n4, h.n9, h.fit, fun j h1 h2 => ?_⟩
  · rw [hin]; exact headVal_of (R + 1) B hr (by omega)
  · rw [e2, hout _ (by omega), h.head]; show R < R + 1; omega
  · rw [hbody]; exact h.rest j h1 h2
set_option maxRecDepth 100000 in
/-- A head with itself as its base: the log is empty. -/
theorem Clean.reset {f : Int → List Nat} {a n R B used : Nat} {bs : List (List Nat)} (h : Clean f a n R B used bs) (hr : R + 1 < 4611686018427387904) {at_ : Nat} (hat : at_ = (R + 1) % 2) : Clean (readW f ((a : Int) + at_) (headL (R + 1) (R + 1)) 1) a n (R + 1) (R + 1) 0 [] := by
  subst hat
  have hb := h.base
  have e0 : (a : Int) + (((R + 1) % 2 : Nat) : Int) = ((a + (R + 1) % 2 : Nat) : Int) := by omega
  have hin : readW f ((a : Int) + (((R + 1) % 2 : Nat) : Int)) (headL (R + 1) (R + 1)) 1 ((a + (R + 1) % 2 : Nat) : Int) = headL (R + 1) (R + 1) := by
    have := readW_at f ((a : Int) + (((R + 1) % 2 : Nat) : Int)) (headL (R + 1) (R + 1)) 1 0 (by omega)
    rw [secOf_own (headL_len _ _)] at this
    rw [← e0]
    simpa using this
  have hout : ∀ k : Int, k ≠ ((a + (R + 1) % 2 : Nat) : Int) → readW f ((a : Int) + (((R + 1) % 2 : Nat) : Int)) (headL (R + 1) (R + 1)) 1 k = f k := fun k hk => readW_out _ _ _ _ _ (by omega)
  have hbody : ∀ j : Nat, readW f ((a : Int) + (((R + 1) % 2 : Nat) : Int)) (headL (R + 1) (R + 1)) 1 ((a : Int) + 2 + (j : Int)) = f ((a : Int) + 2 + (j : Int)) := fun j => hout _ (by omega)
  have e2 : (R + 1 + 1) % 2 = R % 2 := by omega
  have hne : R % 2 ≠ (R + 1) % 2 := by omega
  have hn4 := h.n4
  obtain ⟨xs, last, hl, hbs⟩ := h.laid
  refine ⟨readW_sec h.sec _ (headL_small _ _) (by rw [headL_len]) 1 (Nat.le_refl _), ?_, ?_, ⟨[], 0, ⟨rfl, rfl⟩, rfl⟩, by omega, Nat.le_refl _, hr, h.n4, h.n9, by omega, fun j h1 h2 => ?_⟩
  · rw [hin]; exact headVal_of (R + 1) (R + 1) hr (Nat.le_refl _)
  · rw [e2, hout _ (by omega), h.head]; show R < R + 1; omega
  · rw [hbody]
    by_cases hu : j < used
    · have := hl.runs (by have := h.run; omega) j (Nat.zero_le _) hu
      omega
    · have := h.rest j (by omega) h2
      omega
set_option maxRecDepth 100000 in
/-- A batch more. -/
theorem Clean.append {f : Int → List Nat} {a n R B used : Nat} {bs : List (List Nat)} (h : Clean f a n R B used bs) {b : List Nat} (hs : Small b) {m at_ : Nat} (hm : m = costN b.length) (hat : at_ = 2 + used) (hfit : used + m + 2 ≤ n) : Clean (readW f ((a : Int) + at_) (cutL R used b) m) a n R B (used + m) (bs ++ [b]) := by
  subst hat; subst hm
  have hr := h.run
  have hn9 := h.n9
  have hb4 : b.length < 4294967296 := by unfold costN at hfit; omega
  have e0 : (a : Int) + ((2 + used : Nat) : Int) = (a : Int) + 2 + (used : Int) := by omega
  rw [e0]
  have hlen : (cutL R used b).length = costN b.length * 512 := by unfold cutL; rw [cutP_len, frTo_length (Nat.le_refl _)]
  have hsm : Small (cutL R used b) := cutP_small R used ((leB_small _ _).append hs) _
  have hin : ∀ i, i < costN b.length → readW f ((a : Int) + 2 + (used : Int)) (cutL R used b) (costN b.length) ((a : Int) + 2 + ((used + i : Nat) : Int)) = cutS R used b i := fun i hi => by
    have := readW_at f ((a : Int) + 2 + (used : Int)) (cutL R used b) (costN b.length) i hi
    rw [secOf_cutL hi] at this
    rw [← this]
    congr 1
    omega
  have hout : ∀ k : Int, k < (a : Int) + 2 + (used : Int) ∨ (a : Int) + 2 + (used : Int) + (costN b.length : Nat) ≤ k → readW f ((a : Int) + 2 + (used : Int)) (cutL R used b) (costN b.length) k = f k := fun k hk => readW_out _ _ _ _ _ hk
  obtain ⟨xs, last, hl, hbs⟩ := h.laid
  refine ⟨readW_sec h.sec _ hsm hlen _ (Nat.le_refl _), ?_, ?_, ⟨xs ++ [(R, b)], R, LaidOut.snoc h.base (Nat.le_refl _) hb4 (hl.keep (Nat.le_refl _) (fun j _ h2 => hout _ (.inl (by omega)))) (hl.last_le (Nat.zero_le _)) hin, by rw [List.map_append, hbs]; rfl⟩, h.base1, h.base, hr, h.n4, h.n9, hfit, fun j h1 h2 => ?_⟩
  · rw [hout _ (.inl (by omega))]; exact h.head
  · rw [hout _ (.inl (by omega))]; exact h.other
  · rw [hout _ (.inr (by omega))]; exact h.rest j (by omega) h2
set_option maxRecDepth 100000 in
theorem secOf_fmtL {n i : Nat} (hn : 4 ≤ n) (hi : i < n) : secOf (fmtL n) i = if i = 1 then headL 1 1 else zsec := by
  have hH := headL_len 1 1
  have e : fmtL n = List.replicate 512 0 ++ (headL 1 1 ++ List.replicate (n * 512 - 1024) 0) := by
    unfold fmtL over
    rw [hH, List.take_replicate, List.drop_replicate, Nat.min_eq_left (by omega)]
  have h0 : (List.replicate 512 0 : List Nat).length = 512 := List.length_replicate
  rw [e]
  unfold secOf
  by_cases h1 : i = 1
  · subst h1
    rw [if_pos rfl, List.drop_left' (by rw [h0]), List.take_left' hH]
  · rw [if_neg h1]
    by_cases h2 : i = 0
    · subst h2
      rw [Nat.zero_mul, List.drop_zero, List.take_left' h0]
      rfl
    · obtain ⟨k, rfl⟩ : ∃ k, i = k + 2 := ⟨i - 2, by omega⟩
      have e2 : (k + 2) * 512 = (List.replicate 512 0 ++ headL 1 1 : List Nat).length + k * 512 := by rw [List.length_append, h0, hH]; omega
      rw [← List.append_assoc, e2, ← List.drop_drop, List.drop_left, List.drop_replicate, List.take_replicate, Nat.min_eq_left (by omega)]
      rfl
set_option maxRecDepth 100000 in
theorem Clean.format {f : Int → List Nat} {a n : Nat} (hs : ∀ k, Sec (f k)) (hn : 4 ≤ n) (hn9 : n ≤ 65536) : Clean (readW f (a : Int) (fmtL n) n) a n 1 1 0 [] := by
  have hin : ∀ i : Nat, i < n → readW f (a : Int) (fmtL n) n ((a : Int) + (i : Int)) = if i = 1 then headL 1 1 else zsec := fun i hi => by
    rw [readW_at f (a : Int) (fmtL n) n i hi, secOf_fmtL hn hi]
  refine ⟨readW_sec hs _ (fmtL_small n) (fmtL_len hn) _ (Nat.le_refl _), ?_, ?_, ⟨[], 0, ⟨rfl, rfl⟩, rfl⟩, Nat.le_refl _, Nat.le_refl _, by decide, hn, hn9, by omega, fun j _ h2 => ?_⟩
  · have := hin 1 (by omega)
    rw [if_pos rfl] at this
    show headVal (readW f (a : Int) (fmtL n) n ((a : Int) + ((1 : Nat) : Int))) 1 = (1, 1)
    rw [this]
    exact headVal_of 1 1 (by decide) (Nat.le_refl _)
  · have := hin 0 (by omega)
    rw [if_neg (by decide)] at this
    show (headVal (readW f (a : Int) (fmtL n) n ((a : Int) + ((0 : Nat) : Int))) 0).1 < 1
    rw [this, headVal_zero]
    decide
  · have := hin (2 + j) (by omega)
    rw [if_neg (by omega)] at this
    have e : (a : Int) + 2 + (j : Int) = (a : Int) + ((2 + j : Nat) : Int) := by omega
    rw [e, this]
    exact ⟨by have := runL_zero 0; rw [List.drop_zero] at this; omega, by rw [runL_zero]; decide⟩
end Go.Proofs.YtljlkmmeedlaiaaDoor
/- Layer 3, pure: sectors that were torn, and what is read of them. -/
namespace Go.Proofs.YtljlkmmeedlaiaaDoor

/-- Some first bytes of the new one, ahead of the rest of the old one. -/
def mixL (k : Nat) (s old : List Nat) : List Nat := s.take k ++ old.drop k
theorem mixL_zero (s old : List Nat) : mixL 0 s old = old := by simp [mixL]
theorem mixL_all {s old : List Nat} {k : Nat} (hs : s.length ≤ k) (ho : old.length ≤ k) : mixL k s old = s := by
  unfold mixL
  rw [List.take_of_length_le hs, List.drop_of_length_le ho, List.append_nil]
theorem mixL_sec {s old : List Nat} {k : Nat} (hs : Sec s) (ho : Sec old) (hk : k ≤ 512) : Sec (mixL k s old) := by
  refine ⟨?_, (hs.2.take _).append (ho.2.drop _)⟩
  unfold mixL
  rw [List.length_append, List.length_take, List.length_drop, hs.1, ho.1]
  omega
theorem mixL_drop {s old : List Nat} {k e : Nat} (h : s.length = old.length) (hk : k ≤ s.length) : (mixL k s old).drop e = mixL (k - e) (s.drop e) (old.drop e) := by
  unfold mixL
  have hl : (s.take k).length = k := by rw [List.length_take]; omega
  rw [List.drop_append, hl, List.drop_take, List.drop_drop, List.drop_drop]
  congr 2
  omega
theorem mixL_take {s old : List Nat} {k e : Nat} (hk : k ≤ s.length) : (mixL k s old).take e = mixL k (s.take e) (old.take e) := by
  unfold mixL
  have hl : (s.take k).length = k := by rw [List.length_take]; omega
  rw [List.take_append, hl, List.take_take, List.take_take, Nat.min_comm e k, List.drop_take]
theorem runL_mix_all {s old : List Nat} {k : Nat} (hs : 8 ≤ s.length) (hk : 8 ≤ k) : runL (mixL k s old) = runL s := by
  unfold runL mixL
  rw [List.take_append, List.take_take, List.length_take, Nat.min_eq_left hk]
  have : 8 - min k s.length = 0 := by omega
  rw [this, List.take_zero, List.append_nil]
theorem le_mix {s old : List Nat} {k : Nat} (hk : k ≤ s.length) : le (mixL k s old) = le (s.take k) + 256 ^ k * le (old.drop k) := by
  unfold mixL
  rw [le_append, List.length_take, Nat.min_eq_left hk]
theorem le_split (s : List Nat) {k : Nat} (hk : k ≤ s.length) : le s = le (s.take k) + 256 ^ k * le (s.drop k) := by
  conv => lhs; rw [← List.take_append_drop k s]
  rw [le_append, List.length_take, Nat.min_eq_left hk]
/-- What some first bytes of a number make of a lower one is not above it. -/
theorem le_mix_le {s old : List Nat} {k : Nat} (hs : Small s) (hk : k ≤ s.length) (hko : k ≤ old.length) (h : le old ≤ le s) : le (mixL k s old) ≤ le s := by
  rw [le_mix hk]
  rw [le_split s hk] at h ⊢
  rw [le_split old hko] at h
  have h1 := le_lt (Small.take hs k)
  rw [List.length_take, Nat.min_eq_left hk] at h1
  have hle : le (old.drop k) ≤ le (s.drop k) := by
    rcases Nat.lt_or_ge (le (s.drop k)) (le (old.drop k)) with h2 | h2
    · have h3 : 256 ^ k * (le (s.drop k) + 1) ≤ 256 ^ k * le (old.drop k) := Nat.mul_le_mul_left _ h2
      rw [Nat.mul_add, Nat.mul_one] at h3
      omega
    · exact h2
  have := Nat.mul_le_mul_left (256 ^ k) hle
  omega
theorem le_mod {l : List Nat} (h : Small l) : le l % 256 = l.getD 0 0 := by
  match l with
  | [] => rfl
  | x :: r =>
    have h1 := h x (by simp)
    show (x + 256 * le r) % 256 = x
    omega
theorem runL_mix_le {s old : List Nat} {k : Nat} (hs : Small s) (h8 : 8 ≤ s.length) (ho : 8 ≤ old.length) (hk : k ≤ s.length) (h : runL old ≤ runL s) : runL (mixL k s old) ≤ runL s := by
  rcases Nat.lt_or_ge k 8 with h1 | h1
  · unfold runL at h ⊢
    rw [mixL_take hk]
    exact le_mix_le (hs.take 8) (by rw [List.length_take]; omega) (by rw [List.length_take]; omega) h
  · rw [runL_mix_all h8 h1]
    exact Nat.le_refl _
theorem runL_mix_low {s old : List Nat} {k : Nat} (hs : Small s) (ho' : Small old) (h8 : 8 ≤ s.length) (hk : k ≤ s.length) (hk1 : 1 ≤ k) : runL (mixL k s old) % 256 = runL s % 256 := by
  have hsm : Small (mixL k s old) := (hs.take _).append (ho'.drop _)
  have e1 := le_mod (hsm.take 8)
  have e2 := le_mod (hs.take 8)
  show le ((mixL k s old).take 8) % 256 = le (s.take 8) % 256
  rw [e1, e2, mixL_take hk]
  unfold mixL
  obtain ⟨q, rfl⟩ : ∃ j, k = j + 1 := ⟨k - 1, by omega⟩
  match s, h8 with
  | x :: r, _ => rfl
/-- A sector of a batch that was torn is as it was, or new, or none that counts. -/
theorem torn_sec {R B o i k : Nat} {b old : List Nat} (hb : Small b) (hR : R < 18446744073709551616) (hj : o + i < 4294967296) (hn : R < B + 256) (ho : Sec old) (hk : k ≤ 512) (hold : runL (old.drop 500) < R) :
    mixL k (cutS R o b i) old = old ∨ mixL k (cutS R o b i) old = cutS R o b i ∨ countsB B (mixL k (cutS R o b i) old) (o + i) = false := by
  have hpl := partL_le (batchL b) i
  have hsm : Small (batchL b) := (leB_small _ _).append hb
  have hS : Sec (cutS R o b i) := ⟨secL_len R (o + i) (by omega), secL_small R (o + i) (partL_small hsm i)⟩
  obtain ⟨r1, r2⟩ := secL_run (r := R) (j := o + i) hpl hR
  obtain ⟨p1, p2⟩ := secL_pl (r := R) (j := o + i) hpl hj
  change runL (cutS R o b i) = R at r1
  change runL ((cutS R o b i).drop 500) = R at r2
  change plL (cutS R o b i) = o + i at p1
  change plL ((cutS R o b i).drop 500) = o + i at p2
  generalize cutS R o b i = s at *
  have hT := mixL_sec hS ho hk
  have hlen : s.length = old.length := by rw [hS.1, ho.1]
  have hd := mixL_drop (e := 500) hlen (k := k) (by rw [hS.1]; exact hk)
  rcases (by omega : k = 0 ∨ (1 ≤ k ∧ k ≤ 500) ∨ (500 < k ∧ k < 512) ∨ k = 512) with h0 | ⟨h1, h2⟩ | ⟨h1, h2⟩ | h0
  · subst h0
    exact .inl (mixL_zero _ _)
  · refine .inr (.inr ?_)
    rw [show k - 500 = 0 by omega, mixL_zero] at hd
    have hlow := runL_mix_low (k := k) hS.2 ho.2 (by rw [hS.1]; decide) (by rw [hS.1]; exact hk) h1
    rw [r1] at hlow
    unfold countsB
    rw [decide_eq_false_iff_not, hd]
    rintro ⟨e1, _, _, e4⟩
    generalize runL (mixL k s old) = v at *
    omega
  · rcases hc : countsB B (mixL k s old) (o + i) with _ | _
    · exact .inr (.inr rfl)
    · refine .inr (.inl ?_)
      unfold countsB at hc
      obtain ⟨e1, e2, e3, e4⟩ := of_decide_eq_true hc
      have f1 : runL (mixL k s old) = R := by rw [runL_mix_all (by rw [hS.1]; decide) (by omega), r1]
      have t5 : (mixL k s old).take 500 = s.take 500 := by
        unfold mixL
        rw [List.take_append_of_le_length (by rw [List.length_take, hS.1]; omega), List.take_take, Nat.min_eq_left (by omega)]
      have hq : ∀ l : List Nat, l.drop 500 = (l.drop 500).take 8 ++ (((l.drop 500).drop 8).take 4 ++ ((l.drop 500).drop 8).drop 4) := fun l => by
        rw [List.take_append_drop, List.take_append_drop]
      have hlast : ∀ l : List Nat, l.length = 512 → ((l.drop 500).drop 8).drop 4 = [] := fun l hl => List.drop_of_length_le (by simp [hl])
      have g1 : ((mixL k s old).drop 500).take 8 = (s.drop 500).take 8 := le_inj (Small.take (hT.2.drop _) _) (Small.take (hS.2.drop _) _) (by simp [hT.1, hS.1]) (by
        show runL ((mixL k s old).drop 500) = runL (s.drop 500)
        rw [← e1, f1, r2])
      have g2 : (((mixL k s old).drop 500).drop 8).take 4 = ((s.drop 500).drop 8).take 4 := le_inj (Small.take (Small.drop (hT.2.drop _) _) _) (Small.take (Small.drop (hS.2.drop _) _) _) (by simp [hT.1, hS.1]) (by
        show plL ((mixL k s old).drop 500) = plL (s.drop 500)
        rw [← e2, e3, p2])
      have g3 : (mixL k s old).drop 500 = s.drop 500 := by
        rw [hq (mixL k s old), hq s, g1, g2, hlast _ hT.1, hlast _ hS.1]
      rw [← List.take_append_drop 500 (mixL k s old), t5, g3, List.take_append_drop]
  · subst h0
    exact .inr (.inl (mixL_all (Nat.le_of_eq hS.1) (Nat.le_of_eq ho.1)))
/-- The runs of a torn sector are not above the new one's. -/
theorem torn_runs {R k : Nat} {s old : List Nat} (hS : Sec s) (ho : Sec old) (hk : k ≤ 512) (r1 : runL s = R) (r2 : runL (s.drop 500) = R) (h1 : runL old ≤ R) (h2 : runL (old.drop 500) ≤ R) : runL (mixL k s old) ≤ R ∧ runL ((mixL k s old).drop 500) ≤ R := by
  have hlen : s.length = old.length := by rw [hS.1, ho.1]
  constructor
  · rw [← r1] at h1 ⊢
    exact runL_mix_le hS.2 (by rw [hS.1]; decide) (by rw [ho.1]; decide) (by rw [hS.1]; exact hk) h1
  · rw [mixL_drop hlen (by rw [hS.1]; exact hk), ← r2]
    rw [← r2] at h2
    exact runL_mix_le (hS.2.drop _) (by rw [List.length_drop, hS.1]; decide) (by rw [List.length_drop, ho.1]; decide) (by rw [List.length_drop, hS.1]; omega) h2
/-- A head that was torn is the new one, or has no run above those that were. -/
theorem torn_head {r c k i : Nat} {old : List Nat} (hc : c ≤ r) (hr : r < 4611686018427387904) (ho : Sec old) (hk : k ≤ 512) {R : Nat} (hR : 1 ≤ R) (hold : runL (old.drop 504) < R) :
    (headVal (mixL k (headL r c) old) i).1 < R ∨ headVal (mixL k (headL r c) old) i = (r, c) := by
  have hS : Sec (headL r c) := ⟨headL_len r c, headL_small r c⟩
  have hlen : (headL r c).length = old.length := by rw [hS.1, ho.1]
  have hd := mixL_drop (e := 504) hlen (k := k) (by rw [hS.1]; exact hk)
  have hd8 := mixL_drop (e := 8) hlen (k := k) (by rw [hS.1]; exact hk)
  have hv := headL_val (r := r) (b := c) (i := r % 2) hr hc rfl
  unfold headVal
  split
  · exact .inl hR
  · next hn =>
    rcases Nat.lt_or_ge 504 k with h1 | h1
    · right
      have e1 : runL (mixL k (headL r c) old) = runL (headL r c) := runL_mix_all (by rw [hS.1]; decide) (by omega)
      have e2 : runL ((mixL k (headL r c) old).drop 8) = runL ((headL r c).drop 8) := by
        rw [hd8]
        exact runL_mix_all (by rw [List.length_drop, hS.1]; decide) (by omega)
      rw [e1, e2]
      unfold headVal at hv
      split at hv
      · injection hv with h9 h8
        have q1 : runL (headL r c) = r := by
          rw [headL_eq]; unfold runL
          rw [List.append_assoc, List.take_left' (leB_length 8 r), le_leB, Nat.mod_eq_of_lt (by omega)]
        have q2 : runL ((headL r c).drop 8) = c := by
          rw [headL_eq]; unfold runL
          rw [List.append_assoc, List.drop_left' (leB_length 8 r), List.take_left' (leB_length 8 c), le_leB, Nat.mod_eq_of_lt (by omega)]
        rw [q1, q2]
      · exact hv
    · left
      rw [show k - 504 = 0 by omega, mixL_zero] at hd
      rw [hd] at hn
      show runL (mixL k (headL r c) old) < R
      omega
end Go.Proofs.YtljlkmmeedlaiaaDoor
