/- Of no program: how many times one number goes into another one, word by word. -/
import Derived.Test.YthgjelpmdndceaaDoorDecMul
namespace Go.Proofs.YthgjelpmdndceaaDoor

theorem wat_wds (n i : Nat) : wat (wds n) i = n / 1000000000 ^ i % 1000000000 := by
  induction i generalizing n with
  | zero =>
    rcases Nat.eq_zero_or_pos n with e | e
    · rw [e, wds_zero]; rfl
    · rw [wds_pos e, wat_cons_zero]; simp
  | succ i ih =>
    rcases Nat.eq_zero_or_pos n with e | e
    · rw [e, wds_zero, Nat.zero_div]; rfl
    · rw [wds_pos e, wat_cons_succ, ih, Nat.pow_succ, Nat.mul_comm (1000000000 ^ i), Nat.div_div_eq_div_mul]
theorem words_of_wat {l : List Nat} (h : ∀ i, i < l.length → wat l i < 1000000000) : Words l := fun x hx => by
  obtain ⟨i, hi, rfl⟩ := List.mem_iff_getElem.1 hx
  have := h i hi
  simpa [wat, List.getD_eq_getElem?_getD, List.getElem?_eq_getElem hi] using this
theorem wval_crop (l : List Nat) : wval (crop l) = wval l := by
  induction l with
  | nil => rfl
  | cons x r ih =>
    unfold crop
    cases hc : crop r with
    | nil =>
      rw [hc] at ih
      have e : wval r = 0 := ih.symm
      simp only
      split
      · rename_i h; show (0 : Nat) = x + 1000000000 * wval r; omega
      · show x + 1000000000 * 0 = x + 1000000000 * wval r; omega
    | cons y c =>
      rw [hc] at ih
      show x + 1000000000 * wval (y :: c) = x + 1000000000 * wval r
      rw [ih]
/-- A number times one word, behind i words of it (and, where j is 1, the next one, but for what is kept). -/
structure MulQ (a : List Nat) (q i j kept : Nat) (n : List Nat) : Prop where
  len : n.length = a.length + 1
  lo : ∀ p, p < i + j → wat n p < 1000000000
  hi : ∀ p, wat n p ≤ 1000000000
  small : kept ≤ 1000000000
  zero : ∀ p, i + 1 ≤ p → wat n p = 0
  val : wval n + kept * 1000000000 ^ (i + j) = wtk a i * q + wat a i * (q * j) * 1000000000 ^ i
theorem wat_zeros (k p : Nat) : wat (List.replicate k 0) p = 0 := by
  simp [wat, List.getD_eq_getElem?_getD, List.getElem?_replicate]; split <;> rfl
theorem MulQ.start (a : List Nat) (q : Nat) : MulQ a q 0 0 0 (List.replicate (a.length + 1) 0) :=
  ⟨by simp, fun p h => by omega, fun p => by rw [wat_zeros]; omega, by omega, fun p _ => wat_zeros _ _, by rw [wval_zeros, wtk_zero]; simp⟩
theorem MulQ.bound {a n : List Nat} {q i : Nat} (h : MulQ a q i 0 0 n) (ha : Words a) (hq : q ≤ 1000000001) : wat a i * q ≤ 999999999999999999 ∧ 0 + (wat n (i + 0) + wat a i * q) ≤ 1000000000999999999 := by
  have h1 := wat_lt ha i
  have h3 := h.hi (i + 0)
  have h5 : wat a i * q ≤ 999999999 * 1000000001 := Nat.mul_le_mul (by omega) (by omega)
  omega
theorem MulQ.step {a n : List Nat} {q i : Nat} (h : MulQ a q i 0 0 n) (ha : Words a) (hq : q ≤ 1000000001) (hi : i < a.length) :
    MulQ a q i 1 ((0 + (wat n (i + 0) + wat a i * q)) / 1000000000) (n.set (i + 0) ((0 + (wat n (i + 0) + wat a i * q)) % 1000000000)) := by
  have hbd := (h.bound ha hq).2
  have hp : i + 0 < n.length := by rw [h.len]; omega
  have hs := wval_set n (i + 0) ((0 + (wat n (i + 0) + wat a i * q)) % 1000000000) hp
  refine ⟨by rw [List.length_set]; exact h.len, fun p hpp => ?_, fun p => ?_, by omega, fun p hpp => ?_, ?_⟩
  · rw [wat_set _ _ _ _ hp]; split
    · omega
    · exact h.lo p (by omega)
  · rw [wat_set _ _ _ _ hp]; split
    · omega
    · exact h.hi p
  · rw [wat_set _ _ _ _ hp, if_neg (by omega)]; exact h.zero p hpp
  · have hv := h.val
    simp only [Nat.zero_mul, Nat.add_zero, Nat.mul_zero, Nat.mul_one, Nat.zero_add] at hv hs ⊢
    obtain ⟨K, hK⟩ : ∃ K, K = wat n i + wat a i * q := ⟨_, rfl⟩
    rw [← hK] at hs ⊢
    rw [Nat.pow_succ]
    generalize hPP : (1000000000 : Nat) ^ i = P at *
    generalize wat a i * q = m at *
    generalize wtk a i * q = R0 at *
    generalize wat n i = u at *
    have hqr : K % 1000000000 + 1000000000 * (K / 1000000000) = K := Nat.mod_add_div K 1000000000
    generalize K % 1000000000 = r at *
    generalize K / 1000000000 = s at *
    have e1 : (r + 1000000000 * s) * P = (u + m) * P := by rw [hqr, hK]
    have e2 : s * (P * 1000000000) = 1000000000 * s * P := by rw [Nat.mul_comm P, ← Nat.mul_assoc, Nat.mul_comm s]
    rw [e2]
    simp only [Nat.add_mul] at e1
    omega
theorem MulQ.next {a n : List Nat} {q i kept : Nat} (h : MulQ a q i 1 kept n) (hi : i < a.length) :
    MulQ a q (i + 1) 0 0 (n.set (i + 1) kept) := by
  have hp : i + 1 < n.length := by rw [h.len]; omega
  have hs := wval_set n (i + 1) kept hp
  have hz := h.zero (i + 1) (Nat.le_refl _)
  refine ⟨by rw [List.length_set]; exact h.len, fun p hpp => ?_, fun p => ?_, by omega, fun p hpp => ?_, ?_⟩
  · rw [wat_set _ _ _ _ hp, if_neg (by omega)]; exact h.lo p (by omega)
  · rw [wat_set _ _ _ _ hp]; split
    · exact h.small
    · exact h.hi p
  · rw [wat_set _ _ _ _ hp, if_neg (by omega)]; exact h.zero p (by omega)
  · have hv := h.val
    rw [hz, Nat.zero_mul, Nat.add_zero] at hs
    rw [hs, hv, wtk_succ]
    simp only [Nat.zero_mul, Nat.mul_zero, Nat.add_zero, Nat.mul_one]
    rw [Nat.add_mul]
    congr 1
    rw [Nat.mul_comm (1000000000 ^ i), Nat.mul_assoc, Nat.mul_assoc, Nat.mul_comm q]
/-- What is taken away: a number of k words times q; its highest word may be the base itself. -/
structure Took (P q k : Nat) (T : List Nat) : Prop where
  val : wval T = P * q
  form : T = wds (P * q) ∨ (T.length = k + 1 ∧ (∀ i, i < k → wat T i < 1000000000) ∧ wat T k = 1000000000)
theorem MulQ.done {a n : List Nat} {q : Nat} (h : MulQ a q a.length 0 0 n) : Took (wval a) q a.length (crop n) := by
  have hv := h.val
  rw [wtk_all a (Nat.le_refl _), wat_out (Nat.le_refl _)] at hv
  simp only [Nat.zero_mul, Nat.add_zero] at hv
  refine ⟨by rw [wval_crop, hv], ?_⟩
  have hlo := h.lo
  simp only [Nat.add_zero] at hlo
  rcases Nat.lt_or_ge (wat n a.length) 1000000000 with e | e
  · left
    have hw : Words n := words_of_wat fun i hi => by
      rcases Nat.lt_or_ge i a.length with e2 | e2
      · exact hlo i e2
      · have : i = a.length := by rw [h.len] at hi; omega
        rw [this]; exact e
    rw [← wds_wval hw, hv]
  · right
    have e2 : wat n a.length = 1000000000 := by have := h.hi a.length; omega
    have hn : n ≠ [] := by intro e3; have := h.len; rw [e3] at this; simp at this
    have e4 : n = n.dropLast ++ [n.getLast hn] := (List.dropLast_concat_getLast hn).symm
    have e5 : n.getLast hn = 1000000000 := by
      rw [← e2, List.getLast_eq_getElem]
      have : n.length - 1 = a.length := by rw [h.len]; omega
      simp only [wat, List.getD_eq_getElem?_getD, this, List.getElem?_eq_getElem (show a.length < n.length by rw [h.len]; omega), Option.getD_some]
    have e6 : crop n = n := by
      conv => lhs; rw [e4]
      rw [crop_snoc (by rw [e5]; decide), ← e4]
    rw [e6]
    exact ⟨h.len, hlo, e2⟩
theorem wtk_le_lt {l : List Nat} {k : Nat} (h : ∀ i, i < k → wat l i < 1000000000) : ∀ i, i ≤ k → wtk l i < 1000000000 ^ i
  | 0, _ => by rw [wtk_zero]; simp
  | i + 1, hi => by
    have := wtk_le_lt h i (by omega)
    have h2 := h i (by omega)
    rw [wtk_succ, Nat.pow_succ]
    have : 1000000000 ^ i * wat l i ≤ 1000000000 ^ i * 999999999 := Nat.mul_le_mul_left _ (by omega)
    omega
theorem Took.big {P q k : Nat} {T : List Nat} (h : Took P q k T) (h2 : T.length = k + 1 ∧ (∀ i, i < k → wat T i < 1000000000) ∧ wat T k = 1000000000) : 1000000000 ^ (k + 1) ≤ P * q := by
  rw [← h.val, ← wtk_all T (i := k + 1) (by omega), wtk_succ, h2.2.2, Nat.pow_succ]
  omega
/-- Is what is left less than what is to be taken away? -/
theorem Took.less {P q k R : Nat} {T : List Nat} (h : Took P q k T) (hP : P < 1000000000 ^ k) (hR : R < P * 1000000000) : lessL (wds R) T = decide (R < P * q) := by
  rcases h.form with e | e
  · rw [e]; exact lessL_wds _ _
  · have hb := h.big e
    have hk : P * 1000000000 < 1000000000 ^ (k + 1) := by rw [Nat.pow_succ]; omega
    rw [decide_eq_true (by omega)]
    have hl : (wds R).length ≤ k + 1 := wds_length_le (by omega)
    unfold lessL
    rcases Nat.lt_or_ge (wds R).length (k + 1) with e2 | e2
    · rw [if_pos (by omega), decide_eq_true (by omega)]
    · have e3 : (wds R).length = k + 1 := by omega
      rw [if_neg (by omega), e3]
      unfold lessAt
      have := wat_lt (wds_words R) k
      rw [if_pos (by omega), decide_eq_true (by omega)]
theorem Took.over {P q k : Nat} {T : List Nat} (h : Took P q k T) (h2 : T.length = k + 1 ∧ (∀ i, i < k → wat T i < 1000000000) ∧ wat T k = 1000000000) (hP : P < 1000000000 ^ k) (hk : (wds P).length = k) (hq : 1 ≤ q) (hq2 : q ≤ 1000000001) :
    Over T (wds P) ∧ lessL T (wds P) = false := by
  have hin : ∀ i, wat T i ≤ 1000000000 := fun i => by
    rcases Nat.lt_or_ge i k with e | e
    · exact Nat.le_of_lt (h2.2.1 i e)
    · rcases Nat.eq_or_lt_of_le e with e2 | e2
      · rw [← e2, h2.2.2]; omega
      · rw [wat_out (by omega)]; omega
  refine ⟨⟨hin, fun i e => ?_, wds_words P, by omega, ?_, ?_⟩, ?_⟩
  · rw [h2.1]
    rcases Nat.lt_or_ge i k with e2 | e2
    · have := h2.2.1 i e2; omega
    · rcases Nat.eq_or_lt_of_le e2 with e3 | e3
      · omega
      · rw [wat_out (by omega)] at e; omega
  · rw [wval_wds, h.val]
    have : P * 1 ≤ P * q := Nat.mul_le_mul_left _ hq
    omega
  · rw [wval_wds, h.val, h2.1, Nat.pow_succ]
    have e1 : P * q ≤ P * 1000000001 := Nat.mul_le_mul_left _ hq2
    omega
  · unfold lessL
    rw [if_pos (by omega), decide_eq_false (by omega)]

/-! ### The guess -/
theorem div_guess_ge {R P B : Nat} (hB : 0 < P / B) : R / P ≤ (R / B) / (P / B) := by
  rw [Nat.le_div_iff_mul_le hB]
  have hB0 : 0 < B := by
    rcases Nat.eq_zero_or_pos B with e | e
    · rw [e, Nat.div_zero] at hB; omega
    · exact e
  rw [Nat.le_div_iff_mul_le hB0, Nat.mul_assoc]
  exact Nat.le_trans (Nat.mul_le_mul_left _ (Nat.div_mul_le_self P B)) (Nat.div_mul_le_self R P)
theorem div_guess_le {R P B : Nat} (hR : R < P * 1000000000) (hB : 500000000 ≤ P / B) : (R / B) / (P / B) ≤ 1000000001 := by
  have hB0 : 0 < B := by
    rcases Nat.eq_zero_or_pos B with e | e
    · rw [e, Nat.div_zero] at hB; omega
    · exact e
  have h1 : P < (P / B + 1) * B := by rw [Nat.mul_comm]; exact Nat.lt_mul_div_succ P hB0
  have h2 : R / B < (P / B + 1) * 1000000000 := by
    rw [Nat.div_lt_iff_lt_mul hB0]
    have : P * 1000000000 < (P / B + 1) * B * 1000000000 := Nat.mul_lt_mul_of_pos_right h1 (by omega)
    have e : (P / B + 1) * B * 1000000000 = (P / B + 1) * 1000000000 * B := by rw [Nat.mul_assoc, Nat.mul_comm B, ← Nat.mul_assoc]
    omega
  generalize P / B = t at *
  have : (R / B) / t < 1000000002 := by
    rw [Nat.div_lt_iff_lt_mul (by omega)]
    omega
  omega
/-- Two numbers grow alike. -/
theorem norm_top {t : Nat} (h : 1 ≤ t) (h2 : t < 1000000000) : 1 ≤ 1000000000 / (t + 1) ∧ 1000000000 / (t + 1) ≤ 500000000 ∧ 500000000 ≤ t * (1000000000 / (t + 1)) ∧ (t + 1) * (1000000000 / (t + 1)) ≤ 1000000000 := by
  have h3 : (t + 1) * (1000000000 / (t + 1)) ≤ 1000000000 := Nat.mul_div_le _ _
  have h4 : 1000000000 < (t + 1) * (1000000000 / (t + 1) + 1) := Nat.lt_mul_div_succ _ (by omega)
  have h5 : 1 ≤ 1000000000 / (t + 1) := by rw [Nat.le_div_iff_mul_le (by omega)]; omega
  have h6 : 1000000000 / (t + 1) ≤ 500000000 := by
    have : 1000000000 / (t + 1) ≤ 1000000000 / 2 := Nat.div_le_div_left (by omega) (by omega)
    omega
  refine ⟨h5, h6, ?_, h3⟩
  generalize 1000000000 / (t + 1) = g at *
  rcases Nat.lt_or_ge t 500000000 with e | e
  · rcases Nat.eq_or_lt_of_le h with e1 | e1
    · subst e1; omega
    · -- 2 ≤ t: either g ≤ t or t < g, both are at least 2
      have e5 : 2 ≤ g := by
        rcases Nat.lt_or_ge g 2 with e6 | e6
        · have : g = 1 := by omega
          subst this; omega
        · exact e6
      have e6 : t * g + t + g + 1 = (t + 1) * (g + 1) := by rw [Nat.add_mul, Nat.mul_add]; omega
      have e7 : t + g + 1 ≤ t * g + 1 := by
        obtain ⟨x, rfl⟩ : ∃ x, t = x + 2 := ⟨t - 2, by omega⟩
        obtain ⟨y, rfl⟩ : ∃ y, g = y + 2 := ⟨g - 2, by omega⟩
        have : (x + 2) * (y + 2) = x * y + 2 * x + 2 * y + 4 := by rw [Nat.add_mul, Nat.mul_add]; omega
        omega
      omega
  · have : t * 1 ≤ t * g := Nat.mul_le_mul_left _ h5
    omega

/-! ### Word by word -/
/-- The quotient behind the words from i on: those of n from i on, and what is left. -/
structure QuoAt (G P i R : Nat) (n : List Nat) : Prop where
  len : n.length = (wds G).length
  le : i ≤ n.length
  rest : R = G / 1000000000 ^ i % P
  words : ∀ p, i ≤ p → wat n p < 1000000000
  val : wval (n.drop i) = G / 1000000000 ^ i / P
theorem QuoAt.start (G P : Nat) : QuoAt G P (wds G).length 0 (List.replicate (wds G).length 0) := by
  have h : G / 1000000000 ^ (wds G).length = 0 := Nat.div_eq_of_lt (by have := wval_lt (wds_words G); rwa [wval_wds] at this)
  refine ⟨by simp, by simp, by rw [h]; simp, fun p _ => by rw [wat_zeros]; omega, ?_⟩
  rw [h, List.drop_of_length_le (by simp)]; simp [wval]
theorem QuoAt.rest_lt {G P i R : Nat} {n : List Nat} (h : QuoAt G P i R n) (hP : 0 < P) (x : Nat) (hx : x < 1000000000) : x + 1000000000 * R < P * 1000000000 := by
  have : R < P := by rw [h.rest]; exact Nat.mod_lt _ hP
  have : R + 1 ≤ P := this
  have : 1000000000 * (R + 1) ≤ 1000000000 * P := Nat.mul_le_mul_left _ this
  omega
theorem QuoAt.step {G P i R : Nat} {n : List Nat} (h : QuoAt G P (i + 1) R n) (hP : 0 < P) (q : Nat) (hq : q = (wat (wds G) i + 1000000000 * R) / P) :
    QuoAt G P i ((wat (wds G) i + 1000000000 * R) % P) (n.set i q) ∧ q < 1000000000 := by
  have hx := wat_lt (wds_words G) i
  have hr := h.rest_lt hP _ hx
  have hq1 : q < 1000000000 := by rw [hq, Nat.div_lt_iff_lt_mul hP]; omega
  have hin : i < n.length := h.le
  have hG : G / 1000000000 ^ i = wat (wds G) i + 1000000000 * (G / 1000000000 ^ (i + 1)) := by
    rw [wat_wds, Nat.pow_succ, ← Nat.div_div_eq_div_mul]
    exact (Nat.mod_add_div _ _).symm
  obtain ⟨Q, hQ⟩ : ∃ Q, Q = G / 1000000000 ^ (i + 1) := ⟨_, rfl⟩
  have hval := h.val
  have hrest := h.rest
  rw [← hQ] at hG hval hrest
  have hQP : P * (Q / P) + R = Q := by rw [hrest]; exact Nat.div_add_mod Q P
  have hG2 : G / 1000000000 ^ i = (wat (wds G) i + 1000000000 * R) + P * (1000000000 * (Q / P)) := by
    rw [hG]
    have : 1000000000 * Q = 1000000000 * R + P * (1000000000 * (Q / P)) := by
      conv => lhs; rw [← hQP]
      rw [Nat.mul_add, ← Nat.mul_assoc, Nat.mul_comm 1000000000 P, Nat.mul_assoc]
      omega
    omega
  refine ⟨⟨by rw [List.length_set]; exact h.len, by rw [List.length_set]; omega, ?_, fun p hp => ?_, ?_⟩, hq1⟩
  · rw [hG2, Nat.add_mul_mod_self_left]
  · rw [wat_set _ _ _ _ hin]
    split
    · exact hq1
    · exact h.words p (by omega)
  · rw [hG2, Nat.add_mul_div_left _ _ hP, ← hq]
    rw [show (n.set i q).drop i = q :: n.drop (i + 1) by
      rw [List.drop_eq_getElem_cons (by rw [List.length_set]; exact hin), List.getElem_set_self, List.drop_set_of_lt (by omega)]]
    show q + 1000000000 * wval (n.drop (i + 1)) = _
    rw [hval]
theorem QuoAt.done {G P R : Nat} {n : List Nat} (h : QuoAt G P 0 R n) : crop n = wds (G / P) := by
  have hw : Words n := words_of_wat fun i _ => h.words i (by omega)
  have hv := h.val
  rw [List.drop_zero, Nat.pow_zero, Nat.div_one] at hv
  rw [← wds_wval hw, hv]
/-- One word more: what is left, with the next word below it. -/
theorem crop_cons (x R : Nat) (hx : x < 1000000000) : crop (x :: wds R) = wds (x + 1000000000 * R) := by
  have hw : Words (x :: wds R) := fun y hy => by
    rcases List.mem_cons.1 hy with e | e
    · rw [e]; exact hx
    · exact wds_words R y e
  rw [← wds_wval hw]
  show wds (x + 1000000000 * wval (wds R)) = _
  rw [wval_wds]
theorem wds_len_pos {n : Nat} (h : 0 < n) : 0 < (wds n).length := by rw [wds_pos h]; simp
theorem wds_len_of {n k : Nat} (h1 : 1000000000 ^ k ≤ n) (h2 : n < 1000000000 ^ (k + 1)) : (wds n).length = k + 1 := by
  have h3 := wds_length_le h2
  have h4 := wval_lt (wds_words n)
  rw [wval_wds] at h4
  rcases Nat.lt_or_ge (wds n).length (k + 1) with e | e
  · have : 1000000000 ^ (wds n).length ≤ 1000000000 ^ k := Nat.pow_le_pow_right (by omega) (by omega)
    omega
  · omega
/-- The highest word. -/
theorem wds_top {n : Nat} (h : 0 < n) : wat (wds n) ((wds n).length - 1) = n / 1000000000 ^ ((wds n).length - 1) ∧ 1 ≤ wat (wds n) ((wds n).length - 1) ∧ n < 1000000000 ^ (wds n).length ∧ 1000000000 ^ ((wds n).length - 1) ≤ n := by
  have hp := wds_len_pos h
  have h4 := wval_lt (wds_words n)
  rw [wval_wds] at h4
  have hge : 1000000000 ^ ((wds n).length - 1) ≤ n := by
    rcases Nat.lt_or_ge n (1000000000 ^ ((wds n).length - 1)) with e | e
    · have := wds_length_le e; omega
    · exact e
  obtain ⟨k, hk⟩ : ∃ k, (wds n).length = k + 1 := ⟨(wds n).length - 1, by omega⟩
  rw [hk, Nat.add_sub_cancel] at hge ⊢
  rw [hk] at h4
  have hlt : n / 1000000000 ^ k < 1000000000 := by
    rw [Nat.div_lt_iff_lt_mul (Nat.pow_pos (by omega)), Nat.mul_comm, ← Nat.pow_succ]; exact h4
  refine ⟨by rw [wat_wds, Nat.mod_eq_of_lt hlt], ?_, h4, hge⟩
  rw [wat_wds, Nat.mod_eq_of_lt hlt, Nat.le_div_iff_mul_le (Nat.pow_pos (by omega)), Nat.one_mul]
  exact hge
/-- What a number grows to: as many words, and its highest one is half of the base at least. -/
theorem norm_part {B t k : Nat} (ht : t = B / 1000000000 ^ k) (h1 : 1 ≤ t) (h2 : B < 1000000000 ^ (k + 1)) :
    B * (1000000000 / (t + 1)) < 1000000000 ^ (k + 1) ∧ 500000000 ≤ B * (1000000000 / (t + 1)) / 1000000000 ^ k := by
  have hp : 0 < 1000000000 ^ k := Nat.pow_pos (by omega)
  have ht2 : t < 1000000000 := by rw [ht, Nat.div_lt_iff_lt_mul hp, Nat.mul_comm, ← Nat.pow_succ]; exact h2
  obtain ⟨n1, _, n3, n4⟩ := norm_top h1 ht2
  have hlo : t * 1000000000 ^ k ≤ B := by rw [ht]; exact Nat.div_mul_le_self _ _
  have hhi : B < (t + 1) * 1000000000 ^ k := by rw [ht, Nat.mul_comm]; exact Nat.lt_mul_div_succ _ hp
  generalize 1000000000 / (t + 1) = g at *
  rw [Nat.pow_succ]
  generalize 1000000000 ^ k = K at *
  constructor
  · have e1 : B * g < (t + 1) * K * g := Nat.mul_lt_mul_of_pos_right hhi (by omega)
    have e2 : (t + 1) * K * g = (t + 1) * g * K := by rw [Nat.mul_assoc, Nat.mul_comm K, ← Nat.mul_assoc]
    have e3 : (t + 1) * g * K ≤ 1000000000 * K := Nat.mul_le_mul_right _ n4
    omega
  · rw [Nat.le_div_iff_mul_le hp]
    have e1 : t * K * g ≤ B * g := Nat.mul_le_mul_right _ hlo
    have e2 : t * K * g = t * g * K := by rw [Nat.mul_assoc, Nat.mul_comm K, ← Nat.mul_assoc]
    have e3 : 500000000 * K ≤ t * g * K := Nat.mul_le_mul_right _ n3
    omega
theorem pow_room {P R k : Nat} (hP : P < 1000000000 ^ k) (hR : R < P * 1000000000) : R < 1000000000 ^ (k + 1) := by
  rw [Nat.pow_succ]
  exact Nat.lt_of_lt_of_le hR (Nat.mul_le_mul_right _ (Nat.le_of_lt hP))
theorem pow_room2 {P q k : Nat} (hP : P < 1000000000 ^ k) (hq : q ≤ 1000000001) : P * q < 1000000000 ^ (k + 2) := by
  rw [Nat.pow_add]
  have h1 : P * q ≤ P * 1000000000 ^ 2 := Nat.mul_le_mul_left _ (Nat.le_trans hq (by decide))
  exact Nat.lt_of_le_of_lt h1 (Nat.mul_lt_mul_of_pos_right hP (by decide))
theorem guess_words {R P : Nat} (hP : 0 < P) (hR : R < P * 1000000000) :
    wat (wds R) (wds P).length * 1000000000 + wat (wds R) ((wds P).length - 1) = R / 1000000000 ^ ((wds P).length - 1) ∧ wat (wds P) ((wds P).length - 1) = P / 1000000000 ^ ((wds P).length - 1) := by
  obtain ⟨h1, _, h3, _⟩ := wds_top hP
  refine ⟨?_, h1⟩
  have hp := wds_len_pos hP
  obtain ⟨k, hk⟩ : ∃ k, (wds P).length = k + 1 := ⟨(wds P).length - 1, by omega⟩
  rw [hk] at h3 ⊢
  rw [Nat.add_sub_cancel, wat_wds, wat_wds]
  have hlt : R / 1000000000 ^ (k + 1) < 1000000000 := by
    rw [Nat.div_lt_iff_lt_mul (Nat.pow_pos (by omega)), Nat.mul_comm, ← Nat.pow_succ]
    exact pow_room h3 hR
  rw [Nat.mod_eq_of_lt hlt, Nat.pow_succ, ← Nat.div_div_eq_div_mul]
  have := Nat.div_add_mod (R / 1000000000 ^ k) 1000000000
  omega
end Go.Proofs.YthgjelpmdndceaaDoor
