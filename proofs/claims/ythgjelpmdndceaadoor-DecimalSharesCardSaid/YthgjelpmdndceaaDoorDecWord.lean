/- Layer 7: words and digits of one number; two numbers' sum, how far they are from each other, which is the greater one, word by word. Of no program. -/
import Derived.Test.YthgjelpmdndceaaDoorDecNum
namespace Go.Proofs.YthgjelpmdndceaaDoor
open Go.Lib

/-! ### Nine digits of a word -/
def pad9 (x : Nat) : List UInt8 := List.replicate (9 - (decDigits x).length) 48 ++ decDigits x
theorem decDigits_len {x k : Nat} (hk : 0 < k) (h : x < 10 ^ k) : (decDigits x).length ≤ k := by
  rw [decDigits_length]
  rcases Nat.eq_zero_or_pos x with e | e
  · rw [e, nDigits_small (by omega)]; omega
  · have h1 := pow_nDigits_le e
    have h2 := nDigits_pos x
    rcases Nat.lt_or_ge k (nDigits x) with h3 | h3
    · have : 10 ^ k ≤ 10 ^ (nDigits x - 1) := Nat.pow_le_pow_right (by omega) (by omega)
      omega
    · exact h3
theorem pad9_length {x : Nat} (h : x < 1000000000) : (pad9 x).length = 9 := by
  have := decDigits_len (x := x) (k := 9) (by omega) (by simpa using h)
  unfold pad9
  rw [List.length_append, List.length_replicate]; omega
theorem num_pad9 (x : Nat) : num (pad9 x) = x := by unfold pad9; rw [num_zeros_ahead, num_decDigits]
theorem pad9_digs (x : Nat) : Digs (pad9 x) := (Digs.zeros _).append (decDigits_digs x)
theorem dig_words {x v : Nat} (hx : x < 1000000000) (hv : 0 < v) : dig (x + 1000000000 * v) = dig v ++ pad9 x := by
  have e : num (dig v ++ pad9 x) = x + 1000000000 * v := by
    rw [num_append, num_dig, num_pad9, pad9_length hx]; omega
  rw [← e]
  refine dig_num ((dig_digs v).append (pad9_digs x)) ?_
  have hh := dig_head v
  cases hd : dig v with
  | nil =>
    exfalso
    have := num_dig v
    rw [hd] at this
    have : num [] = 0 := rfl
    omega
  | cons b r => rw [hd] at hh; simpa using hh
theorem dig_one {x : Nat} (h : 0 < x) : dig x = decDigits x := dig_pos h

/-- The digits of the words from one place on. -/
theorem dig_from (l : List Nat) (hl : Words l) (i : Nat) (hi : i + 1 < l.length) (hv : 0 < wval (l.drop (i + 1))) :
    dig (wval (l.drop i)) = dig (wval (l.drop (i + 1))) ++ pad9 (l.getD i 0) := by
  have e : l.drop i = l.getD i 0 :: l.drop (i + 1) := by
    rw [List.drop_eq_getElem_cons (by omega)]
    simp [List.getD, List.getElem?_eq_getElem (show i < l.length by omega)]
  rw [e]
  show dig (l.getD i 0 + 1000000000 * wval (l.drop (i + 1))) = _
  refine dig_words ?_ hv
  have : l.getD i 0 ∈ l := by
    simp only [List.getD, List.getElem?_eq_getElem (show i < l.length by omega), Option.getD_some]
    exact List.getElem_mem _
  exact hl _ this

theorem wval_drop_pos {n : Nat} (h : 0 < n) {i : Nat} (hi : i < (wds n).length) : 0 < wval ((wds n).drop i) := by
  obtain ⟨r, x, e, hx⟩ := wds_last h
  rw [e] at hi ⊢
  rw [List.length_append, List.length_singleton] at hi
  rw [List.drop_append_of_le_length (by omega), wval_snoc]
  have : 0 < 1000000000 ^ (r.drop i).length * x := Nat.mul_pos (Nat.pow_pos (by omega)) (by omega)
  omega

/-! ### Digits to words -/
theorem ten_nine (k : Nat) : 10 ^ (9 * k) = 1000000000 ^ k := by rw [Nat.pow_mul]
theorem noughts_words (m b : Nat) : m * 10 ^ (b % 9) * 1000000000 ^ (b / 9) = m * 10 ^ b := by
  rw [← ten_nine, Nat.mul_assoc, ← Nat.pow_add]
  congr 2
  omega
theorem ten9 : (10 : Nat) ^ 9 = 1000000000 := rfl
/-- Nine digits more are one word more. -/
theorem laid_step (ws : List Nat) (q c : List UInt8) (hc : c.length = 9 ∨ q = []) :
    wval (ws ++ [num c]) + 1000000000 ^ (ws ++ [num c]).length * num q = wval ws + 1000000000 ^ ws.length * num (q ++ c) := by
  have hs : 1000000000 ^ (ws ++ [num c]).length = 1000000000 ^ ws.length * 1000000000 := by rw [List.length_append, List.length_singleton, Nat.pow_succ]
  rw [wval_snoc, num_append, hs, Nat.mul_add]
  generalize 1000000000 ^ ws.length = P
  rcases hc with e | e
  · rw [e, ten9, Nat.mul_comm (num q) 1000000000, ← Nat.mul_assoc]; omega
  · rw [e, num_nil, Nat.mul_zero, Nat.zero_mul, Nat.mul_zero, Nat.zero_add, Nat.add_zero]
theorem parseUint_small {l : List UInt8} (h : Digs l) (h0 : l ≠ []) (h9 : l.length ≤ 9) : parseUintB 64 l = .ok (num l) := by
  have key : ∀ (l : List UInt8) (acc : Nat), Digs l → acc * 10 ^ l.length + num l < 1000000000 → parseUintM (2 ^ 64 - 1) acc l = .ok (acc * 10 ^ l.length + num l) := by
    intro l
    induction l with
    | nil => intro acc _ _; simp [parseUintM, num]
    | cons b r ih =>
      intro acc hd hlt
      have hb := hd b (by simp)
      have hr : Digs r := fun z hz => hd z (by simp [hz])
      have hlo := isDig_lo hb; have hhi := isDig_hi hb
      have hps : 10 ^ (b :: r).length = 10 ^ r.length * 10 := by rw [List.length_cons, Nat.pow_succ]
      rw [num_cons, hps] at hlt ⊢
      have hp : 1 ≤ 10 ^ r.length := Nat.one_le_pow _ _ (by decide)
      have hacc : acc * 10 ^ r.length * 10 < 1000000000 := by
        have : acc * (10 ^ r.length * 10) = acc * 10 ^ r.length * 10 := (Nat.mul_assoc ..).symm
        omega
      have hacc' : acc * 1 ≤ acc * 10 ^ r.length := Nat.mul_le_mul_left _ hp
      have hv : dval b = b.toNat - 48 := rfl
      have e : (acc * 10 + (b.toNat - 48)) * 10 ^ r.length + num r = acc * (10 ^ r.length * 10) + (dval b * 10 ^ r.length + num r) := by
        rw [Nat.add_mul, hv, Nat.mul_assoc, Nat.mul_comm 10 (10 ^ r.length)]; omega
      unfold parseUintM
      rw [if_pos ⟨hlo, hhi⟩, if_neg (by omega), if_neg (by omega), ih _ hr (by omega), e]
  unfold parseUintB
  rw [if_neg h0]
  have hlt := num_lt h
  have h10 : 10 ^ l.length ≤ 10 ^ 9 := Nat.pow_le_pow_right (by omega) h9
  have := key l 0 h (by omega)
  rw [this]
  simp

/-! ### Word by word -/
def wat (l : List Nat) (i : Nat) : Nat := l.getD i 0
def wtk (l : List Nat) (i : Nat) : Nat := wval (l.take i)
theorem wat_lt {l : List Nat} (h : Words l) (i : Nat) : wat l i < 1000000000 := by
  unfold wat
  by_cases hi : i < l.length
  · rw [List.getD, List.getElem?_eq_getElem hi]; exact h _ (List.getElem_mem _)
  · rw [List.getD, List.getElem?_eq_none (by omega)]; simp
theorem wat_out {l : List Nat} {i : Nat} (h : l.length ≤ i) : wat l i = 0 := by
  unfold wat; rw [List.getD, List.getElem?_eq_none h]; rfl
theorem wtk_zero (l : List Nat) : wtk l 0 = 0 := by simp [wtk, wval]
theorem wtk_all (l : List Nat) {i : Nat} (h : l.length ≤ i) : wtk l i = wval l := by unfold wtk; rw [List.take_of_length_le h]
theorem wtk_succ (l : List Nat) (i : Nat) : wtk l (i + 1) = wtk l i + 1000000000 ^ i * wat l i := by
  by_cases hi : i < l.length
  · unfold wtk wat
    rw [List.take_add_one, List.getElem?_eq_getElem hi, Option.toList_some, wval_snoc, List.length_take, Nat.min_eq_left (by omega), List.getD, List.getElem?_eq_getElem hi]
    rfl
  · rw [wtk_all l (by omega), wtk_all l (by omega), wat_out (by omega)]; omega
theorem wtk_lt {l : List Nat} (h : Words l) (i : Nat) : wtk l i < 1000000000 ^ i := by
  have h1 : Words (l.take i) := fun x hx => h x (List.mem_of_mem_take hx)
  have h2 := wval_lt h1
  have h3 : 1000000000 ^ (l.take i).length ≤ 1000000000 ^ i := Nat.pow_le_pow_right (by omega) (by rw [List.length_take]; omega)
  unfold wtk
  omega

/-- Counting up: out holds the words counted, c is what is kept for the next one. -/
structure UpAt (a b : List Nat) (i : Nat) (out : List Nat) (c : Nat) : Prop where
  len : out.length = i
  words : Words out
  kept : c ≤ 1
  eq : wval out + 1000000000 ^ i * c = wtk a i + wtk b i
theorem UpAt.zero (a b : List Nat) : UpAt a b 0 [] 0 := ⟨rfl, Words.nil, by omega, by simp [wtk_zero, wval]⟩
theorem UpAt.step {a b out : List Nat} {i c : Nat} (h : UpAt a b i out c) (ha : Words a) (hb : Words b) :
    UpAt a b (i + 1) (out ++ [(wat a i + wat b i + c) % 1000000000]) ((wat a i + wat b i + c) / 1000000000) := by
  have h1 := wat_lt ha i; have h2 := wat_lt hb i; have h3 := h.kept
  refine ⟨by simp [h.len], h.words.append (Words.one (by omega)), by omega, ?_⟩
  rw [wval_snoc, h.len, wtk_succ, wtk_succ, Nat.pow_succ]
  have e := h.eq
  generalize 1000000000 ^ i = B at *
  have e2 : wat a i + wat b i + c = (wat a i + wat b i + c) % 1000000000 + 1000000000 * ((wat a i + wat b i + c) / 1000000000) := by omega
  generalize (wat a i + wat b i + c) % 1000000000 = r at *
  generalize (wat a i + wat b i + c) / 1000000000 = q at *
  have e3 : B * (wat a i + wat b i + c) = B * (r + 1000000000 * q) := by rw [e2]
  rw [Nat.mul_add, Nat.mul_add, Nat.mul_add, ← Nat.mul_assoc] at e3
  omega
theorem UpAt.done {a b out : List Nat} {i c : Nat} (h : UpAt a b i out c) (ha : Words a) (hb : Words b) (hi : max a.length b.length + 1 = i) : crop out = wds (wval a + wval b) := by
  have e := h.eq
  rw [wtk_all a (by omega), wtk_all b (by omega)] at e
  have l1 := wtk_lt ha (i - 1); have l2 := wtk_lt hb (i - 1)
  rw [wtk_all a (by omega)] at l1
  rw [wtk_all b (by omega)] at l2
  have hp : 1000000000 ^ i = 1000000000 ^ (i - 1) * 1000000000 := by rw [← Nat.pow_succ]; congr 1; omega
  have hc : c = 0 := by
    have := h.kept
    rcases Nat.eq_zero_or_pos c with e0 | e0
    · exact e0
    · have : c = 1 := by omega
      rw [this] at e; omega
  rw [hc] at e
  rw [← wds_wval h.words]
  congr 1

/-- What is taken from: its words are words, but that the highest one may be the base itself; what is taken is not greater. -/
structure Over (a b : List Nat) : Prop where
  le : ∀ i, wat a i ≤ 1000000000
  top : ∀ i, wat a i = 1000000000 → i + 1 = a.length
  words : Words b
  short : b.length ≤ a.length
  less : wval b ≤ wval a
  room : wval a < wval b + 1000000000 ^ a.length
theorem Over.of {a b : List Nat} (ha : Words a) (hb : Words b) (hs : b.length ≤ a.length) (hl : wval b ≤ wval a) : Over a b :=
  ⟨fun i => Nat.le_of_lt (wat_lt ha i), fun i e => by have := wat_lt ha i; omega, hb, hs, hl, by have := wval_lt ha; omega⟩
/-- Counting down. -/
structure DownAt (a b : List Nat) (i : Nat) (out : List Nat) (c : Nat) : Prop where
  len : out.length = i
  words : Words out
  kept : c ≤ 1
  eq : wval out + wtk b i = wtk a i + 1000000000 ^ i * c
theorem DownAt.zero (a b : List Nat) : DownAt a b 0 [] 0 := ⟨rfl, Words.nil, by omega, by simp [wtk_zero, wval]⟩
theorem DownAt.small {a b out : List Nat} {i c : Nat} (h : DownAt a b i out c) (o : Over a b) : 1000000000 + wat a i - wat b i - c < 2000000000 ∧ wat b i + c ≤ 1000000000 + wat a i := by
  have h1 := o.le i; have h2 := wat_lt o.words i; have h3 := h.kept
  refine ⟨?_, by omega⟩
  rcases Nat.lt_or_ge (wat a i) 1000000000 with e | e
  · omega
  · have e1 : wat a i = 1000000000 := by omega
    have e2 := o.top i e1
    rcases Nat.eq_zero_or_pos (wat b i + c) with e3 | e3
    · exfalso
      have eq := h.eq
      have ra := wtk_succ a i; have rb := wtk_succ b i
      rw [wtk_all a (by omega), e1] at ra
      rw [wtk_all b (by have := o.short; omega), show wat b i = 0 by omega] at rb
      rw [show c = 0 by omega] at eq
      have room := o.room
      rw [← e2, Nat.pow_succ] at room
      omega
    · omega
theorem DownAt.step {a b out : List Nat} {i c : Nat} (h : DownAt a b i out c) (o : Over a b) :
    DownAt a b (i + 1) (out ++ [(1000000000 + wat a i - wat b i - c) % 1000000000]) (1 - (1000000000 + wat a i - wat b i - c) / 1000000000) := by
  obtain ⟨hs, hle⟩ := h.small o
  refine ⟨by simp [h.len], h.words.append (Words.one (by omega)), by omega, ?_⟩
  rw [wval_snoc, h.len, wtk_succ, wtk_succ, Nat.pow_succ]
  have e := h.eq
  generalize 1000000000 ^ i = B at *
  have e2 : (1000000000 + wat a i - wat b i - c) % 1000000000 + wat b i + c = wat a i + 1000000000 * (1 - (1000000000 + wat a i - wat b i - c) / 1000000000) := by omega
  generalize (1000000000 + wat a i - wat b i - c) % 1000000000 = r at *
  generalize 1 - (1000000000 + wat a i - wat b i - c) / 1000000000 = q at *
  have e3 : B * (r + wat b i + c) = B * (wat a i + 1000000000 * q) := by rw [e2]
  rw [Nat.mul_add, Nat.mul_add, Nat.mul_add, ← Nat.mul_assoc] at e3
  omega
theorem DownAt.done {a b out : List Nat} {i c : Nat} (h : DownAt a b i out c) (o : Over a b) (hi : max a.length b.length + 1 = i) : crop out = wds (wval a - wval b) := by
  have e := h.eq
  have hs := o.short
  rw [wtk_all a (by omega), wtk_all b (by omega)] at e
  have hlt := wval_lt h.words
  rw [h.len] at hlt
  have hle := o.less
  have hc : c = 0 := by
    have := h.kept
    rcases Nat.eq_zero_or_pos c with e0 | e0
    · exact e0
    · have : c = 1 := by omega
      rw [this] at e; omega
  rw [hc] at e
  rw [← wds_wval h.words]
  congr 1
  omega

/-! ### Which one is the greater one -/
/-- Words against words, from the place i down. -/
def lessAt (a b : List Nat) : Nat → Bool
  | 0 => false
  | i + 1 => if wat a i ≠ wat b i then decide (wat a i < wat b i) else lessAt a b i
theorem lessAt_eq (a b : List Nat) (ha : Words a) (hb : Words b) : ∀ i, lessAt a b i = decide (wtk a i < wtk b i)
  | 0 => by rw [wtk_zero, wtk_zero]; rfl
  | i + 1 => by
    have l1 := wtk_lt ha i; have l2 := wtk_lt hb i
    rw [wtk_succ, wtk_succ]
    unfold lessAt
    split
    · rename_i h
      rcases Nat.lt_or_ge (wat a i) (wat b i) with e | e
      · rw [decide_eq_true e, decide_eq_true]
        have : 1000000000 ^ i * (wat a i + 1) ≤ 1000000000 ^ i * wat b i := Nat.mul_le_mul_left _ e
        rw [Nat.mul_add] at this
        omega
      · rw [decide_eq_false (by omega), decide_eq_false]
        have : 1000000000 ^ i * (wat b i + 1) ≤ 1000000000 ^ i * wat a i := Nat.mul_le_mul_left _ (by omega)
        rw [Nat.mul_add] at this
        omega
    · rename_i h
      have h' : wat a i = wat b i := by omega
      rw [lessAt_eq a b ha hb i, h']
      by_cases e : wtk a i < wtk b i
      · rw [decide_eq_true e, decide_eq_true (by omega)]
      · rw [decide_eq_false e, decide_eq_false (by omega)]
/-- What less tells. -/
def lessL (a b : List Nat) : Bool := if a.length ≠ b.length then decide (a.length < b.length) else lessAt a b a.length
theorem wds_len_lt {m n : Nat} (h : (wds m).length < (wds n).length) : m < n := by
  have hn : 0 < n := by
    rcases Nat.eq_zero_or_pos n with e | e
    · rw [e, wds_zero] at h; simp at h
    · exact e
  obtain ⟨r, x, e, hx⟩ := wds_last hn
  have h1 := wval_lt (wds_words m)
  rw [wval_wds] at h1
  have h2 : n = wval r + 1000000000 ^ r.length * x := by rw [← wval_snoc, ← e, wval_wds]
  have h3 : r.length + 1 = (wds n).length := by rw [e]; simp
  have h4 : 1000000000 ^ (wds m).length ≤ 1000000000 ^ r.length := Nat.pow_le_pow_right (by omega) (by omega)
  have h5 : 1000000000 ^ r.length * 1 ≤ 1000000000 ^ r.length * x := Nat.mul_le_mul_left _ (by omega)
  omega
theorem lessL_wds (m n : Nat) : lessL (wds m) (wds n) = decide (m < n) := by
  unfold lessL
  split
  · rename_i h
    rcases Nat.lt_or_ge (wds m).length (wds n).length with e | e
    · rw [decide_eq_true e, decide_eq_true (wds_len_lt e)]
    · have := wds_len_lt (m := n) (n := m) (by omega)
      rw [decide_eq_false (by omega), decide_eq_false (by omega)]
  · rename_i h
    rw [lessAt_eq _ _ (wds_words m) (wds_words n), wtk_all _ (Nat.le_refl _), wtk_all _ (by omega), wval_wds, wval_wds]
end Go.Proofs.YthgjelpmdndceaaDoor
