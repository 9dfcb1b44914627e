/- Layer 7: numbers as digits, and as words to the base 10^9. Of no program. -/
import Derived.Lib.ItoaNum
import Derived.Lib.ParseIntB
import Derived.Below
import Derived.Laws.OwnMore
import Derived.Laws.Rows
import Derived.Deep.Draws
import Derived.WalkSmall
import Derived.Laws.CopyOwn
import Derived.Laws.MakeOwn
import Derived.Laws.AppendOwn
import Derived.Laws.AppendOwnNone
import Derived.Laws.BytesArg
import Derived.Laws.Strings
import Derived.Deep.AppendLies
import Derived.Maps.AppendAt
import Derived.OwnWalk
import Derived.Lib.Hide
import Derived.OpenShut
namespace Go.Proofs.YtfdodndagakmmaaGreatDoor
open Go.Lib

/-! ### Digits -/
def isDig (b : UInt8) : Bool := decide (48 ≤ b.toNat) && decide (b.toNat ≤ 57)
def dval (b : UInt8) : Nat := b.toNat - 48
def Digs (l : List UInt8) : Prop := ∀ b ∈ l, isDig b = true
def num (l : List UInt8) : Nat := l.foldl (fun n b => 10 * n + dval b) 0

theorem isDig_lo {b : UInt8} (h : isDig b = true) : 48 ≤ b.toNat := by
  unfold isDig at h; simp only [Bool.and_eq_true, decide_eq_true_eq] at h; exact h.1
theorem isDig_hi {b : UInt8} (h : isDig b = true) : b.toNat ≤ 57 := by
  unfold isDig at h; simp only [Bool.and_eq_true, decide_eq_true_eq] at h; exact h.2
theorem isDig_of {b : UInt8} (h : 48 ≤ b.toNat) (h' : b.toNat ≤ 57) : isDig b = true := by
  unfold isDig; simp only [Bool.and_eq_true, decide_eq_true_eq]; exact ⟨h, h'⟩
theorem dval_lt {b : UInt8} (h : isDig b = true) : dval b < 10 := by have := isDig_lo h; have := isDig_hi h; unfold dval; omega
theorem dval_inj {a b : UInt8} (ha : isDig a = true) (hb : isDig b = true) (h : dval a = dval b) : a = b := by
  have := isDig_lo ha; have := isDig_lo hb
  unfold dval at h
  exact UInt8.toNat_inj.1 (by omega)
theorem digOf_dig (k : Nat) (h : k < 10) : isDig (UInt8.ofNat (48 + k)) = true := by
  apply isDig_of <;> rw [UInt8.toNat_ofNat'] <;> omega
theorem digOf_val (k : Nat) (h : k < 10) : dval (UInt8.ofNat (48 + k)) = k := by
  unfold dval; rw [UInt8.toNat_ofNat']; omega

theorem Digs.nil : Digs [] := fun _ h => by cases h
theorem Digs.append {a b : List UInt8} (ha : Digs a) (hb : Digs b) : Digs (a ++ b) := fun x hx => by
  rcases List.mem_append.1 hx with h | h
  · exact ha x h
  · exact hb x h
theorem Digs.left {a b : List UInt8} (h : Digs (a ++ b)) : Digs a := fun x hx => h x (List.mem_append.2 (.inl hx))
theorem Digs.right {a b : List UInt8} (h : Digs (a ++ b)) : Digs b := fun x hx => h x (List.mem_append.2 (.inr hx))
theorem Digs.take {l : List UInt8} (h : Digs l) (k : Nat) : Digs (l.take k) := fun x hx => h x (List.mem_of_mem_take hx)
theorem Digs.drop {l : List UInt8} (h : Digs l) (k : Nat) : Digs (l.drop k) := fun x hx => h x (List.mem_of_mem_drop hx)
theorem Digs.zeros (k : Nat) : Digs (List.replicate k 48) := fun x hx => by rw [List.eq_of_mem_replicate hx]; decide
theorem Digs.one {b : UInt8} (h : isDig b = true) : Digs [b] := fun x hx => by rw [List.mem_singleton.1 hx]; exact h

theorem num_nil : num [] = 0 := rfl
theorem num_snoc (l : List UInt8) (b : UInt8) : num (l ++ [b]) = 10 * num l + dval b := by simp [num]
theorem num_foldl (l : List UInt8) (a : Nat) : l.foldl (fun n b => 10 * n + dval b) a = a * 10 ^ l.length + num l := by
  induction l generalizing a with
  | nil => simp [num]
  | cons b r ih =>
    unfold num
    rw [List.foldl_cons, List.foldl_cons, ih, ih, List.length_cons, Nat.pow_succ, Nat.add_mul, Nat.add_mul]
    rw [show 10 * a * 10 ^ r.length = a * (10 ^ r.length * 10) by rw [Nat.mul_comm 10 a, Nat.mul_assoc, Nat.mul_comm 10]]
    omega
theorem num_append (a b : List UInt8) : num (a ++ b) = num a * 10 ^ b.length + num b := by
  unfold num
  rw [List.foldl_append, num_foldl]
  rfl
theorem num_cons (b : UInt8) (l : List UInt8) : num (b :: l) = dval b * 10 ^ l.length + num l := by
  rw [show b :: l = [b] ++ l by rfl, num_append]
  simp [num]
theorem num_zeros (k : Nat) : num (List.replicate k 48) = 0 := by
  induction k with
  | zero => rfl
  | succ k ih => rw [List.replicate_succ, num_cons, ih, show dval 48 = 0 by rfl]; omega
theorem num_zeros_behind (l : List UInt8) (k : Nat) : num (l ++ List.replicate k 48) = num l * 10 ^ k := by
  rw [num_append, num_zeros, List.length_replicate]; omega
theorem num_zeros_ahead (l : List UInt8) (k : Nat) : num (List.replicate k 48 ++ l) = num l := by
  rw [num_append, num_zeros]; omega
theorem num_lt {l : List UInt8} (h : Digs l) : num l < 10 ^ l.length := by
  induction l with
  | nil => simp [num]
  | cons b r ih =>
    have hb := dval_lt (h b (by simp))
    have hr := ih fun x hx => h x (by simp [hx])
    rw [num_cons, List.length_cons, Nat.pow_succ]
    have : dval b * 10 ^ r.length ≤ 9 * 10 ^ r.length := Nat.mul_le_mul_right _ (by omega)
    omega

theorem num_inj : ∀ {a b : List UInt8}, Digs a → Digs b → a.length = b.length → num a = num b → a = b
  | [], [], _, _, _, _ => rfl
  | [], _ :: _, _, _, h, _ => by simp at h
  | _ :: _, [], _, _, h, _ => by simp at h
  | x :: a, y :: b, ha, hb, hl, hn => by
    have hl' : a.length = b.length := by simpa using hl
    have hx := ha x (by simp); have hy := hb y (by simp)
    have ha' : Digs a := fun z hz => ha z (by simp [hz])
    have hb' : Digs b := fun z hz => hb z (by simp [hz])
    have l1 := num_lt ha'; have l2 := num_lt hb'
    rw [num_cons, num_cons, hl'] at hn
    rw [hl'] at l1
    have hd : dval x = dval y := by
      have e1 : (dval x * 10 ^ b.length + num a) / 10 ^ b.length = dval x := by
        rw [Nat.mul_comm, Nat.mul_add_div (by omega), Nat.div_eq_of_lt l1]; rfl
      have e2 : (dval y * 10 ^ b.length + num b) / 10 ^ b.length = dval y := by
        rw [Nat.mul_comm, Nat.mul_add_div (by omega), Nat.div_eq_of_lt l2]; rfl
      rw [← e1, hn, e2]
    rw [hd] at hn
    rw [dval_inj hx hy hd, num_inj ha' hb' hl' (by omega)]

/-- A number's digits, none for 0. -/
def dig (n : Nat) : List UInt8 := if n = 0 then [] else decDigits n
theorem dig_zero : dig 0 = [] := rfl
theorem dig_pos {n : Nat} (h : 0 < n) : dig n = decDigits n := by unfold dig; rw [if_neg (by omega)]

theorem decDigits_small {n : Nat} (h : n < 10) : decDigits n = [UInt8.ofNat (48 + n)] := by rw [decDigits, dif_pos h]
theorem decDigits_big {n : Nat} (h : ¬ n < 10) : decDigits n = decDigits (n / 10) ++ [UInt8.ofNat (48 + n % 10)] := by rw [decDigits, dif_neg h]
theorem decDigits_digs (n : Nat) : Digs (decDigits n) := by
  induction n using Nat.strongRecOn with
  | _ n ih =>
    by_cases h : n < 10
    · rw [decDigits_small h]; exact Digs.one (digOf_dig n h)
    · rw [decDigits_big h]; exact (ih (n / 10) (by omega)).append (Digs.one (digOf_dig _ (by omega)))
theorem num_decDigits (n : Nat) : num (decDigits n) = n := by
  induction n using Nat.strongRecOn with
  | _ n ih =>
    by_cases h : n < 10
    · rw [decDigits_small h]; show 10 * 0 + dval _ = n; rw [digOf_val n h]; omega
    · rw [decDigits_big h, num_snoc, ih (n / 10) (by omega), digOf_val _ (by omega)]; omega
theorem decDigits_ne (n : Nat) : decDigits n ≠ [] := by
  intro h
  have := decDigits_length n
  have := nDigits_pos n
  rw [h] at *
  simp at *
  omega
theorem dig_digs (n : Nat) : Digs (dig n) := by
  unfold dig
  split
  · exact Digs.nil
  · exact decDigits_digs n
theorem num_dig (n : Nat) : num (dig n) = n := by
  unfold dig
  split
  · rename_i h; rw [h]; rfl
  · exact num_decDigits n

theorem pow_nDigits_le {n : Nat} (h : 0 < n) : 10 ^ (nDigits n - 1) ≤ n := by
  induction n using Nat.strongRecOn with
  | _ n ih =>
    by_cases h1 : n < 10
    · rw [nDigits_small h1]; simp; omega
    · rw [nDigits_big h1]
      have := ih (n / 10) (by omega) (by omega)
      have hp := nDigits_pos (n / 10)
      rw [show nDigits (n / 10) + 1 - 1 = (nDigits (n / 10) - 1) + 1 by omega, Nat.pow_succ]
      omega
/-- What has no 0 in front is the digits of its number. -/
theorem dig_num {l : List UInt8} (h : Digs l) (h0 : l.head? ≠ some 48) : dig (num l) = l := by
  cases l with
  | nil => rfl
  | cons b r =>
    have hb := h b (by simp)
    have hr : Digs r := fun z hz => h z (by simp [hz])
    have hv : 1 ≤ dval b := by
      rcases Nat.eq_zero_or_pos (dval b) with e | e
      · exfalso
        apply h0
        have : b = 48 := dval_inj hb (by decide) (by rw [e]; rfl)
        rw [this]; rfl
      · exact e
    have hlt := num_lt h
    have hge : 10 ^ r.length ≤ num (b :: r) := by
      rw [num_cons]
      have : 1 * 10 ^ r.length ≤ dval b * 10 ^ r.length := Nat.mul_le_mul_right _ hv
      omega
    have hp : 0 < 10 ^ r.length := Nat.pow_pos (by omega)
    have hn : nDigits (num (b :: r)) = r.length + 1 := nDigits_unique _ _ hge (by simpa using hlt)
    rw [dig_pos (by omega)]
    exact num_inj (decDigits_digs _) h (by rw [decDigits_length, hn]; rfl) (num_decDigits _)
theorem dig_head (n : Nat) : (dig n).head? ≠ some 48 := by
  intro h
  cases hd : dig n with
  | nil => rw [hd] at h; cases h
  | cons b r =>
    rw [hd] at h
    have hb : b = 48 := by simpa using h
    have hn : n = num (b :: r) := by rw [← hd, num_dig]
    have hd' := dig_digs n
    rw [hd] at hd'
    have hr : Digs r := fun z hz => hd' z (by simp [hz])
    have hpos : 0 < n := by
      rcases Nat.eq_zero_or_pos n with e | e
      · rw [e] at hd; cases hd
      · exact e
    rw [num_cons, hb, show dval 48 = 0 by rfl] at hn
    have hlt := num_lt hr
    have hge := pow_nDigits_le hpos
    have hln : nDigits n = r.length + 1 := by rw [← decDigits_length, ← dig_pos hpos, hd]; rfl
    rw [hln] at hge
    simp at hge
    omega

/-- Digits without noughts ahead. -/
def plain : List UInt8 → List UInt8
  | [] => []
  | b :: r => if b = 48 then plain r else b :: r
theorem dig_ten {n : Nat} (h : 0 < n) : dig (n * 10) = dig n ++ [48] := by
  rw [dig_pos (by omega), dig_pos h, decDigits_big (by omega), Nat.mul_div_cancel _ (by omega), Nat.mul_mod_left]
  rfl

/-! ### Noughts behind -/
/-- How many noughts a number's digits have behind them. -/
def tz (n : Nat) : Nat := if h : n ≠ 0 ∧ n % 10 = 0 then tz (n / 10) + 1 else 0
termination_by n
decreasing_by omega
theorem tz_step {n : Nat} (h : 0 < n) (h' : n % 10 = 0) : tz n = tz (n / 10) + 1 := by rw [tz, dif_pos ⟨by omega, h'⟩]
theorem tz_stop {n : Nat} (h' : n % 10 ≠ 0) : tz n = 0 := by rw [tz, dif_neg (by omega)]
theorem tz_zero : tz 0 = 0 := by rw [tz, dif_neg (by omega)]
/-- What is left of a number without them. -/
def core (n : Nat) : Nat := n / 10 ^ tz n
theorem core_mul (n : Nat) : core n * 10 ^ tz n = n := by
  induction n using Nat.strongRecOn with
  | _ n ih =>
    by_cases h : n ≠ 0 ∧ n % 10 = 0
    · have e := ih (n / 10) (by omega)
      unfold core at *
      rw [tz_step (by omega) h.2, Nat.pow_succ]
      rw [Nat.mul_comm (10 ^ tz (n / 10)) 10, ← Nat.div_div_eq_div_mul, Nat.mul_comm 10, ← Nat.mul_assoc, e]
      omega
    · unfold core
      rw [tz, dif_neg h]; simp
theorem core_pos {n : Nat} (h : 0 < n) : 0 < core n := by
  rcases Nat.eq_zero_or_pos (core n) with e | e
  · have := core_mul n; rw [e] at this; omega
  · exact e
theorem core_mod {n : Nat} (h : 0 < n) : core n % 10 ≠ 0 := by
  induction n using Nat.strongRecOn with
  | _ n ih =>
    by_cases h1 : n % 10 = 0
    · have e := ih (n / 10) (by omega) (by omega)
      have : core n = core (n / 10) := by
        unfold core
        rw [tz_step h h1, Nat.pow_succ, Nat.mul_comm (10 ^ tz (n / 10)) 10, ← Nat.div_div_eq_div_mul]
      rw [this]; exact e
    · unfold core; rw [tz_stop h1]; simpa using h1
theorem tz_mul_pow {m : Nat} (h : m % 10 ≠ 0) (k : Nat) : tz (m * 10 ^ k) = k := by
  have hm : 0 < m := by rcases Nat.eq_zero_or_pos m with e | e; · rw [e] at h; simp at h
                        · exact e
  induction k with
  | zero => rw [Nat.pow_zero, Nat.mul_one]; exact tz_stop h
  | succ k ih =>
    have hp : 0 < m * 10 ^ k := Nat.mul_pos hm (Nat.pow_pos (by omega))
    rw [Nat.pow_succ, ← Nat.mul_assoc, tz_step (by omega) (by omega), Nat.mul_div_cancel _ (by omega), ih]
theorem core_mul_pow {m : Nat} (h : m % 10 ≠ 0) (k : Nat) : core (m * 10 ^ k) = m := by
  unfold core; rw [tz_mul_pow h k]; exact Nat.mul_div_cancel _ (Nat.pow_pos (by omega))
theorem tz_ten {n : Nat} (h : 0 < n) (k : Nat) : tz (n * 10 ^ k) = tz n + k := by
  conv => lhs; rw [← core_mul n, Nat.mul_assoc, ← Nat.pow_add]
  exact tz_mul_pow (core_mod h) _
theorem core_ten {n : Nat} (h : 0 < n) (k : Nat) : core (n * 10 ^ k) = core n := by
  conv => lhs; rw [← core_mul n, Nat.mul_assoc, ← Nat.pow_add]
  exact core_mul_pow (core_mod h) _
theorem dig_pow {n : Nat} (h : 0 < n) (k : Nat) : dig (n * 10 ^ k) = dig n ++ List.replicate k 48 := by
  induction k with
  | zero => simp
  | succ k ih =>
    rw [Nat.pow_succ, ← Nat.mul_assoc, dig_ten (Nat.mul_pos h (Nat.pow_pos (by omega))), ih, List.append_assoc, List.replicate_succ']
theorem dig_core {n : Nat} (h : 0 < n) : dig n = dig (core n) ++ List.replicate (tz n) 48 := by
  conv => lhs; rw [← core_mul n]
  exact dig_pow (core_pos h) _
/-- What has no 0 behind is no number of tens. -/
theorem num_last {l : List UInt8} (h : Digs l) (hl : l ≠ []) (h0 : l.getLast? ≠ some 48) : num l % 10 ≠ 0 := by
  obtain ⟨r, b, rfl⟩ : ∃ r b, l = r ++ [b] := ⟨l.dropLast, l.getLast hl, (List.dropLast_concat_getLast hl).symm⟩
  have hb := h b (by simp)
  rw [num_snoc]
  have hv := dval_lt hb
  intro e
  apply h0
  have : b = 48 := dval_inj hb (by decide) (by rw [show dval 48 = 0 by rfl]; omega)
  rw [this]; simp
theorem core_of {l : List UInt8} (h : Digs l) (hl : l ≠ []) (h0 : l.getLast? ≠ some 48) : core (num l) = num l ∧ tz (num l) = 0 := by
  have e := num_last h hl h0
  have t := tz_stop e
  refine ⟨?_, t⟩
  unfold core
  rw [t]; simp

/-! ### Words -/
/-- A number's words, the lowest one first, none for 0. -/
def wds (n : Nat) : List Nat := if h : n = 0 then [] else n % 1000000000 :: wds (n / 1000000000)
termination_by n
decreasing_by omega
def wval : List Nat → Nat
  | [] => 0
  | x :: r => x + 1000000000 * wval r
def Words (l : List Nat) : Prop := ∀ x ∈ l, x < 1000000000
/-- Without the highest ones that are 0. -/
def crop : List Nat → List Nat
  | [] => []
  | x :: r => match crop r with
    | [] => if x = 0 then [] else [x]
    | y :: c => x :: y :: c

theorem wds_zero : wds 0 = [] := by rw [wds, dif_pos rfl]
theorem wds_pos {n : Nat} (h : 0 < n) : wds n = n % 1000000000 :: wds (n / 1000000000) := by rw [wds, dif_neg (by omega)]
theorem wval_wds (n : Nat) : wval (wds n) = n := by
  induction n using Nat.strongRecOn with
  | _ n ih =>
    rcases Nat.eq_zero_or_pos n with e | e
    · rw [e, wds_zero]; rfl
    · rw [wds_pos e]; show n % 1000000000 + 1000000000 * wval (wds (n / 1000000000)) = n
      rw [ih (n / 1000000000) (by omega)]; omega
theorem wds_words (n : Nat) : Words (wds n) := by
  induction n using Nat.strongRecOn with
  | _ n ih =>
    rcases Nat.eq_zero_or_pos n with e | e
    · rw [e, wds_zero]; intro x hx; cases hx
    · rw [wds_pos e]
      intro x hx
      rcases List.mem_cons.1 hx with h | h
      · omega
      · exact ih (n / 1000000000) (by omega) x h
theorem wds_wval {l : List Nat} (h : Words l) : wds (wval l) = crop l := by
  induction l with
  | nil => exact wds_zero
  | cons x r ih =>
    have hx := h x (by simp)
    have ih' := ih fun y hy => h y (by simp [hy])
    show wds (x + 1000000000 * wval r) = _
    rcases Nat.eq_zero_or_pos (x + 1000000000 * wval r) with e | e
    · have hx0 : x = 0 := by omega
      have hr0 : wval r = 0 := by omega
      rw [hr0, wds_zero] at ih'
      rw [e, wds_zero]
      unfold crop
      rw [← ih']
      simp [hx0]
    · rw [wds_pos e, show (x + 1000000000 * wval r) % 1000000000 = x by omega, show (x + 1000000000 * wval r) / 1000000000 = wval r by omega, ih']
      conv => rhs; unfold crop
      cases hc : crop r with
      | nil =>
        have : wval r = 0 := by
          rw [hc] at ih'
          have e1 := wval_wds (wval r)
          rw [ih'] at e1
          exact e1.symm
        simp only
        rw [if_neg (by omega)]
      | cons y c => rfl
theorem Words.append {a b : List Nat} (ha : Words a) (hb : Words b) : Words (a ++ b) := fun x hx => by
  rcases List.mem_append.1 hx with h | h
  · exact ha x h
  · exact hb x h
theorem Words.nil : Words [] := fun _ h => by cases h
theorem Words.one {x : Nat} (h : x < 1000000000) : Words [x] := fun y hy => by rw [List.mem_singleton.1 hy]; exact h
theorem Words.zeros (k : Nat) : Words (List.replicate k 0) := fun x hx => by rw [List.eq_of_mem_replicate hx]; decide
theorem wval_append (a b : List Nat) : wval (a ++ b) = wval a + 1000000000 ^ a.length * wval b := by
  induction a with
  | nil => simp [wval]
  | cons x r ih =>
    show x + 1000000000 * wval (r ++ b) = x + 1000000000 * wval r + 1000000000 ^ (r.length + 1) * wval b
    rw [ih, Nat.mul_add, Nat.pow_succ, Nat.mul_comm (1000000000 ^ r.length) 1000000000, Nat.mul_assoc]; omega
theorem wval_zeros (k : Nat) : wval (List.replicate k 0) = 0 := by
  induction k with
  | zero => rfl
  | succ k ih => rw [List.replicate_succ]; show 0 + 1000000000 * wval (List.replicate k 0) = 0; rw [ih]
theorem wval_snoc (l : List Nat) (x : Nat) : wval (l ++ [x]) = wval l + 1000000000 ^ l.length * x := by rw [wval_append]; rfl
theorem wval_lt {l : List Nat} (h : Words l) : wval l < 1000000000 ^ l.length := by
  induction l with
  | nil => simp [wval]
  | cons x r ih =>
    have hx := h x (by simp)
    have hr := ih fun y hy => h y (by simp [hy])
    show x + 1000000000 * wval r < 1000000000 ^ (r.length + 1)
    rw [Nat.pow_succ]; omega
theorem crop_snoc_zero (l : List Nat) : crop (l ++ [0]) = crop l := by
  induction l with
  | nil => simp [crop]
  | cons x r ih => rw [List.cons_append]; unfold crop; rw [ih]
theorem crop_snoc {x : Nat} (hx : x ≠ 0) (l : List Nat) : crop (l ++ [x]) = l ++ [x] := by
  induction l with
  | nil => simp [crop, hx]
  | cons y r ih =>
    rw [List.cons_append]
    unfold crop
    rw [ih]
    cases hr : r ++ [x] with
    | nil => simp at hr
    | cons z c => rfl
/-- crop leaves a beginning. -/
theorem crop_take (l : List Nat) : ∃ k, k ≤ l.length ∧ crop l = l.take k := by
  induction l with
  | nil => exact ⟨0, by simp, rfl⟩
  | cons x r ih =>
    obtain ⟨k, hk, e⟩ := ih
    unfold crop
    cases hc : crop r with
    | nil =>
      simp only
      by_cases hx : x = 0
      · exact ⟨0, by simp, by simp [hx]⟩
      · exact ⟨1, by simp, by simp [hx]⟩
    | cons y c => exact ⟨k + 1, by simpa using hk, by simp only [List.take_succ_cons, ← e, hc]⟩
theorem crop_length_le (l : List Nat) : (crop l).length ≤ l.length := by
  obtain ⟨k, hk, e⟩ := crop_take l
  rw [e, List.length_take]; omega
theorem crop_eq_take (l : List Nat) : crop l = l.take (crop l).length := by
  obtain ⟨k, hk, e⟩ := crop_take l
  rw [e, List.length_take, Nat.min_eq_left hk]
theorem wds_crop (n : Nat) : crop (wds n) = wds n := by rw [← wds_wval (wds_words n), wval_wds]
/-- The highest word of a number is not 0. -/
theorem wds_last {n : Nat} (h : 0 < n) : ∃ r x, wds n = r ++ [x] ∧ x ≠ 0 := by
  have hne : wds n ≠ [] := by rw [wds_pos h]; simp
  refine ⟨(wds n).dropLast, (wds n).getLast hne, (List.dropLast_concat_getLast hne).symm, fun e => ?_⟩
  have hc := wds_crop n
  have h1 := List.dropLast_concat_getLast hne
  rw [e] at h1
  have h2 : crop (wds n) = crop (wds n).dropLast := by rw [← h1, crop_snoc_zero]; simp
  have h3 := crop_length_le (wds n).dropLast
  rw [← h2, hc] at h3
  rw [List.length_dropLast] at h3
  have : 0 < (wds n).length := List.length_pos_iff.2 hne
  omega
theorem wds_length_le {n k : Nat} (h : n < 1000000000 ^ k) : (wds n).length ≤ k := by
  induction k generalizing n with
  | zero => have : n = 0 := by simpa using h
            rw [this, wds_zero]; simp
  | succ k ih =>
    rcases Nat.eq_zero_or_pos n with e | e
    · rw [e, wds_zero]; simp
    · rw [wds_pos e, List.length_cons]
      have := ih (n := n / 1000000000) (by rw [Nat.pow_succ] at h; omega)
      omega
theorem wds_nil {n : Nat} (h : wds n = []) : n = 0 := by
  rcases Nat.eq_zero_or_pos n with e | e
  · exact e
  · rw [wds_pos e] at h; cases h
end Go.Proofs.YtfdodndagakmmaaGreatDoor
/- Layer 7: words and digits of one number; two numbers' sum, how far they are from each other, which is the greater one, word by word. Of no program. -/
namespace Go.Proofs.YtfdodndagakmmaaGreatDoor
open Go.Lib

/-! ### Nine digits of a word -/
def pad9 (x : Nat) : List UInt8 := List.replicate (9 - (decDigits x).length) 48 ++ decDigits x
theorem decDigits_len {x k : Nat} (hk : 0 < k) (h : x < 10 ^ k) : (decDigits x).length ≤ k := by
  rw [decDigits_length]
  rcases Nat.eq_zero_or_pos x with e | e
  · rw [e, nDigits_small (by omega)]; omega
  · have h1 := pow_nDigits_le e
    have h2 := nDigits_pos x
    rcases Nat.lt_or_ge k (nDigits x) with h3 | h3
    · have : 10 ^ k ≤ 10 ^ (nDigits x - 1) := Nat.pow_le_pow_right (by omega) (by omega)
      omega
    · exact h3
theorem pad9_length {x : Nat} (h : x < 1000000000) : (pad9 x).length = 9 := by
  have := decDigits_len (x := x) (k := 9) (by omega) (by simpa using h)
  unfold pad9
  rw [List.length_append, List.length_replicate]; omega
theorem num_pad9 (x : Nat) : num (pad9 x) = x := by unfold pad9; rw [num_zeros_ahead, num_decDigits]
theorem pad9_digs (x : Nat) : Digs (pad9 x) := (Digs.zeros _).append (decDigits_digs x)
theorem dig_words {x v : Nat} (hx : x < 1000000000) (hv : 0 < v) : dig (x + 1000000000 * v) = dig v ++ pad9 x := by
  have e : num (dig v ++ pad9 x) = x + 1000000000 * v := by
    rw [num_append, num_dig, num_pad9, pad9_length hx]; omega
  rw [← e]
  refine dig_num ((dig_digs v).append (pad9_digs x)) ?_
  have hh := dig_head v
  cases hd : dig v with
  | nil =>
    exfalso
    have := num_dig v
    rw [hd] at this
    have : num [] = 0 := rfl
    omega
  | cons b r => rw [hd] at hh; simpa using hh
/-- The digits of the words from one place on. -/
theorem dig_from (l : List Nat) (hl : Words l) (i : Nat) (hi : i + 1 < l.length) (hv : 0 < wval (l.drop (i + 1))) :
    dig (wval (l.drop i)) = dig (wval (l.drop (i + 1))) ++ pad9 (l.getD i 0) := by
  have e : l.drop i = l.getD i 0 :: l.drop (i + 1) := by
    rw [List.drop_eq_getElem_cons (by omega)]
    simp [List.getD, List.getElem?_eq_getElem (show i < l.length by omega)]
  rw [e]
  show dig (l.getD i 0 + 1000000000 * wval (l.drop (i + 1))) = _
  refine dig_words ?_ hv
  have : l.getD i 0 ∈ l := by
    simp only [List.getD, List.getElem?_eq_getElem (show i < l.length by omega), Option.getD_some]
    exact List.getElem_mem _
  exact hl _ this

theorem wval_drop_pos {n : Nat} (h : 0 < n) {i : Nat} (hi : i < (wds n).length) : 0 < wval ((wds n).drop i) := by
  obtain ⟨r, x, e, hx⟩ := wds_last h
  rw [e] at hi ⊢
  rw [List.length_append, List.length_singleton] at hi
  rw [List.drop_append_of_le_length (by omega), wval_snoc]
  have : 0 < 1000000000 ^ (r.drop i).length * x := Nat.mul_pos (Nat.pow_pos (by omega)) (by omega)
  omega

/-! ### Digits to words -/
theorem ten_nine (k : Nat) : 10 ^ (9 * k) = 1000000000 ^ k := by rw [Nat.pow_mul]
theorem noughts_words (m b : Nat) : m * 10 ^ (b % 9) * 1000000000 ^ (b / 9) = m * 10 ^ b := by
  rw [← ten_nine, Nat.mul_assoc, ← Nat.pow_add]
  congr 2
  omega
theorem ten9 : (10 : Nat) ^ 9 = 1000000000 := rfl
/-- Nine digits more are one word more. -/
theorem laid_step (ws : List Nat) (q c : List UInt8) (hc : c.length = 9 ∨ q = []) :
    wval (ws ++ [num c]) + 1000000000 ^ (ws ++ [num c]).length * num q = wval ws + 1000000000 ^ ws.length * num (q ++ c) := by
  have hs : 1000000000 ^ (ws ++ [num c]).length = 1000000000 ^ ws.length * 1000000000 := by rw [List.length_append, List.length_singleton, Nat.pow_succ]
  rw [wval_snoc, num_append, hs, Nat.mul_add]
  generalize 1000000000 ^ ws.length = P
  rcases hc with e | e
  · rw [e, ten9, Nat.mul_comm (num q) 1000000000, ← Nat.mul_assoc]; omega
  · rw [e, num_nil, Nat.mul_zero, Nat.zero_mul, Nat.mul_zero, Nat.zero_add, Nat.add_zero]
theorem parseUint_small {l : List UInt8} (h : Digs l) (h0 : l ≠ []) (h9 : l.length ≤ 9) : parseUintB 64 l = .ok (num l) := by
  have key : ∀ (l : List UInt8) (acc : Nat), Digs l → acc * 10 ^ l.length + num l < 1000000000 → parseUintM (2 ^ 64 - 1) acc l = .ok (acc * 10 ^ l.length + num l) := by
    intro l
    induction l with
    | nil => intro acc _ _; simp [parseUintM, num]
    | cons b r ih =>
      intro acc hd hlt
      have hb := hd b (by simp)
      have hr : Digs r := fun z hz => hd z (by simp [hz])
      have hlo := isDig_lo hb; have hhi := isDig_hi hb
      have hps : 10 ^ (b :: r).length = 10 ^ r.length * 10 := by rw [List.length_cons, Nat.pow_succ]
      rw [num_cons, hps] at hlt ⊢
      have hp : 1 ≤ 10 ^ r.length := Nat.one_le_pow _ _ (by decide)
      have hacc : acc * 10 ^ r.length * 10 < 1000000000 := by
        have : acc * (10 ^ r.length * 10) = acc * 10 ^ r.length * 10 := (Nat.mul_assoc ..).symm
        omega
      have hacc' : acc * 1 ≤ acc * 10 ^ r.length := Nat.mul_le_mul_left _ hp
      have hv : dval b = b.toNat - 48 := rfl
      have e : (acc * 10 + (b.toNat - 48)) * 10 ^ r.length + num r = acc * (10 ^ r.length * 10) + (dval b * 10 ^ r.length + num r) := by
        rw [Nat.add_mul, hv, Nat.mul_assoc, Nat.mul_comm 10 (10 ^ r.length)]; omega
      unfold parseUintM
      rw [if_pos ⟨hlo, hhi⟩, if_neg (by omega), if_neg (by omega), ih _ hr (by omega), e]
  unfold parseUintB
  rw [if_neg h0]
  have hlt := num_lt h
  have h10 : 10 ^ l.length ≤ 10 ^ 9 := Nat.pow_le_pow_right (by omega) h9
  have := key l 0 h (by omega)
  rw [this]
  simp

/-! ### Word by word -/
def wat (l : List Nat) (i : Nat) : Nat := l.getD i 0
def wtk (l : List Nat) (i : Nat) : Nat := wval (l.take i)
theorem wat_lt {l : List Nat} (h : Words l) (i : Nat) : wat l i < 1000000000 := by
  unfold wat
  by_cases hi : i < l.length
  · rw [List.getD, List.getElem?_eq_getElem hi]; exact h _ (List.getElem_mem _)
  · rw [List.getD, List.getElem?_eq_none (by omega)]; simp
theorem wat_out {l : List Nat} {i : Nat} (h : l.length ≤ i) : wat l i = 0 := by
  unfold wat; rw [List.getD, List.getElem?_eq_none h]; rfl
theorem wtk_zero (l : List Nat) : wtk l 0 = 0 := by simp [wtk, wval]
theorem wtk_all (l : List Nat) {i : Nat} (h : l.length ≤ i) : wtk l i = wval l := by unfold wtk; rw [List.take_of_length_le h]
theorem wtk_succ (l : List Nat) (i : Nat) : wtk l (i + 1) = wtk l i + 1000000000 ^ i * wat l i := by
  by_cases hi : i < l.length
  · unfold wtk wat
    rw [List.take_add_one, List.getElem?_eq_getElem hi, Option.toList_some, wval_snoc, List.length_take, Nat.min_eq_left (by omega), List.getD, List.getElem?_eq_getElem hi]
    rfl
  · rw [wtk_all l (by omega), wtk_all l (by omega), wat_out (by omega)]; omega
theorem wtk_lt {l : List Nat} (h : Words l) (i : Nat) : wtk l i < 1000000000 ^ i := by
  have h1 : Words (l.take i) := fun x hx => h x (List.mem_of_mem_take hx)
  have h2 := wval_lt h1
  have h3 : 1000000000 ^ (l.take i).length ≤ 1000000000 ^ i := Nat.pow_le_pow_right (by omega) (by rw [List.length_take]; omega)
  unfold wtk
  omega

/-- Counting up: out holds the words counted, c is what is kept for the next one. -/
structure UpAt (a b : List Nat) (i : Nat) (out : List Nat) (c : Nat) : Prop where
  len : out.length = i
  words : Words out
  kept : c ≤ 1
  eq : wval out + 1000000000 ^ i * c = wtk a i + wtk b i
theorem UpAt.zero (a b : List Nat) : UpAt a b 0 [] 0 := ⟨rfl, Words.nil, by omega, by simp [wtk_zero, wval]⟩
theorem UpAt.step {a b out : List Nat} {i c : Nat} (h : UpAt a b i out c) (ha : Words a) (hb : Words b) :
    UpAt a b (i + 1) (out ++ [(wat a i + wat b i + c) % 1000000000]) ((wat a i + wat b i + c) / 1000000000) := by
  have h1 := wat_lt ha i; have h2 := wat_lt hb i; have h3 := h.kept
  refine ⟨by simp [h.len], h.words.append (Words.one (by omega)), by omega, ?_⟩
  rw [wval_snoc, h.len, wtk_succ, wtk_succ, Nat.pow_succ]
  have e := h.eq
  generalize 1000000000 ^ i = B at *
  have e2 : wat a i + wat b i + c = (wat a i + wat b i + c) % 1000000000 + 1000000000 * ((wat a i + wat b i + c) / 1000000000) := by omega
  generalize (wat a i + wat b i + c) % 1000000000 = r at *
  generalize (wat a i + wat b i + c) / 1000000000 = q at *
  have e3 : B * (wat a i + wat b i + c) = B * (r + 1000000000 * q) := by rw [e2]
  rw [Nat.mul_add, Nat.mul_add, Nat.mul_add, ← Nat.mul_assoc] at e3
  omega
theorem UpAt.done {a b out : List Nat} {i c : Nat} (h : UpAt a b i out c) (ha : Words a) (hb : Words b) (hi : max a.length b.length + 1 = i) : crop out = wds (wval a + wval b) := by
  have e := h.eq
  rw [wtk_all a (by omega), wtk_all b (by omega)] at e
  have l1 := wtk_lt ha (i - 1); have l2 := wtk_lt hb (i - 1)
  rw [wtk_all a (by omega)] at l1
  rw [wtk_all b (by omega)] at l2
  have hp : 1000000000 ^ i = 1000000000 ^ (i - 1) * 1000000000 := by rw [← Nat.pow_succ]; congr 1; omega
  have hc : c = 0 := by
    have := h.kept
    rcases Nat.eq_zero_or_pos c with e0 | e0
    · exact e0
    · have : c = 1 := by omega
      rw [this] at e; omega
  rw [hc] at e
  rw [← wds_wval h.words]
  congr 1

/-- What is taken from: its words are words, but that the highest one may be the base itself; what is taken is not greater. -/
structure Over (a b : List Nat) : Prop where
  le : ∀ i, wat a i ≤ 1000000000
  top : ∀ i, wat a i = 1000000000 → i + 1 = a.length
  words : Words b
  short : b.length ≤ a.length
  less : wval b ≤ wval a
  room : wval a < wval b + 1000000000 ^ a.length
theorem Over.of {a b : List Nat} (ha : Words a) (hb : Words b) (hs : b.length ≤ a.length) (hl : wval b ≤ wval a) : Over a b :=
  ⟨fun i => Nat.le_of_lt (wat_lt ha i), fun i e => by have := wat_lt ha i; omega, hb, hs, hl, by have := wval_lt ha; omega⟩
/-- Counting down. -/
structure DownAt (a b : List Nat) (i : Nat) (out : List Nat) (c : Nat) : Prop where
  len : out.length = i
  words : Words out
  kept : c ≤ 1
  eq : wval out + wtk b i = wtk a i + 1000000000 ^ i * c
theorem DownAt.zero (a b : List Nat) : DownAt a b 0 [] 0 := ⟨rfl, Words.nil, by omega, by simp [wtk_zero, wval]⟩
theorem DownAt.small {a b out : List Nat} {i c : Nat} (h : DownAt a b i out c) (o : Over a b) : 1000000000 + wat a i - wat b i - c < 2000000000 ∧ wat b i + c ≤ 1000000000 + wat a i := by
  have h1 := o.le i; have h2 := wat_lt o.words i; have h3 := h.kept
  refine ⟨?_, by omega⟩
  rcases Nat.lt_or_ge (wat a i) 1000000000 with e | e
  · omega
  · have e1 : wat a i = 1000000000 := by omega
    have e2 := o.top i e1
    rcases Nat.eq_zero_or_pos (wat b i + c) with e3 | e3
    · exfalso
      have eq := h.eq
      have ra := wtk_succ a i; have rb := wtk_succ b i
      rw [wtk_all a (by omega), e1] at ra
      rw [wtk_all b (by have := o.short; omega), show wat b i = 0 by omega] at rb
      rw [show c = 0 by omega] at eq
      have room := o.room
      rw [← e2, Nat.pow_succ] at room
      omega
    · omega
theorem DownAt.step {a b out : List Nat} {i c : Nat} (h : DownAt a b i out c) (o : Over a b) :
    DownAt a b (i + 1) (out ++ [(1000000000 + wat a i - wat b i - c) % 1000000000]) (1 - (1000000000 + wat a i - wat b i - c) / 1000000000) := by
  obtain ⟨hs, hle⟩ := h.small o
  refine ⟨by simp [h.len], h.words.append (Words.one (by omega)), by omega, ?_⟩
  rw [wval_snoc, h.len, wtk_succ, wtk_succ, Nat.pow_succ]
  have e := h.eq
  generalize 1000000000 ^ i = B at *
  have e2 : (1000000000 + wat a i - wat b i - c) % 1000000000 + wat b i + c = wat a i + 1000000000 * (1 - (1000000000 + wat a i - wat b i - c) / 1000000000) := by omega
  generalize (1000000000 + wat a i - wat b i - c) % 1000000000 = r at *
  generalize 1 - (1000000000 + wat a i - wat b i - c) / 1000000000 = q at *
  have e3 : B * (r + wat b i + c) = B * (wat a i + 1000000000 * q) := by rw [e2]
  rw [Nat.mul_add, Nat.mul_add, Nat.mul_add, ← Nat.mul_assoc] at e3
  omega
theorem DownAt.done {a b out : List Nat} {i c : Nat} (h : DownAt a b i out c) (o : Over a b) (hi : max a.length b.length + 1 = i) : crop out = wds (wval a - wval b) := by
  have e := h.eq
  have hs := o.short
  rw [wtk_all a (by omega), wtk_all b (by omega)] at e
  have hlt := wval_lt h.words
  rw [h.len] at hlt
  have hle := o.less
  have hc : c = 0 := by
    have := h.kept
    rcases Nat.eq_zero_or_pos c with e0 | e0
    · exact e0
    · have : c = 1 := by omega
      rw [this] at e; omega
  rw [hc] at e
  rw [← wds_wval h.words]
  congr 1
  omega

/-! ### Which one is the greater one -/
end Go.Proofs.YtfdodndagakmmaaGreatDoor
/- Layer 7: what a decimal is, which number's decimal is which, its text, and what a text tells. Of no program. -/
namespace Go.Proofs.YtfdodndagakmmaaGreatDoor
open Go.Lib

structure Dec where
  neg : Bool
  digits : List UInt8
  exp : Int

def Dec.zero : Dec := ⟨false, [], 0⟩
theorem Dec.ext' {a b : Dec} (h1 : a.neg = b.neg) (h2 : a.digits = b.digits) (h3 : a.exp = b.exp) : a = b := by
  cases a; cases b; simp only at h1 h2 h3; rw [h1, h2, h3]

def allDig (l : List UInt8) : Bool := l.all isDig
theorem allDig_iff {l : List UInt8} : allDig l = true ↔ Digs l := by
  unfold allDig Digs
  simp [List.all_eq_true]

/-- May it be? -/
structure May (d : Dec) : Prop where
  digs : Digs d.digits
  len : d.digits.length ≤ 100
  head : d.digits.head? ≠ some 48
  last : d.digits.getLast? ≠ some 48
  lo : -1000 ≤ d.exp
  hi : d.exp ≤ 1000
  nil : d.digits = [] → d.neg = false ∧ d.exp = 0
def mayB (d : Dec) : Bool :=
  if d.digits = [] then !d.neg && decide (d.exp = 0)
  else decide (d.digits.length ≤ 100) && decide (-1000 ≤ d.exp) && decide (d.exp ≤ 1000) && allDig d.digits && !(d.digits.head? == some 48) && !(d.digits.getLast? == some 48)
theorem mayB_iff (d : Dec) : mayB d = true ↔ May d := by
  unfold mayB
  constructor
  · intro h
    split at h
    · rename_i e
      simp only [Bool.and_eq_true, decide_eq_true_eq, Bool.not_eq_true'] at h
      exact ⟨by rw [e]; exact Digs.nil, by simp [e], by simp [e], by simp [e], by omega, by omega, fun _ => h⟩
    · rename_i e
      simp only [Bool.and_eq_true, decide_eq_true_eq, Bool.not_eq_true', beq_eq_false_iff_ne, allDig_iff] at h
      obtain ⟨⟨⟨⟨⟨h1, h2⟩, h3⟩, h4⟩, h5⟩, h6⟩ := h
      exact ⟨h4, h1, h5, h6, h2, h3, fun x => absurd x e⟩
  · intro h
    split
    · rename_i e
      obtain ⟨h1, h2⟩ := h.nil e
      simp [h1, h2]
    · rename_i e
      simp only [Bool.and_eq_true, decide_eq_true_eq, Bool.not_eq_true', beq_eq_false_iff_ne, allDig_iff]
      exact ⟨⟨⟨⟨⟨h.len, h.lo⟩, h.hi⟩, h.digs⟩, h.head⟩, h.last⟩
theorem May.zero : May Dec.zero := ⟨Digs.nil, by simp [Dec.zero], by simp [Dec.zero], by simp [Dec.zero], by simp [Dec.zero], by simp [Dec.zero], fun _ => ⟨rfl, rfl⟩⟩

/-- The decimal of a number times 10 to a power, before it is asked whether it may be. -/
def dec (neg : Bool) (n : Nat) (e : Int) : Dec := if n = 0 then Dec.zero else ⟨neg, dig (core n), e + tz n⟩
/-- What is told of it: the number of an error, and the decimal, if it may be. -/
def mkE (neg : Bool) (n : Nat) (e : Int) : Nat := if mayB (dec neg n e) then 0 else 4
def mkD (neg : Bool) (n : Nat) (e : Int) : Dec := if mayB (dec neg n e) then dec neg n e else Dec.zero

theorem dec_zero (neg : Bool) (e : Int) : dec neg 0 e = Dec.zero := rfl
theorem dec_pos (neg : Bool) {n : Nat} (h : 0 < n) (e : Int) : dec neg n e = ⟨neg, dig (core n), e + tz n⟩ := by unfold dec; rw [if_neg (by omega)]
theorem mk_zero (neg : Bool) (e : Int) : mkD neg 0 e = Dec.zero := by unfold mkD; rw [dec_zero]; split <;> rfl
theorem mkE_zero (neg : Bool) (e : Int) : mkE neg 0 e = 0 := by
  unfold mkE; rw [dec_zero, if_pos ((mayB_iff _).2 May.zero)]
theorem mk_may (neg : Bool) (n : Nat) (e : Int) : May (mkD neg n e) := by
  unfold mkD
  split
  · rename_i h; exact (mayB_iff _).1 h
  · exact May.zero
theorem dec_ten (neg : Bool) (n : Nat) (e : Int) (k : Nat) : dec neg (n * 10 ^ k) (e - k) = dec neg n e := by
  rcases Nat.eq_zero_or_pos n with h | h
  · rw [h, Nat.zero_mul, dec_zero, dec_zero]
  · rw [dec_pos neg h, dec_pos neg (Nat.mul_pos h (Nat.pow_pos (by omega))), tz_ten h, core_ten h]
    congr 1
    omega
theorem mk_ten (neg : Bool) (n : Nat) (e : Int) (k : Nat) : mkD neg (n * 10 ^ k) (e - k) = mkD neg n e := by unfold mkD; rw [dec_ten]
theorem mkE_ten (neg : Bool) (n : Nat) (e : Int) (k : Nat) : mkE neg (n * 10 ^ k) (e - k) = mkE neg n e := by unfold mkE; rw [dec_ten]
/-- A decimal that may be is the decimal of its number. -/
theorem May.dec {d : Dec} (h : May d) : Go.Proofs.YtfdodndagakmmaaGreatDoor.dec d.neg (num d.digits) d.exp = d := by
  by_cases e : d.digits = []
  · obtain ⟨h1, h2⟩ := h.nil e
    rw [e, num_nil, dec_zero]
    exact Dec.ext' h1.symm e.symm h2.symm
  · obtain ⟨hc, ht⟩ := core_of h.digs e h.last
    have hp : 0 < num d.digits := by have := num_last h.digs e h.last; omega
    rw [dec_pos _ hp, hc, ht, dig_num h.digs h.head]
    exact Dec.ext' rfl rfl (by simp)
theorem May.made {d : Dec} (h : May d) : mkD d.neg (num d.digits) d.exp = d := by
  unfold mkD; rw [h.dec, if_pos ((mayB_iff _).2 h)]
theorem May.madeE {d : Dec} (h : May d) : mkE d.neg (num d.digits) d.exp = 0 := by
  unfold mkE; rw [h.dec, if_pos ((mayB_iff _).2 h)]

/-- A power that is far too great is as good as any other one. -/
theorem dec_far (neg : Bool) {n : Nat} (h : 0 < n) {e : Int} (he : 1000 < e ∨ e + tz n < -1000) : mayB (dec neg n e) = false := by
  cases hb : mayB (dec neg n e) with
  | false => rfl
  | true =>
    have hm := (mayB_iff _).1 hb
    rw [dec_pos neg h] at hm
    have h1 := hm.lo; have h2 := hm.hi
    simp only at h1 h2
    omega
theorem tz_le {l : List UInt8} (h : Digs l) : tz (num l) ≤ l.length := by
  rcases Nat.eq_zero_or_pos (num l) with e | e
  · rw [e, tz_zero]; omega
  · have h1 := num_lt h
    have h2 := core_mul (num l)
    have h3 := core_pos e
    have h4 : 1 * 10 ^ tz (num l) ≤ core (num l) * 10 ^ tz (num l) := Nat.mul_le_mul_right _ h3
    rcases Nat.lt_or_ge l.length (tz (num l)) with h5 | h5
    · have : 10 ^ l.length ≤ 10 ^ tz (num l) := Nat.pow_le_pow_right (by omega) (by omega)
      omega
    · exact h5
/-- The power behind the e, cut at a bound. -/
theorem mayB_cut (neg sg : Bool) {l : List UInt8} (hd : Digs l) (p pl c : Nat) (hl : l.length ≤ 1000) (hpl : pl ≤ 1000) (hc : 3000 ≤ c) :
    mkD neg (num l) ((if sg then -((min p c : Nat) : Int) else ((min p c : Nat) : Int)) - (pl : Int)) = mkD neg (num l) ((if sg then -(p : Int) else p) - (pl : Int)) ∧
    mkE neg (num l) ((if sg then -((min p c : Nat) : Int) else ((min p c : Nat) : Int)) - (pl : Int)) = mkE neg (num l) ((if sg then -(p : Int) else p) - (pl : Int)) := by
  rcases Nat.eq_zero_or_pos (num l) with e | e
  · rw [e]; simp only [mk_zero, mkE_zero, and_self]
  · rcases Nat.lt_or_ge c p with h | h
    · have ht := tz_le hd
      have f : ∀ q : Nat, 3000 ≤ q → mayB (dec neg (num l) ((if sg then -(q : Int) else q) - (pl : Int))) = false := by
        intro q hq
        refine dec_far neg e ?_
        cases sg
        · left; simp only [Bool.false_eq_true, if_false]; omega
        · right; simp only [if_true]; omega
      have h1 := f (min p c) (by omega)
      have h2 := f p (by omega)
      unfold mkD mkE
      rw [h1, h2]
      simp
    · rw [Nat.min_eq_left h]; exact ⟨rfl, rfl⟩

/-! ### A text's number -/
def spanT (l : List UInt8) : List UInt8 := l.takeWhile isDig
def spanD (l : List UInt8) : List UInt8 := l.dropWhile isDig
/-- The digits ahead of the point but for a 0 with which they begin; and what is behind them. -/
def ahead (l : List UInt8) : Option (List UInt8 × List UInt8) :=
  if l.head? = some 48 then some ([], l.drop 1) else if spanT l = [] then none else some (spanT l, spanD l)
def behind (l : List UInt8) : Option (List UInt8 × List UInt8) :=
  if l.head? = some 46 then (if spanT (l.drop 1) = [] then none else some (spanT (l.drop 1), spanD (l.drop 1))) else some ([], l)
def power (l : List UInt8) : Option (Bool × List UInt8 × List UInt8) :=
  if l.head? = some 101 ∨ l.head? = some 69 then
    (let r := l.drop 1
     let sg : Bool := r.head? == some 45
     let r' := if r.head? = some 45 ∨ r.head? = some 43 then r.drop 1 else r
     if spanT r' = [] then none else some (sg, spanT r', spanD r'))
  else some (false, [], l)
def signed (l : List UInt8) : Bool × List UInt8 := if l.head? = some 45 then (true, l.drop 1) else (false, l)
/-- What a number's text consists of. -/
structure Parts where
  neg : Bool
  a : List UInt8
  b : List UInt8
  sg : Bool
  p : List UInt8
def parts (l : List UInt8) : Option Parts :=
  match ahead (signed l).2 with
  | none => none
  | some (a, r) => match behind r with
    | none => none
    | some (b, r) => match power r with
      | none => none
      | some (sg, p, r) => if r = [] then some ⟨(signed l).1, a, b, sg, p⟩ else none
def Parts.exp (q : Parts) : Int := (if q.sg then -(num q.p : Int) else num q.p) - (q.b.length : Int)
def parseD (l : List UInt8) : Dec :=
  if 1000 < l.length then Dec.zero else match parts l with
  | none => Dec.zero
  | some q => mkD q.neg (num (q.a ++ q.b)) q.exp
def parseE (l : List UInt8) : Nat :=
  if 1000 < l.length then 3 else match parts l with
  | none => 170
  | some q => mkE q.neg (num (q.a ++ q.b)) q.exp
theorem spanT_append {a r : List UInt8} (ha : Digs a) (hr : ∀ c, r.head? = some c → isDig c = false) : spanT (a ++ r) = a ∧ spanD (a ++ r) = r := by
  induction a with
  | nil =>
    cases r with
    | nil => exact ⟨rfl, rfl⟩
    | cons c r => have := hr c rfl; exact ⟨by simp [spanT, this], by simp [spanD, this]⟩
  | cons x a ih =>
    have hx := ha x (by simp)
    have ih' := ih fun z hz => ha z (by simp [hz])
    unfold spanT spanD at *
    rw [List.cons_append, List.takeWhile_cons, List.dropWhile_cons, if_pos hx, if_pos hx]
    exact ⟨by rw [ih'.1], ih'.2⟩
theorem parseD_may (l : List UInt8) : May (parseD l) := by
  unfold parseD
  split
  · exact May.zero
  · split
    · exact May.zero
    · exact mk_may _ _ _

/-! ### A decimal's text -/
def zeros (k : Nat) : List UInt8 := List.replicate k 48
def bodyL (l : List UInt8) (e : Int) : List UInt8 :=
  let p : Int := l.length + e
  if 0 ≤ e ∧ p ≤ 21 then l ++ zeros e.toNat
  else if 0 < p ∧ p ≤ 21 then l.take p.toNat ++ 46 :: l.drop p.toNat
  else if -5 ≤ p ∧ p ≤ 0 then 48 :: 46 :: (zeros (-p).toNat ++ l)
  else l.take 1 ++ ((if 1 < l.length then 46 :: l.drop 1 else []) ++ 101 :: itoa (p - 1))
def textL (d : Dec) : List UInt8 := if d.digits = [] then [48] else (if d.neg then [45] else []) ++ bodyL d.digits d.exp
end Go.Proofs.YtfdodndagakmmaaGreatDoor
/- Small words on memory, of no program: a block known whole; a table of numbers in a block; a slice of bytes. -/
namespace Go.Proofs.YtfdodndagakmmaaGreatDoor
open Go.RowKit

theorem ret_int {k : IntKind} {a b : Int} (h : a = b) : Ending.returned (.int k a) = .returned (.int k b) := by rw [h]
theorem ret_val {a b : Value} (h : a = b) : Ending.returned a = .returned b := by rw [h]

/-- Block g is the cells cs, none frozen. -/
def Row (w : World) (g : Nat) (t : TypeId) (cs : Array Value) : Prop := w.heap[g]? = some (.cells cs t (0, 0))
section
variable {w w' : World} {g : Nat} {t : TypeId} {cs : Array Value}
theorem Row.lt (h : Row w g t cs) : g < w.heap.size := by
  rcases Nat.lt_or_ge g w.heap.size with hlt | hge
  · exact hlt
  · unfold Row at h; rw [Array.getElem?_eq_none hge] at h; cases h
theorem Row.cell (h : Row w g t cs) {i : Nat} {v : Value} (hv : cs[i]? = some v) : w.cell? ⟨g, i, none⟩ = some v :=
  (cell_of_row w g i cs t (0, 0) h).trans hv
theorem Row.free (h : Row w g t cs) (i : Nat) : w.frozen? ⟨g, i, none⟩ = false := frozen_of_row w g i cs t h
theorem Row.new (w : World) (t : TypeId) (cs : Array Value) : Row (w.alloc (.cells cs t)) w.heap.size t cs := heap_alloc_new w _
theorem Row.drew (h : Row w g t cs) : Row w.drew g t cs := h
theorem Row.drewN (h : Row w g t cs) (n : Nat) : Row (w.drewN n) g t cs := h
theorem Row.alloc (h : Row w g t cs) (o : Obj) : Row (w.alloc o) g t cs := (Below.heap_alloc w o g h.lt).trans h
theorem Row.set_ (h : Row w g t cs) (i : Nat) (u : Value) : Row (w.setCell ⟨g, i, none⟩ u) g t (cs.setIfInBounds i u) := heap_setCell_same w g i cs t u h
theorem Row.far (h : Row w g t cs) {p : Addr} (hp : g ≠ p.block) (u : Value) : Row (w.setCell p u) g t cs := (heap_setCell_other w p g u hp).trans h
theorem Row.call (h : Row w g t cs) (hb : Below w.heap.size w w') : Row w' g t cs := (hb.block g h.lt).trans h
theorem Row.lit (h : Row w g t cs) {o : Obj} (hb : Below (w.alloc o).heap.size (w.alloc o) w') : Row w' g t cs := (h.alloc o).call hb
theorem Row.below {B : Nat} (h : Row w g t cs) (hb : Below B w w') (hg : g < B) : Row w' g t cs := (hb.block g hg).trans h
end

theorem _root_.Go.RowKit.Below.setRow {B : Nat} {a w : World} (h : Below B a w) {g : Nat} (hg : B ≤ g) (cs : Array Value) : Below B a (w.setRow g cs) :=
  h.trans ⟨rfl, rfl, rfl, by simp, fun k hk => setRow_other w g k cs (by omega)⟩
/-- Behind a call that touches nothing old; the same with a literal laid ahead of it. -/
theorem _root_.Go.RowKit.Below.call {W a b : World} (h : Below W.heap.size W a) (k : Below a.heap.size a b) : Below W.heap.size W b := h.trans (k.mono h.size)
theorem _root_.Go.RowKit.Below.lit {W a b : World} {o : Obj} (h : Below W.heap.size W a) (k : Below (a.alloc o).heap.size (a.alloc o) b) : Below W.heap.size W b :=
  (h.alloc h.size o).trans (k.mono (by have := h.size; simp; omega))
/-- A slice value that holds these bytes. -/
def Bytes (w : World) (A : Option Addr) (n : Nat) (l : List Nat) : Prop :=
  l.length = n ∧ (∀ x ∈ l, x < 256) ∧ (0 < n → ∃ b off, A = some ⟨b, off, none⟩ ∧ b < w.heap.size ∧ ∀ i, i < n → w.cell? ⟨b, off + i, none⟩ = some (.int .u8 (l.getD i 0 : Int)))
section
variable {w w' : World} {A : Option Addr} {n : Nat} {l : List Nat}
theorem Bytes.len (h : Bytes w A n l) : l.length = n := h.1
theorem Bytes.lt (h : Bytes w A n l) : ∀ x ∈ l, x < 256 := h.2.1
theorem Bytes.keep (h : Bytes w A n l) (hs : w.heap.size ≤ w'.heap.size) (hk : ∀ p : Addr, p.block < w.heap.size → w'.cell? p = w.cell? p) : Bytes w' A n l :=
  ⟨h.1, h.2.1, fun hn => by
    obtain ⟨b, off, e, hb, hc⟩ := h.2.2 hn
    exact ⟨b, off, e, by omega, fun i hi => (hk _ hb).trans (hc i hi)⟩⟩
theorem Bytes.below (h : Bytes w A n l) (hb : Below w.heap.size w w') : Bytes w' A n l := h.keep hb.size fun _ hp => hb.cell hp
theorem Bytes.nil (w : World) (A : Option Addr) : Bytes w A 0 [] := ⟨rfl, by simp, fun h => by omega⟩
/-- A beginning, and the rest. -/
theorem Bytes.take (h : Bytes w A n l) {k : Nat} (hk : k ≤ n) : Bytes w A k (l.take k) := by
  refine ⟨by rw [List.length_take, h.1]; omega, fun x hx => h.2.1 x (List.mem_of_mem_take hx), fun hk0 => ?_⟩
  obtain ⟨b, off, e, hb, hc⟩ := h.2.2 (by omega)
  refine ⟨b, off, e, hb, fun i hi => ?_⟩
  rw [hc i (by omega)]
  simp [List.getD_eq_getElem?_getD, hi]
end

theorem Bytes.drop {w : World} {b off n : Nat} {l : List Nat} (h : Bytes w (some ⟨b, off, none⟩) n l) {k : Nat} (hk : k ≤ n) : Bytes w (some ⟨b, off + k, none⟩) (n - k) (l.drop k) := by
  refine ⟨by rw [List.length_drop, h.1], fun x hx => h.2.1 x (List.mem_of_mem_drop hx), fun h0 => ?_⟩
  obtain ⟨b', off', e, hb, hc⟩ := h.2.2 (by omega)
  cases e
  refine ⟨b, off + k, rfl, hb, fun i hi => ?_⟩
  have := hc (k + i) (by omega)
  rw [← Nat.add_assoc] at this
  rw [this]
  simp [List.getD_eq_getElem?_getD]
end Go.Proofs.YtfdodndagakmmaaGreatDoor
/- Slices of bytes: made, copied, appended to, turned into texts. Of no program: what a program's tables must say comes in as premises. -/
namespace Go.Proofs.YtfdodndagakmmaaGreatDoor
open Go.RowKit

/-- Bytes as cells. -/
def cellsOf (l : List Nat) : List Value := l.map fun (x : Nat) => Value.int .u8 (x : Int)
theorem cellsOf_length (l : List Nat) : (cellsOf l).length = l.length := by simp [cellsOf]
theorem cellsOf_get (l : List Nat) {j : Nat} (h : j < l.length) : (cellsOf l)[j]? = some (.int .u8 (l.getD j 0 : Int)) := by
  simp [cellsOf, List.getD_eq_getElem?_getD, h]
theorem addr_add (b o j : Nat) : (⟨b, o, none⟩ : Addr).add j = ⟨b, o + j, none⟩ := by
  unfold Addr.add; split <;> simp_all

/-- Each is a byte. -/
def Small (l : List Nat) : Prop := ∀ x ∈ l, x < 256
theorem Small.nil : Small [] := fun _ h => by cases h
theorem Small.append {a b : List Nat} (ha : Small a) (hb : Small b) : Small (a ++ b) := fun x hx => by
  rcases List.mem_append.1 hx with h | h
  · exact ha x h
  · exact hb x h
theorem Small.take {l : List Nat} (h : Small l) (k : Nat) : Small (l.take k) := fun x hx => h x (List.mem_of_mem_take hx)
theorem Small.drop {l : List Nat} (h : Small l) (k : Nat) : Small (l.drop k) := fun x hx => h x (List.mem_of_mem_drop hx)
theorem Small.zeros (k : Nat) : Small (List.replicate k 0) := fun x hx => by rw [List.eq_of_mem_replicate hx]; decide

section
variable {w w' : World} {A : Option Addr} {n : Nat} {l : List Nat}
/-- The cells, as the laws on appends and copies ask for them. -/
theorem Bytes.at_ (h : Bytes w A n l) (hn : 0 < n) : ∃ b off, A = some ⟨b, off, none⟩ ∧ b < w.heap.size ∧ ∀ j v, (cellsOf l)[j]? = some v → w.cell? ((⟨b, off, none⟩ : Addr).add j) = some v := by
  obtain ⟨b, off, e, hb, hc⟩ := h.2.2 hn
  refine ⟨b, off, e, hb, fun j v hv => ?_⟩
  have hj : j < l.length := by
    rcases Nat.lt_or_ge j l.length with h1 | h1
    · exact h1
    · rw [List.getElem?_eq_none (by rw [cellsOf_length]; exact h1)] at hv; cases hv
  rw [cellsOf_get l hj] at hv
  rw [addr_add, hc j (by rw [← h.1]; exact hj)]
  exact hv
end

section
variable {P : Program} {ops : Array Oper} {rest : List Oper} {o : Oper} {a : Act} {w : World} {Q : Exit → Act → World → Prop}
end

theorem Bytes.snoc {w : World} {A : Option Addr} {n x : Nat} {l : List Nat} (h : Bytes w A (n + 1) (l ++ [x])) : Bytes w A n l ∧ l.length = n := by
  have hl : l.length = n := by have := h.len; simp at this; omega
  have := h.take (k := n) (by omega)
  rw [← hl, List.take_left, hl] at this
  exact ⟨this, hl⟩
end Go.Proofs.YtfdodndagakmmaaGreatDoor
