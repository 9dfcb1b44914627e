/- Plain arithmetic of the two sums of layer 1: eight steps down of a register, by tables and without. No program is named here. -/
import Derived.Laws.BitsAllLaws
namespace Go.Proofs.Ytmiaaihejapomaa.Crc

/-- One place down. -/
def dn (t w : Nat) : Nat := if w % 2 = 1 then w / 2 ^^^ t else w / 2
/-- k places down. -/
def dnN (t : Nat) : Nat → Nat → Nat
  | 0, w => w
  | k + 1, w => dnN t k (dn t w)

theorem dnN_succ (t k w : Nat) : dnN t (k + 1) w = dn t (dnN t k w) := by
  induction k generalizing w with
  | zero => rfl
  | succ k ih => exact ih (dn t w)

theorem xor_self_left (a b : Nat) : a ^^^ (a ^^^ b) = b := by rw [← Nat.xor_assoc, Nat.xor_self, Nat.zero_xor]

theorem dn_xor (t a b : Nat) : dn t (a ^^^ b) = dn t a ^^^ dn t b := by
  have h2 : (a ^^^ b) / 2 = a / 2 ^^^ b / 2 := by
    apply Nat.eq_of_testBit_eq; intro i
    simp only [Nat.testBit_div_two, Nat.testBit_xor]
  have h1 : (a ^^^ b) % 2 = (a % 2 + b % 2) % 2 := by
    have e : ((a ^^^ b) % 2) = ((a % 2) ^^^ (b % 2)) := by
      have := @Nat.xor_mod_two_pow a b 1
      simpa using this
    rw [e]
    rcases Nat.mod_two_eq_zero_or_one a with ha | ha <;> rcases Nat.mod_two_eq_zero_or_one b with hb | hb <;> rw [ha, hb] <;> rfl
  unfold dn
  rw [h1, h2]
  rcases Nat.mod_two_eq_zero_or_one a with ha | ha <;> rcases Nat.mod_two_eq_zero_or_one b with hb | hb <;> rw [ha, hb] <;> simp
  · ac_rfl
  · ac_rfl
  · have e : ((a / 2 ^^^ t) ^^^ (b / 2 ^^^ t)) = (t ^^^ (t ^^^ (a / 2 ^^^ b / 2))) := by ac_rfl
    rw [e, xor_self_left]

theorem dnN_xor (t k a b : Nat) : dnN t k (a ^^^ b) = dnN t k a ^^^ dnN t k b := by
  induction k generalizing a b with
  | zero => rfl
  | succ k ih => show dnN t k (dn t (a ^^^ b)) = _; rw [dn_xor, ih]; rfl

theorem dnN_zero (t k : Nat) : dnN t k 0 = 0 := by
  induction k with
  | zero => rfl
  | succ k ih => exact ih

theorem dnN_shift (t k h : Nat) : dnN t k (2 ^ k * h) = h := by
  induction k with
  | zero => simp [dnN]
  | succ k ih =>
    show dnN t k (dn t (2 ^ (k + 1) * h)) = h
    have e : 2 ^ (k + 1) * h = 2 * (2 ^ k * h) := by rw [Nat.pow_succ, Nat.mul_comm (2 ^ k) 2, Nat.mul_assoc]
    have d : dn t (2 * (2 ^ k * h)) = 2 ^ k * h := by unfold dn; rw [if_neg (by omega)]; omega
    rw [e, d, ih]

theorem xor_mul_add_pow (n a b : Nat) (hb : b < 2 ^ n) : 2 ^ n * a ^^^ b = 2 ^ n * a + b := by
  apply Nat.eq_of_testBit_eq; intro i
  rw [Nat.testBit_xor, Nat.testBit_two_pow_mul_add a hb, Nat.testBit_two_pow_mul]
  by_cases hi : i < n
  · simp [hi, Nat.not_le.2 hi]
  · have : b.testBit i = false := Nat.testBit_lt_two_pow (Nat.lt_of_lt_of_le hb (Nat.pow_le_pow_right (by omega) (Nat.le_of_not_lt hi)))
    simp [hi, this, Nat.le_of_not_lt hi]
theorem xor_mul_add (a b : Nat) (hb : b < 256) : 256 * a ^^^ b = 256 * a + b := xor_mul_add_pow 8 a b hb

/-- What a table holds at i. -/
def T (t i : Nat) : Nat := dnN t 8 i

/-- Eight steps down of a register by the table. -/
theorem dnN_byte (t r x : Nat) : dnN t 8 (r ^^^ x) = T t ((r % 256) ^^^ x) ^^^ (r / 256) := by
  have e : r = (256 * (r / 256)) ^^^ (r % 256) := by
    rw [xor_mul_add _ _ (Nat.mod_lt _ (by omega))]; omega
  have e2 : r ^^^ x = ((r % 256) ^^^ x) ^^^ (256 * (r / 256)) := by
    conv => lhs; rw [e]
    ac_rfl
  rw [e2, dnN_xor, show 256 * (r / 256) = 2 ^ 8 * (r / 256) from rfl, dnN_shift]
  rfl

/-- The same where the low byte alone is turned first. -/
theorem dnN_low (t f x : Nat) (hx : x < 256) : dnN t 8 (f ^^^ x) = (f / 256) ^^^ dnN t 8 ((f ^^^ x) % 256) := by
  have e : (f ^^^ x) % 256 = (f % 256) ^^^ x := by
    have := @Nat.xor_mod_two_pow f x 8
    rw [show (2 : Nat) ^ 8 = 256 from rfl] at this
    rw [this, Nat.mod_eq_of_lt hx]
  rw [e, dnN_byte t f x, Nat.xor_comm]; rfl

theorem byte_xor_lt (a x : Nat) (hx : x < 256) : (a % 256) ^^^ x < 256 := Nat.xor_lt_two_pow (n := 8) (Nat.mod_lt _ (by decide)) hx

theorem dn_lt (n t w : Nat) (ht : t < 2 ^ n) (hw : w < 2 ^ n) : dn t w < 2 ^ n := by
  unfold dn
  split
  · exact Nat.xor_lt_two_pow (by omega) ht
  · omega
theorem dnN_lt (n t k w : Nat) (ht : t < 2 ^ n) (hw : w < 2 ^ n) : dnN t k w < 2 ^ n := by
  induction k generalizing w with
  | zero => exact hw
  | succ k ih => exact ih _ (dn_lt n t w ht hw)

/-- The register behind some bytes. -/
def run (t r : Nat) (l : List Nat) : Nat := l.foldl (fun r x => dnN t 8 (r ^^^ x)) r
theorem run_nil (t r : Nat) : run t r [] = r := rfl
theorem run_append (t r : Nat) (a b : List Nat) : run t r (a ++ b) = run t (run t r a) b := by simp [run]
theorem run_snoc (t r : Nat) (a : List Nat) (x : Nat) : run t r (a ++ [x]) = dnN t 8 (run t r a ^^^ x) := by simp [run]
theorem run_lt (n t r : Nat) (l : List Nat) (hn : 8 ≤ n) (ht : t < 2 ^ n) (hr : r < 2 ^ n) (hl : ∀ x ∈ l, x < 256) : run t r l < 2 ^ n := by
  induction l generalizing r with
  | nil => exact hr
  | cons x l ih =>
    refine ih _ (dnN_lt n t 8 _ ht (Nat.xor_lt_two_pow hr ?_)) fun y hy => hl y (by simp [hy])
    exact Nat.lt_of_lt_of_le (hl x (by simp)) (Nat.pow_le_pow_right (by omega) hn : 2 ^ 8 ≤ 2 ^ n)

theorem T_two_pow (t k : Nat) (hk : k ≤ 8) : T t (2 ^ k) = dnN t (8 - k) 1 := by
  have key : ∀ a b w : Nat, dnN t (a + b) w = dnN t a (dnN t b w) := by
    intro a b w
    induction b generalizing w with
    | zero => rfl
    | succ b ih => exact ih (dn t w)
  have e : (8 : Nat) = (8 - k) + k := by omega
  unfold T
  conv => lhs; rw [e]
  rw [key]
  congr 1
  have := dnN_shift t k 1
  simpa using this
theorem T_zero (t : Nat) : T t 0 = 0 := dnN_zero t 8
theorem T_add (t k a : Nat) : T t (2 ^ (k + 1) * a + 2 ^ k) = T t (2 ^ (k + 1) * a) ^^^ T t (2 ^ k) := by
  rw [← xor_mul_add_pow (k + 1) a (2 ^ k) (by rw [Nat.pow_succ]; have := Nat.two_pow_pos k; omega)]
  exact dnN_xor t 8 _ _
theorem T_lt (n t i : Nat) (hn : 8 ≤ n) (ht : t < 2 ^ n) (hi : i < 256) : T t i < 2 ^ n :=
  dnN_lt n t 8 i ht (Nat.lt_of_lt_of_le hi (Nat.pow_le_pow_right (by omega) hn : 2 ^ 8 ≤ 2 ^ n))

/-- The table as it is filled, with d the distance of the round under way (d = 2^k) and c the turns of it that are done. -/
def fill (t d c j : Nat) : Nat := if j % (2 * d) = 0 ∨ (j % d = 0 ∧ j < c * (2 * d)) then T t j else 0
/-- The sum of some bytes and l, s being the sum of these; the sum; the fingerprints likewise. -/
def moreL (s : Nat) (l : List Nat) : Nat := run 3988292384 (s ^^^ 4294967295) l ^^^ 4294967295
def sumL (l : List Nat) : Nat := moreL 0 l
def P64 : Nat := 13933329357911598997
theorem P64_int : (13933329357911598997 : Int) = (P64 : Nat) := by unfold P64; omega
theorem P64_lt : P64 < 18446744073709551616 := by unfold P64; omega
def moreF (f : Nat) (l : List Nat) : Nat := run P64 f l
def fingerL (l : List Nat) : Nat := moreF P64 l
theorem moreL_sumL (a b : List Nat) : moreL (sumL a) b = sumL (a ++ b) := by
  unfold sumL moreL
  rw [Nat.xor_assoc, Nat.xor_self, Nat.xor_zero, ← run_append]
theorem moreF_fingerL (a b : List Nat) : moreF (fingerL a) b = fingerL (a ++ b) := (run_append P64 P64 a b).symm
end Go.Proofs.Ytmiaaihejapomaa.Crc
