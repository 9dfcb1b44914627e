/- Layer 7: the document's Mul. -/
import Derived.Test.YtlcbjikiodmlfaaGreatDoorPt31
namespace Go.Proofs.YtlcbjikiodmlfaaGreatDoor
open Go.RowKit

def i64s (l : List Nat) : List Value := l.map fun (x : Nat) => Value.int .i64 (x : Int)
theorem i64s_length (l : List Nat) : (i64s l).length = l.length := by simp [i64s]
theorem i64s_get (l : List Nat) {j : Nat} (h : j < l.length) : (i64s l)[j]? = some (.int .i64 (wat l j : Int)) := by
  simp [i64s, wat, List.getElem?_eq_getElem h, List.getD]
theorem i64s_set (l : List Nat) (p v : Nat) : (i64s l).toArray.setIfInBounds p (.int .i64 (v : Int)) = (i64s (l.set p v)).toArray := by
  simp [i64s, List.map_set]
/-- What places count, ten times each. -/
def tval : List Nat → Nat
  | [] => 0
  | x :: r => x + 10 * tval r
theorem tval_zeros (k : Nat) : tval (List.replicate k 0) = 0 := by
  induction k with
  | zero => rfl
  | succ k ih => rw [List.replicate_succ]; show 0 + 10 * tval _ = 0; rw [ih]
theorem tval_set (l : List Nat) (p v : Nat) (hp : p < l.length) : tval (l.set p v) + wat l p * 10 ^ p = tval l + v * 10 ^ p := by
  induction l generalizing p with
  | nil => simp at hp
  | cons x r ih =>
    cases p with
    | zero =>
      rw [List.set_cons_zero]
      show v + 10 * tval r + x * 10 ^ 0 = x + 10 * tval r + v * 10 ^ 0
      simp only [Nat.pow_zero, Nat.mul_one]
      omega
    | succ p =>
      have h := ih p (by simpa using hp)
      rw [List.set_cons_succ]
      have hw : wat (x :: r) (p + 1) = wat r p := by simp [wat]
      rw [hw]
      show x + 10 * tval (r.set p v) + wat r p * 10 ^ (p + 1) = x + 10 * tval r + v * 10 ^ (p + 1)
      have e1 : wat r p * 10 ^ (p + 1) = 10 * (wat r p * 10 ^ p) := by rw [Nat.pow_succ, Nat.mul_comm (10 ^ p), ← Nat.mul_assoc, ← Nat.mul_assoc, Nat.mul_comm (wat r p)]
      have e2 : v * 10 ^ (p + 1) = 10 * (v * 10 ^ p) := by rw [Nat.pow_succ, Nat.mul_comm (10 ^ p), ← Nat.mul_assoc, ← Nat.mul_assoc, Nat.mul_comm v]
      rw [e1, e2]
      omega
theorem tval_take (l : List Nat) (k : Nat) (hk : k < l.length) : tval (l.take (k + 1)) = tval (l.take k) + 10 ^ k * wat l k := by
  induction l generalizing k with
  | nil => simp at hk
  | cons x r ih =>
    cases k with
    | zero => simp [tval, wat]
    | succ k =>
      have h := ih k (by simpa using hk)
      have hw : wat (x :: r) (k + 1) = wat r k := by simp [wat]
      rw [List.take_succ_cons, List.take_succ_cons, hw]
      show x + 10 * tval (r.take (k + 1)) = x + 10 * tval (r.take k) + _
      rw [h, Nat.mul_add, Nat.pow_succ, ← Nat.mul_assoc, Nat.mul_comm 10 (10 ^ k)]
      omega
/-- The product, place by place. -/
structure MulT (a b : List UInt8) (i k : Nat) (out : List Nat) : Prop where
  len : out.length = a.length + b.length
  hi : ∀ p, wat out p ≤ 81 * (i + 1)
  low : ∀ p, i + k ≤ p → wat out p ≤ 81 * i
  val : tval out = num a % 10 ^ i * num b + 10 ^ i * dAt a i * (num b % 10 ^ k)
theorem wat_set' (l : List Nat) (p v q : Nat) (hp : p < l.length) : wat (l.set p v) q = if q = p then v else wat l q := by
  unfold wat
  rw [List.getD_eq_getElem?_getD, List.getElem?_set]
  by_cases h : p = q
  · subst h; simp [hp]
  · rw [if_neg h, if_neg (fun e => h e.symm), ← List.getD_eq_getElem?_getD]
theorem MulT.start (a b : List UInt8) : MulT a b 0 0 (List.replicate (a.length + b.length) 0) := by
  have hz : ∀ p, wat (List.replicate (a.length + b.length) 0) p = 0 := fun p => by simp [wat, List.getD_eq_getElem?_getD, List.getElem?_replicate]; split <;> rfl
  refine ⟨by simp, fun p => by rw [hz]; omega, fun p _ => by rw [hz]; omega, ?_⟩
  rw [tval_zeros]; simp [Nat.mod_one]
theorem MulT.step {a b : List UInt8} {i k : Nat} {out : List Nat} (h : MulT a b i k out) (hi : i < a.length) (hk : k < b.length) :
    MulT a b i (k + 1) (out.set (i + k) (wat out (i + k) + dAt a i * dAt b k)) := by
  have hp : i + k < out.length := by rw [h.len]; omega
  have hs := tval_set out (i + k) (wat out (i + k) + dAt a i * dAt b k) hp
  have h1 := dAt_lt a i
  have h2 := dAt_lt b k
  have h3 : dAt a i * dAt b k ≤ 9 * 9 := Nat.mul_le_mul (by omega) (by omega)
  have h4 := h.low (i + k) (Nat.le_refl _)
  refine ⟨by rw [List.length_set]; exact h.len, fun p => ?_, fun p hpp => ?_, ?_⟩
  · rw [wat_set' _ _ _ _ hp]; split
    · omega
    · exact h.hi p
  · rw [wat_set' _ _ _ _ hp, if_neg (by omega)]; exact h.low p (by omega)
  · rw [mod_next b k]
    have hv := h.val
    generalize wat out (i + k) = u at *
    have e1 : (u + dAt a i * dAt b k) * 10 ^ (i + k) = u * 10 ^ (i + k) + 10 ^ i * dAt a i * (10 ^ k * dAt b k) := by
      rw [Nat.add_mul, Nat.pow_add]
      congr 1
      generalize 10 ^ i = I; generalize 10 ^ k = K; generalize dAt a i = x; generalize dAt b k = y
      rw [Nat.mul_comm x y, Nat.mul_assoc, ← Nat.mul_assoc x I K, Nat.mul_comm x I, Nat.mul_left_comm y (I * x) K, Nat.mul_comm y K]
    rw [e1] at hs
    rw [Nat.mul_add (10 ^ i * dAt a i)]
    omega
theorem MulT.next {a b : List UInt8} {i : Nat} {out : List Nat} (h : MulT a b i b.length out) (hb : Digs b) : MulT a b (i + 1) 0 out := by
  refine ⟨h.len, fun p => by have := h.hi p; omega, fun p _ => h.hi p, ?_⟩
  rw [h.val, Nat.mod_eq_of_lt (num_lt hb), mod_next a i, Nat.add_mul]
  simp [Nat.mod_one]
theorem MulT.done {a b : List UInt8} {out : List Nat} (h : MulT a b a.length 0 out) (ha : Digs a) : tval out = num a * num b := by
  rw [h.val, Nat.mod_eq_of_lt (num_lt ha)]
  simp [Nat.mod_one]
theorem carry_step {P T S c u : Nat} (h : S + P * c = T) : S + P * ((u + c) % 10) + P * 10 * ((u + c) / 10) = T + P * u := by
  have e : P * ((u + c) % 10) + P * 10 * ((u + c) / 10) = P * (u + c) := by
    rw [Nat.mul_assoc, ← Nat.mul_add, Nat.mod_add_div]
  rw [Nat.add_assoc, e, Nat.mul_add]
  omega
end Go.Proofs.YtlcbjikiodmlfaaGreatDoor
