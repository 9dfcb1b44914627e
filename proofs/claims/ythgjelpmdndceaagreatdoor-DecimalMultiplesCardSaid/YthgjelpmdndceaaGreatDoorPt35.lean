/- Layer 7: digit texts without noughts ahead are in the order of their numbers. -/
import Derived.Test.YthgjelpmdndceaaGreatDoorPt34
namespace Go.Proofs.YthgjelpmdndceaaGreatDoor
open Go.RowKit

theorem cmpB_num : ∀ (a b : List UInt8), Digs a → Digs b → a.length = b.length → cmpB a b = cmpZ (num a) (num b)
  | [], [], _, _, _ => rfl
  | [], _ :: _, _, _, h => by simp at h
  | _ :: _, [], _, _, h => by simp at h
  | x :: l, y :: m, ha, hb, h => by
    have hl : l.length = m.length := by simpa using h
    have ih := cmpB_num l m (fun z hz => ha z (by simp [hz])) (fun z hz => hb z (by simp [hz])) hl
    have hx := ha x (by simp)
    have hy := hb y (by simp)
    have n1 := num_lt (l := l) (fun z hz => ha z (by simp [hz]))
    have n2 := num_lt (l := m) (fun z hz => hb z (by simp [hz]))
    show (if x.toNat < y.toNat then -1 else if y.toNat < x.toNat then 1 else cmpB l m) = _
    rw [num_cons, num_cons, ih, hl]
    rw [hl] at n1
    have x1 := isDig_lo hx
    have y1 := isDig_lo hy
    have dx : dval x = x.toNat - 48 := rfl
    have dy : dval y = y.toNat - 48 := rfl
    generalize hp : (10 : Nat) ^ m.length = p at *
    by_cases c1 : x.toNat < y.toNat
    · rw [if_pos c1]
      have : (dval x + 1) * p ≤ dval y * p := Nat.mul_le_mul_right p (by omega)
      rw [Nat.add_mul] at this
      unfold cmpZ
      rw [if_pos (by omega)]
    · rw [if_neg c1]
      by_cases c2 : y.toNat < x.toNat
      · rw [if_pos c2]
        have : (dval y + 1) * p ≤ dval x * p := Nat.mul_le_mul_right p (by omega)
        rw [Nat.add_mul] at this
        unfold cmpZ
        rw [if_neg (by omega), if_pos (by omega)]
      · rw [if_neg c2]
        have e : dval x = dval y := by omega
        rw [e]
        unfold cmpZ
        split <;> split <;> (try split) <;> (try split) <;> omega
theorem num_low {l : List UInt8} (h : Digs l) (h0 : l ≠ []) (h1 : l.head? ≠ some 48) : 10 ^ (l.length - 1) ≤ num l := by
  cases l with
  | nil => exact absurd rfl h0
  | cons b r =>
    rw [num_cons, List.length_cons, Nat.add_sub_cancel]
    have hb := h b (by simp)
    have h2 : 1 ≤ dval b := by
      have := isDig_lo hb
      have h3 : b.toNat ≠ 48 := fun e => h1 (by rw [show b = 48 from UInt8.toNat_inj.1 e]; rfl)
      have : dval b = b.toNat - 48 := rfl
      omega
    have := Nat.mul_le_mul_right (10 ^ r.length) h2
    omega
theorem cmpC_num {a b : List UInt8} (ha : Digs a) (hb : Digs b) (h1 : a.head? ≠ some 48) (h2 : b.head? ≠ some 48) : cmpC a b = cmpZ (num a) (num b) := by
  unfold cmpC
  have n1 := num_lt ha
  have n2 := num_lt hb
  by_cases c1 : a.length < b.length
  · rw [if_pos c1]
    have n3 := num_low hb (by intro e; rw [e] at c1; simp at c1) h2
    have n4 : (10 : Nat) ^ a.length ≤ 10 ^ (b.length - 1) := Nat.pow_le_pow_right (by omega) (by omega)
    unfold cmpZ
    rw [if_pos (by omega)]
  · rw [if_neg c1]
    by_cases c2 : b.length < a.length
    · rw [if_pos c2]
      have n3 := num_low ha (by intro e; rw [e] at c2; simp at c2) h1
      have n4 : (10 : Nat) ^ b.length ≤ 10 ^ (a.length - 1) := Nat.pow_le_pow_right (by omega) (by omega)
      unfold cmpZ
      rw [if_neg (by omega), if_pos (by omega)]
    · rw [if_neg c2]
      exact cmpB_num a b ha hb (by omega)
end Go.Proofs.YthgjelpmdndceaaGreatDoor
