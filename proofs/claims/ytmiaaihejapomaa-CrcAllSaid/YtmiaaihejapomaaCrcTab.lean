/- The table of layer 1, as it is filled: cells of a block, by the turns of two loops. No program is named here. -/
import Derived.Test.YtmiaaihejapomaaCrcMath
import Derived.Test.YtmiaaihejapomaaMem
namespace Go.Proofs.Ytmiaaihejapomaa.Crc
open Go.RowKit

def zeros (k : IntKind) : Array Value := tabOf k 256 fun _ => 0
def tabFrom (k : IntKind) (t d : Nat) : Array Value := tabOf k 256 fun j => if j % d = 0 then T t j else 0
def tabFill (k : IntKind) (t d c : Nat) : Array Value := tabOf k 256 (fill t d c)
def tabDone (k : IntKind) (t : Nat) : Array Value := tabOf k 256 (T t)
theorem tabFrom_start (k : IntKind) (t : Nat) : zeros k = tabFrom k t 256 := by
  refine tabOf_congr _ _ fun j hj => ?_
  by_cases h : j = 0
  · subst h; exact (T_zero t).symm
  · show 0 = if j % 256 = 0 then T t j else 0
    rw [if_neg (by omega)]
theorem tabFrom_one (k : IntKind) (t : Nat) : tabFrom k t 1 = tabDone k t := by
  refine tabOf_congr _ _ fun j _ => ?_
  rw [if_pos (Nat.mod_one j)]
theorem tabFill_start (k : IntKind) (t d : Nat) : tabFrom k t (2 * d) = tabFill k t d 0 := by
  refine tabOf_congr _ _ fun j _ => ?_
  have e : (j % (2 * d) = 0 ∨ j % d = 0 ∧ j < 0 * (2 * d)) ↔ j % (2 * d) = 0 := by omega
  show (if j % (2 * d) = 0 then T t j else 0) = if j % (2 * d) = 0 ∨ j % d = 0 ∧ j < 0 * (2 * d) then T t j else 0
  simp only [e]
theorem mod_half {j d : Nat} (h : j % (2 * d) = 0) : j % d = 0 := by
  have := Nat.mod_mod_of_dvd j (Nat.dvd_mul_left d 2)
  rw [h] at this
  simpa using this.symm
theorem tabFill_end (k : IntKind) (t d c : Nat) (hc : 256 ≤ c * (2 * d)) : tabFill k t d c = tabFrom k t d := by
  refine tabOf_congr _ _ fun j hj => ?_
  have e : (j % (2 * d) = 0 ∨ j % d = 0 ∧ j < c * (2 * d)) ↔ j % d = 0 := by
    constructor
    · rintro (h | h)
      · exact mod_half h
      · exact h.1
    · intro h; exact .inr ⟨h, by omega⟩
  show (if j % (2 * d) = 0 ∨ j % d = 0 ∧ j < c * (2 * d) then T t j else 0) = if j % d = 0 then T t j else 0
  simp only [e]
theorem tabFill_get (k : IntKind) (t d c : Nat) (h : c * (2 * d) < 256) : (tabFill k t d c)[c * (2 * d)]? = some (.int k (T t (c * (2 * d)) : Int)) := by
  rw [tabFill, tabOf_get _ _ _ h]
  unfold fill
  rw [if_pos (.inl (Nat.mul_mod_left _ _))]
theorem tabFill_there (k : IntKind) (t d c i : Nat) (h : i < 256) : (tabFill k t d c)[i]? = some (.int k (fill t d c i : Int)) := by
  rw [tabFill, tabOf_get _ _ _ h]
theorem tabFill_set (k : IntKind) (t d c : Nat) (hd : 0 < d) : (tabFill k t d c).setIfInBounds (c * (2 * d) + d) (.int k (T t (c * (2 * d) + d) : Int)) = tabFill k t d (c + 1) := by
  rw [tabFill, tabOf_set]
  refine tabOf_congr _ _ fun j _ => ?_
  have hmul : (c + 1) * (2 * d) = c * (2 * d) + 2 * d := by rw [Nat.add_mul]; omega
  have hc2 : c * (2 * d) = d * (2 * c) := by simp [Nat.mul_comm, Nat.mul_left_comm]
  by_cases h : j = c * (2 * d) + d
  · rw [if_pos h]
    have a1 : j % d = 0 := by rw [h, hc2, Nat.mul_add_mod]; simp
    have a2 : j < (c + 1) * (2 * d) := by rw [hmul]; omega
    unfold fill
    rw [if_pos (.inr ⟨a1, a2⟩), h]
  · rw [if_neg h]
    unfold fill
    have e : (j % (2 * d) = 0 ∨ j % d = 0 ∧ j < c * (2 * d)) ↔ (j % (2 * d) = 0 ∨ j % d = 0 ∧ j < (c + 1) * (2 * d)) := by
      rw [hmul]
      constructor
      · rintro (h1 | h1)
        · exact .inl h1
        · exact .inr ⟨h1.1, by omega⟩
      · rintro (h1 | ⟨h1, h2⟩)
        · exact .inl h1
        · by_cases h3 : j < c * (2 * d)
          · exact .inr ⟨h1, h3⟩
          · left
            obtain ⟨r, hr⟩ : ∃ r, j = c * (2 * d) + r := ⟨j - c * (2 * d), by omega⟩
            have h4 : r % d = 0 := by rw [hr, hc2, Nat.mul_add_mod] at h1; exact h1
            have h5 : r = 0 := by
              by_cases hrd : r < d
              · rw [Nat.mod_eq_of_lt hrd] at h4; exact h4
              · rw [Nat.mod_eq_sub_mod (by omega), Nat.mod_eq_of_lt (by omega)] at h4
                omega
            rw [hr, h5]; simp
    simp only [e]
theorem zeros_size (k : IntKind) : (zeros k).size = 256 := tabOf_size _ _ _
/-- What the inner loop hands to the outer one: the two new blocks, and that nothing else has turned. -/
def Filled (w wr : World) (k : IntKind) (T : TypeId) (cs : Array Value) : Prop :=
  Row wr w.heap.size T (zeros k) ∧ Row wr (w.heap.size + 1) T cs ∧ Below w.heap.size w wr

/-- The places of a turn lie in the table. -/
theorem turn_lt {k c : Nat} (hk : k + 1 ≤ 8) (h : c * (2 * 2 ^ k) < 256) : c * (2 * 2 ^ k) + 2 * 2 ^ k ≤ 256 := by
  have e : 256 = 2 ^ (7 - k) * (2 * 2 ^ k) := by
    rw [show 2 * 2 ^ k = 2 ^ (k + 1) by rw [Nat.pow_succ]; omega, ← Nat.pow_add, show 7 - k + (k + 1) = 8 by omega]
  have h1 : c < 2 ^ (7 - k) := by
    rcases Nat.lt_or_ge c (2 ^ (7 - k)) with h2 | h2
    · exact h2
    · have := Nat.mul_le_mul_right (2 * 2 ^ k) h2; omega
  have := Nat.mul_le_mul_right (2 * 2 ^ k) (show c + 1 ≤ 2 ^ (7 - k) from h1)
  rw [Nat.add_mul] at this
  omega
theorem T_turn (t k c : Nat) : T t (c * (2 * 2 ^ k)) ^^^ T t (2 ^ k) = T t (c * (2 * 2 ^ k) + 2 ^ k) := by
  have e : c * (2 * 2 ^ k) = 2 ^ (k + 1) * c := by rw [Nat.pow_succ, Nat.mul_comm 2, Nat.mul_comm c]
  rw [e, T_add]
end Go.Proofs.Ytmiaaihejapomaa.Crc
