/- Layer 7: the lower one of two powers. -/
import Derived.Test.YtlcbjikiodmlfaaGreatDoorPt16
import Derived.Test.YtlcbjikiodmlfaaGreatDoorPt01
namespace Go.Proofs.YtlcbjikiodmlfaaGreatDoor
open Go.RowKit

/-- The lower one of both powers. -/
def minX (a b : Dec) : Int := min a.exp b.exp
end Go.Proofs.YtlcbjikiodmlfaaGreatDoor
/- Of no program: how the product of two numbers in words is built up, word by word. -/
namespace Go.Proofs.YtlcbjikiodmlfaaGreatDoor

theorem wat_cons_succ (x : Nat) (r : List Nat) (p : Nat) : wat (x :: r) (p + 1) = wat r p := by simp [wat]
theorem wat_cons_zero (x : Nat) (r : List Nat) : wat (x :: r) 0 = x := by simp [wat]
theorem wval_set (l : List Nat) (p v : Nat) (hp : p < l.length) : wval (l.set p v) + wat l p * 1000000000 ^ p = wval l + v * 1000000000 ^ p := by
  induction l generalizing p with
  | nil => simp at hp
  | cons x r ih =>
    cases p with
    | zero =>
      rw [List.set_cons_zero, wat_cons_zero]
      show v + 1000000000 * wval r + x * 1000000000 ^ 0 = x + 1000000000 * wval r + v * 1000000000 ^ 0
      simp only [Nat.pow_zero, Nat.mul_one]
      omega
    | succ p =>
      have h := ih p (by simpa using hp)
      rw [List.set_cons_succ, wat_cons_succ]
      show x + 1000000000 * wval (r.set p v) + wat r p * 1000000000 ^ (p + 1) = x + 1000000000 * wval r + v * 1000000000 ^ (p + 1)
      have e1 : wat r p * 1000000000 ^ (p + 1) = 1000000000 * (wat r p * 1000000000 ^ p) := by rw [Nat.pow_succ, Nat.mul_comm (1000000000 ^ p), ← Nat.mul_assoc, ← Nat.mul_assoc, Nat.mul_comm (wat r p)]
      have e2 : v * 1000000000 ^ (p + 1) = 1000000000 * (v * 1000000000 ^ p) := by rw [Nat.pow_succ, Nat.mul_comm (1000000000 ^ p), ← Nat.mul_assoc, ← Nat.mul_assoc, Nat.mul_comm v]
      rw [e1, e2]
      omega
theorem wat_set (l : List Nat) (p v q : Nat) (hp : p < l.length) : wat (l.set p v) q = if q = p then v else wat l q := by
  unfold wat
  rw [List.getD_eq_getElem?_getD, List.getElem?_set]
  by_cases h : p = q
  · subst h; simp [hp]
  · rw [if_neg h, if_neg (fun e => h e.symm), ← List.getD_eq_getElem?_getD]
theorem Words.set {l : List Nat} (h : Words l) (p : Nat) {v : Nat} (hv : v < 1000000000) : Words (l.set p v) := fun x hx => by
  rcases List.mem_or_eq_of_mem_set hx with h1 | h1
  · exact h x h1
  · rw [h1]; exact hv
/-- The product behind i words of the first number, and j of the second one beside the next. -/
structure MulI (a b : List Nat) (i j kept : Nat) (n : List Nat) : Prop where
  len : n.length = a.length + b.length
  words : Words n
  small : kept < 1000000000
  zero : ∀ p, i + b.length ≤ p → wat n p = 0
  val : wval n + kept * 1000000000 ^ (i + j) = wtk a i * wval b + wat a i * wtk b j * 1000000000 ^ i
theorem MulI.start (a b : List Nat) : MulI a b 0 0 0 (List.replicate (a.length + b.length) 0) :=
  ⟨by simp, Words.zeros _, by decide, fun p _ => by simp [wat, List.getD_eq_getElem?_getD, List.getElem?_replicate]; split <;> rfl, by rw [wval_zeros, wtk_zero, wtk_zero]; simp⟩
theorem MulI.bound {a b n : List Nat} {i j kept : Nat} (h : MulI a b i j kept n) (ha : Words a) (hb : Words b) : wat a i * wat b j ≤ 999999998000000001 ∧ kept + (wat n (i + j) + wat a i * wat b j) ≤ 999999999999999999 := by
  have h1 := wat_lt ha i
  have h2 := wat_lt hb j
  have h3 := wat_lt h.words (i + j)
  have h4 := h.small
  have h5 : wat a i * wat b j ≤ 999999999 * 999999999 := Nat.mul_le_mul (by omega) (by omega)
  omega
theorem MulI.step {a b n : List Nat} {i j kept : Nat} (h : MulI a b i j kept n) (ha : Words a) (hb : Words b) (hi : i < a.length) (hj : j < b.length) :
    MulI a b i (j + 1) ((kept + (wat n (i + j) + wat a i * wat b j)) / 1000000000) (n.set (i + j) ((kept + (wat n (i + j) + wat a i * wat b j)) % 1000000000)) := by
  have hbd := (h.bound ha hb).2
  have hp : i + j < n.length := by rw [h.len]; omega
  have hs := wval_set n (i + j) ((kept + (wat n (i + j) + wat a i * wat b j)) % 1000000000) hp
  refine ⟨by rw [List.length_set]; exact h.len, h.words.set _ (by omega), by omega, fun p hpp => ?_, ?_⟩
  · rw [wat_set _ _ _ _ hp, if_neg (by omega)]; exact h.zero p hpp
  · have hv := h.val
    obtain ⟨K, hK⟩ : ∃ K, K = kept + (wat n (i + j) + wat a i * wat b j) := ⟨_, rfl⟩
    rw [← hK] at hs ⊢
    obtain ⟨q, hq⟩ : ∃ q, q = K / 1000000000 := ⟨_, rfl⟩
    obtain ⟨r, hr⟩ : ∃ r, r = K % 1000000000 := ⟨_, rfl⟩
    rw [← hq]
    rw [← hr] at hs ⊢
    have hqr : r + 1000000000 * q = K := by omega
    rw [wtk_succ]
    have hpw : (1000000000 : Nat) ^ (i + (j + 1)) = 1000000000 * 1000000000 ^ (i + j) := by rw [← Nat.add_assoc, Nat.pow_succ, Nat.mul_comm]
    have hx : wat a i * (wtk b j + 1000000000 ^ j * wat b j) * 1000000000 ^ i = wat a i * wtk b j * 1000000000 ^ i + wat a i * wat b j * 1000000000 ^ (i + j) := by
      rw [Nat.mul_add, Nat.add_mul, Nat.pow_add]
      congr 1
      rw [Nat.mul_comm (1000000000 ^ j) (wat b j), ← Nat.mul_assoc, Nat.mul_assoc _ (1000000000 ^ j), Nat.mul_comm (1000000000 ^ j)]
    rw [hx, hpw]
    generalize hPP : (1000000000 : Nat) ^ (i + j) = P at *
    generalize wat a i * wtk b j * 1000000000 ^ i = R1 at *
    generalize wtk a i * wval b = R0 at *
    generalize wat a i * wat b j = m at *
    generalize wat n (i + j) = u at *
    have e1 : (r + 1000000000 * q) * P = (kept + (u + m)) * P := by rw [hqr, hK]
    have e2 : q * (1000000000 * P) = 1000000000 * q * P := by rw [← Nat.mul_assoc, Nat.mul_comm q]
    rw [e2]
    simp only [Nat.add_mul] at e1
    omega
theorem MulI.next {a b n : List Nat} {i kept : Nat} (h : MulI a b i b.length kept n) (hi : i < a.length) :
    MulI a b (i + 1) 0 0 (n.set (i + b.length) kept) := by
  have hp : i + b.length < n.length := by rw [h.len]; omega
  have hs := wval_set n (i + b.length) kept hp
  have hz := h.zero (i + b.length) (Nat.le_refl _)
  refine ⟨by rw [List.length_set]; exact h.len, h.words.set _ h.small, by decide, fun p hpp => ?_, ?_⟩
  · rw [wat_set _ _ _ _ hp, if_neg (by omega)]; exact h.zero p (by omega)
  · have hv := h.val
    rw [hz, Nat.zero_mul, Nat.add_zero] at hs
    rw [hs, wtk_zero, wtk_succ, hv, wtk_all b (Nat.le_refl _)]
    simp only [Nat.zero_mul, Nat.mul_zero, Nat.add_zero]
    rw [Nat.add_mul]
    congr 1
    rw [Nat.mul_assoc, Nat.mul_comm (wval b), ← Nat.mul_assoc, Nat.mul_comm (wat a i)]
theorem MulI.done {a b n : List Nat} (h : MulI a b a.length 0 0 n) : crop n = wds (wval a * wval b) := by
  rw [← wds_wval h.words]
  congr 1
  have hv := h.val
  rw [wtk_all a (Nat.le_refl _), wtk_zero] at hv
  simpa using hv
end Go.Proofs.YtlcbjikiodmlfaaGreatDoor
