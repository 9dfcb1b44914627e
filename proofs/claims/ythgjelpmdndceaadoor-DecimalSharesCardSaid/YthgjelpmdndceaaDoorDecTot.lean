/- Layer 7: the sum of many, as a whole number of the least power. -/
import Derived.Test.YthgjelpmdndceaaDoorDecSum
import Derived.Test.YthgjelpmdndceaaDoorDecVal
namespace Go.Proofs.YthgjelpmdndceaaDoor

def totZ (k : Nat) (L : List Dec) : Int := L.foldl (fun s d => s + vl k d) 0
theorem totZ_snoc (k : Nat) (L : List Dec) (d : Dec) : totZ k (L ++ [d]) = totZ k L + vl k d := by simp [totZ]
theorem totZ_two (k : Nat) (a b : Dec) : totZ k [a, b] = vl k a + vl k b := by simp [totZ]
theorem join_val (s n : Bool) (m l : Nat) : sgZ (s != joinT m l (s != n)) (joinN m l (s != n)) = sgZ s m + sgZ n l := by
  unfold joinT joinN sgZ
  by_cases h : m < l
  · cases s <;> cases n <;> simp [h] <;> omega
  · cases s <;> cases n <;> simp [h] <;> omega
theorem sumS_val (e : Int) (k : Nat) (L : List Dec) (hk : -(k : Int) ≤ e) (h : ∀ d ∈ L, e ≤ d.exp) : sgZ (sumS e L).1 ((sumS e L).2 * 10 ^ (e + k).toNat) = totZ k L := by
  have key : ∀ M : List Dec, (∀ d ∈ M, e ≤ d.exp) → ∀ (s : Bool × Nat) (v : Int), sgZ s.1 (s.2 * 10 ^ (e + k).toNat) = v →
      sgZ (M.foldl (fun s d => (s.1 != joinT s.2 (lev d e) (s.1 != d.neg), joinN s.2 (lev d e) (s.1 != d.neg))) s).1 ((M.foldl (fun s d => (s.1 != joinT s.2 (lev d e) (s.1 != d.neg), joinN s.2 (lev d e) (s.1 != d.neg))) s).2 * 10 ^ (e + k).toNat) = M.foldl (fun s d => s + vl k d) v := by
    intro M
    induction M with
    | nil => intro _ s v hv; exact hv
    | cons d M ih =>
      intro hM s v hv
      rw [List.foldl_cons, List.foldl_cons]
      refine ih (fun x hx => hM x (List.mem_cons_of_mem _ hx)) _ _ ?_
      have he := hM d List.mem_cons_self
      simp only
      rw [sgZ_mul, join_val, Int.add_mul, ← sgZ_mul, hv]
      congr 1
      unfold vl lev
      rw [← sgZ_mul, Nat.mul_assoc, ← Nat.pow_add, show (d.exp - e).toNat + (e + k).toNat = (d.exp + k).toNat by omega]
  exact key L h (false, 0) 0 (by simp [sgZ])
theorem sum_lift {k : Nat} (hk : 1000 ≤ k) {L : List Dec} (h : ∀ d ∈ L, May d) : sumD L = ofZ k (totZ k L) ∧ sumE L = erZ k (totZ k L) := by
  obtain ⟨h1, h2, h3⟩ := minE_range L h
  have hv := sumS_val (minE L) k L (by omega) h3
  unfold sumD sumE
  have := mk_lift k (sumS (minE L) L).1 (sumS (minE L) L).2 (minE L) (by omega)
  rw [hv] at this
  exact this
end Go.Proofs.YthgjelpmdndceaaDoor
