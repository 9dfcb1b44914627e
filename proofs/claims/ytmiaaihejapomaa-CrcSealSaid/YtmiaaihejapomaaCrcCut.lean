/- A remainder that is a place. Plain numbers. -/
import Derived.IntWalk
import Derived.WalkKit
namespace Go.Proofs.Ytmiaaihejapomaa
open Go.RowKit

/-- Where the bytes are cut. -/
theorem cut_there (cut : Int) (n : Nat) (h0 : 0 < n) (hn : n ≤ 30000) : ∃ k : Nat, k < n ∧ (wrap64 (cut.tmod n + n)).tmod n = (k : Int) := by
  have h1 : -(n : Int) < cut.tmod n := Int.lt_tmod_of_pos _ (by omega)
  have h2 : cut.tmod n < (n : Int) := Int.tmod_lt_of_pos _ (by omega)
  have e : wrap64 (cut.tmod n + n) = cut.tmod n + n := IntWalk.wrap64_in _ ⟨by omega, by omega⟩
  rw [e]
  have h3 : 0 ≤ (cut.tmod n + n).tmod n := Int.tmod_nonneg _ (by omega)
  have h4 : (cut.tmod n + n).tmod n < (n : Int) := Int.tmod_lt_of_pos _ (by omega)
  exact ⟨((cut.tmod n + n).tmod n).toNat, by omega, by omega⟩

end Go.Proofs.Ytmiaaihejapomaa
