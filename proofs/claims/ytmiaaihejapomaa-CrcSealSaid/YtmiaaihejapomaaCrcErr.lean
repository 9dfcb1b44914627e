/- One byte changed is another sum. Plain arithmetic; no program is named here. -/
import Derived.Test.YtmiaaihejapomaaCrcMath
namespace Go.Proofs.Ytmiaaihejapomaa.Crc

theorem dn_ne (t w : Nat) (ht : t.testBit 31 = true) (hw : w < 4294967296) (h0 : w ≠ 0) : dn t w ≠ 0 := by
  unfold dn
  split
  · intro h
    have h1 : (w / 2 ^^^ t).testBit 31 = false := by rw [h]; simp
    rw [Nat.testBit_xor, ht, Nat.testBit_lt_two_pow (show w / 2 < 2 ^ 31 by omega)] at h1
    cases h1
  · omega
theorem dnN_ne (t k w : Nat) (ht : t.testBit 31 = true) (htl : t < 4294967296) (hw : w < 4294967296) (h0 : w ≠ 0) : dnN t k w ≠ 0 := by
  induction k generalizing w with
  | zero => exact h0
  | succ k ih => exact ih _ (dn_lt 32 t w htl hw) (dn_ne t w ht hw h0)

theorem run_xor (t r d : Nat) (l : List Nat) : run t (r ^^^ d) l = run t r l ^^^ dnN t (8 * l.length) d := by
  induction l generalizing r d with
  | nil => simp [run, dnN]
  | cons x l ih =>
    show run t (dnN t 8 ((r ^^^ d) ^^^ x)) l = run t (dnN t 8 (r ^^^ x)) l ^^^ _
    have e : (r ^^^ d) ^^^ x = (r ^^^ x) ^^^ d := by ac_rfl
    rw [e, dnN_xor, ih]
    congr 1

/-- Another byte at one place: another sum. -/
theorem sum_other (a b : List Nat) (x d : Nat) (hd : d < 256) (h0 : d ≠ 0) : sumL (a ++ (x ^^^ d) :: b) ≠ sumL (a ++ x :: b) := by
  intro h
  have h1 : run 3988292384 (0 ^^^ 4294967295) (a ++ (x ^^^ d) :: b) = run 3988292384 (0 ^^^ 4294967295) (a ++ x :: b) := by
    have := congrArg (· ^^^ 4294967295) h
    simpa [sumL, moreL, Nat.xor_assoc] using this
  rw [run_append, run_append] at h1
  have e : run 3988292384 (run 3988292384 (0 ^^^ 4294967295) a) ((x ^^^ d) :: b) = run 3988292384 (dnN 3988292384 8 (run 3988292384 (0 ^^^ 4294967295) a ^^^ x) ^^^ dnN 3988292384 8 d) b := by
    show run _ (dnN _ 8 (_ ^^^ (x ^^^ d))) b = _
    rw [← Nat.xor_assoc, dnN_xor]
  rw [e, run_xor] at h1
  have h2 : dnN 3988292384 (8 * b.length) (dnN 3988292384 8 d) = 0 := by
    have h3 : run 3988292384 (dnN 3988292384 8 (run 3988292384 (0 ^^^ 4294967295) a ^^^ x)) b = run 3988292384 (run 3988292384 (0 ^^^ 4294967295) a) (x :: b) := rfl
    rw [h3] at h1
    have h4 := congrArg (run 3988292384 (run 3988292384 (0 ^^^ 4294967295) a) (x :: b) ^^^ ·) h1
    simpa [xor_self_left] using h4
  refine dnN_ne _ _ _ (by decide) (by decide) (dnN_lt 32 _ 8 d (by decide) (by omega)) (dnN_ne _ _ _ (by decide) (by decide) (by omega) h0) h2
end Go.Proofs.Ytmiaaihejapomaa.Crc
