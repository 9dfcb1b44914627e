/- Layer 7: multiples, and the least number of two's (of no program). -/
import Derived.Test.YthgjelpmdndceaaDoorDecQuo6
import Derived.Test.YthgjelpmdndceaaDoorDecWhole
namespace Go.Proofs.YthgjelpmdndceaaDoor

theorem lev_low {d : Dec} {e : Int} (k : Nat) (h : e ≤ d.exp) : lev d (e - k) = lev d e * 10 ^ k := by
  unfold lev
  rw [show (d.exp - (e - k)).toNat = (d.exp - e).toNat + k by omega, Nat.pow_add, Nat.mul_assoc]
theorem mod_scale (p q k : Nat) : decide (p * 10 ^ k % (q * 10 ^ k) = 0) = decide (p % q = 0) := by
  rw [Nat.mul_mod_mul_right, decide_eq_decide]
  have : 0 < 10 ^ k := Nat.pow_pos (by omega)
  constructor
  · intro h
    rcases Nat.mul_eq_zero.1 h with h | h
    · exact h
    · omega
  · intro h; rw [h, Nat.zero_mul]
theorem mult_at {a b : Dec} {F : Int} (ha : F ≤ a.exp) (hb : F ≤ b.exp) : decide (lev a (minX a b) % lev b (minX a b) = 0) = decide (lev a F % lev b F = 0) := by
  obtain ⟨k, hk⟩ : ∃ k : Nat, F = minX a b - k := ⟨(minX a b - F).toNat, by unfold minX; omega⟩
  rw [hk, lev_low k (by unfold minX; omega), lev_low k (by unfold minX; omega), mod_scale]
theorem lev_dec (neg : Bool) {n : Nat} (hn : 0 < n) (e : Int) : lev (dec neg n e) e = n := by
  rw [dec_pos neg hn]
  unfold lev
  simp only
  rw [num_dig, show (e + tz n - e).toNat = tz n by omega, core_mul]
theorem dec_exp (neg : Bool) {n : Nat} (hn : 0 < n) (e : Int) : e ≤ (dec neg n e).exp := by
  rw [dec_pos neg hn]; simp only; omega
theorem comN_lcm (x y : Nat) : comN x y = Nat.lcm x y := by
  unfold comN Nat.lcm
  exact Nat.div_mul_right_comm (Nat.gcd_dvd_left x y) y
theorem shr_sym (a b : Dec) : comD b a = comD a b ∧ comE b a = comE a b := by
  unfold comD comE comOk minX
  rw [Bool.and_comm, Int.min_comm, comN_lcm, comN_lcm, Nat.lcm_comm]
  exact ⟨rfl, rfl⟩
/-- What is known of the least number of two's. -/
structure Com (a b c : Dec) (E : Int) (N : Nat) : Prop where
  ea : E ≤ a.exp
  eb : E ≤ b.exp
  ec : E ≤ c.exp
  abA : aboveB a = true
  abB : aboveB b = true
  abC : aboveB c = true
  lc : lev c E = N
  lcm : N = Nat.lcm (lev a E) (lev b E)
theorem com_ok {a b : Dec} (h : comE a b = 0) : Com a b (comD a b) (minX a b) (comN (lev a (minX a b)) (lev b (minX a b))) := by
  have hok : comOk a b = true := by
    cases e : comOk a b with
    | true => rfl
    | false => unfold comE at h; rw [e] at h; simp at h
  obtain ⟨ha, hb⟩ : aboveB a = true ∧ aboveB b = true := by unfold comOk at hok; simpa using hok
  have hN : 0 < comN (lev a (minX a b)) (lev b (minX a b)) := by
    rw [comN_lcm]; exact Nat.lcm_pos (lev_pos ha _) (lev_pos hb _)
  have hm : mayB (dec false (comN (lev a (minX a b)) (lev b (minX a b))) (minX a b)) = true := by
    unfold comE mkE at h
    rw [hok, if_pos rfl] at h
    cases e : mayB (dec false (comN (lev a (minX a b)) (lev b (minX a b))) (minX a b)) with
    | true => rfl
    | false => rw [e] at h; simp at h
  have hc : comD a b = dec false (comN (lev a (minX a b)) (lev b (minX a b))) (minX a b) := by
    unfold comD mkD
    rw [hok, if_pos rfl, hm, if_pos rfl]
  rw [hc]
  refine ⟨by unfold minX; omega, by unfold minX; omega, dec_exp _ hN _, ha, hb, ?_, lev_dec _ hN _, comN_lcm _ _⟩
  unfold aboveB
  rw [hm, dec_pos _ hN]
  have : dig (core (comN (lev a (minX a b)) (lev b (minX a b)))) ≠ [] := by
    intro e
    have h1 := num_dig (core (comN (lev a (minX a b)) (lev b (minX a b))))
    have h2 := core_pos hN
    rw [e] at h1
    have h3 : num [] = 0 := rfl
    omega
  simp [this]
theorem multE_of {a b : Dec} (h : mayB a = true) (h2 : aboveB b = true) : multE a b = 0 ∧ multB a b = decide (lev a (minX a b) % lev b (minX a b) = 0) := by
  unfold multE multB mulOk
  rw [h, h2]
  exact ⟨rfl, rfl⟩
theorem one_ok {a b : Dec} (h : comE a b = 0) : multB (comD a b) a = true ∧ multE (comD a b) a = 0 ∧ multB (comD a b) b = true ∧ multE (comD a b) b = 0 := by
  have c := com_ok h
  have h1 := multE_of (above_may c.abC) c.abA
  have h2 := multE_of (above_may c.abC) c.abB
  refine ⟨?_, h1.1, ?_, h2.1⟩
  · rw [h1.2, mult_at c.ec c.ea, c.lc, decide_eq_true_iff, c.lcm]
    exact Nat.mod_eq_zero_of_dvd (Nat.dvd_lcm_left _ _)
  · rw [h2.2, mult_at c.ec c.eb, c.lc, decide_eq_true_iff, c.lcm]
    exact Nat.mod_eq_zero_of_dvd (Nat.dvd_lcm_right _ _)
theorem r_ok {x a b : Dec} (h : comE a b = 0) (hx : mayB x = true) : multB x (comD a b) = (multB x a && multB x b) ∧ multE x a = 0 ∧ multE x b = 0 ∧ multE x (comD a b) = 0 := by
  have c := com_ok h
  have h1 := multE_of hx c.abA
  have h2 := multE_of hx c.abB
  have h3 := multE_of hx c.abC
  refine ⟨?_, h1.1, h2.1, h3.1⟩
  generalize hE : minX a b = E at *
  generalize hN : comN (lev a E) (lev b E) = N at *
  obtain ⟨k, hk⟩ : ∃ k : Nat, min x.exp E = E - k := ⟨(E - min x.exp E).toNat, by omega⟩
  have hF : E - (k : Int) ≤ x.exp := by omega
  have ea := c.ea; have eb := c.eb; have ec := c.ec
  rw [h1.2, h2.2, h3.2, mult_at (F := E - k) hF (by omega), mult_at (F := E - k) hF (by omega), mult_at (F := E - k) hF (by omega), lev_low k ea, lev_low k eb, lev_low k ec, c.lc, c.lcm]
  generalize lev x (E - k) = X
  generalize lev a E = A
  generalize lev b E = B
  rw [← Nat.lcm_mul_right, Bool.eq_iff_iff]
  simp only [Bool.and_eq_true, decide_eq_true_eq]
  constructor
  · intro h9
    have h8 := Nat.dvd_of_mod_eq_zero h9
    exact ⟨Nat.mod_eq_zero_of_dvd (Nat.dvd_trans (Nat.dvd_lcm_left _ _) h8), Nat.mod_eq_zero_of_dvd (Nat.dvd_trans (Nat.dvd_lcm_right _ _) h8)⟩
  · rintro ⟨h8, h9⟩
    exact Nat.mod_eq_zero_of_dvd (Nat.lcm_dvd (Nat.dvd_of_mod_eq_zero h8) (Nat.dvd_of_mod_eq_zero h9))
theorem z_ok {x a b : Dec} (h : comE a b = 0) (hw : wholeB x = true) (hz : mulRE x (comD a b) = 0) : multB (mulR x (comD a b)) a = true ∧ multE (mulR x (comD a b)) a = 0 := by
  have c := com_ok h
  obtain ⟨hx, h0⟩ : mayB x = true ∧ 0 ≤ x.exp := by unfold wholeB at hw; simpa using hw
  unfold mulRE at hz
  unfold mulR
  rw [if_pos ⟨hx, above_may c.abC⟩] at hz ⊢
  unfold mulE mkE at hz
  unfold mulD
  generalize comD a b = cc at *
  have hm : mayB (dec (x.neg != cc.neg) (num x.digits * num cc.digits) (x.exp + cc.exp)) = true := by
    cases e : mayB (dec (x.neg != cc.neg) (num x.digits * num cc.digits) (x.exp + cc.exp)) with
    | true => rfl
    | false => rw [e] at hz; simp at hz
  have hz2 : mkD (x.neg != cc.neg) (num x.digits * num cc.digits) (x.exp + cc.exp) = dec (x.neg != cc.neg) (num x.digits * num cc.digits) (x.exp + cc.exp) := by unfold mkD; rw [hm, if_pos rfl]
  rw [hz2]
  have h1 := multE_of hm c.abA
  refine ⟨?_, h1.1⟩
  rw [h1.2]
  rcases Nat.eq_zero_or_pos (num x.digits * num cc.digits) with e0 | e0
  · rw [e0, dec_zero, decide_eq_true_iff]
    have : lev Dec.zero (minX Dec.zero a) = 0 := by
      unfold lev
      show num [] * _ = 0
      rw [show num [] = 0 by rfl, Nat.zero_mul]
    rw [this, Nat.zero_mod]
  · have hexp := dec_exp (x.neg != cc.neg) e0 (x.exp + cc.exp)
    have ec := c.ec
    rw [mult_at (F := minX a b) (by omega) c.ea, decide_eq_true_iff]
    obtain ⟨k, hk⟩ : ∃ k : Nat, minX a b = x.exp + cc.exp - k := ⟨(x.exp + cc.exp - minX a b).toNat, by omega⟩
    have hl : lev (dec (x.neg != cc.neg) (num x.digits * num cc.digits) (x.exp + cc.exp)) (minX a b) = num x.digits * 10 ^ x.exp.toNat * lev cc (minX a b) := by
      conv => lhs; rw [hk]
      rw [lev_low k hexp, lev_dec _ e0]
      unfold lev
      rw [show k = x.exp.toNat + (cc.exp - minX a b).toNat by omega, Nat.pow_add]
      generalize 10 ^ x.exp.toNat = u
      generalize 10 ^ (cc.exp - minX a b).toNat = v
      simp only [Nat.mul_assoc, Nat.mul_left_comm]
    rw [hl, c.lc, c.lcm]
    exact Nat.mod_eq_zero_of_dvd (Nat.dvd_trans (Nat.dvd_lcm_left _ _) (Nat.dvd_mul_left _ _))
end Go.Proofs.YthgjelpmdndceaaDoor
