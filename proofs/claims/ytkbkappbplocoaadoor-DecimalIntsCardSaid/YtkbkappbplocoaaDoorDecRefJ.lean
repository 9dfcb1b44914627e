/- Layer 7: the document's Int. -/
import Derived.Test.YtkbkappbplocoaaDoorDecRefI
namespace Go.Proofs.YtkbkappbplocoaaDoor
open Go.RowKit

theorem cmpB_num : ∀ (a b : List UInt8), Digs a → Digs b → a.length = b.length → cmpB a b = cmpZ (num a) (num b)
  | [], [], _, _, _ => rfl
  | [], _ :: _, _, _, h => by simp at h
  | _ :: _, [], _, _, h => by simp at h
  | x :: l, y :: m, ha, hb, h => by
    have hl : l.length = m.length := by simpa using h
    have ih := cmpB_num l m (fun z hz => ha z (by simp [hz])) (fun z hz => hb z (by simp [hz])) hl
    have hx := ha x (by simp)
    have hy := hb y (by simp)
    have n1 := num_lt (l := l) (fun z hz => ha z (by simp [hz]))
    have n2 := num_lt (l := m) (fun z hz => hb z (by simp [hz]))
    show (if x.toNat < y.toNat then -1 else if y.toNat < x.toNat then 1 else cmpB l m) = _
    rw [num_cons, num_cons, ih, hl]
    rw [hl] at n1
    have x1 := isDig_lo hx
    have y1 := isDig_lo hy
    have dx : dval x = x.toNat - 48 := rfl
    have dy : dval y = y.toNat - 48 := rfl
    generalize hp : (10 : Nat) ^ m.length = p at *
    by_cases c1 : x.toNat < y.toNat
    · rw [if_pos c1]
      have : (dval x + 1) * p ≤ dval y * p := Nat.mul_le_mul_right p (by omega)
      rw [Nat.add_mul] at this
      unfold cmpZ
      rw [if_pos (by omega)]
    · rw [if_neg c1]
      by_cases c2 : y.toNat < x.toNat
      · rw [if_pos c2]
        have : (dval y + 1) * p ≤ dval x * p := Nat.mul_le_mul_right p (by omega)
        rw [Nat.add_mul] at this
        unfold cmpZ
        rw [if_neg (by omega), if_pos (by omega)]
      · rw [if_neg c2]
        have e : dval x = dval y := by omega
        rw [e]
        unfold cmpZ
        split <;> split <;> (try split) <;> (try split) <;> omega
theorem num_low {l : List UInt8} (h : Digs l) (h0 : l ≠ []) (h1 : l.head? ≠ some 48) : 10 ^ (l.length - 1) ≤ num l := by
  cases l with
  | nil => exact absurd rfl h0
  | cons b r =>
    rw [num_cons, List.length_cons, Nat.add_sub_cancel]
    have hb := h b (by simp)
    have h2 : 1 ≤ dval b := by
      have := isDig_lo hb
      have h3 : b.toNat ≠ 48 := fun e => h1 (by rw [show b = 48 from UInt8.toNat_inj.1 e]; rfl)
      have : dval b = b.toNat - 48 := rfl
      omega
    have := Nat.mul_le_mul_right (10 ^ r.length) h2
    omega
theorem cmpC_num {a b : List UInt8} (ha : Digs a) (hb : Digs b) (h1 : a.head? ≠ some 48) (h2 : b.head? ≠ some 48) : cmpC a b = cmpZ (num a) (num b) := by
  unfold cmpC
  have n1 := num_lt ha
  have n2 := num_lt hb
  by_cases c1 : a.length < b.length
  · rw [if_pos c1]
    have n3 := num_low hb (by intro e; rw [e] at c1; simp at c1) h2
    have n4 : (10 : Nat) ^ a.length ≤ 10 ^ (b.length - 1) := Nat.pow_le_pow_right (by omega) (by omega)
    unfold cmpZ
    rw [if_pos (by omega)]
  · rw [if_neg c1]
    by_cases c2 : b.length < a.length
    · rw [if_pos c2]
      have n3 := num_low ha (by intro e; rw [e] at c2; simp at c2) h1
      have n4 : (10 : Nat) ^ b.length ≤ 10 ^ (a.length - 1) := Nat.pow_le_pow_right (by omega) (by omega)
      unfold cmpZ
      rw [if_neg (by omega), if_pos (by omega)]
    · rw [if_neg c2]
      exact cmpB_num a b ha hb (by omega)
/-- The greatest one, and the least one's digits. -/
def mostL (neg : Bool) : List UInt8 := [57, 50, 50, 51, 51, 55, 50, 48, 51, 54, 56, 53, 52, 55, 55, 53, 56, 48, bif neg then 56 else 55]
theorem mostL_num (neg : Bool) : num (mostL neg) = bif neg then 9223372036854775808 else 9223372036854775807 := by cases neg <;> kernel_rfl
theorem intR_ref {d : Dec} (hm : May d) (h0 : 0 ≤ d.exp) : intR d = if cmpC (d.digits ++ zeros d.exp.toNat) (mostL d.neg) ≤ 0 then ((if d.neg then -(num (d.digits ++ zeros d.exp.toNat) : Int) else num (d.digits ++ zeros d.exp.toNat)), true) else (0, false) := by
  have hd : Digs (d.digits ++ zeros d.exp.toNat) := hm.digs.append (Digs.zeros _)
  have hh : (d.digits ++ zeros d.exp.toNat).head? ≠ some 48 := by
    by_cases h : d.digits = []
    · rw [h, (hm.nil h).2]; simp [zeros]
    · have h9 := hm.head
      cases hc : d.digits with
      | nil => exact absurd hc h
      | cons b r => rw [hc] at h9; simpa using h9
  have hmd : Digs (mostL d.neg) := allDig_iff.1 (by cases d.neg <;> kernel_rfl)
  have hmh : (mostL d.neg).head? ≠ some 48 := by unfold mostL; simp
  rw [cmpC_num hd hmd hh hmh, mostL_num]
  have hn : num (d.digits ++ zeros d.exp.toNat) = num d.digits * 10 ^ d.exp.toNat := num_zeros_behind _ _
  rw [hn]
  have hw : wholeB d = true := by unfold wholeB; rw [(mayB_iff d).2 hm, decide_eq_true h0]; rfl
  have hlow : 19 < (d.digits.length : Int) + d.exp → 9223372036854775808 < num d.digits * 10 ^ d.exp.toNat := fun h => by
    have hne : d.digits ≠ [] := fun e => by have := (hm.nil e).2; rw [e, this] at h; simp at h
    have h1 := num_low hm.digs hne hm.head
    have h2 := Nat.mul_le_mul_right (10 ^ d.exp.toNat) h1
    rw [← Nat.pow_add] at h2
    have h3 : (10 : Nat) ^ 19 ≤ 10 ^ (d.digits.length - 1 + d.exp.toNat) := Nat.pow_le_pow_right (by omega) (by have := List.length_pos_iff.2 hne; omega)
    have h4 : (10 : Nat) ^ 19 = 10000000000000000000 := by decide
    omega
  unfold intR
  generalize num d.digits * 10 ^ d.exp.toNat = u at *
  by_cases hp : (d.digits.length : Int) + d.exp ≤ 19
  · rw [if_pos ⟨hw, hp⟩]
    cases d.neg
    · unfold cmpZ
      simp only [cond_false, Bool.false_eq_true, if_false]
      by_cases c : u < 9223372036854775808
      · rw [if_pos c, if_pos (by split <;> (try split) <;> omega)]
      · rw [if_neg c, if_neg (by split <;> (try split) <;> omega)]
    · unfold cmpZ
      simp only [cond_true, if_true]
      by_cases c : u ≤ 9223372036854775808
      · rw [if_pos c, if_pos (by split <;> (try split) <;> omega)]
      · rw [if_neg c, if_neg (by split <;> (try split) <;> omega)]
  · rw [if_neg (fun h => hp h.2)]
    have := hlow (by omega)
    unfold cmpZ
    cases d.neg
    · simp only [cond_false]; rw [if_neg (by split <;> (try split) <;> omega)]
    · simp only [cond_true]; rw [if_neg (by split <;> (try split) <;> omega)]
theorem num_take_le (l : List UInt8) (i : Nat) : num (l.take i) ≤ num l := by
  have h := congrArg num (List.take_append_drop i l)
  rw [num_append] at h
  have h1 : 1 ≤ 10 ^ (l.drop i).length := Nat.pow_pos (by omega)
  have h2 := Nat.mul_le_mul_left (num (l.take i)) h1
  omega
theorem cmpZ_le (x y : Int) : cmpZ x y ≤ 0 ↔ x ≤ y := by unfold cmpZ; split <;> (try split) <;> omega
theorem intR_no {d : Dec} (h : ¬ (mayB d = true ∧ 0 ≤ d.exp ∧ d.exp ≤ 20)) : intR d = (0, false) := by
  unfold intR
  rw [if_neg]
  rintro ⟨h1, h2⟩
  unfold wholeB at h1
  rw [Bool.and_eq_true, decide_eq_true_iff] at h1
  exact h ⟨h1.1, h1.2, by omega⟩
set_option maxHeartbeats 4000000 in
set_option maxRecDepth 100000 in
theorem refint_ok (d : Dec) (w : World) (hl : d.digits.length ≤ 9223372036854775806) :
    Calls Tryd.prog 20 #[decV d] w (IntPost w (intR d)) := by
  have HMY := Lib.hid (fun W => may_ok d W hl)
  have HNO : Hid (¬ (mayB d = true ∧ 0 ≤ d.exp ∧ d.exp ≤ 20) → intR d = (0, false)) := Lib.hid intR_no
  have HRF : Hid (May d → 0 ≤ d.exp → intR d = if cmpC (d.digits ++ zeros d.exp.toNat) (mostL d.neg) ≤ 0 then ((if d.neg then -(num (d.digits ++ zeros d.exp.toNat) : Int) else num (d.digits ++ zeros d.exp.toNat)), true) else (0, false)) := Lib.hid intR_ref
  have HME : Hid (mayB d = true → May d) := Lib.hid (mayB_iff d).1
  have HBD : Hid (May d → cmpC (d.digits ++ zeros d.exp.toNat) (mostL d.neg) ≤ 0 → num (d.digits ++ zeros d.exp.toNat) ≤ 9223372036854775808 ∧ (d.neg = false → num (d.digits ++ zeros d.exp.toNat) ≤ 9223372036854775807)) := Lib.hid (fun hm h => by
    have hd : Digs (d.digits ++ zeros d.exp.toNat) := hm.digs.append (Digs.zeros _)
    have hh : (d.digits ++ zeros d.exp.toNat).head? ≠ some 48 := by
      by_cases h : d.digits = []
      · rw [h, (hm.nil h).2]; simp [zeros]
      · have h9 := hm.head
        cases hc : d.digits with
        | nil => exact absurd hc h
        | cons b r => rw [hc] at h9; simpa using h9
    have hmd : Digs (mostL d.neg) := allDig_iff.1 (by cases d.neg <;> kernel_rfl)
    have hmh : (mostL d.neg).head? ≠ some 48 := by unfold mostL; simp
    rw [cmpC_num hd hmd hh hmh, mostL_num] at h
    generalize num (d.digits ++ zeros d.exp.toNat) = u at *
    rw [cmpZ_le] at h
    cases hn : d.neg
    · rw [hn] at h
      simp only [cond_false] at h
      exact ⟨by omega, fun _ => by omega⟩
    · rw [hn] at h
      simp only [cond_true] at h
      exact ⟨by omega, fun h9 => by cases h9⟩)
  obtain ⟨R, hR⟩ : ∃ R, R = intR d := ⟨_, rfl⟩
  rw [← hR] at HNO HRF ⊢
  clear hR
  obtain ⟨neg, l, x⟩ := d
  unfold decV at *
  simp only at HMY HNO HRF HBD hl ⊢
  obtain ⟨w1, hw1⟩ : ∃ w1, w1 = w.alloc (.cells #[.bool neg, .string (bs l), .int .i64 x] 23) := ⟨_, rfl⟩
  have HD1 : Hid (Decs w w1 [(w.heap.size, ⟨neg, l, x⟩)]) := Lib.hid (by
    subst hw1
    have h0 : Decs w w [] := ⟨Below.refl _ _, fun i b d hi => by simp at hi⟩
    exact h0.var neg l x)
  have c0 : w1.cell? ⟨w.heap.size, 0, none⟩ = some (.bool neg) := HD1.out.c0 (i := 0) (d := ⟨neg, l, x⟩) rfl
  have c1 : w1.cell? ⟨w.heap.size, 1, none⟩ = some (.string (bs l)) := HD1.out.c1 (i := 0) (d := ⟨neg, l, x⟩) rfl
  have c2 : w1.cell? ⟨w.heap.size, 2, none⟩ = some (.int .i64 x) := HD1.out.c2 (i := 0) (d := ⟨neg, l, x⟩) rfl
  go_enter Tryd.func20, Tryd.ntmps20
  go_upto_region 1 with fail
  rw [← hw1]
  clear hw1
  go_wp2_with fail
  refine (HMY.out _).mono ?_
  rintro e w2 ⟨rfl, hb2⟩
  have HD2 := Lib.hid (HD1.out.call hb2)
  clear c0 c1 c2 HD1 hb2 HMY
  have x2 : w2.cell? ⟨w.heap.size, 2, none⟩ = some (.int .i64 x) := HD2.out.c2 (i := 0) (d := ⟨neg, l, x⟩) rfl
  cases hm : mayB ⟨neg, l, x⟩ with
  | false =>
    have HX := Lib.hid (HNO.out (by rw [hm]; simp))
    clear hm HNO HRF HME HBD
    go_wp2
    go_ret2
    exact ⟨by rw [HX.out]; rfl, HD2.out.below⟩
  | true =>
  by_cases q1 : 0 ≤ x
  rotate_left 1
  · have HX := Lib.hid (HNO.out (fun h => q1 h.2.1))
    have d1 : decide (x < 0) = true := decide_eq_true (by omega)
    clear hm HNO HRF HME HBD
    go_wp2
    go_ret2
    exact ⟨by rw [HX.out]; rfl, HD2.out.below⟩
  have d1 : decide (x < 0) = false := decide_eq_false (by omega)
  by_cases q2 : x ≤ 20
  rotate_left 1
  · have HX := Lib.hid (HNO.out (fun h => q2 h.2.2))
    have d2 : decide ((20 : Int) < x) = true := decide_eq_true (by omega)
    clear hm HNO HRF HME HBD
    go_wp2
    go_ret2
    exact ⟨by rw [HX.out]; rfl, HD2.out.below⟩
  have d2 : decide ((20 : Int) < x) = false := decide_eq_false (by omega)
  have hmay := HME.out hm
  have HRR := Lib.hid (HRF.out hmay q1)
  have HBB := Lib.hid (HBD.out hmay)
  have hl100 := hmay.len
  simp only at hl100
  have HDG : Hid (Digs (l ++ zeros x.toNat)) := Lib.hid (hmay.digs.append (Digs.zeros _))
  have HN1 := Lib.hid (fun W => rnoughts_ok x W (by omega))
  have a1 : ∀ W, (Op.stringOp .add (bs l) (bs (zeros x.toNat))).run Tryd.prog W = .ok (.string (bs (l ++ zeros x.toNat))) W := fun W => run_add_bs W _ _ (by simp [zeros]; omega)
  have hSl : (l ++ zeros x.toNat).length ≤ 200 := by rw [List.length_append]; simp [zeros]; omega
  clear hm HNO HRF HME HBD hmay
  generalize l ++ zeros x.toNat = S at *
  go_upto_region 3 with fail
  refine wp_region_held_drew (S := (fun W => Decs w W [(w.heap.size, ⟨neg, l, x⟩)])) (by kernel_rfl) (HD2.out.drew) (fun hHeld => ?_)
  refine wpAnyH_take (i := 0) (oi := ?_) (v := ?_) ?_ (by kernel_rfl) (by kernel_rfl) (by kernel_rfl) ?_ ?_ (by assumption) ?_
  rotate_left 2
  · simp only [List.getElem?_toArray, List.getElem?_cons_zero]; with_reducible rfl
  · exact fun _ _ _ h => h
  · refine Or.inl ⟨by rfl, ?_⟩; intro W hSw; go_simp; try with_reducible rfl
  try simp only [Act.put, List.setIfInBounds_toArray, List.set_cons_zero, List.set_cons_succ]
  refine wpAnyH_take (i := 1) (oi := ?_) (v := ?_) ?_ (by kernel_rfl) (by kernel_rfl) (by kernel_rfl) ?_ ?_ (by assumption) ?_
  rotate_left 2
  · simp only [List.getElem?_toArray, List.getElem?_cons_succ, List.getElem?_cons_zero]; with_reducible rfl
  · exact fun _ _ _ h => h
  · refine Or.inl ⟨by rfl, ?_⟩; intro W hSw; have q8 : W.cell? ⟨w.heap.size, 1, none⟩ = some (.string (bs l)) := hSw.c1 (i := 0) (d := ⟨neg, l, x⟩) rfl; go_simp; try with_reducible rfl
  try simp only [Act.put, List.setIfInBounds_toArray, List.set_cons_zero, List.set_cons_succ]
  refine wpAnyH_take (i := 2) (oi := ?_) (v := ?_) ?_ (by kernel_rfl) (by kernel_rfl) (by kernel_rfl) ?_ ?_ (by assumption) ?_
  rotate_left 2
  · simp only [List.getElem?_toArray, List.getElem?_cons_succ, List.getElem?_cons_zero]; with_reducible rfl
  · exact fun _ _ _ h => h
  · refine Or.inl ⟨by rfl, ?_⟩; intro W hSw; go_simp; try with_reducible rfl
  try simp only [Act.put, List.setIfInBounds_toArray, List.set_cons_zero, List.set_cons_succ]
  refine wpAnyH_take (i := 3) (oi := ?_) (v := ?_) ?_ (by kernel_rfl) (by kernel_rfl) (by kernel_rfl) ?_ ?_ (by assumption) ?_
  rotate_left 2
  · simp only [List.getElem?_toArray, List.getElem?_cons_succ, List.getElem?_cons_zero]; with_reducible rfl
  · exact fun _ _ _ h => h
  · refine Or.inl ⟨by rfl, ?_⟩; intro W hSw; have q8 : W.cell? ⟨w.heap.size, 2, none⟩ = some (.int .i64 x) := hSw.c2 (i := 0) (d := ⟨neg, l, x⟩) rfl; go_simp; try with_reducible rfl
  try simp only [Act.put, List.setIfInBounds_toArray, List.set_cons_zero, List.set_cons_succ]
  refine wpAnyH_ready (rs := [4]) (by kernel_rfl) (by simp) ?_
  refine AllReadyH.cons (o := ?_) ?_ (fun K1 hK1 => ?_) AllReadyH.nil
  rotate_left 1
  · simp only [List.getElem?_toArray, List.getElem?_cons_succ, List.getElem?_cons_zero]; with_reducible rfl
  rw [if_pos (by rfl)]
  go_simp
  refine (HN1.out _).mono ?_
  rintro e3 w3 ⟨rfl, hb3⟩
  go_wp2_with fail
  refine hK1.out _ _ (hHeld.call hb3) (fun hHeld1 => ?_)
  clear hK1 K1
  try simp only [Act.put, List.setIfInBounds_toArray, List.set_cons_zero, List.set_cons_succ]
  refine wpAnyH_take (i := 5) (oi := ?_) (v := ?_) ?_ (by kernel_rfl) (by kernel_rfl) (by kernel_rfl) ?_ ?_ (by assumption) ?_
  rotate_left 2
  · simp only [List.getElem?_toArray, List.getElem?_cons_succ, List.getElem?_cons_zero]; with_reducible rfl
  · exact fun _ _ _ h => h
  · refine Or.inl ⟨by rfl, ?_⟩; intro W hSw; go_simp; try with_reducible rfl
  try simp only [Act.put, List.setIfInBounds_toArray, List.set_cons_zero, List.set_cons_succ]
  refine wpAnyH_take (i := 6) (oi := ?_) (v := ?_) ?_ (by kernel_rfl) (by kernel_rfl) (by kernel_rfl) ?_ ?_ (by assumption) ?_
  rotate_left 2
  · simp only [List.getElem?_toArray, List.getElem?_cons_succ, List.getElem?_cons_zero]; with_reducible rfl
  · exact fun _ _ _ h => h
  · refine Or.inl ⟨by rfl, ?_⟩; intro W hSw; go_simp; try with_reducible rfl
  try simp only [Act.put, List.setIfInBounds_toArray, List.set_cons_zero, List.set_cons_succ]
  refine wpAnyH_done (by kernel_rfl) ?_ _
  have HD3 := Lib.hid hHeld1
  clear hHeld hHeld1 HD2 x2
  have y0 : w3.cell? ⟨w.heap.size, 0, none⟩ = some (.bool neg) := HD3.out.c0 (i := 0) (d := ⟨neg, l, x⟩) rfl
  have hs := bs_size S
  have HC := Lib.hid (fun W => rcmp_ok S (mostL neg) W)
  have HI : Hid (∀ k : Nat, k < S.length → ∀ W : World, (Instr.index 9 (.string (bs S)) (.int .i64 (k : Int))).run Tryd.prog W = .ok (.int .u8 (byteAt S k : Int)) W) := Lib.hid fun k hk W => run_byte _ Tryd.underlying9 S k hk W
  obtain ⟨n, hn⟩ : ∃ n, n = S.length := ⟨_, rfl⟩
  have HN := Lib.hid hn
  rw [← hn] at hs hSl HI
  clear hn
  cases neg
  · obtain ⟨lit, HLT⟩ : ∃ m : List UInt8, Hid (m = mostL false) := ⟨_, Lib.hid rfl⟩
    go_upto_region 7 with fail
    rw [show (⟨#[57, 50, 50, 51, 51, 55, 50, 48, 51, 54, 56, 53, 52, 55, 55, 53, 56, 48, 55]⟩ : ByteArray) = bs lit by rw [HLT.out]; rfl]
    rw [← HLT.out] at HC HRR HBB
    go_wp2_with fail
    refine (HC.out _).mono ?_
    rintro e w5 ⟨rfl, rfl⟩
    clear HC
    by_cases hc : cmpC S lit ≤ 0
    rotate_left 1
    · have HX : Hid (R = (0, false)) := Lib.hid (by rw [HRR.out, if_neg hc])
      have e1 : decide ((0 : Int) < cmpC S lit) = true := decide_eq_true (by omega)
      clear HRR HBB
      generalize cmpC S lit = cv at *
      go_wp2
      go_ret2
      exact ⟨by rw [HX.out]; rfl, HD3.out.below⟩
    have e1 : decide ((0 : Int) < cmpC S lit) = false := decide_eq_false (by omega)
    have HX : Hid (R = ((num S : Int), true)) := Lib.hid (by rw [HRR.out, if_pos hc]; rfl)
    have hb8 := (HBB.out hc).1
    have hb7 := (HBB.out hc).2 trivial
    clear HRR HBB hc HLT
    generalize cmpC S lit = cv at *
    generalize bs lit = bl at *
    go_wp2_with fail
    go_loop [6, 7] (fun v6 v7 => ∃ i : Nat, i ≤ n ∧ v7 = .int .i64 i ∧ v6 = .int .i64 (-(num (S.take i) : Int))) (fun _ v7 => n - (intOf v7).toNat)
    case atStart => exact ⟨0, Nat.zero_le _, rfl, by simp [num_nil]⟩
    case round =>
      obtain ⟨i, hi, rfl, rfl⟩ := hrel
      by_cases hlt : i < n
      · have hidx := HI.out i hlt
        have hdd : isDig (S.getD i 0) = true := by
          refine HDG.out _ ?_
          rw [List.getD_eq_getElem?_getD, List.getElem?_eq_getElem (by rw [← HN.out]; exact hlt)]
          exact List.getElem_mem _
        have hst : num (S.take (i + 1)) = 10 * num (S.take i) + (byteAt S i - 48) := by
          rw [allDig_take_succ S i (by rw [← HN.out]; exact hlt), num_snoc]; rfl
        have hle : num (S.take (i + 1)) ≤ num S := num_take_le S (i + 1)
        have hyl : 48 ≤ byteAt S i := isDig_lo hdd
        have hyh : byteAt S i ≤ 57 := isDig_hi hdd
        obtain ⟨u, hu⟩ : ∃ u, u = num (S.take i) := ⟨_, rfl⟩
        obtain ⟨u2, hu2⟩ : ∃ u2, u2 = num (S.take (i + 1)) := ⟨_, rfl⟩
        rw [← hu, ← hu2] at hst
        rw [← hu2] at hle
        rw [← hu]
        have HU2 := Lib.hid hu2
        obtain ⟨y, hy⟩ : ∃ y, y = byteAt S i := ⟨_, rfl⟩
        rw [← hy] at hidx hyl hyh hst
        obtain ⟨dv, hdv2⟩ : ∃ dv, dv = y - 48 := ⟨_, rfl⟩
        have f1 : (10 : Int) * -(u : Int) = -((10 * u : Nat) : Int) := by omega
        have f2 : (y : Int) - 48 = (dv : Int) := by omega
        have f3 : -((10 * u : Nat) : Int) - (dv : Int) = -(u2 : Int) := by omega
        have f4 : IntKind.i64.wrap (-((10 * u : Nat) : Int)) = -((10 * u : Nat) : Int) := by simp [IntKind.wrap, IntKind.bits, IntKind.signed]; omega
        have f5 : IntKind.i64.wrap (-(u2 : Int)) = -(u2 : Int) := by simp [IntKind.wrap, IntKind.bits, IntKind.signed]; omega
        have hdvb : dv ≤ 9 := by omega
        obtain ⟨m1, hm1⟩ : ∃ m1, m1 = 10 * u := ⟨_, rfl⟩
        rw [← hm1] at f1 f3 f4
        clear hst hle hdd hu hu2 hy hdv2 hm1 hyl hyh
        go_wp2
        exact ⟨⟨i + 1, by omega, by go_num, by rw [← HU2.out]⟩, by simp [intOf]; omega⟩
      · obtain rfl : i = n := by omega
        have hfull : S.take i = S := by rw [HN.out, List.take_length]
        rw [hfull]
        obtain ⟨u, hu⟩ : ∃ u, u = num S := ⟨_, rfl⟩
        rw [← hu] at HX hb8 hb7 ⊢
        clear hu hfull
        have hwu : IntKind.i64.wrap (u : Int) = u := by simp [IntKind.wrap, IntKind.bits, IntKind.signed]; omega
        go_wp2
        go_ret2
        exact ⟨by rw [HX.out]; rfl, HD3.out.below⟩
  · obtain ⟨lit, HLT⟩ : ∃ m : List UInt8, Hid (m = mostL true) := ⟨_, Lib.hid rfl⟩
    go_upto_region 7 with fail
    rw [show (⟨#[57, 50, 50, 51, 51, 55, 50, 48, 51, 54, 56, 53, 52, 55, 55, 53, 56, 48, 56]⟩ : ByteArray) = bs lit by rw [HLT.out]; rfl]
    rw [← HLT.out] at HC HRR HBB
    go_wp2_with fail
    refine (HC.out _).mono ?_
    rintro e w5 ⟨rfl, rfl⟩
    clear HC
    by_cases hc : cmpC S lit ≤ 0
    rotate_left 1
    · have HX : Hid (R = (0, false)) := Lib.hid (by rw [HRR.out, if_neg hc])
      have e1 : decide ((0 : Int) < cmpC S lit) = true := decide_eq_true (by omega)
      clear HRR HBB
      generalize cmpC S lit = cv at *
      go_wp2
      go_ret2
      exact ⟨by rw [HX.out]; rfl, HD3.out.below⟩
    have e1 : decide ((0 : Int) < cmpC S lit) = false := decide_eq_false (by omega)
    have HX : Hid (R = (-(num S : Int), true)) := Lib.hid (by rw [HRR.out, if_pos hc]; rfl)
    have hb8 := (HBB.out hc).1
    clear HRR HBB hc HLT
    generalize cmpC S lit = cv at *
    generalize bs lit = bl at *
    go_wp2_with fail
    go_loop [6, 7] (fun v6 v7 => ∃ i : Nat, i ≤ n ∧ v7 = .int .i64 i ∧ v6 = .int .i64 (-(num (S.take i) : Int))) (fun _ v7 => n - (intOf v7).toNat)
    case atStart => exact ⟨0, Nat.zero_le _, rfl, by simp [num_nil]⟩
    case round =>
      obtain ⟨i, hi, rfl, rfl⟩ := hrel
      by_cases hlt : i < n
      · have hidx := HI.out i hlt
        have hdd : isDig (S.getD i 0) = true := by
          refine HDG.out _ ?_
          rw [List.getD_eq_getElem?_getD, List.getElem?_eq_getElem (by rw [← HN.out]; exact hlt)]
          exact List.getElem_mem _
        have hst : num (S.take (i + 1)) = 10 * num (S.take i) + (byteAt S i - 48) := by
          rw [allDig_take_succ S i (by rw [← HN.out]; exact hlt), num_snoc]; rfl
        have hle : num (S.take (i + 1)) ≤ num S := num_take_le S (i + 1)
        have hyl : 48 ≤ byteAt S i := isDig_lo hdd
        have hyh : byteAt S i ≤ 57 := isDig_hi hdd
        obtain ⟨u, hu⟩ : ∃ u, u = num (S.take i) := ⟨_, rfl⟩
        obtain ⟨u2, hu2⟩ : ∃ u2, u2 = num (S.take (i + 1)) := ⟨_, rfl⟩
        rw [← hu, ← hu2] at hst
        rw [← hu2] at hle
        rw [← hu]
        have HU2 := Lib.hid hu2
        obtain ⟨y, hy⟩ : ∃ y, y = byteAt S i := ⟨_, rfl⟩
        rw [← hy] at hidx hyl hyh hst
        obtain ⟨dv, hdv2⟩ : ∃ dv, dv = y - 48 := ⟨_, rfl⟩
        have f1 : (10 : Int) * -(u : Int) = -((10 * u : Nat) : Int) := by omega
        have f2 : (y : Int) - 48 = (dv : Int) := by omega
        have f3 : -((10 * u : Nat) : Int) - (dv : Int) = -(u2 : Int) := by omega
        have f4 : IntKind.i64.wrap (-((10 * u : Nat) : Int)) = -((10 * u : Nat) : Int) := by simp [IntKind.wrap, IntKind.bits, IntKind.signed]; omega
        have f5 : IntKind.i64.wrap (-(u2 : Int)) = -(u2 : Int) := by simp [IntKind.wrap, IntKind.bits, IntKind.signed]; omega
        have hdvb : dv ≤ 9 := by omega
        obtain ⟨m1, hm1⟩ : ∃ m1, m1 = 10 * u := ⟨_, rfl⟩
        rw [← hm1] at f1 f3 f4
        clear hst hle hdd hu hu2 hy hdv2 hm1 hyl hyh
        go_wp2
        exact ⟨⟨i + 1, by omega, by go_num, by rw [← HU2.out]⟩, by simp [intOf]; omega⟩
      · obtain rfl : i = n := by omega
        have hfull : S.take i = S := by rw [HN.out, List.take_length]
        rw [hfull]
        obtain ⟨u, hu⟩ : ∃ u, u = num S := ⟨_, rfl⟩
        rw [← hu] at HX hb8 ⊢
        clear hu hfull
        go_wp2
        go_ret2
        exact ⟨by rw [HX.out]; rfl, HD3.out.below⟩
end Go.Proofs.YtkbkappbplocoaaDoor
