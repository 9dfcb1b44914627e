/- Layer 7: digit texts without noughts ahead are in the order of their numbers. -/
import Derived.Test.YtlcbjikiodmlfaaGreatDoorPt38
import Derived.Test.YtlcbjikiodmlfaaGreatDoorPt33
import Derived.Test.YtlcbjikiodmlfaaGreatDoorPt34
namespace Go.Proofs.YtlcbjikiodmlfaaGreatDoor
open Go.RowKit

theorem cmpB_num : ∀ (a b : List UInt8), Digs a → Digs b → a.length = b.length → cmpB a b = cmpZ (num a) (num b)
  | [], [], _, _, _ => rfl
  | [], _ :: _, _, _, h => by simp at h
  | _ :: _, [], _, _, h => by simp at h
  | x :: l, y :: m, ha, hb, h => by
    have hl : l.length = m.length := by simpa using h
    have ih := cmpB_num l m (fun z hz => ha z (by simp [hz])) (fun z hz => hb z (by simp [hz])) hl
    have hx := ha x (by simp)
    have hy := hb y (by simp)
    have n1 := num_lt (l := l) (fun z hz => ha z (by simp [hz]))
    have n2 := num_lt (l := m) (fun z hz => hb z (by simp [hz]))
    show (if x.toNat < y.toNat then -1 else if y.toNat < x.toNat then 1 else cmpB l m) = _
    rw [num_cons, num_cons, ih, hl]
    rw [hl] at n1
    have x1 := isDig_lo hx
    have y1 := isDig_lo hy
    have dx : dval x = x.toNat - 48 := rfl
    have dy : dval y = y.toNat - 48 := rfl
    generalize hp : (10 : Nat) ^ m.length = p at *
    by_cases c1 : x.toNat < y.toNat
    · rw [if_pos c1]
      have : (dval x + 1) * p ≤ dval y * p := Nat.mul_le_mul_right p (by omega)
      rw [Nat.add_mul] at this
      unfold cmpZ
      rw [if_pos (by omega)]
    · rw [if_neg c1]
      by_cases c2 : y.toNat < x.toNat
      · rw [if_pos c2]
        have : (dval y + 1) * p ≤ dval x * p := Nat.mul_le_mul_right p (by omega)
        rw [Nat.add_mul] at this
        unfold cmpZ
        rw [if_neg (by omega), if_pos (by omega)]
      · rw [if_neg c2]
        have e : dval x = dval y := by omega
        rw [e]
        unfold cmpZ
        split <;> split <;> (try split) <;> (try split) <;> omega
theorem num_low {l : List UInt8} (h : Digs l) (h0 : l ≠ []) (h1 : l.head? ≠ some 48) : 10 ^ (l.length - 1) ≤ num l := by
  cases l with
  | nil => exact absurd rfl h0
  | cons b r =>
    rw [num_cons, List.length_cons, Nat.add_sub_cancel]
    have hb := h b (by simp)
    have h2 : 1 ≤ dval b := by
      have := isDig_lo hb
      have h3 : b.toNat ≠ 48 := fun e => h1 (by rw [show b = 48 from UInt8.toNat_inj.1 e]; rfl)
      have : dval b = b.toNat - 48 := rfl
      omega
    have := Nat.mul_le_mul_right (10 ^ r.length) h2
    omega
theorem cmpC_num {a b : List UInt8} (ha : Digs a) (hb : Digs b) (h1 : a.head? ≠ some 48) (h2 : b.head? ≠ some 48) : cmpC a b = cmpZ (num a) (num b) := by
  unfold cmpC
  have n1 := num_lt ha
  have n2 := num_lt hb
  by_cases c1 : a.length < b.length
  · rw [if_pos c1]
    have n3 := num_low hb (by intro e; rw [e] at c1; simp at c1) h2
    have n4 : (10 : Nat) ^ a.length ≤ 10 ^ (b.length - 1) := Nat.pow_le_pow_right (by omega) (by omega)
    unfold cmpZ
    rw [if_pos (by omega)]
  · rw [if_neg c1]
    by_cases c2 : b.length < a.length
    · rw [if_pos c2]
      have n3 := num_low ha (by intro e; rw [e] at c2; simp at c2) h1
      have n4 : (10 : Nat) ^ b.length ≤ 10 ^ (a.length - 1) := Nat.pow_le_pow_right (by omega) (by omega)
      unfold cmpZ
      rw [if_neg (by omega), if_pos (by omega)]
    · rw [if_neg c2]
      exact cmpB_num a b ha hb (by omega)
theorem dig_cmp (R B : Nat) : cmpC (dig R) (dig B) = cmpZ R B := by
  rw [cmpC_num (dig_digs R) (dig_digs B) (dig_head R) (dig_head B), num_dig, num_dig]
end Go.Proofs.YtlcbjikiodmlfaaGreatDoor
/- Layer 7: the document's scaled; digits' lengths. -/
namespace Go.Proofs.YtlcbjikiodmlfaaGreatDoor
open Go.RowKit

def strNum (v : Value) : Nat := match v with
  | .string s => num s.toList
  | _ => 0
theorem strNum_dig (Y : Nat) : strNum (.string (bs (dig Y))) = Y := by
  show num (bs (dig Y)).toList = Y
  rw [bs_toList, num_dig]
theorem dig_nil {Y : Nat} : dig Y = [] ↔ Y = 0 := by
  constructor
  · intro h
    have := num_dig Y
    rw [h] at this
    exact this.symm
  · intro h; rw [h]; rfl
theorem dig_mono {m n : Nat} (h : m ≤ n) : (dig m).length ≤ (dig n).length := by
  have h1 := num_lt (dig_digs n)
  rw [num_dig] at h1
  exact dig_len_le m (by omega)
theorem lev_len {d : Dec} (h : May d) {e : Int} (he : -1000 ≤ e) : (dig (lev d e)).length ≤ 2200 :=
  Nat.le_trans (dig_len_le _ (show lev d e < 10 ^ (e100 + e2000) from lev_lt h he)) (by decide)
theorem dig_empty (r : Nat) : (bs (dig r)).toList.isEmpty = decide (r = 0) := by
  rw [bs_toList]
  cases h : dig r with
  | nil => rw [decide_eq_true (dig_nil.1 h)]; rfl
  | cons x l => rw [decide_eq_false (fun e => by rw [e] at h; cases h)]; rfl
set_option maxHeartbeats 1000000 in
theorem rscaled_ok (d : Dec) (E : Int) (w : World) (hd : Digs d.digits) (hl : d.digits.length ≤ 1000) (h0 : E ≤ d.exp) (h1 : d.exp - E ≤ 800000) (h3 : d.exp ≤ 4611686018427387904) (_ : -4611686018427387904 ≤ E) :
    Calls Tryz.prog 23 #[decV d, .int .i64 E] w fun e w' => e = .returned (.string (bs (dig (lev d E)))) ∧ Below w.heap.size w w' := by
  obtain ⟨k, hk⟩ : ∃ k : Nat, d.exp - E = k := ⟨(d.exp - E).toNat, by omega⟩
  have hlv : lev d E = num d.digits * 10 ^ k := by unfold lev; rw [hk, Int.toNat_natCast]
  rw [hlv]
  have HNO : Hid (∀ W, Calls Tryz.prog 50 #[.int .i64 (k : Int)] W fun e w' => e = .returned (.string (bs (zeros k))) ∧ Below W.heap.size W w') := Lib.hid fun W => by
    have h := rnoughts_ok (k : Int) W (by omega)
    rwa [Int.toNat_natCast] at h
  have hadd : ∀ W, (Op.stringOp .add (bs d.digits) (bs (zeros k))).run Tryz.prog W = .ok (.string (bs (d.digits ++ zeros k))) W := fun W => run_add_bs W _ _ (by simp [zeros]; omega)
  have HPL : Hid (∀ W, Calls Tryz.prog 49 #[.string (bs (d.digits ++ zeros k))] W fun e w' => e = .returned (.string (bs (dig (num d.digits * 10 ^ k)))) ∧ W = w') := Lib.hid fun W => by
    have h := plain_ok (d.digits ++ zeros k) W (by simp [zeros]; omega)
    have hz : num (d.digits ++ zeros k) = num d.digits * 10 ^ k := num_zeros_behind _ _
    have hp : plain (d.digits ++ zeros k) = dig (num (d.digits ++ zeros k)) := plain_eq (hd.append (Digs.zeros k))
    rwa [hp, hz] at h
  obtain ⟨neg, l, x⟩ := d
  unfold decV
  simp only at hk hadd h0 h1 h3 hl ⊢ HPL
  have hwk : IntKind.i64.wrap (k : Int) = (k : Int) := IntWalk.i64_in _ (by omega)
  obtain ⟨w1, hw1⟩ : ∃ w1, w1 = w.alloc (.cells #[.bool neg, .string (bs l), .int .i64 x] 24) := ⟨_, rfl⟩
  have HB1 : Hid (Below w.heap.size w w1) := Lib.hid (by subst hw1; exact (Below.refl _ _).alloc (Nat.le_refl _) _)
  have HR1 : Hid (Row w1 w.heap.size 24 #[.bool neg, .string (bs l), .int .i64 x]) := Lib.hid (by subst hw1; exact Row.new _ _ _)
  go_enter Tryz.func23, Tryz.ntmps23
  go_upto_region 1 with fail
  rw [← hw1]
  clear hw1
  refine wp_region_held_drew (S := (fun W => Below w.heap.size w W ∧ Row W w.heap.size 24 #[.bool neg, .string (bs l), .int .i64 x])) (by kernel_rfl) (⟨HB1.out.drew, HR1.out.drew⟩) (fun hHeld => ?_)
  refine wpAnyH_take (i := 0) (oi := ?_) (v := ?_) ?_ (by kernel_rfl) (by kernel_rfl) (by kernel_rfl) ?_ ?_ (by assumption) ?_
  rotate_left 2
  · simp only [List.getElem?_toArray, List.getElem?_cons_zero]; with_reducible rfl
  · exact fun _ _ _ h => h
  · refine Or.inl ⟨by rfl, ?_⟩; intro W hSw; go_simp; try with_reducible rfl
  try simp only [Act.put, List.setIfInBounds_toArray, List.set_cons_zero, List.set_cons_succ]
  refine wpAnyH_take (i := 1) (oi := ?_) (v := ?_) ?_ (by kernel_rfl) (by kernel_rfl) (by kernel_rfl) ?_ ?_ (by assumption) ?_
  rotate_left 2
  · simp only [List.getElem?_toArray, List.getElem?_cons_succ, List.getElem?_cons_zero]; with_reducible rfl
  · exact fun _ _ _ h => h
  · refine Or.inl ⟨by rfl, ?_⟩; intro W hSw; have hSw1 := hSw.2.cell (i := 1) (v := .string (bs l)) rfl; go_simp; try with_reducible rfl
  try simp only [Act.put, List.setIfInBounds_toArray, List.set_cons_zero, List.set_cons_succ]
  refine wpAnyH_take (i := 2) (oi := ?_) (v := ?_) ?_ (by kernel_rfl) (by kernel_rfl) (by kernel_rfl) ?_ ?_ (by assumption) ?_
  rotate_left 2
  · simp only [List.getElem?_toArray, List.getElem?_cons_succ, List.getElem?_cons_zero]; with_reducible rfl
  · exact fun _ _ _ h => h
  · refine Or.inl ⟨by rfl, ?_⟩; intro W hSw; go_simp; try with_reducible rfl
  try simp only [Act.put, List.setIfInBounds_toArray, List.set_cons_zero, List.set_cons_succ]
  refine wpAnyH_take (i := 3) (oi := ?_) (v := ?_) ?_ (by kernel_rfl) (by kernel_rfl) (by kernel_rfl) ?_ ?_ (by assumption) ?_
  rotate_left 2
  · simp only [List.getElem?_toArray, List.getElem?_cons_succ, List.getElem?_cons_zero]; with_reducible rfl
  · exact fun _ _ _ h => h
  · refine Or.inl ⟨by rfl, ?_⟩; intro W hSw; have hSw2 := hSw.2.cell (i := 2) (v := .int .i64 x) rfl; go_simp; try with_reducible rfl
  try simp only [Act.put, List.setIfInBounds_toArray, List.set_cons_zero, List.set_cons_succ]
  refine wpAnyH_take (i := 4) (oi := ?_) (v := ?_) ?_ (by kernel_rfl) (by kernel_rfl) (by kernel_rfl) ?_ ?_ (by assumption) ?_
  rotate_left 2
  · simp only [List.getElem?_toArray, List.getElem?_cons_succ, List.getElem?_cons_zero]; with_reducible rfl
  · exact fun _ _ _ h => h
  · refine Or.inl ⟨by rfl, ?_⟩; intro W hSw; go_simp; try with_reducible rfl
  try simp only [Act.put, List.setIfInBounds_toArray, List.set_cons_zero, List.set_cons_succ]
  refine wpAnyH_take (i := 5) (oi := ?_) (v := ?_) ?_ (by kernel_rfl) (by kernel_rfl) (by kernel_rfl) ?_ ?_ (by assumption) ?_
  rotate_left 2
  · simp only [List.getElem?_toArray, List.getElem?_cons_succ, List.getElem?_cons_zero]; with_reducible rfl
  · exact fun _ _ _ h => h
  · refine Or.inl ⟨by rfl, ?_⟩; intro W hSw; go_simp; try with_reducible rfl
  try simp only [Act.put, List.setIfInBounds_toArray, List.set_cons_zero, List.set_cons_succ]
  refine wpAnyH_ready (rs := [6]) (by kernel_rfl) (by simp) ?_
  refine AllReadyH.cons (o := ?_) ?_ (fun K1 hK1 => ?_) AllReadyH.nil
  rotate_left 1
  · simp only [List.getElem?_toArray, List.getElem?_cons_succ, List.getElem?_cons_zero]; with_reducible rfl
  rw [if_pos (by rfl)]
  go_simp
  refine (HNO.out _).mono ?_
  rintro e5 w5 ⟨rfl, hb5⟩
  go_wp2_with fail
  refine hK1.out _ _ (⟨hHeld.1.call hb5, hHeld.2.call hb5⟩) (fun hHeld1 => ?_)
  clear hK1 K1
  try simp only [Act.put, List.setIfInBounds_toArray, List.set_cons_zero, List.set_cons_succ]
  refine wpAnyH_take (i := 7) (oi := ?_) (v := ?_) ?_ (by kernel_rfl) (by kernel_rfl) (by kernel_rfl) ?_ ?_ (by assumption) ?_
  rotate_left 2
  · simp only [List.getElem?_toArray, List.getElem?_cons_succ, List.getElem?_cons_zero]; with_reducible rfl
  · exact fun _ _ _ h => h
  · refine Or.inl ⟨by rfl, ?_⟩; intro W hSw; go_simp; try with_reducible rfl
  try simp only [Act.put, List.setIfInBounds_toArray, List.set_cons_zero, List.set_cons_succ]
  refine wpAnyH_ready (rs := [8]) (by kernel_rfl) (by simp) ?_
  refine AllReadyH.cons (o := ?_) ?_ (fun K2 hK2 => ?_) AllReadyH.nil
  rotate_left 1
  · simp only [List.getElem?_toArray, List.getElem?_cons_succ, List.getElem?_cons_zero]; with_reducible rfl
  rw [if_pos (by rfl)]
  go_simp
  refine (HPL.out _).mono ?_
  rintro e6 w6 ⟨rfl, rfl⟩
  go_wp2_with fail
  refine hK2.out _ _ (hHeld1) (fun hHeld2 => ?_)
  clear hK2 K2
  try simp only [Act.put, List.setIfInBounds_toArray, List.set_cons_zero, List.set_cons_succ]
  refine wpAnyH_take (i := 9) (oi := ?_) (v := ?_) ?_ (by kernel_rfl) (by kernel_rfl) (by kernel_rfl) ?_ ?_ (by assumption) ?_
  rotate_left 2
  · simp only [List.getElem?_toArray, List.getElem?_cons_succ, List.getElem?_cons_zero]; with_reducible rfl
  · exact fun _ _ _ h => h
  · refine Or.inl ⟨by rfl, ?_⟩; intro W hSw; go_simp; try with_reducible rfl
  try simp only [Act.put, List.setIfInBounds_toArray, List.set_cons_zero, List.set_cons_succ]
  refine wpAnyH_done (by kernel_rfl) ?_ _
  go_wp2_with fail
  go_ret
  exact ⟨rfl, hHeld2.1⟩
end Go.Proofs.YtlcbjikiodmlfaaGreatDoor
