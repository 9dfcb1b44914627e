/- Layer 7: the document's gcd, scaled. -/
import Derived.Test.YthgjelpmdndceaaGreatDoorPt36
import Derived.Test.YthgjelpmdndceaaGreatDoorPt38
import Derived.Test.YthgjelpmdndceaaGreatDoorPt45
namespace Go.Proofs.YthgjelpmdndceaaGreatDoor
open Go.RowKit

def strNum (v : Value) : Nat := match v with
  | .string s => num s.toList
  | _ => 0
theorem strNum_dig (Y : Nat) : strNum (.string (bs (dig Y))) = Y := by
  show num (bs (dig Y)).toList = Y
  rw [bs_toList, num_dig]
theorem dig_nil {Y : Nat} : dig Y = [] ↔ Y = 0 := by
  constructor
  · intro h
    have := num_dig Y
    rw [h] at this
    exact this.symm
  · intro h; rw [h]; rfl
theorem dig_mono {m n : Nat} (h : m ≤ n) : (dig m).length ≤ (dig n).length := by
  have h1 := num_lt (dig_digs n)
  rw [num_dig] at h1
  exact dig_len_le m (by omega)
set_option maxHeartbeats 1000000 in
theorem rgcd_ok (X Y : Nat) (w : World) (hx : (dig X).length ≤ 900000) (hy : (dig Y).length ≤ 900000) :
    Calls Tryz.prog 41 #[.string (bs (dig X)), .string (bs (dig Y))] w fun e w' => e = .returned (.string (bs (dig (Nat.gcd X Y)))) ∧ Below w.heap.size w w' := by
  have HX0 := Lib.hid hx
  have HY0 := Lib.hid hy
  clear hx hy
  go_enter Tryz.func41, Tryz.ntmps41
  go_wp2_with fail
  go_loopw [0, 1] (fun v0 v1 wr => ∃ (A B : Nat), v0 = .string (bs (dig A)) ∧ v1 = .string (bs (dig B)) ∧ Hid (Nat.gcd A B = Nat.gcd X Y) ∧ Hid ((dig A).length ≤ 900000) ∧ Hid ((dig B).length ≤ 900000) ∧ Hid (Below w.heap.size w wr)) (fun _ v1 _ => strNum v1)
  case atStart => exact ⟨X, Y, rfl, rfl, Lib.hid rfl, HX0, HY0, Lib.hid (Below.refl _ _)⟩
  case round =>
    obtain ⟨A, B, rfl, rfl, HG, HA, HB, HBW⟩ := hrel
    by_cases h0 : B = 0
    · subst h0
      have hb : (bs (dig 0)).toList = [] := bs_toList []
      have HGG : Hid (A = Nat.gcd X Y) := Lib.hid (by rw [← HG.out, Nat.gcd_zero_right])
      clear HG
      generalize bs (dig 0) = s at *
      go_wp2_with fail
      go_ret
      exact ⟨by rw [← HGG.out]; rfl, HBW.out⟩
    · have hb1 : (bs (dig B)).toList.isEmpty = false := by
        rw [bs_toList]
        cases h : dig B with
        | nil => exact absurd (dig_nil.1 h) h0
        | cons x r => rfl
      have hb2 : ¬ (bs (dig B)).toList = [] := by rw [bs_toList]; exact fun h => h0 (dig_nil.1 h)
      have hBp : 0 < B := by omega
      have HD : Hid (∀ W, Calls Tryz.prog 40 #[.string (bs (dig A)), .string (bs (dig B))] W fun e w' => e = .returned (.tuple #[.string (bs (dig (A / B))), .string (bs (dig (A % B)))]) ∧ Below W.heap.size W w') := Lib.hid fun W => by
        have h := rdiv_ok (dig A) B W (dig_digs A) hBp (by have := HA.out; omega) HB.out
        rwa [num_dig] at h
      have HBP := Lib.hid hBp
      clear h0 hBp
      have HSN := Lib.hid (strNum_dig B)
      go_wp2_with fail
      refine (HD.out _).mono ?_
      rintro e w5 ⟨rfl, hb5⟩
      have HB5 := Lib.hid (HBW.out.call hb5)
      clear hb5 hb1 hb2
      go_wp2_with fail
      exact ⟨⟨B, A % B, rfl, rfl, Lib.hid (by rw [Nat.gcd_comm, ← Nat.gcd_rec, Nat.gcd_comm, HG.out]), HB, Lib.hid (Nat.le_trans (dig_mono (Nat.le_of_lt (Nat.mod_lt _ HBP.out))) HB.out), HB5⟩, by rw [strNum_dig, HSN.out]; exact Nat.mod_lt _ HBP.out⟩
set_option maxHeartbeats 1000000 in
theorem rscaled_ok (d : Dec) (E : Int) (w : World) (hd : Digs d.digits) (hl : d.digits.length ≤ 1000) (h0 : E ≤ d.exp) (h1 : d.exp - E ≤ 800000) (h3 : d.exp ≤ 4611686018427387904) (_ : -4611686018427387904 ≤ E) :
    Calls Tryz.prog 28 #[decV d, .int .i64 E] w fun e w' => e = .returned (.string (bs (dig (lev d E)))) ∧ Below w.heap.size w w' := by
  obtain ⟨k, hk⟩ : ∃ k : Nat, d.exp - E = k := ⟨(d.exp - E).toNat, by omega⟩
  have hlv : lev d E = num d.digits * 10 ^ k := by unfold lev; rw [hk, Int.toNat_natCast]
  rw [hlv]
  have HNO : Hid (∀ W, Calls Tryz.prog 60 #[.int .i64 (k : Int)] W fun e w' => e = .returned (.string (bs (zeros k))) ∧ Below W.heap.size W w') := Lib.hid fun W => by
    have h := rnoughts_ok (k : Int) W (by omega)
    rwa [Int.toNat_natCast] at h
  have hadd : ∀ W, (Op.stringOp .add (bs d.digits) (bs (zeros k))).run Tryz.prog W = .ok (.string (bs (d.digits ++ zeros k))) W := fun W => run_add_bs W _ _ (by simp [zeros]; omega)
  have HPL : Hid (∀ W, Calls Tryz.prog 59 #[.string (bs (d.digits ++ zeros k))] W fun e w' => e = .returned (.string (bs (dig (num d.digits * 10 ^ k)))) ∧ W = w') := Lib.hid fun W => by
    have h := plain_ok (d.digits ++ zeros k) W (by simp [zeros]; omega)
    have hz : num (d.digits ++ zeros k) = num d.digits * 10 ^ k := num_zeros_behind _ _
    have hp : plain (d.digits ++ zeros k) = dig (num (d.digits ++ zeros k)) := plain_eq (hd.append (Digs.zeros k))
    rwa [hp, hz] at h
  obtain ⟨neg, l, x⟩ := d
  unfold decV
  simp only at hk hadd h0 h1 h3 hl ⊢ HPL
  have hwk : IntKind.i64.wrap (k : Int) = (k : Int) := IntWalk.i64_in _ (by omega)
  obtain ⟨w1, hw1⟩ : ∃ w1, w1 = w.alloc (.cells #[.bool neg, .string (bs l), .int .i64 x] 24) := ⟨_, rfl⟩
  have HB1 : Hid (Below w.heap.size w w1) := Lib.hid (by subst hw1; exact (Below.refl _ _).alloc (Nat.le_refl _) _)
  have HR1 : Hid (Row w1 w.heap.size 24 #[.bool neg, .string (bs l), .int .i64 x]) := Lib.hid (by subst hw1; exact Row.new _ _ _)
  go_enter Tryz.func28, Tryz.ntmps28
  go_upto_region 1 with fail
  rw [← hw1]
  clear hw1
  refine wp_region_held_drew (S := (fun W => Below w.heap.size w W ∧ Row W w.heap.size 24 #[.bool neg, .string (bs l), .int .i64 x])) (by kernel_rfl) (⟨HB1.out.drew, HR1.out.drew⟩) (fun hHeld => ?_)
  refine wpAnyH_take (i := 0) (oi := ?_) (v := ?_) ?_ (by kernel_rfl) (by kernel_rfl) (by kernel_rfl) ?_ ?_ (by assumption) ?_
  rotate_left 2
  · simp only [List.getElem?_toArray, List.getElem?_cons_zero]; with_reducible rfl
  · exact fun _ _ _ h => h
  · refine Or.inl ⟨by rfl, ?_⟩; intro W hSw; go_simp; try with_reducible rfl
  try simp only [Act.put, List.setIfInBounds_toArray, List.set_cons_zero, List.set_cons_succ]
  refine wpAnyH_take (i := 1) (oi := ?_) (v := ?_) ?_ (by kernel_rfl) (by kernel_rfl) (by kernel_rfl) ?_ ?_ (by assumption) ?_
  rotate_left 2
  · simp only [List.getElem?_toArray, List.getElem?_cons_succ, List.getElem?_cons_zero]; with_reducible rfl
  · exact fun _ _ _ h => h
  · refine Or.inl ⟨by rfl, ?_⟩; intro W hSw; have hSw1 := hSw.2.cell (i := 1) (v := .string (bs l)) rfl; go_simp; try with_reducible rfl
  try simp only [Act.put, List.setIfInBounds_toArray, List.set_cons_zero, List.set_cons_succ]
  refine wpAnyH_take (i := 2) (oi := ?_) (v := ?_) ?_ (by kernel_rfl) (by kernel_rfl) (by kernel_rfl) ?_ ?_ (by assumption) ?_
  rotate_left 2
  · simp only [List.getElem?_toArray, List.getElem?_cons_succ, List.getElem?_cons_zero]; with_reducible rfl
  · exact fun _ _ _ h => h
  · refine Or.inl ⟨by rfl, ?_⟩; intro W hSw; go_simp; try with_reducible rfl
  try simp only [Act.put, List.setIfInBounds_toArray, List.set_cons_zero, List.set_cons_succ]
  refine wpAnyH_take (i := 3) (oi := ?_) (v := ?_) ?_ (by kernel_rfl) (by kernel_rfl) (by kernel_rfl) ?_ ?_ (by assumption) ?_
  rotate_left 2
  · simp only [List.getElem?_toArray, List.getElem?_cons_succ, List.getElem?_cons_zero]; with_reducible rfl
  · exact fun _ _ _ h => h
  · refine Or.inl ⟨by rfl, ?_⟩; intro W hSw; have hSw2 := hSw.2.cell (i := 2) (v := .int .i64 x) rfl; go_simp; try with_reducible rfl
  try simp only [Act.put, List.setIfInBounds_toArray, List.set_cons_zero, List.set_cons_succ]
  refine wpAnyH_take (i := 4) (oi := ?_) (v := ?_) ?_ (by kernel_rfl) (by kernel_rfl) (by kernel_rfl) ?_ ?_ (by assumption) ?_
  rotate_left 2
  · simp only [List.getElem?_toArray, List.getElem?_cons_succ, List.getElem?_cons_zero]; with_reducible rfl
  · exact fun _ _ _ h => h
  · refine Or.inl ⟨by rfl, ?_⟩; intro W hSw; go_simp; try with_reducible rfl
  try simp only [Act.put, List.setIfInBounds_toArray, List.set_cons_zero, List.set_cons_succ]
  refine wpAnyH_take (i := 5) (oi := ?_) (v := ?_) ?_ (by kernel_rfl) (by kernel_rfl) (by kernel_rfl) ?_ ?_ (by assumption) ?_
  rotate_left 2
  · simp only [List.getElem?_toArray, List.getElem?_cons_succ, List.getElem?_cons_zero]; with_reducible rfl
  · exact fun _ _ _ h => h
  · refine Or.inl ⟨by rfl, ?_⟩; intro W hSw; go_simp; try with_reducible rfl
  try simp only [Act.put, List.setIfInBounds_toArray, List.set_cons_zero, List.set_cons_succ]
  refine wpAnyH_ready (rs := [6]) (by kernel_rfl) (by simp) ?_
  refine AllReadyH.cons (o := ?_) ?_ (fun K1 hK1 => ?_) AllReadyH.nil
  rotate_left 1
  · simp only [List.getElem?_toArray, List.getElem?_cons_succ, List.getElem?_cons_zero]; with_reducible rfl
  rw [if_pos (by rfl)]
  go_simp
  refine (HNO.out _).mono ?_
  rintro e5 w5 ⟨rfl, hb5⟩
  go_wp2_with fail
  refine hK1.out _ _ (⟨hHeld.1.call hb5, hHeld.2.call hb5⟩) (fun hHeld1 => ?_)
  clear hK1 K1
  try simp only [Act.put, List.setIfInBounds_toArray, List.set_cons_zero, List.set_cons_succ]
  refine wpAnyH_take (i := 7) (oi := ?_) (v := ?_) ?_ (by kernel_rfl) (by kernel_rfl) (by kernel_rfl) ?_ ?_ (by assumption) ?_
  rotate_left 2
  · simp only [List.getElem?_toArray, List.getElem?_cons_succ, List.getElem?_cons_zero]; with_reducible rfl
  · exact fun _ _ _ h => h
  · refine Or.inl ⟨by rfl, ?_⟩; intro W hSw; go_simp; try with_reducible rfl
  try simp only [Act.put, List.setIfInBounds_toArray, List.set_cons_zero, List.set_cons_succ]
  refine wpAnyH_ready (rs := [8]) (by kernel_rfl) (by simp) ?_
  refine AllReadyH.cons (o := ?_) ?_ (fun K2 hK2 => ?_) AllReadyH.nil
  rotate_left 1
  · simp only [List.getElem?_toArray, List.getElem?_cons_succ, List.getElem?_cons_zero]; with_reducible rfl
  rw [if_pos (by rfl)]
  go_simp
  refine (HPL.out _).mono ?_
  rintro e6 w6 ⟨rfl, rfl⟩
  go_wp2_with fail
  refine hK2.out _ _ (hHeld1) (fun hHeld2 => ?_)
  clear hK2 K2
  try simp only [Act.put, List.setIfInBounds_toArray, List.set_cons_zero, List.set_cons_succ]
  refine wpAnyH_take (i := 9) (oi := ?_) (v := ?_) ?_ (by kernel_rfl) (by kernel_rfl) (by kernel_rfl) ?_ ?_ (by assumption) ?_
  rotate_left 2
  · simp only [List.getElem?_toArray, List.getElem?_cons_succ, List.getElem?_cons_zero]; with_reducible rfl
  · exact fun _ _ _ h => h
  · refine Or.inl ⟨by rfl, ?_⟩; intro W hSw; go_simp; try with_reducible rfl
  try simp only [Act.put, List.setIfInBounds_toArray, List.set_cons_zero, List.set_cons_succ]
  refine wpAnyH_done (by kernel_rfl) ?_ _
  go_wp2_with fail
  go_ret
  exact ⟨rfl, hHeld2.1⟩
end Go.Proofs.YthgjelpmdndceaaGreatDoor
