/- Layer 7: the guess of a quotient's word; what is taken away. -/
import Derived.Test.YthgjelpmdndceaaGreatDoorPt39
import Derived.Test.YthgjelpmdndceaaGreatDoorPt19
namespace Go.Proofs.YthgjelpmdndceaaGreatDoor
open Go.RowKit

def SameW (w W : World) : Prop := W = w
set_option maxHeartbeats 1000000 in
theorem guess_ok (va vb : Value) (R P : Nat) (w : World) (ha : Wds w va (wds R)) (hb : Wds w vb (wds P)) (hP : 0 < P) (hR : R < P * 1000000000) (hl : (wds P).length ≤ 1000000) :
    Calls Tryz.prog 66 #[va, vb] w fun e w' => e = .returned (.int .u64 ((R / 1000000000 ^ ((wds P).length - 1) / (P / 1000000000 ^ ((wds P).length - 1)) : Nat) : Int)) ∧ w' = w.drew := by
  obtain ⟨g1, g2⟩ := guess_words hP hR
  have ht1 := (wds_top hP).2.1
  have hp := wds_len_pos hP
  rw [← g1, ← g2]
  have hx := wat_lt (wds_words R) (wds P).length
  have hy := wat_lt (wds_words R) ((wds P).length - 1)
  have ht := wat_lt (wds_words P) ((wds P).length - 1)
  obtain ⟨B, off, c, rfl, hc1, hc2, hB, hcell⟩ := hb.at_ hp
  have HCELL := Lib.hid (hcell ((wds P).length - 1) (by omega))
  have HA := Lib.hid ha
  have HLT := Lib.hid hB
  clear ha hb hcell g1 g2 hR hB
  generalize wds P = p at *
  unfold maxLen at hc2
  obtain ⟨n, hn⟩ : ∃ n, n = p.length - 1 := ⟨_, rfl⟩
  have hn2 : p.length = n + 1 := by omega
  have HX : Hid (∀ W, SameW w.drew W → Calls Tryz.prog 54 #[va, .int .i64 (n + 1 : Nat)] W fun e w' => e = .returned (.int .u64 (wat (wds R) (n + 1))) ∧ W = w') := Lib.hid fun W h => wordAt_ok va (wds R) (n + 1) W (HA.out.below (by unfold SameW at h; rw [h]; exact (Below.refl _ _).drew)) (by omega)
  have HY : Hid (∀ W, SameW w.drew W → Calls Tryz.prog 54 #[va, .int .i64 (n : Nat)] W fun e w' => e = .returned (.int .u64 (wat (wds R) n)) ∧ W = w') := Lib.hid fun W h => wordAt_ok va (wds R) n W (HA.out.below (by unfold SameW at h; rw [h]; exact (Below.refl _ _).drew)) (by omega)
  rw [← hn] at hy ht ht1 HCELL ⊢
  rw [hn2] at hx hc1 ⊢
  have hlm : n ≤ 1000000 := by omega
  clear hn hn2 hl hp
  generalize wat (wds R) (n + 1) = x at *
  generalize wat (wds R) n = y at *
  generalize wat p n = t at *
  have hcast : ((n + 1 : Nat) : Int) = (n : Int) + 1 := by omega
  rw [hcast] at HX
  obtain ⟨Z, hZ⟩ : ∃ Z, Z = (x * 1000000000 + y) / t := ⟨_, rfl⟩
  have hz : ((x : Int) * 1000000000 + (y : Int)).tdiv (t : Int) = (Z : Int) := by rw [Int.tdiv_eq_ediv_of_nonneg (by omega), hZ, Int.natCast_ediv]; congr 1
  have ht0 : ¬ t = 0 := by omega
  rw [← hZ]
  have hzl : Z ≤ 1000000000000000000 := by rw [hZ]; exact Nat.le_trans (Nat.div_le_self _ _) (by omega)
  clear hZ
  have hwr : IntKind.i64.wrap ((n : Int) + 1) = (n : Int) + 1 := IntWalk.i64_in _ (by omega)
  have hwx : IntKind.u64.wrap ((x : Int) * 1000000000) = (x : Int) * 1000000000 := by rw [IntKind.wrap_u64]; omega
  have hwy : IntKind.u64.wrap ((x : Int) * 1000000000 + (y : Int)) = (x : Int) * 1000000000 + (y : Int) := by rw [IntKind.wrap_u64]; omega
  have hwz : IntKind.u64.wrap (Z : Int) = (Z : Int) := by rw [IntKind.wrap_u64]; omega
  have hnn : (n : Int) < (n : Int) + 1 := by omega
  go_enter Tryz.func66, Tryz.ntmps66
  go_upto_region 2 with fail
  refine wp_region_held_drew (S := (fun W => SameW w.drew W)) (by kernel_rfl) (rfl) (fun hHeld => ?_)
  refine wpAnyH_take (i := 0) (oi := ?_) (v := ?_) ?_ (by kernel_rfl) (by kernel_rfl) (by kernel_rfl) ?_ ?_ (by assumption) ?_
  rotate_left 2
  · simp only [List.getElem?_toArray, List.getElem?_cons_zero]; with_reducible rfl
  · exact fun _ _ _ h => h
  · refine Or.inl ⟨by rfl, ?_⟩; intro W hSw; go_simp; try with_reducible rfl
  try simp only [Act.put, List.setIfInBounds_toArray, List.set_cons_zero, List.set_cons_succ]
  refine wpAnyH_take (i := 1) (oi := ?_) (v := ?_) ?_ (by kernel_rfl) (by kernel_rfl) (by kernel_rfl) ?_ ?_ (by assumption) ?_
  rotate_left 2
  · simp only [List.getElem?_toArray, List.getElem?_cons_succ, List.getElem?_cons_zero]; with_reducible rfl
  · exact fun _ _ _ h => h
  · refine Or.inl ⟨by rfl, ?_⟩; intro W hSw; go_simp; try with_reducible rfl
  try simp only [Act.put, List.setIfInBounds_toArray, List.set_cons_zero, List.set_cons_succ]
  refine wpAnyH_take (i := 2) (oi := ?_) (v := ?_) ?_ (by kernel_rfl) (by kernel_rfl) (by kernel_rfl) ?_ ?_ (by assumption) ?_
  rotate_left 2
  · simp only [List.getElem?_toArray, List.getElem?_cons_succ, List.getElem?_cons_zero]; with_reducible rfl
  · exact fun _ _ _ h => h
  · refine Or.inl ⟨by rfl, ?_⟩; intro W hSw; go_simp; try with_reducible rfl
  try simp only [Act.put, List.setIfInBounds_toArray, List.set_cons_zero, List.set_cons_succ]
  refine wpAnyH_take (i := 5) (oi := ?_) (v := ?_) ?_ (by kernel_rfl) (by kernel_rfl) (by kernel_rfl) ?_ ?_ (by assumption) ?_
  rotate_left 2
  · simp only [List.getElem?_toArray, List.getElem?_cons_succ, List.getElem?_cons_zero]; with_reducible rfl
  · exact fun _ _ _ h => h
  · refine Or.inl ⟨by rfl, ?_⟩; intro W hSw; go_simp; try with_reducible rfl
  try simp only [Act.put, List.setIfInBounds_toArray, List.set_cons_zero, List.set_cons_succ]
  refine wpAnyH_take (i := 6) (oi := ?_) (v := ?_) ?_ (by kernel_rfl) (by kernel_rfl) (by kernel_rfl) ?_ ?_ (by assumption) ?_
  rotate_left 2
  · simp only [List.getElem?_toArray, List.getElem?_cons_succ, List.getElem?_cons_zero]; with_reducible rfl
  · exact fun _ _ _ h => h
  · refine Or.inl ⟨by rfl, ?_⟩; intro W hSw; go_simp; try with_reducible rfl
  try simp only [Act.put, List.setIfInBounds_toArray, List.set_cons_zero, List.set_cons_succ]
  refine wpAnyH_take (i := 9) (oi := ?_) (v := ?_) ?_ (by kernel_rfl) (by kernel_rfl) (by kernel_rfl) ?_ ?_ (by assumption) ?_
  rotate_left 2
  · simp only [List.getElem?_toArray, List.getElem?_cons_succ, List.getElem?_cons_zero]; with_reducible rfl
  · exact fun _ _ _ h => h
  · refine Or.inl ⟨by rfl, ?_⟩; intro W hSw; go_simp; try with_reducible rfl
  try simp only [Act.put, List.setIfInBounds_toArray, List.set_cons_zero, List.set_cons_succ]
  refine wpAnyH_take (i := 10) (oi := ?_) (v := ?_) ?_ (by kernel_rfl) (by kernel_rfl) (by kernel_rfl) ?_ ?_ (by assumption) ?_
  rotate_left 2
  · simp only [List.getElem?_toArray, List.getElem?_cons_succ, List.getElem?_cons_zero]; with_reducible rfl
  · exact fun _ _ _ h => h
  · refine Or.inl ⟨by rfl, ?_⟩; intro W hSw; go_simp; try with_reducible rfl
  try simp only [Act.put, List.setIfInBounds_toArray, List.set_cons_zero, List.set_cons_succ]
  refine wpAnyH_take (i := 11) (oi := ?_) (v := ?_) ?_ (by kernel_rfl) (by kernel_rfl) (by kernel_rfl) ?_ ?_ (by assumption) ?_
  rotate_left 2
  · simp only [List.getElem?_toArray, List.getElem?_cons_succ, List.getElem?_cons_zero]; with_reducible rfl
  · exact fun _ _ _ h => h
  · refine Or.inl ⟨by rfl, ?_⟩; intro W hSw; go_simp; try with_reducible rfl
  try simp only [Act.put, List.setIfInBounds_toArray, List.set_cons_zero, List.set_cons_succ]
  refine wpAnyH_take (i := 12) (oi := ?_) (v := ?_) ?_ (by kernel_rfl) (by kernel_rfl) (by kernel_rfl) ?_ ?_ (by assumption) ?_
  rotate_left 2
  · simp only [List.getElem?_toArray, List.getElem?_cons_succ, List.getElem?_cons_zero]; with_reducible rfl
  · exact fun _ _ _ h => h
  · refine Or.inl ⟨by rfl, ?_⟩; intro W hSw; have hk : W.cell? ⟨B, off + n, none⟩ = some (.int .u64 (t : Int)) := (by unfold SameW at hSw; rw [hSw]; exact HCELL.out); go_simp; try with_reducible rfl
  try simp only [Act.put, List.setIfInBounds_toArray, List.set_cons_zero, List.set_cons_succ]
  refine wpAnyH_ready (rs := [3]) (by kernel_rfl) (by simp) ?_
  refine AllReadyH.cons (o := ?_) ?_ (fun K1 hK1 => ?_) AllReadyH.nil
  rotate_left 1
  · simp only [List.getElem?_toArray, List.getElem?_cons_succ, List.getElem?_cons_zero]; with_reducible rfl
  rw [if_pos (by rfl)]
  go_simp
  refine (HX.out _ hHeld).mono ?_
  rintro e w5 ⟨rfl, rfl⟩
  go_wp2_with fail
  refine hK1.out _ _ (hHeld) (fun hHeld1 => ?_)
  clear hK1 K1
  try simp only [Act.put, List.setIfInBounds_toArray, List.set_cons_zero, List.set_cons_succ]
  refine wpAnyH_take (i := 4) (oi := ?_) (v := ?_) ?_ (by kernel_rfl) (by kernel_rfl) (by kernel_rfl) ?_ ?_ (by assumption) ?_
  rotate_left 2
  · simp only [List.getElem?_toArray, List.getElem?_cons_succ, List.getElem?_cons_zero]; with_reducible rfl
  · exact fun _ _ _ h => h
  · refine Or.inl ⟨by rfl, ?_⟩; intro W hSw; go_simp; try with_reducible rfl
  try simp only [Act.put, List.setIfInBounds_toArray, List.set_cons_zero, List.set_cons_succ]
  refine wpAnyH_ready (rs := [7]) (by kernel_rfl) (by simp) ?_
  refine AllReadyH.cons (o := ?_) ?_ (fun K2 hK2 => ?_) AllReadyH.nil
  rotate_left 1
  · simp only [List.getElem?_toArray, List.getElem?_cons_succ, List.getElem?_cons_zero]; with_reducible rfl
  rw [if_pos (by rfl)]
  go_simp
  refine (HY.out _ hHeld1).mono ?_
  rintro e w5 ⟨rfl, rfl⟩
  go_wp2_with fail
  refine hK2.out _ _ (hHeld1) (fun hHeld2 => ?_)
  clear hK2 K2
  try simp only [Act.put, List.setIfInBounds_toArray, List.set_cons_zero, List.set_cons_succ]
  refine wpAnyH_take (i := 8) (oi := ?_) (v := ?_) ?_ (by kernel_rfl) (by kernel_rfl) (by kernel_rfl) ?_ ?_ (by assumption) ?_
  rotate_left 2
  · simp only [List.getElem?_toArray, List.getElem?_cons_succ, List.getElem?_cons_zero]; with_reducible rfl
  · exact fun _ _ _ h => h
  · refine Or.inl ⟨by rfl, ?_⟩; intro W hSw; go_simp; try with_reducible rfl
  try simp only [Act.put, List.setIfInBounds_toArray, List.set_cons_zero, List.set_cons_succ]
  refine wpAnyH_take (i := 13) (oi := ?_) (v := ?_) ?_ (by kernel_rfl) (by kernel_rfl) (by kernel_rfl) ?_ ?_ (by assumption) ?_
  rotate_left 2
  · simp only [List.getElem?_toArray, List.getElem?_cons_succ, List.getElem?_cons_zero]; with_reducible rfl
  · exact fun _ _ _ h => h
  · refine Or.inl ⟨by rfl, ?_⟩; intro W hSw; go_simp; try with_reducible rfl
  try simp only [Act.put, List.setIfInBounds_toArray, List.set_cons_zero, List.set_cons_succ]
  refine wpAnyH_take (i := 14) (oi := ?_) (v := ?_) ?_ (by kernel_rfl) (by kernel_rfl) (by kernel_rfl) ?_ ?_ (by assumption) ?_
  rotate_left 2
  · simp only [List.getElem?_toArray, List.getElem?_cons_succ, List.getElem?_cons_zero]; with_reducible rfl
  · exact fun _ _ _ h => h
  · refine Or.inl ⟨by rfl, ?_⟩; intro W hSw; go_simp; try with_reducible rfl
  try simp only [Act.put, List.setIfInBounds_toArray, List.set_cons_zero, List.set_cons_succ]
  refine wpAnyH_done (by kernel_rfl) ?_ _
  go_wp2_with fail
  go_ret
  exact ⟨rfl, hHeld2⟩

set_option maxRecDepth 100000 in
/-- Is what is left less than what is to be taken away? -/
theorem took_less (va vT : Value) (R P q : Nat) (T : List Nat) (w : World) (ha : Wds w va (wds R)) (hT : Wds w vT T) (ht : Took P q (wds P).length T) (hP : 0 < P) (hR : R < P * 1000000000) (hl : (wds P).length ≤ 1000000) (hl2 : T.length ≤ 1000001) :
    Calls Tryz.prog 53 #[va, vT] w fun e w' => e = .returned (.bool (decide (R < P * q))) ∧ Below w.heap.size w w' := by
  have ha' := ha
  have hT' := hT
  obtain ⟨_, A, c, rfl, _⟩ := ha'
  obtain ⟨_, B, d, rfl, hd1, _⟩ := hT'
  have hPl := (wds_top hP).2.2.1
  rw [← ht.less hPl hR]
  have hRl : (wds R).length ≤ (wds P).length + 1 := wds_length_le (pow_room hPl hR)
  exact less_at A B c d _ _ _ _ w rfl rfl ha hT hd1 (by omega) (by omega)
set_option maxRecDepth 100000 in
theorem Took.len {P q : Nat} {T : List Nat} (ht : Took P q (wds P).length T) (hP : 0 < P) (hq : q ≤ 1000000001) : T.length ≤ (wds P).length + 2 := by
  rcases ht.form with e | e
  · rw [e]
    have h3 := (wds_top hP).2.2.1
    exact wds_length_le (pow_room2 h3 hq)
  · omega
set_option maxRecDepth 100000 in
/-- One time less is taken away. -/
theorem took_down (vT vP : Value) (P q : Nat) (T : List Nat) (w : World) (hT : Wds w vT T) (hb : Wds w vP (wds P)) (ht : Took P q (wds P).length T) (hP : 0 < P) (hq : 1 ≤ q) (hq2 : q ≤ 1000000001) (hl : (wds P).length ≤ 500000) :
    Calls Tryz.prog 24 #[vT, vP, .bool true] w (JoinF w (P * (q - 1)) false) := by
  have hPl := (wds_top hP).2.2.1
  have hlen := ht.len hP hq2
  have hval : P * q - P = P * (q - 1) := by rw [Nat.mul_sub, Nat.mul_one]
  have hle : P ≤ P * q := by have : P * 1 ≤ P * q := Nat.mul_le_mul_left _ hq; omega
  rcases ht.form with e | e
  · subst e
    have h := joinedF_ok vT vP (P * q) P true w hT hb (by omega) (by omega)
    unfold joinN joinT at h
    rw [if_pos rfl, if_neg (by omega), decide_eq_false (by omega), hval] at h
    exact h
  · obtain ⟨ho, hls⟩ := ht.over e hPl rfl hq hq2
    have hT' := hT
    have hb' := hb
    obtain ⟨_, A, c, rfl, _⟩ := hT'
    obtain ⟨_, B, d, rfl, hd1, _⟩ := hb'
    have h := joined_down A B c d _ _ T (wds P) w rfl rfl hT hb hd1 (by omega) (by omega) hls ho
    rw [wval_wds, ht.val, hval] at h
    exact h
set_option maxRecDepth 100000 in
/-- What is left behind it. -/
theorem took_end (va vT : Value) (R P q : Nat) (T : List Nat) (w : World) (ha : Wds w va (wds R)) (hT : Wds w vT T) (ht : Took P q (wds P).length T) (hP : 0 < P) (hR : R < P * 1000000000) (hle : P * q ≤ R) (hl : (wds P).length ≤ 500000) :
    Calls Tryz.prog 24 #[va, vT, .bool true] w (JoinF w (R - P * q) false) := by
  have hPl := (wds_top hP).2.2.1
  have hR2 : R < 1000000000 ^ ((wds P).length + 1) := pow_room hPl hR
  have hRl : (wds R).length ≤ (wds P).length + 1 := wds_length_le hR2
  rcases ht.form with e | e
  · subst e
    have hl3 : (wds (P * q)).length ≤ (wds P).length + 1 := wds_length_le (Nat.lt_of_le_of_lt hle hR2)
    have h := joinedF_ok va vT R (P * q) true w ha hT (by omega) (by omega)
    unfold joinN joinT at h
    rw [if_pos rfl, if_neg (by omega), decide_eq_false (by omega)] at h
    exact h
  · exact absurd (Nat.le_trans (ht.big e) hle) (Nat.not_le.2 hR2)
end Go.Proofs.YthgjelpmdndceaaGreatDoor
