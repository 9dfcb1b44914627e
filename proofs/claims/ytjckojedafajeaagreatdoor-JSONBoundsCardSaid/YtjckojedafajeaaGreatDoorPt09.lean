/- Layer 7: how many noughts a number's digits have behind them. -/
import Derived.Test.YtjckojedafajeaaGreatDoorPt06
namespace Go.Proofs.YtjckojedafajeaaGreatDoor
open Go.RowKit

theorem wval_split (l : List Nat) (i : Nat) : wval l = wtk l i + 1000000000 ^ (min i l.length) * wval (l.drop i) := by
  conv => lhs; rw [← List.take_append_drop i l]
  rw [wval_append, List.length_take]
  rfl
theorem wval_drop (l : List Nat) (i : Nat) (hi : i < l.length) : wval (l.drop i) = wat l i + 1000000000 * wval (l.drop (i + 1)) := by
  rw [List.drop_eq_getElem_cons hi]
  unfold wat
  rw [List.getD, List.getElem?_eq_getElem hi]
  rfl
theorem tz_words (l : List Nat) (i j : Nat) (hi : i < l.length) (hz : wtk l i = 0) (hj : j < 9) (hd : wat l i % 10 ^ j = 0) (hm : wat l i / 10 ^ j % 10 ≠ 0) : tz (wval l) = 9 * i + j := by
  have e1 := wval_split l i
  rw [hz, Nat.min_eq_left (by omega), Nat.zero_add, wval_drop l i hi] at e1
  have e2 : wat l i = wat l i / 10 ^ j * 10 ^ j := by
    have := Nat.div_add_mod (wat l i) (10 ^ j)
    rw [hd, Nat.mul_comm] at this; omega
  have e3 : (1000000000 : Nat) = 10 ^ (9 - j) * 10 ^ j := by rw [← Nat.pow_add, Nat.sub_add_cancel (by omega)]
  have e4 : (10 : Nat) ^ (9 - j) = 10 * 10 ^ (8 - j) := by rw [show 9 - j = (8 - j) + 1 by omega, Nat.pow_succ']
  have e5 : wat l i + 1000000000 * wval (l.drop (i + 1)) = (wat l i / 10 ^ j + 10 * (10 ^ (8 - j) * wval (l.drop (i + 1)))) * 10 ^ j := by
    rw [Nat.add_mul, ← e2]
    congr 1
    conv => lhs; rw [e3, e4]
    rw [Nat.mul_assoc, Nat.mul_assoc, Nat.mul_assoc, Nat.mul_assoc, Nat.mul_comm (10 ^ j)]
  have e6 : wval l = (wat l i / 10 ^ j + 10 * (10 ^ (8 - j) * wval (l.drop (i + 1)))) * 10 ^ (9 * i + j) := by
    rw [e1, e5, ← ten_nine, Nat.pow_add, Nat.mul_comm (10 ^ (9 * i)), Nat.mul_assoc, Nat.mul_comm (10 ^ j)]
  rw [e6]
  exact tz_mul_pow (by omega) _
theorem div_step (x j : Nat) (hd : x % 10 ^ j = 0) (hm : x / 10 ^ j % 10 = 0) : x % 10 ^ (j + 1) = 0 := by
  have e1 : x = x / 10 ^ j * 10 ^ j := by
    have := Nat.div_add_mod x (10 ^ j)
    rw [hd, Nat.mul_comm] at this; omega
  have e2 : x / 10 ^ j = 10 * (x / 10 ^ j / 10) := by omega
  have e3 : x = x / 10 ^ j / 10 * 10 ^ (j + 1) := by
    conv => lhs; rw [e1, e2]
    rw [Nat.pow_succ, Nat.mul_comm 10, Nat.mul_assoc, Nat.mul_comm 10]
  rw [e3]; exact Nat.mul_mod_left _ _
theorem div_next (x j : Nat) : x / 10 ^ j / 10 = x / 10 ^ (j + 1) := by rw [Nat.div_div_eq_div_mul, Nat.pow_succ]
theorem word_zero {x : Nat} (hx : x < 1000000000) (h : x % 10 ^ 9 = 0) : x = 0 := by rw [ten9] at h; omega

set_option maxHeartbeats 2000000 in
theorem noughtsBehind_ok (v : Value) (n : Nat) (w : World) (hn : 0 < n) (h : Wds w v (wds n)) (hlen : (wds n).length ≤ 2000000) :
    Calls Tryz.prog 182 #[v] w fun e w' => e = .returned (.int .i64 (tz n : Nat)) ∧ w = w' := by
  have hpos : 0 < (wds n).length := by
    rcases Nat.eq_zero_or_pos (wds n).length with e | e
    · have := wds_nil (List.eq_nil_of_length_eq_zero e); omega
    · exact e
  have hW := wds_words n
  have hv := wval_wds n
  generalize wds n = l at *
  obtain ⟨b, off, c, rfl, h2, h3, hb, hc⟩ := h.at_ hpos
  clear h
  have HC := Lib.hid hc
  have HV := Lib.hid hv
  have HW := Lib.hid hW
  clear hc hv hW
  unfold maxLen at h3
  obtain ⟨m, hm⟩ : ∃ m, m = l.length := ⟨_, rfl⟩
  rw [← hm] at h2 hlen hpos
  have HM := Lib.hid hm
  rw [← hm]
  clear hm
  go_enter Tryz.func182, Tryz.ntmps182
  go_wp2_with fail
  go_step3
  go_wp2_with fail
  go_step3
  go_wp2_with fail
  go_loop [3, 8] (fun v3 v8 => ∃ i : Nat, i ≤ m ∧ v8 = .int .i64 i ∧ v3 = .int .i64 (9 * i : Nat) ∧ Hid (wtk l i = 0)) (fun _ v8 => m - (intOf v8).toNat)
  case atStart => exact ⟨0, Nat.zero_le _, rfl, rfl, Lib.hid (wtk_zero l)⟩
  case round =>
    obtain ⟨i, hi, rfl, rfl, Hz⟩ := hrel
    by_cases hlt : i < m
    · have hci := HC.out i (by rw [← HM.out]; exact hlt)
      have hx := wat_lt HW.out i
      have HT := Lib.hid (fun j => tz_words l i j (by rw [← HM.out]; exact hlt) Hz.out)
      have HZ : Hid (wat l i = 0 → wtk l (i + 1) = 0) := Lib.hid (fun e => by rw [wtk_succ, Hz.out, e]; simp)
      rw [HV.out] at HT
      clear HC Hz
      generalize wat l i = x at *
      go_wp2_with fail
      go_loop [3, 5, 12] (fun v3 v5 v12 => ∃ j : Nat, j ≤ 9 ∧ v12 = .int .i64 j ∧ v3 = .int .i64 (9 * i + j : Nat) ∧ v5 = .int .u64 (x / 10 ^ j : Nat) ∧ Hid (x % 10 ^ j = 0)) (fun _ _ v12 => 9 - (intOf v12).toNat)
      case atStart => exact ⟨0, Nat.zero_le _, rfl, rfl, by simp, Lib.hid (by simp [Nat.mod_one])⟩
      case round =>
        obtain ⟨j, hj, rfl, rfl, rfl, Hd⟩ := hrel
        by_cases hj9 : j < 9
        · have hy : x / 10 ^ j < 1000000000 := Nat.lt_of_le_of_lt (Nat.div_le_self _ _) hx
          by_cases hm0 : x / 10 ^ j % 10 = 0
          · have HD2 := Lib.hid (div_step x j Hd.out hm0)
            have HN2 := Lib.hid (div_next x j)
            clear Hd HT
            generalize x / 10 ^ j = y at *
            have hyy : (((y : Int) % 10) == 0) = true := by simp; omega
            go_wp2
            go_round
            case rel => exact ⟨j + 1, by omega, by go_num, by go_num, by rw [← HN2.out]; go_num, HD2⟩
            case measure => simp [intOf]; omega
          · have HE := Lib.hid (HT.out j hj9 Hd.out hm0)
            clear Hd HT
            generalize x / 10 ^ j = y at *
            have hyy : (((y : Int) % 10) == 0) = false := by simp; omega
            go_wp2
            go_ret
            exact ⟨by rw [HE.out]; rfl, rfl⟩
        · obtain rfl : j = 9 := by omega
          have HZ2 := Lib.hid (HZ.out (word_zero hx Hd.out))
          clear HT HZ Hd
          go_wp2
          go_round
          case rel => exact ⟨i + 1, by omega, by go_num, by go_num, HZ2⟩
          case measure => simp [intOf]; omega
    · exfalso
      obtain rfl : i = m := by omega
      have := Hz.out
      rw [wtk_all l (by rw [HM.out]; exact Nat.le_refl _), HV.out] at this
      omega
end Go.Proofs.YtjckojedafajeaaGreatDoor
