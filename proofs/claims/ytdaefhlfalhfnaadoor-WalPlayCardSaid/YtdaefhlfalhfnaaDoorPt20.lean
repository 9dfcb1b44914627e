/- Layer 2: are all fates of a kind that is (Right of package lexiconref02)? -/
import Derived.Test.YtdaefhlfalhfnaaDoorPt03
namespace Go.Proofs.YtdaefhlfalhfnaaDoor
open Go.RowKit

set_option maxHeartbeats 1000000 in
theorem right_ok (A : Option Addr) (c : Nat) (l : List (Int × Int)) (w : World) (h : Holds w A l.length 2 (fcs l)) (hc : l.length ≤ c) (hcm : c ≤ 9223372036854775807) :
    Calls Tryd.prog 21 #[.slice A l.length c] w fun e w' => e = .returned (.bool (kindsB l)) ∧ w = w' := by
  have H := Lib.hid h
  clear h
  go_enter Tryd.func21, Tryd.ntmps21
  go_wp2_with fail
  go_loop [3] (fun v3 => ∃ k : Nat, k ≤ l.length ∧ v3 = .int .i64 k ∧ kindsB (l.take k) = true) (fun v3 => l.length - (intOf v3).toNat)
  case atStart => exact ⟨0, Nat.zero_le _, rfl, by simp [kindsB]⟩
  case round =>
    obtain ⟨k, hk, rfl, hkb⟩ := hrel
    by_cases hlt : k < l.length
    · obtain ⟨b, off, rfl, hbl, hc0, hc1⟩ := fate_cells H.out hlt
      have HT := Lib.hid (kinds_take l k hlt)
      have HF := Lib.hid (kinds_false l k hlt)
      have HK := Lib.hid hkb
      clear hkb
      generalize hp : l.getD k (0, 0) = q at *
      obtain ⟨x, y⟩ := q
      clear hp
      simp only at hc0
      rcases (by omega : x < 0 ∨ x = 0 ∨ x = 1 ∨ 1 < x) with hx | rfl | rfl | hx
      · have HK2 : Hid (kindsB l = false) := Lib.hid (HF.out (by simp [kindOk]; omega))
        clear HT HF HK
        go_wp2
        go_ret
        exact ⟨ret_val (by rw [HK2.out]; rfl), rfl⟩
      · have HK2 : Hid (kindsB (l.take (k + 1)) = true) := Lib.hid (by rw [HT.out, HK.out]; rfl)
        clear HT HF HK
        go_wp2
        go_round
        case rel => exact ⟨k + 1, by omega, by go_num, HK2.out⟩
        case measure => simp [intOf]; omega
      · have HK2 : Hid (kindsB (l.take (k + 1)) = true) := Lib.hid (by rw [HT.out, HK.out]; rfl)
        clear HT HF HK
        go_wp2
        go_round
        case rel => exact ⟨k + 1, by omega, by go_num, HK2.out⟩
        case measure => simp [intOf]; omega
      · have HK2 : Hid (kindsB l = false) := Lib.hid (HF.out (by simp [kindOk]; omega))
        clear HT HF HK
        go_wp2
        go_ret
        exact ⟨ret_val (by rw [HK2.out]; rfl), rfl⟩
    · obtain rfl : k = l.length := by omega
      rw [List.take_length] at hkb
      have HK := Lib.hid hkb
      clear hkb
      go_wp2
      go_ret
      exact ⟨ret_val (by rw [HK.out]; rfl), rfl⟩
end Go.Proofs.YtdaefhlfalhfnaaDoor
