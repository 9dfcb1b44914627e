/- Layer 7: the document's Add. -/
import Derived.Test.YtlcbjikiodmlfaaGreatDoorPt32
namespace Go.Proofs.YtlcbjikiodmlfaaGreatDoor
open Go.RowKit

theorem add_eq {P A B S c da db : Nat} (h : S + P * c = A + B) : S + P * ((da + db + c) % 10) + P * 10 * ((da + db + c) / 10) = A + P * da + (B + P * db) := by
  rw [carry_step h, Nat.mul_add]
  omega
set_option maxHeartbeats 2000000 in
theorem radd_ok (a b : List UInt8) (w : World) (ha : Digs a) (hb : Digs b) (hl : a.length ≤ 900000) (hlb : b.length ≤ 900000) :
    Calls Tryz.prog 22 #[.string (bs a), .string (bs b)] w fun e w' => e = .returned (.string (bs (dig (num a + num b)))) ∧ Below w.heap.size w w' := by
  have hsa := bs_size a
  have hsb := bs_size b
  obtain ⟨la, hla⟩ : ∃ n, n = a.length := ⟨_, rfl⟩
  obtain ⟨lb, hlb2⟩ : ∃ n, n = b.length := ⟨_, rfl⟩
  obtain ⟨n, hn⟩ : ∃ n, n = max la lb + 1 := ⟨_, rfl⟩
  have HLA := Lib.hid hla
  have HLB := Lib.hid hlb2
  rw [← hla] at hsa hl
  rw [← hlb2] at hsb hlb
  have hmax : max (la : Int) (lb : Int) + 1 = (n : Int) := by omega
  have hmax2 : max (la : Int) (lb : Int) = (n : Int) - 1 := by omega
  have hnl : n ≤ 900001 := by omega
  have hAn : a.length + 1 ≤ n := by omega
  have hBn : b.length + 1 ≤ n := by omega
  have HA := Lib.hid ha
  have HB := Lib.hid hb
  have HT : Hid (num a % 10 ^ n = num a ∧ num b % 10 ^ n = num b ∧ num a + num b < 10 ^ n) := Lib.hid (by
    have h1 := num_lt ha
    have h2 := num_lt hb
    obtain ⟨k, hk⟩ : ∃ k, n = k + 1 := ⟨n - 1, by omega⟩
    have h3 : 10 ^ a.length ≤ 10 ^ k := Nat.pow_le_pow_right (by omega) (by omega)
    have h4 : 10 ^ b.length ≤ 10 ^ k := Nat.pow_le_pow_right (by omega) (by omega)
    rw [hk, Nat.pow_succ]
    exact ⟨Nat.mod_eq_of_lt (by omega), Nat.mod_eq_of_lt (by omega), by omega⟩)
  have HDA : Hid (∀ k, k < n → ∀ W, Calls Tryz.prog 48 #[.string (bs a), .int .i64 (k : Int)] W fun e w' => e = .returned (.int .i64 (dAt a k : Nat)) ∧ W = w') := Lib.hid fun k hk W => rdigit_ok a k W ha (by omega) (by omega)
  have HDB : Hid (∀ k, k < n → ∀ W, Calls Tryz.prog 48 #[.string (bs b), .int .i64 (k : Int)] W fun e w' => e = .returned (.int .i64 (dAt b k : Nat)) ∧ W = w') := Lib.hid fun k hk W => rdigit_ok b k W hb (by omega) (by omega)
  clear hn ha hb hla hlb2 hAn hBn
  obtain ⟨w1, hw1⟩ : ∃ w1, w1 = w.alloc (.cells (u8s (List.replicate n 0)).toArray 5) := ⟨_, rfl⟩
  have HR1 : Hid (Row w1 w.heap.size 5 (u8s (List.replicate n 0)).toArray) := Lib.hid (by subst hw1; exact Row.new _ _ _)
  have HB1 : Hid (Below w.heap.size w w1) := Lib.hid (by subst hw1; exact (Below.refl _ _).alloc (Nat.le_refl _) _)
  go_enter Tryz.func22, Tryz.ntmps22
  generalize bs a = sa at *
  generalize bs b = sb at *
  go_upto_region 2 with fail
  go_upto_region 3 with (
      skip
      refine wpList_make_u8 ?_ 61 5 (.tmp 16) ?_ n ?_ Tryz.underlying61 infoU8 (by omega) ?_
      · with_reducible rfl
      · with_reducible rfl
      · exact congrArg (Value.int .i64) (by omega))
  rw [← hw1]
  clear hw1
  go_wp2_with fail
  go_loopw [7, 8] (fun v7 v8 wr => ∃ (k c : Nat) (out : List UInt8) (S : Nat), k ≤ n ∧ v8 = .int .i64 k ∧ v7 = .int .i64 c ∧ c ≤ 1 ∧ Hid (Row wr w.heap.size 5 (u8s out).toArray ∧ Below w.heap.size w wr) ∧ Hid (OutAt n k out S) ∧ Hid (S + 10 ^ k * c = num a % 10 ^ k + num b % 10 ^ k)) (fun _ v8 _ => n - (intOf v8).toNat)
  case atStart => exact ⟨0, 0, _, 0, Nat.zero_le _, rfl, rfl, by omega, Lib.hid ⟨HR1.out, HB1.out⟩, Lib.hid (OutAt.start n), Lib.hid (by simp [Nat.mod_one])⟩
  case round =>
    obtain ⟨k, c, out, S, hk, rfl, rfl, hc, HR, HO, HE⟩ := hrel
    by_cases hlt : k < n
    · have hda := dAt_lt a k
      have hdb := dAt_lt b k
      have HNA := Lib.hid (mod_next a k)
      have HNB := Lib.hid (mod_next b k)
      have HDA2 := Lib.hid (HDA.out k hlt)
      have HDB2 := Lib.hid (HDB.out k hlt)
      generalize dAt a k = da at *
      generalize dAt b k = db at *
      have hlen := HO.out.len
      obtain ⟨p, hp⟩ : ∃ p, p = n - 1 - k := ⟨_, rfl⟩
      have kc := HR.out.1.cell (i := p) (v := .int .u8 ((out.getD p 0).toNat : Int)) (by rw [List.getElem?_toArray]; exact u8s_get _ (by omega))
      have fc := HR.out.1.free p
      have hpi : (n : Int) - 1 - (k : Int) = (p : Int) := by omega
      have hpn : p < n := by omega
      have hn1 : IntKind.i64.wrap ((n : Int) - 1) = (n : Int) - 1 := IntWalk.i64_in _ (by omega)
      obtain ⟨y, hy⟩ : ∃ y, y = da + db + c := ⟨_, rfl⟩
      have hy1 : (da : Int) + (db : Int) + (c : Int) = (y : Int) := by omega
      have hyl : y ≤ 19 := by omega
      obtain ⟨d, hd⟩ : ∃ d, d = y % 10 := ⟨_, rfl⟩
      obtain ⟨c2, hc2⟩ : ∃ c2, c2 = y / 10 := ⟨_, rfl⟩
      have hd10 : d < 10 := by omega
      have hc2l : c2 ≤ 1 := by omega
      have hdi : (y : Int).tmod 10 = (d : Int) := by rw [Int.tmod_eq_emod_of_nonneg (by omega)]; omega
      have hdi2 : (y : Int) % 10 = (d : Int) := by omega
      have hci : (y : Int).tdiv 10 = (c2 : Int) := by rw [Int.tdiv_eq_ediv_of_nonneg (by omega)]; omega
      have hci2 : (y : Int) / 10 = (c2 : Int) := by omega
      have hwy : IntKind.i64.wrap (y : Int) = (y : Int) := IntWalk.i64_in _ (by omega)
      have HS := HO.out.step hlt hd10
      have HROW := HR.out.1.set_ p (.int .u8 ((UInt8.ofNat (48 + d)).toNat : Int))
      rw [u8s_set] at HROW
      rw [← hp] at HS
      have HBL := HR.out.2.setCell (p := ⟨w.heap.size, p, none⟩) (Nat.le_refl _) (.int .u8 ((UInt8.ofNat (48 + d)).toNat : Int))
      rw [ofNat_val hd10, show ((48 + d : Nat) : Int) = 48 + (d : Int) by omega] at HROW HBL
      have HROW' := Lib.hid HROW
      have HBL' := Lib.hid HBL
      have HS' := Lib.hid HS
      have HE' : Hid (S + 10 ^ k * d + 10 ^ (k + 1) * c2 = num a % 10 ^ (k + 1) + num b % 10 ^ (k + 1)) := Lib.hid (by
        rw [HNA.out, HNB.out, Nat.pow_succ, hd, hc2, hy]; exact add_eq HE.out)
      have hw8 : IntKind.u8.wrap (48 + (d : Int)) = 48 + (d : Int) := by simp [IntKind.wrap, IntKind.bits, IntKind.signed]; omega
      clear HS HROW HBL hp hlen hd hc2 hy
      go_wp2_with fail
      refine (HDA2.out _).mono ?_
      rintro e w9 ⟨rfl, rfl⟩
      go_wp2_with fail
      refine (HDB2.out _).mono ?_
      rintro e w9 ⟨rfl, rfl⟩
      go_wp2_with fail
      exact ⟨⟨k + 1, c2, _, _, by omega, by go_num, rfl, hc2l, Lib.hid ⟨HROW'.out, HBL'.out⟩, HS', HE'⟩, by simp [intOf]; omega⟩
    · obtain rfl : k = n := by omega
      have hd := HO.out.done
      have hlen := HO.out.len
      have hSe : S = num a + num b := by
        have h1 := HE.out
        rw [HT.out.1, HT.out.2.1] at h1
        have h2 := HT.out.2.2
        rcases Nat.eq_zero_or_pos c with e | e
        · rw [e] at h1; omega
        · have : 10 ^ k * 1 ≤ 10 ^ k * c := Nat.mul_le_mul_left _ e
          omega
      have HPL := Lib.hid hd.1
      rw [hSe] at HPL
      have hrow := HR.out.1
      have hh : Holds wr (some ⟨w.heap.size, 0, none⟩) out.length 1 (u8s out) := ⟨by rw [u8s_length, Nat.mul_one], fun _ => ⟨w.heap.size, 0, rfl, hrow.lt, fun i v hv => by rw [Nat.zero_add]; exact hrow.cell (by rw [List.getElem?_toArray]; exact hv)⟩⟩
      have hcv := run_text_bs hh 61 9 5 k Tryz.underlying61 Tryz.underlying5 Tryz.underlying9
      rw [hlen] at hcv
      have HPN := Lib.hid (fun W => plain_ok out W (by rw [hlen]; omega))
      rw [HPL.out] at HPN
      clear hrow hh hlen hSe hd
      go_wp2_with fail
      refine (HPN.out _).mono ?_
      rintro e w9 ⟨rfl, rfl⟩
      clear hcv
      go_wp2
      go_ret
      exact ⟨rfl, HR.out.2⟩
end Go.Proofs.YtlcbjikiodmlfaaGreatDoor
