/- Layer 7: the document's Sub. -/
import Derived.Test.YtlcbjikiodmlfaaGreatDoorPt30
namespace Go.Proofs.YtlcbjikiodmlfaaGreatDoor
open Go.RowKit

theorem sub_neg {P A B S da db bw d : Nat} (h : S + B = A + P * bw) (hd : d + db + bw = da + 10) : S + P * d + (B + P * db) = A + P * da + P * 10 * 1 := by
  have e : P * d + P * db + P * bw = P * da + P * 10 := by rw [← Nat.mul_add, ← Nat.mul_add, ← Nat.mul_add, hd]
  omega
theorem sub_pos {P A B S da db bw d : Nat} (h : S + B = A + P * bw) (hd : d + db + bw = da) : S + P * d + (B + P * db) = A + P * da + P * 10 * 0 := by
  have e : P * d + P * db + P * bw = P * da := by rw [← Nat.mul_add, ← Nat.mul_add, hd]
  omega
theorem mod_next (l : List UInt8) (k : Nat) : num l % 10 ^ (k + 1) = num l % 10 ^ k + 10 ^ k * dAt l k := by
  rw [Nat.mod_pow_succ]; rfl
set_option maxHeartbeats 2000000 in
theorem rsub_ok (a b : List UInt8) (w : World) (ha : Digs a) (hb : Digs b) (hl : a.length ≤ 1000000) (hlb : b.length ≤ a.length) (hle : num b ≤ num a) :
    Calls Tryz.prog 26 #[.string (bs a), .string (bs b)] w fun e w' => e = .returned (.string (bs (dig (num a - num b)))) ∧ Below w.heap.size w w' := by
  have hs := bs_size a
  obtain ⟨n, hn⟩ : ∃ n, n = a.length := ⟨_, rfl⟩
  have HN := Lib.hid hn
  rw [← hn] at hs hl hlb
  have HA := Lib.hid ha
  have HB := Lib.hid hb
  have HLE := Lib.hid hle
  have HLB := Lib.hid hlb
  have HDA : Hid (∀ k, k < n → ∀ W, Calls Tryz.prog 48 #[.string (bs a), .int .i64 (k : Int)] W fun e w' => e = .returned (.int .i64 (dAt a k : Nat)) ∧ W = w') := Lib.hid fun k hk W => rdigit_ok a k W ha (by rw [← hn]; omega) (by omega)
  have HDB : Hid (∀ k, k < n → ∀ W, Calls Tryz.prog 48 #[.string (bs b), .int .i64 (k : Int)] W fun e w' => e = .returned (.int .i64 (dAt b k : Nat)) ∧ W = w') := Lib.hid fun k hk W => rdigit_ok b k W hb (by omega) (by omega)
  clear hn ha hb hle hlb
  obtain ⟨w1, hw1⟩ : ∃ w1, w1 = w.alloc (.cells (u8s (List.replicate n 0)).toArray 5) := ⟨_, rfl⟩
  have HR1 : Hid (Row w1 w.heap.size 5 (u8s (List.replicate n 0)).toArray) := Lib.hid (by subst hw1; exact Row.new _ _ _)
  have HB1 : Hid (Below w.heap.size w w1) := Lib.hid (by subst hw1; exact (Below.refl _ _).alloc (Nat.le_refl _) _)
  go_enter Tryz.func26, Tryz.ntmps26
  generalize bs a = sa at *
  generalize bs b = sb at *
  go_upto_region 2 with (
      skip
      refine wpList_make_u8 ?_ 61 5 (.tmp 10) ?_ n ?_ Tryz.underlying61 infoU8 (by omega) ?_
      · with_reducible rfl
      · with_reducible rfl
      · exact congrArg (Value.int .i64) (by omega))
  rw [← hw1]
  clear hw1
  go_wp2_with fail
  go_loopw [6, 7] (fun v6 v7 wr => ∃ (k bw : Nat) (out : List UInt8) (S : Nat), k ≤ n ∧ v7 = .int .i64 k ∧ v6 = .int .i64 bw ∧ bw ≤ 1 ∧ Hid (Row wr w.heap.size 5 (u8s out).toArray ∧ Below w.heap.size w wr) ∧ Hid (OutAt n k out S) ∧ Hid (S + num b % 10 ^ k = num a % 10 ^ k + 10 ^ k * bw)) (fun _ v7 _ => n - (intOf v7).toNat)
  case atStart => exact ⟨0, 0, _, 0, Nat.zero_le _, rfl, rfl, by omega, Lib.hid ⟨HR1.out, HB1.out⟩, Lib.hid (OutAt.start n), Lib.hid (by simp [Nat.mod_one])⟩
  case round =>
    obtain ⟨k, bw, out, S, hk, rfl, rfl, hbw, HR, HO, HE⟩ := hrel
    by_cases hlt : k < n
    · have hda := dAt_lt a k
      have hdb := dAt_lt b k
      have HNA := Lib.hid (mod_next a k)
      have HNB := Lib.hid (mod_next b k)
      have HDA2 := Lib.hid (HDA.out k hlt)
      have HDB2 := Lib.hid (HDB.out k hlt)
      generalize dAt a k = da at *
      generalize dAt b k = db at *
      have hlen := HO.out.len
      obtain ⟨p, hp⟩ : ∃ p, p = n - 1 - k := ⟨_, rfl⟩
      have kc := HR.out.1.cell (i := p) (v := .int .u8 ((out.getD p 0).toNat : Int)) (by rw [List.getElem?_toArray]; exact u8s_get _ (by omega))
      have fc := HR.out.1.free p
      have hpi : (n : Int) - 1 - (k : Int) = (p : Int) := by omega
      have hpn : p < n := by omega
      have hn1 : IntKind.i64.wrap ((n : Int) - 1) = (n : Int) - 1 := IntWalk.i64_in _ (by omega)
      by_cases hneg : da < db + bw
      · obtain ⟨d, hd⟩ : ∃ d, d = da + 10 - db - bw := ⟨_, rfl⟩
        have hd10 : d < 10 := by omega
        have hx : (da : Int) - (db : Int) - (bw : Int) < 0 := by omega
        have hx2 : (da : Int) - (db : Int) - (bw : Int) + 10 = (d : Int) := by omega
        have HS := HO.out.step hlt hd10
        have HROW := HR.out.1.set_ p (.int .u8 ((UInt8.ofNat (48 + d)).toNat : Int))
        rw [u8s_set] at HROW
        rw [← hp] at HS
        have HBL := HR.out.2.setCell (p := ⟨w.heap.size, p, none⟩) (Nat.le_refl _) (.int .u8 ((UInt8.ofNat (48 + d)).toNat : Int))
        rw [ofNat_val hd10, show ((48 + d : Nat) : Int) = 48 + (d : Int) by omega] at HROW HBL
        have HROW' := Lib.hid HROW
        have HBL' := Lib.hid HBL
        have HS' := Lib.hid HS
        have HE' : Hid (S + 10 ^ k * d + num b % 10 ^ (k + 1) = num a % 10 ^ (k + 1) + 10 ^ (k + 1) * 1) := Lib.hid (by
          rw [HNA.out, HNB.out, Nat.pow_succ]; exact sub_neg HE.out (by omega))
        have hw8 : IntKind.u8.wrap (48 + (d : Int)) = 48 + (d : Int) := by simp [IntKind.wrap, IntKind.bits, IntKind.signed]; omega
        clear HS HROW HBL hp hlen hd
        go_wp2_with fail
        refine (HDA2.out _).mono ?_
        rintro e w9 ⟨rfl, rfl⟩
        go_wp2_with fail
        refine (HDB2.out _).mono ?_
        rintro e w9 ⟨rfl, rfl⟩
        go_wp2_with fail
        exact ⟨⟨k + 1, 1, _, _, by omega, by go_num, rfl, by omega, Lib.hid ⟨HROW'.out, HBL'.out⟩, HS', HE'⟩, by simp [intOf]; omega⟩
      · obtain ⟨d, hd⟩ : ∃ d, d = da - db - bw := ⟨_, rfl⟩
        have hd10 : d < 10 := by omega
        have hx2 : (da : Int) - (db : Int) - (bw : Int) = (d : Int) := by omega
        have hx : ¬ (d : Int) < 0 := by omega
        have HS := HO.out.step hlt hd10
        have HROW := HR.out.1.set_ p (.int .u8 ((UInt8.ofNat (48 + d)).toNat : Int))
        rw [u8s_set] at HROW
        rw [← hp] at HS
        have HBL := HR.out.2.setCell (p := ⟨w.heap.size, p, none⟩) (Nat.le_refl _) (.int .u8 ((UInt8.ofNat (48 + d)).toNat : Int))
        rw [ofNat_val hd10, show ((48 + d : Nat) : Int) = 48 + (d : Int) by omega] at HROW HBL
        have HROW' := Lib.hid HROW
        have HBL' := Lib.hid HBL
        have HS' := Lib.hid HS
        have HE' : Hid (S + 10 ^ k * d + num b % 10 ^ (k + 1) = num a % 10 ^ (k + 1) + 10 ^ (k + 1) * 0) := Lib.hid (by
          rw [HNA.out, HNB.out, Nat.pow_succ]; exact sub_pos HE.out (by omega))
        have hw8 : IntKind.u8.wrap (48 + (d : Int)) = 48 + (d : Int) := by simp [IntKind.wrap, IntKind.bits, IntKind.signed]; omega
        clear HS HROW HBL hp hlen hd
        go_wp2_with fail
        refine (HDA2.out _).mono ?_
        rintro e w9 ⟨rfl, rfl⟩
        go_wp2_with fail
        refine (HDB2.out _).mono ?_
        rintro e w9 ⟨rfl, rfl⟩
        go_wp2_with fail
        exact ⟨⟨k + 1, 0, _, _, by omega, by go_num, rfl, by omega, Lib.hid ⟨HROW'.out, HBL'.out⟩, HS', HE'⟩, by simp [intOf]; omega⟩
    · obtain rfl : k = n := by omega
      have hd := HO.out.done
      have hlen := HO.out.len
      have hSe : S = num a - num b := by
        have h1 := HE.out
        have h2 := num_lt HA.out
        have h3 := num_lt HB.out
        rw [← HN.out] at h2
        have h4 : 10 ^ b.length ≤ 10 ^ k := Nat.pow_le_pow_right (by omega) HLB.out
        rw [Nat.mod_eq_of_lt h2, Nat.mod_eq_of_lt (by omega)] at h1
        have h5 := num_lt hd.2
        have h6 := HO.out.val
        rw [Nat.sub_self, List.drop_zero] at h6
        rw [hlen, h6] at h5
        have h7 := HLE.out
        rcases Nat.eq_zero_or_pos bw with e | e
        · rw [e] at h1; omega
        · have : bw = 1 := by omega
          rw [this] at h1; omega
      have HPL := Lib.hid hd.1
      rw [hSe] at HPL
      have hrow := HR.out.1
      have hh : Holds wr (some ⟨w.heap.size, 0, none⟩) out.length 1 (u8s out) := ⟨by rw [u8s_length, Nat.mul_one], fun _ => ⟨w.heap.size, 0, rfl, hrow.lt, fun i v hv => by rw [Nat.zero_add]; exact hrow.cell (by rw [List.getElem?_toArray]; exact hv)⟩⟩
      have hcv := run_text_bs hh 61 9 5 k Tryz.underlying61 Tryz.underlying5 Tryz.underlying9
      rw [hlen] at hcv
      have HPN := Lib.hid (fun W => plain_ok out W (by rw [hlen]; omega))
      rw [HPL.out] at HPN
      clear hrow hh hlen hSe hd
      go_wp2_with fail
      refine (HPN.out _).mono ?_
      rintro e w9 ⟨rfl, rfl⟩
      clear hcv
      go_wp2
      go_ret
      exact ⟨rfl, HR.out.2⟩
end Go.Proofs.YtlcbjikiodmlfaaGreatDoor
