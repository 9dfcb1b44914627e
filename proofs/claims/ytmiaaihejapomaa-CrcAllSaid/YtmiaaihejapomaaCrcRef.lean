/- The document's own sums, bit by bit, as its Go text makes them (package lexiconref01). -/
import Derived.Test.YtmiaaihejapomaaRows
import Derived.Test.YtmiaaihejapomaaCrcMath
import Derived.Test.YtmiaaihejapomaaMem
import Derived.WalkKit
import Derived.WalkSpells
import Derived.WalkLawsBesides
import Derived.Laws.BitsAll
import Derived.Lib.Hide
namespace Go.Proofs.Ytmiaaihejapomaa
open Go.RowKit
open Crc

set_option maxRecDepth 100000 in
set_option maxHeartbeats 400000 in
theorem refSum (A : Option Addr) (n c : Nat) (l : List Nat) (w : World) (hA : Bytes w A n l) (hn : n ≤ 9223372036854775807) :
    Calls Try.prog 11 #[.slice A n c] w fun e w' => e = .returned (.int .u32 (sumL l : Nat)) ∧ w = w' := by
  have hP : U32 3988292384 := by unfold U32; decide
  go_enter Try.func11, Try.ntmps11
  go_wp2_with fail
  go_loop [3, 4] (fun v3 v4 => ∃ k r : Nat, k ≤ n ∧ v4 = .int .i64 k ∧ v3 = .int .u32 r ∧ U32 r ∧ Hid (r = run 3988292384 4294967295 (l.take k))) (fun _ v4 => n - (intOf v4).toNat)
  case atStart => exact ⟨0, 4294967295, Nat.zero_le _, rfl, rfl, by unfold U32; decide, rfl⟩
  case round =>
    obtain ⟨k, r, hk, rfl, rfl, hr, Hr⟩ := hrel
    by_cases hlt : k < n
    · obtain ⟨b, off, rfl, hbl, hc⟩ := hA.2.2 (by omega)
      have hck := hc k hlt
      have hx := hA.byte k
      have HS : Hid (run 3988292384 4294967295 (l.take (k + 1)) = dnN 3988292384 8 (r ^^^ l.getD k 0)) := Lib.hid (by rw [take_succ_getD l k (by rw [hA.len]; exact hlt), run_snoc, Hr.out])
      clear hc Hr
      generalize l.getD k 0 = x at *
      have h1 : bits BinOp.xor IntKind.u32 (r : Int) (x : Int) = ((r ^^^ x : Nat) : Int) := u32_xor_nat r x hr (by omega)
      have hq : U32 (r ^^^ x) := Nat.xor_lt_two_pow (n := 32) hr (by omega)
      generalize r ^^^ x = q at *
      clear hA
      go_wp2_with fail
      go_loop [3, 5] (fun v3 v5 => ∃ j p : Nat, j ≤ 8 ∧ v5 = .int .i64 j ∧ v3 = .int .u32 p ∧ U32 p ∧ Hid (p = dnN 3988292384 j q)) (fun _ v5 => 8 - (intOf v5).toNat)
      case atStart => exact ⟨0, q, Nat.zero_le _, rfl, rfl, hq, rfl⟩
      case round =>
        obtain ⟨j, p, hj, rfl, rfl, hp, Hp⟩ := hrel
        by_cases hj8 : j < 8
        · have hnext : Hid (dnN 3988292384 (j + 1) q = dn 3988292384 p) := Lib.hid (by rw [dnN_succ, Hp.out])
          have hpl : U32 (dn 3988292384 p) := dn_lt 32 _ _ hP hp
          clear Hp h1
          by_cases hodd : p % 2 = 1
          · have hb : (((p : Nat) : Int) % 2 == 1) = true := by simp; omega
            have hxx : bits BinOp.xor IntKind.u32 ((p : Int) / 2 % 4294967296) 3988292384 = ((dn 3988292384 p : Nat) : Int) := by
              unfold U32 at hp
              rw [show (p : Int) / 2 % 4294967296 = ((p / 2 : Nat) : Int) by omega]
              have := u32_xor_nat (p / 2) 3988292384 (by omega) (by omega)
              unfold dn; rw [if_pos hodd]; exact this
            have HX := Lib.hid hxx
            clear hxx hodd
            go_wp2
            go_round
            case rel => exact ⟨j + 1, dn 3988292384 p, by omega, by go_num, by rw [HX.out], hpl, Lib.hid hnext.out.symm⟩
            case measure => simp [intOf]; omega
          · have hb : (((p : Nat) : Int) % 2 == 1) = false := by simp; omega
            have HD : Hid ((p : Int) / 2 % 4294967296 = ((dn 3988292384 p : Nat) : Int)) := Lib.hid (by unfold U32 at hp; unfold dn; rw [if_neg hodd]; omega)
            clear hodd
            go_wp2
            go_round
            case rel => exact ⟨j + 1, dn 3988292384 p, by omega, by go_num, by rw [HD.out], hpl, Lib.hid hnext.out.symm⟩
            case measure => simp [intOf]; omega
        · obtain rfl : j = 8 := by omega
          go_wp2
          go_round
          case rel => exact ⟨k + 1, p, by omega, by go_num, rfl, hp, Lib.hid (by rw [Hp.out, HS.out])⟩
          case measure => simp [intOf]; omega
    · have hfin : bits BinOp.xor IntKind.u32 (r : Int) 4294967295 = ((sumL l : Nat) : Int) := by
        have h1 : l.take k = l := List.take_of_length_le (by rw [hA.len]; omega)
        have h2 : sumL l = r ^^^ 4294967295 := by rw [Hr.out, h1]; rfl
        rw [h2]
        exact u32_xor_nat r 4294967295 hr (by decide)
      have HF := Lib.hid hfin
      clear hfin Hr
      go_wp2
      go_ret
      exact ⟨ret_int HF.out, rfl⟩

/-- The walk of the outer loop's turn behind the inner one. -/
theorem fingerTurn (f x : Nat) (hx : x < 256) : f / 256 ^^^ dnN P64 8 ((f ^^^ x) % 256) = dnN P64 8 (f ^^^ x) := (dnN_low P64 f x hx).symm

set_option maxRecDepth 100000 in
set_option maxHeartbeats 400000 in
theorem refFinger (A : Option Addr) (n c : Nat) (l : List Nat) (w : World) (hA : Bytes w A n l) (hn : n ≤ 9223372036854775807) :
    Calls Try.prog 12 #[.slice A n c] w fun e w' => e = .returned (.int .u64 (fingerL l : Nat)) ∧ w = w' := by
  have hP : U64 P64 := P64_lt
  have H0 := Lib.hid P64_int
  go_enter Try.func12, Try.ntmps12
  go_wp2_with fail
  go_loop [3, 4] (fun v3 v4 => ∃ k r : Nat, k ≤ n ∧ v4 = .int .i64 k ∧ v3 = .int .u64 r ∧ U64 r ∧ Hid (r = run P64 P64 (l.take k))) (fun _ v4 => n - (intOf v4).toNat)
  case atStart => exact ⟨0, P64, Nat.zero_le _, rfl, by rw [H0.out], hP, rfl⟩
  case round =>
    obtain ⟨k, r, hk, rfl, rfl, hr, Hr⟩ := hrel
    by_cases hlt : k < n
    · obtain ⟨b, off, rfl, hbl, hc⟩ := hA.2.2 (by omega)
      have hck := hc k hlt
      have hx := hA.byte k
      have HS : Hid (run P64 P64 (l.take (k + 1)) = dnN P64 8 (r ^^^ l.getD k 0)) := Lib.hid (by rw [take_succ_getD l k (by rw [hA.len]; exact hlt), run_snoc, Hr.out])
      have HT := Lib.hid (fingerTurn r _ hx)
      have hres : U64 (dnN P64 8 (r ^^^ l.getD k 0)) := dnN_lt 64 _ 8 _ hP (Nat.xor_lt_two_pow (n := 64) hr (by omega))
      clear hc Hr
      generalize l.getD k 0 = x at *
      have h1 : bits BinOp.xor IntKind.u64 (r : Int) (x : Int) = ((r ^^^ x : Nat) : Int) := u64_xor_nat r x hr (by omega)
      generalize r ^^^ x = q0 at *
      obtain ⟨q, hq⟩ : ∃ q, q = q0 % 256 := ⟨_, rfl⟩
      have hql : q < 256 := by omega
      have Hq := Lib.hid (show (q0 : Int) % 256 = (q : Int) by omega)
      rw [← hq] at HT
      clear hA hq
      go_wp2_with fail
      rw [Hq.out]
      have hqU : U64 q := by unfold U64; omega
      go_loop [5, 6] (fun v5 v6 => ∃ j p : Nat, j ≤ 8 ∧ v6 = .int .i64 j ∧ v5 = .int .u64 p ∧ U64 p ∧ Hid (p = dnN P64 j q)) (fun _ v6 => 8 - (intOf v6).toNat)
      case atStart => exact ⟨0, q, Nat.zero_le _, rfl, rfl, hqU, rfl⟩
      case round =>
        obtain ⟨j, p, hj, rfl, rfl, hp, Hp⟩ := hrel
        by_cases hj8 : j < 8
        · have hnext : Hid (dnN P64 (j + 1) q = dn P64 p) := Lib.hid (by rw [dnN_succ, Hp.out])
          have hpl : U64 (dn P64 p) := dn_lt 64 _ _ hP hp
          clear Hp h1
          by_cases hodd : p % 2 = 1
          · have hb : (((p : Nat) : Int) % 2 == 1) = true := by simp; omega
            have HX : Hid (bits BinOp.xor IntKind.u64 (IntKind.u64.wrap ((p : Int) / 2)) 13933329357911598997 = ((dn P64 p : Nat) : Int)) := Lib.hid (by
              unfold U64 at hp
              rw [IntKind.wrap_u64, show (p : Int) / 2 % 18446744073709551616 = ((p / 2 : Nat) : Int) by omega, P64_int]
              have := u64_xor_nat (p / 2) P64 (by omega) P64_lt
              rw [this]
              unfold dn; rw [if_pos hodd])
            clear hodd
            go_wp2
            go_round
            case rel => exact ⟨j + 1, dn P64 p, by omega, by go_num, by rw [HX.out], hpl, Lib.hid hnext.out.symm⟩
            case measure => simp [intOf]; omega
          · have hb : (((p : Nat) : Int) % 2 == 1) = false := by simp; omega
            have HD : Hid (IntKind.u64.wrap ((p : Int) / 2) = ((dn P64 p : Nat) : Int)) := Lib.hid (by rw [IntKind.wrap_u64]; unfold U64 at hp; unfold dn; rw [if_neg hodd]; omega)
            clear hodd
            go_wp2
            go_round
            case rel => exact ⟨j + 1, dn P64 p, by omega, by go_num, by rw [HD.out], hpl, Lib.hid hnext.out.symm⟩
            case measure => simp [intOf]; omega
        · obtain rfl : j = 8 := by omega
          have HX : Hid (bits BinOp.xor IntKind.u64 (IntKind.u64.wrap ((r : Int) / 256)) (p : Int) = ((dnN P64 8 q0 : Nat) : Int)) := Lib.hid (by
            unfold U64 at hr
            rw [IntKind.wrap_u64, show (r : Int) / 256 % 18446744073709551616 = ((r / 256 : Nat) : Int) by omega, u64_xor_nat _ _ (by omega) hp, Hp.out, HT.out])
          clear Hp h1
          go_wp2
          go_round
          case rel => exact ⟨k + 1, dnN P64 8 q0, by omega, by go_num, by rw [HX.out], hres, Lib.hid HS.out.symm⟩
          case measure => simp [intOf]; omega
    · have HF : Hid (r = fingerL l) := Lib.hid (by rw [Hr.out, List.take_of_length_le (by rw [hA.len]; omega)]; rfl)
      clear Hr
      go_wp2
      go_ret
      exact ⟨ret_int (by rw [HF.out]), rfl⟩
end Go.Proofs.Ytmiaaihejapomaa
