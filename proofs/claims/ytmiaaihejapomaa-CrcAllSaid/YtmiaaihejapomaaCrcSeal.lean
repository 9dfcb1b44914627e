/- Layer 1: 'Seal' and 'Open' as the Go text makes them. -/
import Derived.Test.YtmiaaihejapomaaCrcCopied
import Derived.Test.YtmiaaihejapomaaCrcAdd32
import Derived.Deep.QuietTactic
import Derived.BigQuiet
namespace Go.Proofs.Ytmiaaihejapomaa
open Go.RowKit
open Crc

/-- The four bytes of a sum; bytes with their sum behind them, and the first i of it. -/
def lows (s : Nat) : List Nat := [byteOf s 0, byteOf s 1, byteOf s 2, byteOf s 3]
def sealTo (l : List Nat) (s i : Nat) : List Nat := l ++ ((lows s).take i ++ List.replicate (4 - i) 0)
def sealed (l : List Nat) : List Nat := l ++ lows (sumL l)
theorem sealTo_zero (l : List Nat) (s : Nat) : sealTo l s 0 = l ++ List.replicate 4 0 := by simp [sealTo]
theorem sealTo_four (l : List Nat) (s : Nat) : sealTo l s 4 = l ++ lows s := by simp [sealTo, lows]
theorem sealTo_length (l : List Nat) (s i : Nat) (hi : i ≤ 4) : (sealTo l s i).length = l.length + 4 := by
  simp [sealTo, lows]; omega
theorem sealTo_set (l : List Nat) (s i : Nat) (hi : i < 4) : (sealTo l s i).set (l.length + i) (byteOf s i) = sealTo l s (i + 1) := by
  obtain rfl | rfl | rfl | rfl : i = 0 ∨ i = 1 ∨ i = 2 ∨ i = 3 := by omega
  all_goals simp [sealTo, lows, List.replicate]
theorem lows_small (s : Nat) : Small (lows s) := by
  intro x hx
  simp only [lows, List.mem_cons, List.not_mem_nil, or_false] at hx
  rcases hx with rfl | rfl | rfl | rfl <;> exact byteOf_lt _ _
theorem sumL_lt (l : List Nat) (hl : Small l) : U32 (sumL l) :=
  Nat.xor_lt_two_pow (n := 32) (run_lt 32 _ _ l (by decide) (by decide) (by decide) hl) (by decide)

set_option maxHeartbeats 400000 in
theorem seal_ (A : Option Addr) (n c : Nat) (l : List Nat) (w : World) (hA : Bytes w A n l) (hn : n + 4 ≤ 140737488355328) :
    Calls Try.prog 13 #[.slice A n c] w (NewBytes w (sealed l) (n + 4)) := by
  go_enter Try.func13, Try.ntmps13
  go_wp2_with (first
    | (go_at_call 19; refine (copied A n c 4 _ rfl l _ hA hn).mono ?_; rintro e w1 ⟨g, rfl, hl1, hg, hr1, hb1⟩)
    | (go_at_call 7; refine (sum32 A n c l _ (hA.below hb1) (by omega)).mono ?_; rintro e w2 ⟨rfl, hb2⟩))
  have hr2 : Row w2 g 5 (cellsOf (sealTo l (sumL l) 0)).toArray := by rw [sealTo_zero]; exact hr1.below hb2 hr1.lt
  have hb : Below w.heap.size w w2 := hb1.trans (hb2.mono hb1.size)
  have hln := Lib.hid hA.len
  clear hr1 hb1 hb2 hA hl1
  have HS := Lib.hid (show sealTo l (sumL l) 4 = sealed l from sealTo_four l _)
  generalize sumL l = s at *
  go_loopw [10] (fun v10 wr => ∃ i : Nat, i ≤ 4 ∧ v10 = .int .i64 i ∧ Row wr g 5 (cellsOf (sealTo l s i)).toArray ∧ Below w.heap.size w wr) (fun v10 _ => (4 - intOf v10).toNat)
  case atStart => exact ⟨0, by omega, rfl, hr2, hb⟩
  case round =>
    obtain ⟨i, hi, rfl, hr, hbr⟩ := hrel
    by_cases hlt : i < 4
    · have hc1 : wr.cell? ⟨g, n + i, none⟩ = some (.int .u8 ((sealTo l s i).getD (n + i) 0 : Nat)) := hr.cell (by
        rw [List.getElem?_toArray]; exact cellsOf_get _ (by rw [sealTo_length l s i hi, hln.out]; omega))
      have hf1 : wr.frozen? ⟨g, n + i, none⟩ = false := hr.free _
      have hnew : Row (wr.setCell ⟨g, n + i, none⟩ (.int .u8 (byteOf s i : Nat))) g 5 (cellsOf (sealTo l s (i + 1))).toArray := by
        have := hr.set_ (n + i) (.int .u8 (byteOf s i : Nat))
        rwa [cellsOf_set, ← hln.out, sealTo_set l s i hlt, hln.out] at this
      have HN := Lib.hid hnew
      have hbn := hbr.setCell (p := ⟨g, n + i, none⟩) hg (.int .u8 (byteOf s i : Nat))
      clear hr hnew hbr
      go_wp2_with (go_at_call 20; refine (sumByte s i _ hlt).mono ?_; rintro e w' ⟨rfl, rfl⟩)
      go_roundw
      case rel => exact ⟨i + 1, by omega, by go_num, HN.out, hbn⟩
      case measure => simp [intOf]; omega
    · obtain rfl : i = 4 := by omega
      rw [HS.out] at hr
      go_wp2
      go_ret
      exact ⟨g, rfl, Lib.hid (by rw [← HS.out, sealTo_length l s 4 hi, hln.out]), hg, hr, hbr⟩
end Go.Proofs.Ytmiaaihejapomaa
