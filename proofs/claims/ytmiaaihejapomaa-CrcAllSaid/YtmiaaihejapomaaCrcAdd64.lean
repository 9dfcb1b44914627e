/- Layer 1's sums as the Go text makes them, at 64 bits: a step by the table, and all the bytes. -/
import Derived.Test.YtmiaaihejapomaaCrcDown64
namespace Go.Proofs.Ytmiaaihejapomaa
open Go.RowKit
open Crc

set_option maxRecDepth 100000 in
theorem step64 (g t r x : Nat) (w : World) (hg : Row w g 49 (tabDone .u64 t)) (ht : U64 t) (hr : U64 r) (hx : x < 256) :
    Calls Try.prog 26 #[.pointer (some ⟨g, 0, none⟩), .int .u64 r, .int .u8 x] w fun e w' => e = .returned (.int .u64 (dnN t 8 (r ^^^ x) : Nat)) ∧ w = w' := by
  obtain ⟨i, hi⟩ : ∃ i, i = (r % 256) ^^^ x := ⟨_, rfl⟩
  have hlt : i < 256 := by rw [hi]; exact byte_xor_lt r x hx
  have hidx : bits BinOp.xor IntKind.u8 ((r : Int) % 256) (x : Int) = (i : Int) := by
    rw [show ((r : Int) % 256) = ((r % 256 : Nat) : Int) by omega, u8_xor_nat _ _ (Nat.mod_lt _ (by decide)) hx, hi]
  have hcell : w.cell? ⟨g, i, none⟩ = some (.int .u64 (T t i : Nat)) := hg.cell (tabOf_get _ _ _ hlt)
  have hfin : bits BinOp.xor IntKind.u64 (T t i : Nat) ((r : Int) / 256) = ((dnN t 8 (r ^^^ x) : Nat) : Int) := by
    unfold U64 at hr
    rw [show ((r : Int) / 256) = ((r / 256 : Nat) : Int) by omega, u64_xor_nat _ _ (T_lt 64 t i (by decide) ht hlt) (by omega), dnN_byte, hi]
  have HF := Lib.hid hfin
  clear hi hfin
  go_enter Try.func26, Try.ntmps26
  go_wp2
  go_ret
  exact ⟨ret_int HF.out, rfl⟩

set_option maxRecDepth 100000 in
set_option maxHeartbeats 400000 in
theorem add64 (t r : Nat) (tv rv : Int) (htv : tv = t) (hrv : rv = r) (A : Option Addr) (n c : Nat) (l : List Nat) (w : World) (ht : U64 t) (hr : U64 r) (hA : Bytes w A n l) (hn : n ≤ 9223372036854775807) :
    Calls Try.prog 18 #[.int .u64 tv, .int .u64 rv, .slice A n c] w fun e w' => e = .returned (.int .u64 (run t r l : Nat)) ∧ Below w.heap.size w w' := by
  subst htv hrv
  have hi2 := Lib.hid (show (Try.prog.info? 49).map (·.size) = some (tabDone .u64 t).size from info64.trans (by rw [tabDone, tabOf_size]))
  go_enter Try.func18, Try.ntmps18
  go_wp2_with (first
    | (go_at_call 25; refine (table64 t _ ht).mono ?_; rintro e w1 ⟨rfl, hb1⟩)
    | (refine wpList_alloc_tab ?_ 49 ?_ _ zero64 ?_
       · with_reducible rfl
       · with_reducible rfl)
    | (refine wpList_store_row ?_ 49 (.tmp 7) (.tmp 11) ?_ w1.heap.size (tabDone .u64 t) ?_ ?_ 49 _ (Row.new _ _ _) hi2.out ?_ ?_ ?_
       · with_reducible rfl
       · with_reducible rfl
       · rfl
       · rfl
       · rw [zeros_size, tabDone, tabOf_size]
       · exact tabOf_one _ _ _))
  have hg : Row ((w1.alloc (.cells (zeros .u64) 49)).setRow w1.heap.size (tabDone .u64 t)) w1.heap.size 49 (tabDone .u64 t) := setRow_heap _ _ _ _ _ _ (Row.new _ _ _)
  have hbel : Below w.heap.size w ((w1.alloc (.cells (zeros .u64) 49)).setRow w1.heap.size (tabDone .u64 t)) := (hb1.alloc hb1.size _).setRow hb1.size _
  have hB := hA.below hbel
  generalize (w1.alloc (.cells (zeros .u64) 49)).setRow w1.heap.size (tabDone .u64 t) = W at *
  generalize w1.heap.size = g at *
  go_loop [1, 14] (fun v1 v14 => ∃ k : Nat, k ≤ n ∧ v14 = .int .i64 k ∧ v1 = .int .u64 (run t r (l.take k) : Nat)) (fun _ v14 => n - (intOf v14).toNat)
  case atStart => exact ⟨0, Nat.zero_le _, rfl, rfl⟩
  case round =>
    obtain ⟨k, hk, rfl, rfl⟩ := hrel
    by_cases hlt : k < n
    · obtain ⟨b, off, rfl, hbl, hc⟩ := hB.2.2 (by omega)
      have hck := hc k hlt
      have hx := hB.byte k
      have hrun : U64 (run t r (l.take k)) := run_lt 64 t r _ (by decide) ht hr fun x hx => hB.lt x (List.mem_of_mem_take hx)
      have HS : Hid (run t r (l.take (k + 1)) = dnN t 8 (run t r (l.take k) ^^^ l.getD k 0)) := Lib.hid (by rw [take_succ_getD l k (by rw [hB.len]; exact hlt), run_snoc])
      clear hc
      generalize l.getD k 0 = x at *
      go_wp2_with (go_at_call 26; refine (step64 _ t _ x _ hg ht hrun hx).mono ?_; rintro e w' ⟨rfl, rfl⟩)
      go_round
      case rel => exact ⟨k + 1, by omega, by go_num, by rw [HS.out]⟩
      case measure => simp [intOf]; omega
    · go_wp2
      go_ret
      exact ⟨ret_int (by rw [List.take_of_length_le (by rw [hB.len]; omega)]), hbel⟩

theorem moreFinger (s : Nat) (sv : Int) (hsv : sv = s) (A : Option Addr) (n c : Nat) (l : List Nat) (w : World) (hs : U64 s) (hA : Bytes w A n l) (hn : n ≤ 9223372036854775807) :
    Calls Try.prog 10 #[.int .u64 sv, .slice A n c] w fun e w' => e = .returned (.int .u64 (moreF s l : Nat)) ∧ Below w.heap.size w w' := by
  subst hsv
  go_enter Try.func10, Try.ntmps10
  go_wp2_with (go_at_call 18; refine (add64 P64 s _ _ P64_int rfl A n c l _ P64_lt hs hA hn).mono ?_; rintro e w1 ⟨rfl, hb1⟩)
  go_ret
  exact ⟨rfl, hb1⟩

theorem finger (A : Option Addr) (n c : Nat) (l : List Nat) (w : World) (hA : Bytes w A n l) (hn : n ≤ 9223372036854775807) :
    Calls Try.prog 8 #[.slice A n c] w fun e w' => e = .returned (.int .u64 (fingerL l : Nat)) ∧ Below w.heap.size w w' := by
  go_enter Try.func8, Try.ntmps8
  go_wp2_with (go_at_call 10; refine (moreFinger P64 _ P64_int A n c l _ P64_lt hA hn).mono ?_; rintro e w1 ⟨rfl, hb1⟩)
  go_ret
  exact ⟨rfl, hb1⟩
end Go.Proofs.Ytmiaaihejapomaa
