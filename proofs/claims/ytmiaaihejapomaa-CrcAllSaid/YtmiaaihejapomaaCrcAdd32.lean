/- Layer 1's sums as the Go text makes them, at 32 bits: a step by the table, and all the bytes. -/
import Derived.Test.YtmiaaihejapomaaCrcDown32
namespace Go.Proofs.Ytmiaaihejapomaa
open Go.RowKit
open Crc

set_option maxRecDepth 100000 in
theorem step32 (g t r x : Nat) (w : World) (hg : Row w g 44 (tabDone .u32 t)) (ht : U32 t) (hr : U32 r) (hx : x < 256) :
    Calls Try.prog 24 #[.pointer (some ⟨g, 0, none⟩), .int .u32 r, .int .u8 x] w fun e w' => e = .returned (.int .u32 (dnN t 8 (r ^^^ x) : Nat)) ∧ w = w' := by
  obtain ⟨i, hi⟩ : ∃ i, i = (r % 256) ^^^ x := ⟨_, rfl⟩
  have hlt : i < 256 := by rw [hi]; exact byte_xor_lt r x hx
  have hidx : bits BinOp.xor IntKind.u8 ((r : Int) % 256) (x : Int) = (i : Int) := by
    rw [show ((r : Int) % 256) = ((r % 256 : Nat) : Int) by omega, u8_xor_nat _ _ (Nat.mod_lt _ (by decide)) hx, hi]
  have hcell : w.cell? ⟨g, i, none⟩ = some (.int .u32 (T t i : Nat)) := hg.cell (tabOf_get _ _ _ hlt)
  have hfin : bits BinOp.xor IntKind.u32 (T t i : Nat) ((r : Int) / 256) = ((dnN t 8 (r ^^^ x) : Nat) : Int) := by
    unfold U32 at hr
    rw [show ((r : Int) / 256) = ((r / 256 : Nat) : Int) by omega, u32_xor_nat _ _ (T_lt 32 t i (by decide) ht hlt) (by omega), dnN_byte, hi]
  have HF := Lib.hid hfin
  clear hi hfin
  go_enter Try.func24, Try.ntmps24
  go_wp2
  go_ret
  exact ⟨ret_int HF.out, rfl⟩

set_option maxRecDepth 100000 in
set_option maxHeartbeats 400000 in
theorem add32 (t r : Nat) (tv rv : Int) (htv : tv = t) (hrv : rv = r) (A : Option Addr) (n c : Nat) (l : List Nat) (w : World) (ht : U32 t) (hr : U32 r) (hA : Bytes w A n l) (hn : n ≤ 9223372036854775807) :
    Calls Try.prog 17 #[.int .u32 tv, .int .u32 rv, .slice A n c] w fun e w' => e = .returned (.int .u32 (run t r l : Nat)) ∧ Below w.heap.size w w' := by
  subst htv hrv
  have hi2 := Lib.hid (show (Try.prog.info? 44).map (·.size) = some (tabDone .u32 t).size from info32.trans (by rw [tabDone, tabOf_size]))
  go_enter Try.func17, Try.ntmps17
  go_wp2_with (first
    | (go_at_call 22; refine (table32 t _ ht).mono ?_; rintro e w1 ⟨rfl, hb1⟩)
    | (refine wpList_alloc_tab ?_ 44 ?_ _ zero32 ?_
       · with_reducible rfl
       · with_reducible rfl)
    | (refine wpList_store_row ?_ 44 (.tmp 7) (.tmp 11) ?_ w1.heap.size (tabDone .u32 t) ?_ ?_ 44 _ (Row.new _ _ _) hi2.out ?_ ?_ ?_
       · with_reducible rfl
       · with_reducible rfl
       · rfl
       · rfl
       · rw [zeros_size, tabDone, tabOf_size]
       · exact tabOf_one _ _ _))
  have hg : Row ((w1.alloc (.cells (zeros .u32) 44)).setRow w1.heap.size (tabDone .u32 t)) w1.heap.size 44 (tabDone .u32 t) := setRow_heap _ _ _ _ _ _ (Row.new _ _ _)
  have hbel : Below w.heap.size w ((w1.alloc (.cells (zeros .u32) 44)).setRow w1.heap.size (tabDone .u32 t)) := (hb1.alloc hb1.size _).setRow hb1.size _
  have hB := hA.below hbel
  generalize (w1.alloc (.cells (zeros .u32) 44)).setRow w1.heap.size (tabDone .u32 t) = W at *
  generalize w1.heap.size = g at *
  go_loop [1, 14] (fun v1 v14 => ∃ k : Nat, k ≤ n ∧ v14 = .int .i64 k ∧ v1 = .int .u32 (run t r (l.take k) : Nat)) (fun _ v14 => n - (intOf v14).toNat)
  case atStart => exact ⟨0, Nat.zero_le _, rfl, rfl⟩
  case round =>
    obtain ⟨k, hk, rfl, rfl⟩ := hrel
    by_cases hlt : k < n
    · obtain ⟨b, off, rfl, hbl, hc⟩ := hB.2.2 (by omega)
      have hck := hc k hlt
      have hx := hB.byte k
      have hrun : U32 (run t r (l.take k)) := run_lt 32 t r _ (by decide) ht hr fun x hx => hB.lt x (List.mem_of_mem_take hx)
      have HS : Hid (run t r (l.take (k + 1)) = dnN t 8 (run t r (l.take k) ^^^ l.getD k 0)) := Lib.hid (by rw [take_succ_getD l k (by rw [hB.len]; exact hlt), run_snoc])
      clear hc
      generalize l.getD k 0 = x at *
      go_wp2_with (go_at_call 24; refine (step32 _ t _ x _ hg ht hrun hx).mono ?_; rintro e w' ⟨rfl, rfl⟩)
      go_round
      case rel => exact ⟨k + 1, by omega, by go_num, by rw [HS.out]⟩
      case measure => simp [intOf]; omega
    · go_wp2
      go_ret
      exact ⟨ret_int (by rw [List.take_of_length_le (by rw [hB.len]; omega)]), hbel⟩

theorem more32 (s : Nat) (sv : Int) (hsv : sv = s) (A : Option Addr) (n c : Nat) (l : List Nat) (w : World) (hs : U32 s) (hA : Bytes w A n l) (hn : n ≤ 9223372036854775807) :
    Calls Try.prog 9 #[.int .u32 sv, .slice A n c] w fun e w' => e = .returned (.int .u32 (moreL s l : Nat)) ∧ Below w.heap.size w w' := by
  subst hsv
  have ht : U32 3988292384 := by unfold U32; decide
  have hr : U32 (s ^^^ 4294967295) := Nat.xor_lt_two_pow (n := 32) hs (by decide)
  have h1 : bits BinOp.xor IntKind.u32 (s : Int) 4294967295 = ((s ^^^ 4294967295 : Nat) : Int) := u32_xor_nat s 4294967295 hs (by decide)
  have h2 : bits BinOp.xor IntKind.u32 (run 3988292384 (s ^^^ 4294967295) l : Nat) 4294967295 = ((moreL s l : Nat) : Int) :=
    u32_xor_nat _ 4294967295 (run_lt 32 _ _ l (by decide) ht hr hA.lt) (by decide)
  have H2 := Lib.hid h2
  clear h2
  generalize s ^^^ 4294967295 = q at *
  go_enter Try.func9, Try.ntmps9
  go_wp2_with (go_at_call 17; refine (add32 3988292384 q _ _ rfl rfl A n c l _ ht hr hA hn).mono ?_; rintro e w1 ⟨rfl, hb1⟩)
  go_ret
  exact ⟨ret_int H2.out, hb1⟩

theorem sum32 (A : Option Addr) (n c : Nat) (l : List Nat) (w : World) (hA : Bytes w A n l) (hn : n ≤ 9223372036854775807) :
    Calls Try.prog 7 #[.slice A n c] w fun e w' => e = .returned (.int .u32 (sumL l : Nat)) ∧ Below w.heap.size w w' := by
  go_enter Try.func7, Try.ntmps7
  go_wp2_with (go_at_call 9; refine (more32 0 _ rfl A n c l _ (by unfold U32; decide) hA hn).mono ?_; rintro e w1 ⟨rfl, hb1⟩)
  go_ret
  exact ⟨ret_int rfl, hb1⟩
end Go.Proofs.Ytmiaaihejapomaa
