/- Layer 1's table as the Go text makes it: 'down' and 'table' at 64 bits: what they answer, and that nothing that was there is touched. -/
import Derived.Test.YtmiaaihejapomaaRows
import Derived.Test.YtmiaaihejapomaaCrcTab
import Derived.WalkKit
import Derived.WalkSpells
import Derived.WalkLawsBesides
import Derived.Laws.BitsAll
import Derived.Lib.Hide
namespace Go.Proofs.Ytmiaaihejapomaa
open Go.RowKit
open Crc
theorem down64 (x t : Nat) (w : World) (hx : U64 x) (ht : U64 t) :
    Calls Try.prog 28 #[.int .u64 x, .int .u64 t] w fun e w' => e = .returned (.int .u64 (dn t x : Nat)) ∧ w = w' := by
  unfold U64 at hx ht
  have h1 : bits BinOp.and IntKind.u64 (x : Int) 1 = ((x % 2 : Nat) : Int) := by
    rw [show (1 : Int) = ((1 : Nat) : Int) from rfl, u64_and_nat x 1 hx (by omega), nat_mask1]
  have h2 : bits BinOp.xor IntKind.u64 ((x : Int) / 2) (t : Int) = ((x / 2 ^^^ t : Nat) : Int) := by
    rw [show (x : Int) / 2 = ((x / 2 : Nat) : Int) by omega, u64_xor_nat (x / 2) t (by omega) ht]
  by_cases hp : x % 2 = 1
  · have hb : (((x % 2 : Nat) : Int) == 1) = true := by simp; omega
    have HE := Lib.hid (show dn t x = x / 2 ^^^ t by unfold dn; rw [if_pos hp])
    clear hp
    go_enter Try.func28, Try.ntmps28
    go_wp2
    go_ret
    exact ⟨ret_int (by rw [HE.out, ← h2]), rfl⟩
  · have hb : (((x % 2 : Nat) : Int) == 1) = false := by simp; omega
    have HE := Lib.hid (show dn t x = x / 2 by unfold dn; rw [if_neg hp])
    clear hp
    go_enter Try.func28, Try.ntmps28
    go_wp2
    go_ret
    exact ⟨ret_int (by rw [HE.out]; omega), rfl⟩

set_option maxRecDepth 100000 in
theorem zero64 (w : World) : (zeroValue 49).run Try.prog w = .ok (.agg (zeros .u64)) w := by kernel_rfl
theorem info64 : (Try.prog.info? 49).map (·.size) = some 256 := by kernel_rfl
set_option maxRecDepth 100000 in
set_option maxHeartbeats 1000000 in
theorem table64 (t : Nat) (w : World) (ht : U64 t) :
    Calls Try.prog 25 #[.int .u64 t] w fun e w' => e = .returned (.agg (tabDone .u64 t)) ∧ Below w.heap.size w w' := by
  go_enter Try.func25, Try.ntmps25
  go_wp2_with
    (refine wpList_alloc_tab ?_ 49 ?_ _ zero64 ?_
     · with_reducible rfl
     · with_reducible rfl)
  go_loopw [4, 5] (fun v4 v5 wr => ∃ k d x : Nat, k ≤ 8 ∧ Hid (d = 2 ^ k / 2 ∧ x = dnN t (8 - k) 1) ∧ v4 = .int .u64 x ∧ v5 = .int .i64 d ∧ Filled w wr .u64 49 (tabFrom .u64 t (2 ^ k))) (fun _ v5 _ => (intOf v5).toNat)
  case atStart =>
    refine ⟨8, 128, 1, by omega, ⟨rfl, rfl⟩, rfl, rfl, ?_, ?_, ?_⟩
    · exact (Row.new _ _ _).alloc _
    · rw [show 2 ^ 8 = 256 from rfl, ← tabFrom_start]
      have := Row.new (w.alloc (.cells (zeros .u64) 49)) 49 (zeros .u64)
      simpa using this
    · exact ((Below.refl _ _).alloc (Nat.le_refl _) _).alloc (by simp) _
  case round =>
    obtain ⟨k, d, x, hk, Hd, rfl, rfl, hf⟩ := hrel
    by_cases hk0 : k = 0
    · subst hk0
      have hd0 : d = 0 := Hd.out.1
      clear Hd
      subst hd0
      obtain ⟨hr0, hr1, hb⟩ := hf
      rw [Nat.pow_zero, tabFrom_one] at hr1
      have hz1 := zeros_size .u64
      have hi1 : (Try.prog.info? 49).map (·.size) = some (tabDone .u64 t).size := info64.trans (by rw [tabDone, tabOf_size])
      have hi2 := Lib.hid hi1
      clear hi1
      go_wp2_with (first
        | (refine wpList_load_row ?_ 49 (.tmp 3) ?_ (w.heap.size + 1) ?_ 49 _ (0, 0) _ hr1 Try.underlying49 rfl hi2.out ?_
           · with_reducible rfl
           · with_reducible rfl
           · rfl)
        | (refine wpList_store_row ?_ 49 (.tmp 2) (.tmp 30) ?_ w.heap.size (tabDone .u64 t) ?_ ?_ 49 _ hr0 hi2.out ?_ ?_ ?_
           · with_reducible rfl
           · with_reducible rfl
           · rfl
           · rfl
           · rw [zeros_size, tabDone, tabOf_size]
           · exact tabOf_one _ _ _))
      refine bodyPost_ret (v := .agg (tabDone .u64 t)) (results_cell_row Try.results25 _ _ w.heap.size 49 _ (0, 0) _ rfl (setRow_heap wr _ _ _ _ _ hr0) Try.underlying49 rfl hi2.out) rfl ⟨rfl, hb.setRow (Nat.le_refl _) _⟩
    · obtain ⟨k, rfl⟩ : ∃ j, k = j + 1 := ⟨k - 1, by omega⟩
      have hd : d = 2 ^ k := by rw [Hd.out.1, Nat.pow_succ]; omega
      have hx : x = dnN t (8 - (k + 1)) 1 := Hd.out.2
      have hxlt : U64 x := by rw [hx]; exact dnN_lt 64 t _ 1 ht (by decide)
      have hd1 : 1 ≤ d := by rw [hd]; exact Nat.two_pow_pos k
      have hd2 : d ≤ 128 := by rw [hd]; exact Nat.pow_le_pow_right (n := 2) (by omega) (by omega : k ≤ 7)
      have Hx : Hid (dn t x = T t d) := Lib.hid (by rw [hx, hd, T_two_pow t k (by omega), ← dnN_succ, show 8 - (k + 1) + 1 = 8 - k by omega])
      have Hk := Lib.hid hd
      have hf' : Filled w wr .u64 49 (tabFill .u64 t d 0) := by rw [← tabFill_start, hd, ← Nat.pow_succ']; exact hf
      clear hd hx hf hk0 Hd
      go_wp2_with (go_at_call 28; refine (down64 _ t _ hxlt ht).mono ?_; rintro e w' ⟨rfl, rfl⟩)
      go_loopw [6] (fun v6 wi => ∃ c p : Nat, Hid (p = c * (2 * d)) ∧ p ≤ 256 ∧ v6 = .int .i64 p ∧ Filled w wi .u64 49 (tabFill .u64 t d c)) (fun v6 _ => (256 - intOf v6).toNat)
      case atStart => exact ⟨0, 0, Lib.hid (by simp), by omega, rfl, hf'⟩
      case round =>
        obtain ⟨c, p, Hp, hp, rfl, hr0, hr1, hb⟩ := hrel
        by_cases hlt : p < 256
        · have hp2 : p + 2 * d ≤ 256 := by
            have := turn_lt (k := k) (c := c) hk (by rw [← Hk.out, ← Hp.out]; exact hlt)
            rw [← Hk.out, ← Hp.out] at this; exact this
          have hT : T t p ^^^ dn t x = T t (p + d) := by
            rw [Hx.out, Hp.out, Hk.out]; exact T_turn t k c
          have hc1 : wr.cell? ⟨w.heap.size + 1, p, none⟩ = some (.int .u64 (T t p : Nat)) := hr1.cell (by have := tabFill_get .u64 t d c (by rw [← Hp.out]; exact hlt); rw [← Hp.out] at this; exact this)
          have hc2 : wr.cell? ⟨w.heap.size + 1, p + d, none⟩ = some (.int .u64 (fill t d c (p + d) : Nat)) := hr1.cell (tabFill_there _ _ _ _ _ (by omega))
          have hf2 : wr.frozen? ⟨w.heap.size + 1, p + d, none⟩ = false := hr1.free _
          have hxor : bits BinOp.xor IntKind.u64 (T t p : Nat) (dn t x : Nat) = ((T t (p + d) : Nat) : Int) := by
            rw [u64_xor_nat _ _ (T_lt 64 t p (by omega) ht hlt) (dn_lt 64 t x ht hxlt), hT]
          have hnew : Filled w (wr.setCell ⟨w.heap.size + 1, p + d, none⟩ (.int .u64 (T t (p + d) : Nat))) .u64 49 (tabFill .u64 t d (c + 1)) := by
            refine ⟨hr0.far (by simp) _, ?_, hb.setCell (by simp) _⟩
            have := hr1.set_ (p + d) (.int .u64 (T t (p + d) : Nat))
            rwa [Hp.out, tabFill_set .u64 t d c hd1, ← Hp.out] at this
          have Hn := Lib.hid hnew
          clear hT hr0 hr1 hb hnew
          go_wp2
          go_roundw
          case rel => exact ⟨c + 1, p + 2 * d, Lib.hid (by rw [Hp.out, Nat.add_mul]; omega), hp2, by go_num, Hn.out⟩
          case measure => simp [intOf]; omega
        · have hrF : Filled w wr .u64 49 (tabFrom .u64 t (2 ^ k)) := by
            refine ⟨hr0, ?_, hb⟩
            rw [← Hk.out, ← tabFill_end .u64 t d c (by rw [← Hp.out]; omega)]; exact hr1
          have HF := Lib.hid hrF
          clear hrF hr0 hr1 hb
          go_wp2
          go_roundw
          case rel => exact ⟨k, d / 2, T t d, by omega, Lib.hid ⟨by rw [Hk.out], by rw [Hk.out, T_two_pow t k (by omega)]⟩, by rw [Hx.out], by go_num, HF.out⟩
          case measure => simp [intOf]; omega
end Go.Proofs.Ytmiaaihejapomaa
