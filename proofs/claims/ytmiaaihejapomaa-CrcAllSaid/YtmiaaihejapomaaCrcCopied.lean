/- Layer 1: 'copied' and 'sumByte'. -/
import Derived.Test.YtmiaaihejapomaaRows
import Derived.Test.YtmiaaihejapomaaCrcMath
import Derived.Test.YtmiaaihejapomaaBytes
import Derived.WalkKit
import Derived.WalkSpells
import Derived.WalkLawsBesides
import Derived.Laws.BitsAll
import Derived.Outline
namespace Go.Proofs.Ytmiaaihejapomaa
open Go.RowKit
open Crc

theorem infoU8 : (Try.prog.info? 5).map (fun i => (i.zero, i.size, i.bytes)) = some (some (.int .u8 0), 1, 1) := by kernel_rfl
theorem sizeU8 : (Try.prog.info? 5).map (·.size) = some 1 := by kernel_rfl

/-- A slice of these bytes in a block of the call's own: the answer of a call that began in w. -/
def NewBytes (w : World) (l : List Nat) (n : Nat) (e : Ending) (w' : World) : Prop :=
  ∃ g, e = .returned (.slice (some ⟨g, 0, none⟩) n n) ∧ Hid (l.length = n) ∧ w.heap.size ≤ g ∧ Row w' g 5 (cellsOf l).toArray ∧ Below w.heap.size w w'

theorem copied (A : Option Addr) (n c k : Nat) (kv : Int) (hkv : kv = k) (l : List Nat) (w : World) (hA : Bytes w A n l) (hn : n + k ≤ 140737488355328) :
    Calls Try.prog 19 #[.slice A n c, .int .i64 kv] w (NewBytes w (l ++ List.replicate k 0) (n + k)) := by
  subst hkv
  go_enter Try.func19, Try.ntmps19
  go_wp2_with (first
    | (refine wpList_make_bytes ?_ 22 5 (.tmp 9) ?_ (n + k) ?_ Try.underlying22 infoU8 (by omega) ?_
       · with_reducible rfl
       · with_reducible rfl
       · rfl)
    | (refine wpList_copy_bytes ?_ (.tmp 11) (.tmp 12) 22 5 ?_ Try.underlying22 sizeU8 w.heap.size 0 (n + k) (n + k) A n c l _ ?_ ?_ ?_ (Nat.le_add_right n k) (Row.new _ _ _) ?_ w.heap.size w ?_ (Nat.le_refl _) ?_
       · with_reducible rfl
       · with_reducible rfl
       · rfl
       · rfl
       · exact hA.below ((Below.refl _ _).alloc (Nat.le_refl _) _)
       · simp
       · exact (Below.refl _ _).alloc (Nat.le_refl _) _
       intro w1 hr1 hb1))
  go_ret
  have hl : (l ++ List.replicate k 0).length = n + k := by rw [List.length_append, List.length_replicate, hA.len]
  have e1 : (List.replicate (n + k) 0).take 0 ++ (l ++ (List.replicate (n + k) 0).drop (0 + n)) = l ++ List.replicate k 0 := by
    rw [List.take_zero, List.nil_append, List.drop_replicate, show n + k - (0 + n) = k by omega]
  rw [e1] at hr1
  exact ⟨w.heap.size, rfl, hl, Nat.le_refl _, hr1, hb1⟩

/-- Byte i of a sum, the lowest one first. -/
def byteOf (s i : Nat) : Nat := s / 2 ^ (8 * i) % 256
theorem byteOf_lt (s i : Nat) : byteOf s i < 256 := Nat.mod_lt _ (by decide)

set_option maxRecDepth 100000 in
theorem sumByte (s i : Nat) (w : World) (hi : i < 4) :
    Calls Try.prog 20 #[.int .u32 s, .int .i64 i] w fun e w' => e = .returned (.int .u8 (byteOf s i : Nat)) ∧ w = w' := by
  obtain rfl | rfl | rfl | rfl : i = 0 ∨ i = 1 ∨ i = 2 ∨ i = 3 := by omega
  all_goals
    go_enter Try.func20, Try.ntmps20
    go_wp2
    go_ret
    exact ⟨ret_int (by simp [byteOf]), rfl⟩
end Go.Proofs.Ytmiaaihejapomaa
