/- The document's own way to seal (package lexiconref01): 'Low' and 'Seal'. -/
import Derived.Test.YtmiaaihejapomaaCrcSeal
import Derived.Test.YtmiaaihejapomaaCrcRef
import Derived.Outline
namespace Go.Proofs.Ytmiaaihejapomaa
open Go.RowKit
open Crc

theorem lows_take (s j : Nat) (hj : j < 4) : (lows s).take (j + 1) = (lows s).take j ++ [s / 2 ^ (8 * j) % 256] := by
  obtain rfl | rfl | rfl | rfl : j = 0 ∨ j = 1 ∨ j = 2 ∨ j = 3 := by omega
  all_goals simp [lows, byteOf]

/-- A slice value over a row of bytes of the call's own. -/
def OwnBytes (w : World) (l : List Nat) (n : Nat) (e : Ending) (w' : World) : Prop :=
  ∃ v, e = .returned v ∧ w'.ownsRow w.heap.size 5 1 v n (cellsOf l) ∧ Below w.heap.size w w'

set_option maxRecDepth 100000 in
set_option maxHeartbeats 1000000 in
theorem low_ (s : Nat) (w : World) (hs : U32 s) : Calls Try.prog 21 #[.int .u64 s, .int .i64 4] w (OwnBytes w (lows s) 4) := by
  go_enter Try.func21, Try.ntmps21
  go_wp2_with fail
  go_loopw [0, 5, 6] (fun v0 v5 v6 wr => ∃ j x : Nat, j ≤ 4 ∧ v6 = .int .i64 j ∧ v0 = .int .u64 x ∧ Hid (x = s / 2 ^ (8 * j)) ∧ U32 x ∧ wr.ownsRow w.heap.size 5 1 v5 j (cellsOf ((lows s).take j)) ∧ Below w.heap.size w wr) (fun _ _ v6 _ => (4 - intOf v6).toNat)
  case atStart => exact ⟨0, s, by omega, rfl, rfl, by simp [Hid], hs, ⟨rfl, .inl ⟨rfl, rfl⟩⟩, Below.refl _ _⟩
  case round =>
    obtain ⟨j, x, hj, rfl, rfl, Hx, hx, hown, hb⟩ := hrel
    unfold U32 at hx
    by_cases hlt : j < 4
    · have HO := Lib.hid hown
      have HB := Lib.hid (show Bytes (wr.alloc (.cells #[.int .u8 ((x : Int) % 256)] 5)) (some ⟨wr.heap.size, 0, none⟩) 1 [x % 256] from
        Bytes.of_lit wr 5 _ (0, 0) [x % 256] 1 (by simp [cellsOf]) (fun y hy => by simp at hy; omega) rfl)
      clear hown
      go_wp2_with
        (refine wpList_append_bytes ?_ (.tmp 12) (.tmp 16) 22 5 ?_ Try.underlying22 infoU8 w.heap.size u5 j ((lows s).take j) ?_ (HO.out.alloc _) (some ⟨wr.heap.size, 0, none⟩) 1 1 [x % 256] ?_ HB.out (fun h => by cases h) (by omega) (by have := hb.size; simp; omega) ?_
         · with_reducible rfl
         · with_reducible rfl
         · rfl
         · rfl
         intro v2 w2 hown2 hgr2 hat2 _)
      have hgrow : Below w.heap.size w w2 := (hb.alloc hb.size _).grown hgr2 (by have := hb.size; simp; omega) (own_block HO.out)
      have hq : x / 256 = s / 2 ^ (8 * (j + 1)) := by rw [Hx.out, Nat.mul_add, Nat.pow_add, Nat.div_div_eq_div_mul]
      rw [Hx.out, ← lows_take s j hlt] at hown2
      exact ⟨⟨j + 1, x / 256, by omega, by go_num, by go_num, Lib.hid hq, (by unfold U32; omega), hown2, hgrow⟩, by simp [intOf]; omega⟩
    · obtain rfl : j = 4 := by omega
      go_wp2
      go_ret
      exact ⟨u5, rfl, hown, hb⟩

set_option maxRecDepth 100000 in
set_option maxHeartbeats 1000000 in
theorem refSeal (A : Option Addr) (n c : Nat) (l : List Nat) (w : World) (hA : Bytes w A n l) (hnil : A = none → n = 0 ∧ c = 0) (hn : n + 4 ≤ 140737488355328) :
    Calls Try.prog 14 #[.slice A n c] w (OwnBytes w (sealed l) (n + 4)) := by
  have HN := Lib.hid hnil
  have HA := Lib.hid hA
  have HSum := fun w hA hn => refSum A n c l w hA hn
  have HE := Lib.hid (show l ++ lows (sumL l) = sealed l from rfl)
  have hsl := sumL_lt l hA.lt
  generalize sumL l = s at *
  have hs2 := hsl
  unfold U32 at hs2
  have HS := Lib.hid HSum
  clear hnil hA HSum
  go_enter Try.func14, Try.ntmps14
  go_wp2_with (first
    | (refine wpList_append_bytes ?_ (.const (.slice none 0 0)) (.tmp 4) 22 5 ?_ Try.underlying22 infoU8 w.heap.size (.slice none 0 0) 0 [] ?_ ?_ A n c l ?_ HA.out HN.out (by omega) (Nat.le_refl _) ?_
       · with_reducible rfl
       · with_reducible rfl
       · rfl
       · exact ⟨rfl, .inl ⟨rfl, rfl⟩⟩
       · rfl
       intro v1 w1 hown1 hgr1 hat1 _
       have hb1 : Below w.heap.size w w1 := (Below.refl _ _).grown hgr1 (Nat.le_refl _) (by simp [Value.ownBlock])
       rw [Nat.zero_add, List.nil_append] at hown1
       have HO1 := Lib.hid hown1
       clear hown1 hgr1 hat1)
    | (go_at_call 11; refine (HS.out _ (HA.out.below hb1) (by omega)).mono ?_; rintro e w2 ⟨rfl, rfl⟩)
    | (go_at_call 21; refine (low_ s _ hsl).mono ?_; rintro e w2 ⟨v2, rfl, hown2, hb2⟩
       obtain ⟨g2, cap2, rfl, _, _, _⟩ := own_form hown2 (by omega)
       have HB2 := Lib.hid (Bytes.of_own hown2 (lows_small s))
       have HO2 := Lib.hid (own_call HO1.out hb2)
       have hb3 := hb1.call hb2
       clear hown2)
    | (refine wpList_append_bytes ?_ (.tmp 6) (.tmp 10) 22 5 ?_ Try.underlying22 infoU8 w.heap.size v1 n l ?_ HO2.out (some ⟨g2, 0, none⟩) 4 cap2 (lows s) ?_ HB2.out (fun h => by cases h) hn hb3.size ?_
       · with_reducible rfl
       · with_reducible rfl
       · rfl
       · rfl
       intro v3 w3 hown3 hgr3 hat3 _
       have hb4 : Below w.heap.size w w3 := hb3.grown hgr3 hb3.size (own_block HO2.out)
       rw [HE.out] at hown3))
  go_ret
  exact ⟨v3, rfl, hown3, hb4⟩
end Go.Proofs.Ytmiaaihejapomaa
