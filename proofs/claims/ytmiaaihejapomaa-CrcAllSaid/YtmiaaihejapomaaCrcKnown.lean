/- The chapter's rows (known of package lexiconlaw01): they hold. -/
import Derived.Test.YtmiaaihejapomaaCrcOpen
import Derived.Test.YtmiaaihejapomaaCrcAdd64
import Derived.Test.YtmiaaihejapomaaCrcRef
import Derived.Lib.SlBytesConst
namespace Go.Proofs.Ytmiaaihejapomaa
open Go.RowKit
open Crc

theorem headOf_sealed (l : List Nat) : headOf (sealed l) = l := by
  simp [headOf, sealed, lows]
theorem agree_sealed (l : List Nat) : agree (sealed l) 4 := by
  intro j hj
  rw [headOf_sealed]
  have e : (sealed l).length - 4 + j = l.length + j := by simp [sealed, lows]
  rw [e]
  obtain rfl | rfl | rfl | rfl : j = 0 ∨ j = 1 ∨ j = 2 ∨ j = 3 := by omega
  all_goals simp [sealed, lows, List.getD_eq_getElem?_getD]
theorem sealed_small (l : List Nat) (hl : Small l) : Small (sealed l) := hl.append (lows_small _)
theorem sealed_length (l : List Nat) : (sealed l).length = l.length + 4 := by simp [sealed, lows]
theorem known_sum : sumL [49, 50, 51, 52, 53, 54, 55, 56, 57] = 3421780262 := by decide +kernel
theorem known_finger : fingerL [34, 105, 110, 116, 34] = 8247732601305521295 := by decide +kernel
theorem known_bad : ¬ agree [1, 0, 0, 0] 4 := fun h => by
  have := h 0 (by omega)
  revert this
  decide +kernel

set_option maxRecDepth 100000 in
set_option maxHeartbeats 1000000 in
theorem known_calls (w : World) : Calls Try.prog 6 #[] w fun e w' => e = .returned (.bool true) ∧ Below w.heap.size w w' := by
  have kc := fun (w : World) (C : Array Value) (n c : Nat) => Lib.run_convert_bytes_const (P := Try.prog) w 22 5 C n c Try.underlying22 Try.underlying5
  have s2 : Small [97, 98] := by unfold Small; decide
  have H1 := Lib.hid (Bytes.of_lit w 5 #[.int .u8 97, .int .u8 98] (2, 3) [97, 98] 2 rfl s2 rfl)
  go_enter Try.func6, Try.ntmps6
  go_wp2_with fail
  refine (seal_ _ 2 2 [97, 98] _ H1.out (by omega)).mono ?_
  rintro e w1 ⟨g, rfl, _, hg, hr1, hb1⟩
  go_wp2_with fail
  have hr1' := Lib.hid (Bytes.of_row' hr1 (sealed_small _ s2) (sealed_length _))
  refine (open_good _ 2 6 (sealed [97, 98]) _ hr1'.out (by omega) (by omega) (agree_sealed _)).mono ?_
  rintro e w2 ⟨g2, rfl, hg2, hr2, hb2⟩
  go_wp2_with fail
  have hr2' := hr2
  rw [headOf_sealed] at hr2'
  have H4 := Lib.hid (Bytes.of_lit w2 5 #[.int .u8 1, .int .u8 0, .int .u8 0, .int .u8 0] (0, 0) [1, 0, 0, 0] 4 rfl (by unfold Small; decide) rfl)
  refine (open_bad _ 0 4 [1, 0, 0, 0] _ H4.out (by omega) (by omega) known_bad).mono ?_
  rintro e w3 ⟨rfl, hb3⟩
  have h9 : Small [49, 50, 51, 52, 53, 54, 55, 56, 57] := by unfold Small; decide
  have H9 := Lib.hid (Bytes.of_lit w3 5 #[.int .u8 49, .int .u8 50, .int .u8 51, .int .u8 52, .int .u8 53, .int .u8 54, .int .u8 55, .int .u8 56, .int .u8 57] (9, 10) _ 9 rfl h9 rfl)
  clear h9
  go_wp2_with fail
  refine (sum32 _ 9 9 _ _ H9.out (by omega)).mono ?_
  rintro e w4 ⟨he, hb4⟩
  rw [known_sum] at he
  subst he
  have h5 : Small [34, 105, 110, 116, 34] := by unfold Small; decide
  have H5 := Lib.hid (Bytes.of_lit w4 5 #[.int .u8 34, .int .u8 105, .int .u8 110, .int .u8 116, .int .u8 34] (5, 6) _ 5 rfl h5 rfl)
  clear h5
  go_wp2_with fail
  refine (finger _ 5 5 _ _ H5.out (by omega)).mono ?_
  rintro e w5 ⟨he, hb5⟩
  rw [known_finger] at he
  subst he
  have hr5 := ((hr2'.lit hb3).lit hb4).lit hb5
  have hconv : (convert 22 9 (.slice (some ⟨g2, 0, none⟩) 2 2)).run Try.prog w5 = .ok (.string ⟨#[97, 98]⟩) w5 :=
    run_text (Bytes.of_row' hr5 s2 rfl) 22 9 5 2 Try.underlying22 Try.underlying5 Try.underlying9
  have hbel := (((((Below.refl w.heap.size w).lit hb1).call hb2).lit hb3).lit hb4).lit hb5
  clear hr1 hb1 hr1' hr2 hb2 hr2' H4 hb3 H9 hb4 H5 hb5 hr5
  go_wp2
  go_ret
  exact ⟨rfl, hbel⟩
end Go.Proofs.Ytmiaaihejapomaa
