import Derived.Test.YtmhbkjjkalnggaaGreatDoorPt11
namespace Go.Proofs.YtmhbkjjkalnggaaGreatDoor
open Go.RowKit
set_option maxRecDepth 100000
theorem jesc0 (w : World) : Calls Tryz.prog 96 #[.int .i32 0] w fun e w' => e = .returned (.string ⟨#[92, 117, 48, 48, 48, 48]⟩) /\ Below w.heap.size w w' := by
 have HI : Hid (∀ W, Calls Tryz.prog 112 #[.string ⟨#[34, 92, 8, 12, 10, 13, 9, 47]⟩, .int .i32 0] W fun e w' => e = .returned (.int .i64 (-1)) /\ w' = W) := hid fun W => Tryz.strings_IndexRune_ascii (bs escLetters) 0 W (by omega) (by omega)
 go_enter Tryz.func96, Tryz.ntmps96
 go_wp2_with fail
 refine (HI.out _).mono ?_
 rintro e w2 ⟨rfl, rfl⟩
 go_wp2
 go_quiet (fail)
 go_wp2
 go_ret
 exact ⟨rfl, below_drewN (Below.refl _ _) _⟩
theorem jesc1 (w : World) : Calls Tryz.prog 96 #[.int .i32 1] w fun e w' => e = .returned (.string ⟨#[92, 117, 48, 48, 48, 49]⟩) /\ Below w.heap.size w w' := by
 have HI : Hid (∀ W, Calls Tryz.prog 112 #[.string ⟨#[34, 92, 8, 12, 10, 13, 9, 47]⟩, .int .i32 1] W fun e w' => e = .returned (.int .i64 (-1)) /\ w' = W) := hid fun W => Tryz.strings_IndexRune_ascii (bs escLetters) 1 W (by omega) (by omega)
 go_enter Tryz.func96, Tryz.ntmps96
 go_wp2_with fail
 refine (HI.out _).mono ?_
 rintro e w2 ⟨rfl, rfl⟩
 go_wp2
 go_quiet (fail)
 go_wp2
 go_ret
 exact ⟨rfl, below_drewN (Below.refl _ _) _⟩
theorem jesc2 (w : World) : Calls Tryz.prog 96 #[.int .i32 2] w fun e w' => e = .returned (.string ⟨#[92, 117, 48, 48, 48, 50]⟩) /\ Below w.heap.size w w' := by
 have HI : Hid (∀ W, Calls Tryz.prog 112 #[.string ⟨#[34, 92, 8, 12, 10, 13, 9, 47]⟩, .int .i32 2] W fun e w' => e = .returned (.int .i64 (-1)) /\ w' = W) := hid fun W => Tryz.strings_IndexRune_ascii (bs escLetters) 2 W (by omega) (by omega)
 go_enter Tryz.func96, Tryz.ntmps96
 go_wp2_with fail
 refine (HI.out _).mono ?_
 rintro e w2 ⟨rfl, rfl⟩
 go_wp2
 go_quiet (fail)
 go_wp2
 go_ret
 exact ⟨rfl, below_drewN (Below.refl _ _) _⟩
theorem jesc3 (w : World) : Calls Tryz.prog 96 #[.int .i32 3] w fun e w' => e = .returned (.string ⟨#[92, 117, 48, 48, 48, 51]⟩) /\ Below w.heap.size w w' := by
 have HI : Hid (∀ W, Calls Tryz.prog 112 #[.string ⟨#[34, 92, 8, 12, 10, 13, 9, 47]⟩, .int .i32 3] W fun e w' => e = .returned (.int .i64 (-1)) /\ w' = W) := hid fun W => Tryz.strings_IndexRune_ascii (bs escLetters) 3 W (by omega) (by omega)
 go_enter Tryz.func96, Tryz.ntmps96
 go_wp2_with fail
 refine (HI.out _).mono ?_
 rintro e w2 ⟨rfl, rfl⟩
 go_wp2
 go_quiet (fail)
 go_wp2
 go_ret
 exact ⟨rfl, below_drewN (Below.refl _ _) _⟩
theorem jesc4 (w : World) : Calls Tryz.prog 96 #[.int .i32 4] w fun e w' => e = .returned (.string ⟨#[92, 117, 48, 48, 48, 52]⟩) /\ Below w.heap.size w w' := by
 have HI : Hid (∀ W, Calls Tryz.prog 112 #[.string ⟨#[34, 92, 8, 12, 10, 13, 9, 47]⟩, .int .i32 4] W fun e w' => e = .returned (.int .i64 (-1)) /\ w' = W) := hid fun W => Tryz.strings_IndexRune_ascii (bs escLetters) 4 W (by omega) (by omega)
 go_enter Tryz.func96, Tryz.ntmps96
 go_wp2_with fail
 refine (HI.out _).mono ?_
 rintro e w2 ⟨rfl, rfl⟩
 go_wp2
 go_quiet (fail)
 go_wp2
 go_ret
 exact ⟨rfl, below_drewN (Below.refl _ _) _⟩
theorem jesc5 (w : World) : Calls Tryz.prog 96 #[.int .i32 5] w fun e w' => e = .returned (.string ⟨#[92, 117, 48, 48, 48, 53]⟩) /\ Below w.heap.size w w' := by
 have HI : Hid (∀ W, Calls Tryz.prog 112 #[.string ⟨#[34, 92, 8, 12, 10, 13, 9, 47]⟩, .int .i32 5] W fun e w' => e = .returned (.int .i64 (-1)) /\ w' = W) := hid fun W => Tryz.strings_IndexRune_ascii (bs escLetters) 5 W (by omega) (by omega)
 go_enter Tryz.func96, Tryz.ntmps96
 go_wp2_with fail
 refine (HI.out _).mono ?_
 rintro e w2 ⟨rfl, rfl⟩
 go_wp2
 go_quiet (fail)
 go_wp2
 go_ret
 exact ⟨rfl, below_drewN (Below.refl _ _) _⟩
theorem jesc6 (w : World) : Calls Tryz.prog 96 #[.int .i32 6] w fun e w' => e = .returned (.string ⟨#[92, 117, 48, 48, 48, 54]⟩) /\ Below w.heap.size w w' := by
 have HI : Hid (∀ W, Calls Tryz.prog 112 #[.string ⟨#[34, 92, 8, 12, 10, 13, 9, 47]⟩, .int .i32 6] W fun e w' => e = .returned (.int .i64 (-1)) /\ w' = W) := hid fun W => Tryz.strings_IndexRune_ascii (bs escLetters) 6 W (by omega) (by omega)
 go_enter Tryz.func96, Tryz.ntmps96
 go_wp2_with fail
 refine (HI.out _).mono ?_
 rintro e w2 ⟨rfl, rfl⟩
 go_wp2
 go_quiet (fail)
 go_wp2
 go_ret
 exact ⟨rfl, below_drewN (Below.refl _ _) _⟩
theorem jesc7 (w : World) : Calls Tryz.prog 96 #[.int .i32 7] w fun e w' => e = .returned (.string ⟨#[92, 117, 48, 48, 48, 55]⟩) /\ Below w.heap.size w w' := by
 have HI : Hid (∀ W, Calls Tryz.prog 112 #[.string ⟨#[34, 92, 8, 12, 10, 13, 9, 47]⟩, .int .i32 7] W fun e w' => e = .returned (.int .i64 (-1)) /\ w' = W) := hid fun W => Tryz.strings_IndexRune_ascii (bs escLetters) 7 W (by omega) (by omega)
 go_enter Tryz.func96, Tryz.ntmps96
 go_wp2_with fail
 refine (HI.out _).mono ?_
 rintro e w2 ⟨rfl, rfl⟩
 go_wp2
 go_quiet (fail)
 go_wp2
 go_ret
 exact ⟨rfl, below_drewN (Below.refl _ _) _⟩
theorem jesc11 (w : World) : Calls Tryz.prog 96 #[.int .i32 11] w fun e w' => e = .returned (.string ⟨#[92, 117, 48, 48, 48, 98]⟩) /\ Below w.heap.size w w' := by
 have HI : Hid (∀ W, Calls Tryz.prog 112 #[.string ⟨#[34, 92, 8, 12, 10, 13, 9, 47]⟩, .int .i32 11] W fun e w' => e = .returned (.int .i64 (-1)) /\ w' = W) := hid fun W => Tryz.strings_IndexRune_ascii (bs escLetters) 11 W (by omega) (by omega)
 go_enter Tryz.func96, Tryz.ntmps96
 go_wp2_with fail
 refine (HI.out _).mono ?_
 rintro e w2 ⟨rfl, rfl⟩
 go_wp2
 go_quiet (fail)
 go_wp2
 go_ret
 exact ⟨rfl, below_drewN (Below.refl _ _) _⟩
theorem jesc14 (w : World) : Calls Tryz.prog 96 #[.int .i32 14] w fun e w' => e = .returned (.string ⟨#[92, 117, 48, 48, 48, 101]⟩) /\ Below w.heap.size w w' := by
 have HI : Hid (∀ W, Calls Tryz.prog 112 #[.string ⟨#[34, 92, 8, 12, 10, 13, 9, 47]⟩, .int .i32 14] W fun e w' => e = .returned (.int .i64 (-1)) /\ w' = W) := hid fun W => Tryz.strings_IndexRune_ascii (bs escLetters) 14 W (by omega) (by omega)
 go_enter Tryz.func96, Tryz.ntmps96
 go_wp2_with fail
 refine (HI.out _).mono ?_
 rintro e w2 ⟨rfl, rfl⟩
 go_wp2
 go_quiet (fail)
 go_wp2
 go_ret
 exact ⟨rfl, below_drewN (Below.refl _ _) _⟩
theorem jesc15 (w : World) : Calls Tryz.prog 96 #[.int .i32 15] w fun e w' => e = .returned (.string ⟨#[92, 117, 48, 48, 48, 102]⟩) /\ Below w.heap.size w w' := by
 have HI : Hid (∀ W, Calls Tryz.prog 112 #[.string ⟨#[34, 92, 8, 12, 10, 13, 9, 47]⟩, .int .i32 15] W fun e w' => e = .returned (.int .i64 (-1)) /\ w' = W) := hid fun W => Tryz.strings_IndexRune_ascii (bs escLetters) 15 W (by omega) (by omega)
 go_enter Tryz.func96, Tryz.ntmps96
 go_wp2_with fail
 refine (HI.out _).mono ?_
 rintro e w2 ⟨rfl, rfl⟩
 go_wp2
 go_quiet (fail)
 go_wp2
 go_ret
 exact ⟨rfl, below_drewN (Below.refl _ _) _⟩
theorem jesc16 (w : World) : Calls Tryz.prog 96 #[.int .i32 16] w fun e w' => e = .returned (.string ⟨#[92, 117, 48, 48, 49, 48]⟩) /\ Below w.heap.size w w' := by
 have HI : Hid (∀ W, Calls Tryz.prog 112 #[.string ⟨#[34, 92, 8, 12, 10, 13, 9, 47]⟩, .int .i32 16] W fun e w' => e = .returned (.int .i64 (-1)) /\ w' = W) := hid fun W => Tryz.strings_IndexRune_ascii (bs escLetters) 16 W (by omega) (by omega)
 go_enter Tryz.func96, Tryz.ntmps96
 go_wp2_with fail
 refine (HI.out _).mono ?_
 rintro e w2 ⟨rfl, rfl⟩
 go_wp2
 go_quiet (fail)
 go_wp2
 go_ret
 exact ⟨rfl, below_drewN (Below.refl _ _) _⟩
theorem jesc17 (w : World) : Calls Tryz.prog 96 #[.int .i32 17] w fun e w' => e = .returned (.string ⟨#[92, 117, 48, 48, 49, 49]⟩) /\ Below w.heap.size w w' := by
 have HI : Hid (∀ W, Calls Tryz.prog 112 #[.string ⟨#[34, 92, 8, 12, 10, 13, 9, 47]⟩, .int .i32 17] W fun e w' => e = .returned (.int .i64 (-1)) /\ w' = W) := hid fun W => Tryz.strings_IndexRune_ascii (bs escLetters) 17 W (by omega) (by omega)
 go_enter Tryz.func96, Tryz.ntmps96
 go_wp2_with fail
 refine (HI.out _).mono ?_
 rintro e w2 ⟨rfl, rfl⟩
 go_wp2
 go_quiet (fail)
 go_wp2
 go_ret
 exact ⟨rfl, below_drewN (Below.refl _ _) _⟩
theorem jesc18 (w : World) : Calls Tryz.prog 96 #[.int .i32 18] w fun e w' => e = .returned (.string ⟨#[92, 117, 48, 48, 49, 50]⟩) /\ Below w.heap.size w w' := by
 have HI : Hid (∀ W, Calls Tryz.prog 112 #[.string ⟨#[34, 92, 8, 12, 10, 13, 9, 47]⟩, .int .i32 18] W fun e w' => e = .returned (.int .i64 (-1)) /\ w' = W) := hid fun W => Tryz.strings_IndexRune_ascii (bs escLetters) 18 W (by omega) (by omega)
 go_enter Tryz.func96, Tryz.ntmps96
 go_wp2_with fail
 refine (HI.out _).mono ?_
 rintro e w2 ⟨rfl, rfl⟩
 go_wp2
 go_quiet (fail)
 go_wp2
 go_ret
 exact ⟨rfl, below_drewN (Below.refl _ _) _⟩
theorem jesc19 (w : World) : Calls Tryz.prog 96 #[.int .i32 19] w fun e w' => e = .returned (.string ⟨#[92, 117, 48, 48, 49, 51]⟩) /\ Below w.heap.size w w' := by
 have HI : Hid (∀ W, Calls Tryz.prog 112 #[.string ⟨#[34, 92, 8, 12, 10, 13, 9, 47]⟩, .int .i32 19] W fun e w' => e = .returned (.int .i64 (-1)) /\ w' = W) := hid fun W => Tryz.strings_IndexRune_ascii (bs escLetters) 19 W (by omega) (by omega)
 go_enter Tryz.func96, Tryz.ntmps96
 go_wp2_with fail
 refine (HI.out _).mono ?_
 rintro e w2 ⟨rfl, rfl⟩
 go_wp2
 go_quiet (fail)
 go_wp2
 go_ret
 exact ⟨rfl, below_drewN (Below.refl _ _) _⟩
theorem jesc20 (w : World) : Calls Tryz.prog 96 #[.int .i32 20] w fun e w' => e = .returned (.string ⟨#[92, 117, 48, 48, 49, 52]⟩) /\ Below w.heap.size w w' := by
 have HI : Hid (∀ W, Calls Tryz.prog 112 #[.string ⟨#[34, 92, 8, 12, 10, 13, 9, 47]⟩, .int .i32 20] W fun e w' => e = .returned (.int .i64 (-1)) /\ w' = W) := hid fun W => Tryz.strings_IndexRune_ascii (bs escLetters) 20 W (by omega) (by omega)
 go_enter Tryz.func96, Tryz.ntmps96
 go_wp2_with fail
 refine (HI.out _).mono ?_
 rintro e w2 ⟨rfl, rfl⟩
 go_wp2
 go_quiet (fail)
 go_wp2
 go_ret
 exact ⟨rfl, below_drewN (Below.refl _ _) _⟩
theorem jesc21 (w : World) : Calls Tryz.prog 96 #[.int .i32 21] w fun e w' => e = .returned (.string ⟨#[92, 117, 48, 48, 49, 53]⟩) /\ Below w.heap.size w w' := by
 have HI : Hid (∀ W, Calls Tryz.prog 112 #[.string ⟨#[34, 92, 8, 12, 10, 13, 9, 47]⟩, .int .i32 21] W fun e w' => e = .returned (.int .i64 (-1)) /\ w' = W) := hid fun W => Tryz.strings_IndexRune_ascii (bs escLetters) 21 W (by omega) (by omega)
 go_enter Tryz.func96, Tryz.ntmps96
 go_wp2_with fail
 refine (HI.out _).mono ?_
 rintro e w2 ⟨rfl, rfl⟩
 go_wp2
 go_quiet (fail)
 go_wp2
 go_ret
 exact ⟨rfl, below_drewN (Below.refl _ _) _⟩
theorem jesc22 (w : World) : Calls Tryz.prog 96 #[.int .i32 22] w fun e w' => e = .returned (.string ⟨#[92, 117, 48, 48, 49, 54]⟩) /\ Below w.heap.size w w' := by
 have HI : Hid (∀ W, Calls Tryz.prog 112 #[.string ⟨#[34, 92, 8, 12, 10, 13, 9, 47]⟩, .int .i32 22] W fun e w' => e = .returned (.int .i64 (-1)) /\ w' = W) := hid fun W => Tryz.strings_IndexRune_ascii (bs escLetters) 22 W (by omega) (by omega)
 go_enter Tryz.func96, Tryz.ntmps96
 go_wp2_with fail
 refine (HI.out _).mono ?_
 rintro e w2 ⟨rfl, rfl⟩
 go_wp2
 go_quiet (fail)
 go_wp2
 go_ret
 exact ⟨rfl, below_drewN (Below.refl _ _) _⟩
theorem jesc23 (w : World) : Calls Tryz.prog 96 #[.int .i32 23] w fun e w' => e = .returned (.string ⟨#[92, 117, 48, 48, 49, 55]⟩) /\ Below w.heap.size w w' := by
 have HI : Hid (∀ W, Calls Tryz.prog 112 #[.string ⟨#[34, 92, 8, 12, 10, 13, 9, 47]⟩, .int .i32 23] W fun e w' => e = .returned (.int .i64 (-1)) /\ w' = W) := hid fun W => Tryz.strings_IndexRune_ascii (bs escLetters) 23 W (by omega) (by omega)
 go_enter Tryz.func96, Tryz.ntmps96
 go_wp2_with fail
 refine (HI.out _).mono ?_
 rintro e w2 ⟨rfl, rfl⟩
 go_wp2
 go_quiet (fail)
 go_wp2
 go_ret
 exact ⟨rfl, below_drewN (Below.refl _ _) _⟩
theorem jesc24 (w : World) : Calls Tryz.prog 96 #[.int .i32 24] w fun e w' => e = .returned (.string ⟨#[92, 117, 48, 48, 49, 56]⟩) /\ Below w.heap.size w w' := by
 have HI : Hid (∀ W, Calls Tryz.prog 112 #[.string ⟨#[34, 92, 8, 12, 10, 13, 9, 47]⟩, .int .i32 24] W fun e w' => e = .returned (.int .i64 (-1)) /\ w' = W) := hid fun W => Tryz.strings_IndexRune_ascii (bs escLetters) 24 W (by omega) (by omega)
 go_enter Tryz.func96, Tryz.ntmps96
 go_wp2_with fail
 refine (HI.out _).mono ?_
 rintro e w2 ⟨rfl, rfl⟩
 go_wp2
 go_quiet (fail)
 go_wp2
 go_ret
 exact ⟨rfl, below_drewN (Below.refl _ _) _⟩
theorem jesc25 (w : World) : Calls Tryz.prog 96 #[.int .i32 25] w fun e w' => e = .returned (.string ⟨#[92, 117, 48, 48, 49, 57]⟩) /\ Below w.heap.size w w' := by
 have HI : Hid (∀ W, Calls Tryz.prog 112 #[.string ⟨#[34, 92, 8, 12, 10, 13, 9, 47]⟩, .int .i32 25] W fun e w' => e = .returned (.int .i64 (-1)) /\ w' = W) := hid fun W => Tryz.strings_IndexRune_ascii (bs escLetters) 25 W (by omega) (by omega)
 go_enter Tryz.func96, Tryz.ntmps96
 go_wp2_with fail
 refine (HI.out _).mono ?_
 rintro e w2 ⟨rfl, rfl⟩
 go_wp2
 go_quiet (fail)
 go_wp2
 go_ret
 exact ⟨rfl, below_drewN (Below.refl _ _) _⟩
theorem jesc26 (w : World) : Calls Tryz.prog 96 #[.int .i32 26] w fun e w' => e = .returned (.string ⟨#[92, 117, 48, 48, 49, 97]⟩) /\ Below w.heap.size w w' := by
 have HI : Hid (∀ W, Calls Tryz.prog 112 #[.string ⟨#[34, 92, 8, 12, 10, 13, 9, 47]⟩, .int .i32 26] W fun e w' => e = .returned (.int .i64 (-1)) /\ w' = W) := hid fun W => Tryz.strings_IndexRune_ascii (bs escLetters) 26 W (by omega) (by omega)
 go_enter Tryz.func96, Tryz.ntmps96
 go_wp2_with fail
 refine (HI.out _).mono ?_
 rintro e w2 ⟨rfl, rfl⟩
 go_wp2
 go_quiet (fail)
 go_wp2
 go_ret
 exact ⟨rfl, below_drewN (Below.refl _ _) _⟩
theorem jesc27 (w : World) : Calls Tryz.prog 96 #[.int .i32 27] w fun e w' => e = .returned (.string ⟨#[92, 117, 48, 48, 49, 98]⟩) /\ Below w.heap.size w w' := by
 have HI : Hid (∀ W, Calls Tryz.prog 112 #[.string ⟨#[34, 92, 8, 12, 10, 13, 9, 47]⟩, .int .i32 27] W fun e w' => e = .returned (.int .i64 (-1)) /\ w' = W) := hid fun W => Tryz.strings_IndexRune_ascii (bs escLetters) 27 W (by omega) (by omega)
 go_enter Tryz.func96, Tryz.ntmps96
 go_wp2_with fail
 refine (HI.out _).mono ?_
 rintro e w2 ⟨rfl, rfl⟩
 go_wp2
 go_quiet (fail)
 go_wp2
 go_ret
 exact ⟨rfl, below_drewN (Below.refl _ _) _⟩
theorem jesc28 (w : World) : Calls Tryz.prog 96 #[.int .i32 28] w fun e w' => e = .returned (.string ⟨#[92, 117, 48, 48, 49, 99]⟩) /\ Below w.heap.size w w' := by
 have HI : Hid (∀ W, Calls Tryz.prog 112 #[.string ⟨#[34, 92, 8, 12, 10, 13, 9, 47]⟩, .int .i32 28] W fun e w' => e = .returned (.int .i64 (-1)) /\ w' = W) := hid fun W => Tryz.strings_IndexRune_ascii (bs escLetters) 28 W (by omega) (by omega)
 go_enter Tryz.func96, Tryz.ntmps96
 go_wp2_with fail
 refine (HI.out _).mono ?_
 rintro e w2 ⟨rfl, rfl⟩
 go_wp2
 go_quiet (fail)
 go_wp2
 go_ret
 exact ⟨rfl, below_drewN (Below.refl _ _) _⟩
theorem jesc29 (w : World) : Calls Tryz.prog 96 #[.int .i32 29] w fun e w' => e = .returned (.string ⟨#[92, 117, 48, 48, 49, 100]⟩) /\ Below w.heap.size w w' := by
 have HI : Hid (∀ W, Calls Tryz.prog 112 #[.string ⟨#[34, 92, 8, 12, 10, 13, 9, 47]⟩, .int .i32 29] W fun e w' => e = .returned (.int .i64 (-1)) /\ w' = W) := hid fun W => Tryz.strings_IndexRune_ascii (bs escLetters) 29 W (by omega) (by omega)
 go_enter Tryz.func96, Tryz.ntmps96
 go_wp2_with fail
 refine (HI.out _).mono ?_
 rintro e w2 ⟨rfl, rfl⟩
 go_wp2
 go_quiet (fail)
 go_wp2
 go_ret
 exact ⟨rfl, below_drewN (Below.refl _ _) _⟩
theorem jesc30 (w : World) : Calls Tryz.prog 96 #[.int .i32 30] w fun e w' => e = .returned (.string ⟨#[92, 117, 48, 48, 49, 101]⟩) /\ Below w.heap.size w w' := by
 have HI : Hid (∀ W, Calls Tryz.prog 112 #[.string ⟨#[34, 92, 8, 12, 10, 13, 9, 47]⟩, .int .i32 30] W fun e w' => e = .returned (.int .i64 (-1)) /\ w' = W) := hid fun W => Tryz.strings_IndexRune_ascii (bs escLetters) 30 W (by omega) (by omega)
 go_enter Tryz.func96, Tryz.ntmps96
 go_wp2_with fail
 refine (HI.out _).mono ?_
 rintro e w2 ⟨rfl, rfl⟩
 go_wp2
 go_quiet (fail)
 go_wp2
 go_ret
 exact ⟨rfl, below_drewN (Below.refl _ _) _⟩
theorem jesc31 (w : World) : Calls Tryz.prog 96 #[.int .i32 31] w fun e w' => e = .returned (.string ⟨#[92, 117, 48, 48, 49, 102]⟩) /\ Below w.heap.size w w' := by
 have HI : Hid (∀ W, Calls Tryz.prog 112 #[.string ⟨#[34, 92, 8, 12, 10, 13, 9, 47]⟩, .int .i32 31] W fun e w' => e = .returned (.int .i64 (-1)) /\ w' = W) := hid fun W => Tryz.strings_IndexRune_ascii (bs escLetters) 31 W (by omega) (by omega)
 go_enter Tryz.func96, Tryz.ntmps96
 go_wp2_with fail
 refine (HI.out _).mono ?_
 rintro e w2 ⟨rfl, rfl⟩
 go_wp2
 go_quiet (fail)
 go_wp2
 go_ret
 exact ⟨rfl, below_drewN (Below.refl _ _) _⟩
theorem jescape_ok (b : UInt8) (hb : b.toNat < 32 ∨ b = 34 ∨ b = 92) (w : World) :
   Calls Tryz.prog 96 #[.int .i32 (b.toNat : Int)] w fun e w' => e = .returned (.string (bs (escL b))) /\ Below w.heap.size w w' := by
 have h128 : b.toNat < 128 := by
   rcases hb with h | h | h
   · omega
   · subst h; decide
   · subst h; decide
 cases h : esc1 b with
 | some x =>
   have h47 : b ≠ 47 := by
     rintro rfl
     rcases hb with h9 | h9 | h9 <;> revert h9 <;> decide
   rw [escL_one h h47]
   exact jescape_one b x h h128 w
 | none =>
   have h32 : b.toNat < 32 := by
     rcases hb with h9 | h9 | h9
     · exact h9
     · subst h9; revert h; decide
     · subst h9; revert h; decide
   have key : ∀ n : Nat, b.toNat = n -> b = UInt8.ofNat n := fun n e => by rw [<- e]; simp
   rcases (by omega : b.toNat = 0 ∨ b.toNat = 1 ∨ b.toNat = 2 ∨ b.toNat = 3 ∨ b.toNat = 4 ∨ b.toNat = 5 ∨ b.toNat = 6 ∨ b.toNat = 7 ∨ b.toNat = 8 ∨ b.toNat = 9 ∨ b.toNat = 10 ∨ b.toNat = 11 ∨ b.toNat = 12 ∨ b.toNat = 13 ∨ b.toNat = 14 ∨ b.toNat = 15 ∨ b.toNat = 16 ∨ b.toNat = 17 ∨ b.toNat = 18 ∨ b.toNat = 19 ∨ b.toNat = 20 ∨ b.toNat = 21 ∨ b.toNat = 22 ∨ b.toNat = 23 ∨ b.toNat = 24 ∨ b.toNat = 25 ∨ b.toNat = 26 ∨ b.toNat = 27 ∨ b.toNat = 28 ∨ b.toNat = 29 ∨ b.toNat = 30 ∨ b.toNat = 31) with h9 | h9 | h9 | h9 | h9 | h9 | h9 | h9 | h9 | h9 | h9 | h9 | h9 | h9 | h9 | h9 | h9 | h9 | h9 | h9 | h9 | h9 | h9 | h9 | h9 | h9 | h9 | h9 | h9 | h9 | h9 | h9
   · obtain rfl := key 0 h9; exact jesc0 w
   · obtain rfl := key 1 h9; exact jesc1 w
   · obtain rfl := key 2 h9; exact jesc2 w
   · obtain rfl := key 3 h9; exact jesc3 w
   · obtain rfl := key 4 h9; exact jesc4 w
   · obtain rfl := key 5 h9; exact jesc5 w
   · obtain rfl := key 6 h9; exact jesc6 w
   · obtain rfl := key 7 h9; exact jesc7 w
   · obtain rfl := key 8 h9; exact absurd h (by decide)
   · obtain rfl := key 9 h9; exact absurd h (by decide)
   · obtain rfl := key 10 h9; exact absurd h (by decide)
   · obtain rfl := key 11 h9; exact jesc11 w
   · obtain rfl := key 12 h9; exact absurd h (by decide)
   · obtain rfl := key 13 h9; exact absurd h (by decide)
   · obtain rfl := key 14 h9; exact jesc14 w
   · obtain rfl := key 15 h9; exact jesc15 w
   · obtain rfl := key 16 h9; exact jesc16 w
   · obtain rfl := key 17 h9; exact jesc17 w
   · obtain rfl := key 18 h9; exact jesc18 w
   · obtain rfl := key 19 h9; exact jesc19 w
   · obtain rfl := key 20 h9; exact jesc20 w
   · obtain rfl := key 21 h9; exact jesc21 w
   · obtain rfl := key 22 h9; exact jesc22 w
   · obtain rfl := key 23 h9; exact jesc23 w
   · obtain rfl := key 24 h9; exact jesc24 w
   · obtain rfl := key 25 h9; exact jesc25 w
   · obtain rfl := key 26 h9; exact jesc26 w
   · obtain rfl := key 27 h9; exact jesc27 w
   · obtain rfl := key 28 h9; exact jesc28 w
   · obtain rfl := key 29 h9; exact jesc29 w
   · obtain rfl := key 30 h9; exact jesc30 w
   · obtain rfl := key 31 h9; exact jesc31 w
end Go.Proofs.YtmhbkjjkalnggaaGreatDoor
