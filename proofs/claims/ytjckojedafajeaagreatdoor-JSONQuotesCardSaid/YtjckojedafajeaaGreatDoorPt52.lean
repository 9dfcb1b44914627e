/- Layer 8: the document's own: Quote. (Written by wip/genjsqud.py.) -/
import Derived.Test.YtjckojedafajeaaGreatDoorPt49
import Derived.Test.YtjckojedafajeaaGreatDoorPt51
import Derived.Deep.QuietTactic
import Derived.BigQuiet
import Derived.Lib.ValidLaws
import Derived.Lib.TrimUEq
namespace Go.Proofs.YtjckojedafajeaaGreatDoor
open Go.RowKit
theorem bs_one {l : List UInt8} {i : Nat} (h : i < l.length) : (l.take (i + 1)).drop i = [l.getD i 0] := by
  rw [List.drop_take, show i + 1 - i = 1 by omega]
  have e : l.drop i = l.getD i 0 :: l.drop (i + 1) := by rw [List.drop_eq_getElem_cons h]; simp [h]
  rw [e]; rfl
theorem run_sub_u8 {P : Program} (W : World) (t : TypeId) (ht : P.underlying t = some .string) (l : List UInt8) (i j : Nat) (hij : i ≤ j) (hj : j ≤ l.length) :
    (Instr.slice t (.string (bs l)) (some (.int .u8 (i : Int))) (some (.int .u8 (j : Int))) none).run P W = .ok (.string (bs ((l.take j).drop i))) W := by
  simp [Instr.slice, run_underlying ht, Instr.sliceBounds, Instr.sliceBound, asIntOf, go_sem, bs_size, hij, hj, bs_extract]
set_option maxRecDepth 100000 in
set_option maxHeartbeats 8000000 in
theorem dquote_ok (l : List UInt8) (w : World) (hl : l.length ≤ 20000) :
    Calls Tryz.prog 14 #[.string (bs l)] w fun e w' => e = .returned (.string (bs (quoteL l))) ∧ Below w.heap.size w w' := by
  have hsz := bs_size l
  have HL := Lib.hid hl
  have HIX : Hid (∀ k : Nat, k < l.length → ∀ W : World, (Instr.index 9 (.string (bs l)) (.int .i64 (k : Int))).run Tryz.prog W = .ok (.int .u8 ((l.getD k 0).toNat : Int)) W) := Lib.hid fun k hk W => run_byte _ Tryz.underlying9 l k hk W
  have HAD : Hid (∀ a b : List UInt8, a.length ≤ 200000 → b.length ≤ 200000 → ∀ W, (Op.stringOp .add (bs a) (bs b)).run Tryz.prog W = .ok (.string (bs (a ++ b))) W) := Lib.hid fun a b h1 h2 W => run_add_bs (P := Tryz.prog) (W := W) a b (by omega)
  have HLEN : Hid (∀ i, (([34] : List UInt8) ++ (l.take i).flatMap escL).length ≤ 120001) := Lib.hid fun i => by
    have h1 := flat_esc_le (l.take i)
    have h2 : (l.take i).length ≤ l.length := by rw [List.length_take]; omega
    rw [List.length_append]; simp only [List.length_cons, List.length_nil]; omega
  clear hl
  go_enter Tryz.func14, Tryz.ntmps14
  go_wp2
  go_loopw [4, 3] (fun v4 v3 wr => ∃ i : Nat, v4 = .int .i64 (i : Int) ∧ v3 = .string (bs ([34] ++ (l.take i).flatMap escL)) ∧ i ≤ l.length ∧ Hid (Below w.heap.size w wr)) (fun v4 _ _ => l.length - (intOf v4).toNat)
  case atStart => exact ⟨0, rfl, rfl, Nat.zero_le _, Lib.hid (Below.refl _ _)⟩
  case round =>
    obtain ⟨i, rfl, rfl, hil, HBL⟩ := hrel
    have hal := HLEN.out i
    obtain ⟨acc, hacc⟩ : ∃ acc, acc = ([34] : List UInt8) ++ (l.take i).flatMap escL := ⟨_, rfl⟩
    rw [← hacc] at hal ⊢
    have HACC := Lib.hid hacc
    have hle := HL.out
    by_cases hi : i < l.length
    · have HN : Hid (∀ u, escL (l.getD i 0) = u → bs (acc ++ u) = bs ([34] ++ (l.take (i + 1)).flatMap escL)) := Lib.hid fun u hu => by rw [esc_next l i hi, hu, HACC.out, List.append_assoc]
      have hidx := HIX.out i hi
      have hsub : ∀ W : World, (Instr.slice 9 (.string (bs l)) (some (.int .i64 (i : Int))) (some (.int .i64 ((i : Int) + 1))) none).run Tryz.prog W = .ok (.string (bs [l.getD i 0])) W := fun W => by
        have h9 := run_sub_bsJ (P := Tryz.prog) W 9 Tryz.underlying9 l i (i + 1) (by omega) (by omega)
        rw [bs_one hi] at h9
        exact h9
      have hlt : (i : Int) < (l.length : Int) := by omega
      obtain ⟨y, hy⟩ : ∃ y, y = l.getD i 0 := ⟨_, rfl⟩
      rw [← hy] at HN hidx hsub
      clear hy hacc
      have FIN : Hid (∀ W' u v, escL y = u → Below w.heap.size w W' → v = bs (acc ++ u) → ∃ j : Nat, Value.int .i64 ((i : Int) + 1) = .int .i64 (j : Int) ∧ Value.string v = .string (bs ([34] ++ (l.take j).flatMap escL)) ∧ j ≤ l.length ∧ Hid (Below w.heap.size w W')) := Lib.hid fun W' u v hu hb hv => ⟨i + 1, rfl, by rw [hv, HN.out u hu], by omega, Lib.hid hb⟩
      clear HN
      have HM : Hid (l.length - ((i : Int) + 1).toNat < l.length - i) := Lib.hid (by omega)
      have hz0 : ∀ W, (Instr.slice 9 (.string ⟨#[48, 49]⟩) (some (.int .u8 (IntKind.u8.wrap 0))) (some (.int .u8 (IntKind.u8.wrap (IntKind.u8.wrap 0 + 1)))) none).run Tryz.prog W = .ok (.string ⟨#[48]⟩) W := fun W => run_sub_u8 W 9 Tryz.underlying9 [48, 49] 0 1 (by decide) (by decide)
      have hz1 : ∀ W, (Instr.slice 9 (.string ⟨#[48, 49]⟩) (some (.int .u8 (IntKind.u8.wrap 1))) (some (.int .u8 (IntKind.u8.wrap (IntKind.u8.wrap 1 + 1)))) none).run Tryz.prog W = .ok (.string ⟨#[49]⟩) W := fun W => run_sub_u8 W 9 Tryz.underlying9 [48, 49] 1 2 (by decide) (by decide)
      by_cases h32 : y.toNat < 32
      · have hor : y.toNat = 0 ∨ y.toNat = 1 ∨ y.toNat = 2 ∨ y.toNat = 3 ∨ y.toNat = 4 ∨ y.toNat = 5 ∨ y.toNat = 6 ∨ y.toNat = 7 ∨ y.toNat = 8 ∨ y.toNat = 9 ∨ y.toNat = 10 ∨ y.toNat = 11 ∨ y.toNat = 12 ∨ y.toNat = 13 ∨ y.toNat = 14 ∨ y.toNat = 15 ∨ y.toNat = 16 ∨ y.toNat = 17 ∨ y.toNat = 18 ∨ y.toNat = 19 ∨ y.toNat = 20 ∨ y.toNat = 21 ∨ y.toNat = 22 ∨ y.toNat = 23 ∨ y.toNat = 24 ∨ y.toNat = 25 ∨ y.toNat = 26 ∨ y.toNat = 27 ∨ y.toNat = 28 ∨ y.toNat = 29 ∨ y.toNat = 30 ∨ y.toNat = 31 := by omega
        clear h32
        rcases hor with hk | hk | hk | hk | hk | hk | hk | hk | hk | hk | hk | hk | hk | hk | hk | hk | hk | hk | hk | hk | hk | hk | hk | hk | hk | hk | hk | hk | hk | hk | hk | hk
        · obtain rfl : y = 0 := UInt8.toNat_inj.1 hk
          clear hk
          have hi2 : ∀ W : World, (Instr.index 9 (.string (bs l)) (.int .i64 (i : Int))).run Tryz.prog W = .ok (.int .u8 0) W := hidx
          clear hidx hsub
          have HE : Hid (escL 0 = [92, 117, 48, 48] ++ [48] ++ [48]) := Lib.hid (by decide)
          have ha : ∀ W, (Op.stringOp .add (bs acc) ⟨#[92, 117, 48, 48]⟩).run Tryz.prog W = .ok (.string (bs (acc ++ [92, 117, 48, 48]))) W := fun W => HAD.out acc [92, 117, 48, 48] (by first | omega | (simp only [List.length_append, List.length_cons, List.length_nil]; omega)) (by decide) W
          have hb : ∀ W, (Op.stringOp .add (bs (acc ++ [92, 117, 48, 48])) ⟨#[48]⟩).run Tryz.prog W = .ok (.string (bs ((acc ++ [92, 117, 48, 48]) ++ [48]))) W := fun W => HAD.out (acc ++ [92, 117, 48, 48]) [48] (by first | omega | (simp only [List.length_append, List.length_cons, List.length_nil]; omega)) (by decide) W
          have hc : ∀ W, (Op.stringOp .add (bs (acc ++ [92, 117, 48, 48, 48])) ⟨#[48]⟩).run Tryz.prog W = .ok (.string (bs ((acc ++ [92, 117, 48, 48, 48]) ++ [48]))) W := fun W => HAD.out (acc ++ [92, 117, 48, 48, 48]) [48] (by first | omega | (simp only [List.length_append, List.length_cons, List.length_nil]; omega)) (by decide) W
          have hx : ∀ W, (Instr.slice 9 (.string ⟨#[48, 49, 50, 51, 52, 53, 54, 55, 56, 57, 97, 98, 99, 100, 101, 102]⟩) (some (.int .u8 0)) (some (.int .u8 (IntKind.u8.wrap 1))) none).run Tryz.prog W = .ok (.string ⟨#[48]⟩) W := fun W => run_sub_u8 W 9 Tryz.underlying9 [48, 49, 50, 51, 52, 53, 54, 55, 56, 57, 97, 98, 99, 100, 101, 102] 0 1 (by decide) (by decide)
          go_wp2
          go_quiet (fail)
          go_wp2
          go_round
          case rel => exact FIN.out _ _ _ HE.out (below_drewN HBL.out _) (by first | rfl | simp)
          case measure => simpa [intOf] using HM.out
        · obtain rfl : y = 1 := UInt8.toNat_inj.1 hk
          clear hk
          have hi2 : ∀ W : World, (Instr.index 9 (.string (bs l)) (.int .i64 (i : Int))).run Tryz.prog W = .ok (.int .u8 1) W := hidx
          clear hidx hsub
          have HE : Hid (escL 1 = [92, 117, 48, 48] ++ [48] ++ [49]) := Lib.hid (by decide)
          have ha : ∀ W, (Op.stringOp .add (bs acc) ⟨#[92, 117, 48, 48]⟩).run Tryz.prog W = .ok (.string (bs (acc ++ [92, 117, 48, 48]))) W := fun W => HAD.out acc [92, 117, 48, 48] (by first | omega | (simp only [List.length_append, List.length_cons, List.length_nil]; omega)) (by decide) W
          have hb : ∀ W, (Op.stringOp .add (bs (acc ++ [92, 117, 48, 48])) ⟨#[48]⟩).run Tryz.prog W = .ok (.string (bs ((acc ++ [92, 117, 48, 48]) ++ [48]))) W := fun W => HAD.out (acc ++ [92, 117, 48, 48]) [48] (by first | omega | (simp only [List.length_append, List.length_cons, List.length_nil]; omega)) (by decide) W
          have hc : ∀ W, (Op.stringOp .add (bs (acc ++ [92, 117, 48, 48, 48])) ⟨#[49]⟩).run Tryz.prog W = .ok (.string (bs ((acc ++ [92, 117, 48, 48, 48]) ++ [49]))) W := fun W => HAD.out (acc ++ [92, 117, 48, 48, 48]) [49] (by first | omega | (simp only [List.length_append, List.length_cons, List.length_nil]; omega)) (by decide) W
          have hx : ∀ W, (Instr.slice 9 (.string ⟨#[48, 49, 50, 51, 52, 53, 54, 55, 56, 57, 97, 98, 99, 100, 101, 102]⟩) (some (.int .u8 1)) (some (.int .u8 (IntKind.u8.wrap 2))) none).run Tryz.prog W = .ok (.string ⟨#[49]⟩) W := fun W => run_sub_u8 W 9 Tryz.underlying9 [48, 49, 50, 51, 52, 53, 54, 55, 56, 57, 97, 98, 99, 100, 101, 102] 1 2 (by decide) (by decide)
          go_wp2
          go_quiet (fail)
          go_wp2
          go_round
          case rel => exact FIN.out _ _ _ HE.out (below_drewN HBL.out _) (by first | rfl | simp)
          case measure => simpa [intOf] using HM.out
        · obtain rfl : y = 2 := UInt8.toNat_inj.1 hk
          clear hk
          have hi2 : ∀ W : World, (Instr.index 9 (.string (bs l)) (.int .i64 (i : Int))).run Tryz.prog W = .ok (.int .u8 2) W := hidx
          clear hidx hsub
          have HE : Hid (escL 2 = [92, 117, 48, 48] ++ [48] ++ [50]) := Lib.hid (by decide)
          have ha : ∀ W, (Op.stringOp .add (bs acc) ⟨#[92, 117, 48, 48]⟩).run Tryz.prog W = .ok (.string (bs (acc ++ [92, 117, 48, 48]))) W := fun W => HAD.out acc [92, 117, 48, 48] (by first | omega | (simp only [List.length_append, List.length_cons, List.length_nil]; omega)) (by decide) W
          have hb : ∀ W, (Op.stringOp .add (bs (acc ++ [92, 117, 48, 48])) ⟨#[48]⟩).run Tryz.prog W = .ok (.string (bs ((acc ++ [92, 117, 48, 48]) ++ [48]))) W := fun W => HAD.out (acc ++ [92, 117, 48, 48]) [48] (by first | omega | (simp only [List.length_append, List.length_cons, List.length_nil]; omega)) (by decide) W
          have hc : ∀ W, (Op.stringOp .add (bs (acc ++ [92, 117, 48, 48, 48])) ⟨#[50]⟩).run Tryz.prog W = .ok (.string (bs ((acc ++ [92, 117, 48, 48, 48]) ++ [50]))) W := fun W => HAD.out (acc ++ [92, 117, 48, 48, 48]) [50] (by first | omega | (simp only [List.length_append, List.length_cons, List.length_nil]; omega)) (by decide) W
          have hx : ∀ W, (Instr.slice 9 (.string ⟨#[48, 49, 50, 51, 52, 53, 54, 55, 56, 57, 97, 98, 99, 100, 101, 102]⟩) (some (.int .u8 2)) (some (.int .u8 (IntKind.u8.wrap 3))) none).run Tryz.prog W = .ok (.string ⟨#[50]⟩) W := fun W => run_sub_u8 W 9 Tryz.underlying9 [48, 49, 50, 51, 52, 53, 54, 55, 56, 57, 97, 98, 99, 100, 101, 102] 2 3 (by decide) (by decide)
          go_wp2
          go_quiet (fail)
          go_wp2
          go_round
          case rel => exact FIN.out _ _ _ HE.out (below_drewN HBL.out _) (by first | rfl | simp)
          case measure => simpa [intOf] using HM.out
        · obtain rfl : y = 3 := UInt8.toNat_inj.1 hk
          clear hk
          have hi2 : ∀ W : World, (Instr.index 9 (.string (bs l)) (.int .i64 (i : Int))).run Tryz.prog W = .ok (.int .u8 3) W := hidx
          clear hidx hsub
          have HE : Hid (escL 3 = [92, 117, 48, 48] ++ [48] ++ [51]) := Lib.hid (by decide)
          have ha : ∀ W, (Op.stringOp .add (bs acc) ⟨#[92, 117, 48, 48]⟩).run Tryz.prog W = .ok (.string (bs (acc ++ [92, 117, 48, 48]))) W := fun W => HAD.out acc [92, 117, 48, 48] (by first | omega | (simp only [List.length_append, List.length_cons, List.length_nil]; omega)) (by decide) W
          have hb : ∀ W, (Op.stringOp .add (bs (acc ++ [92, 117, 48, 48])) ⟨#[48]⟩).run Tryz.prog W = .ok (.string (bs ((acc ++ [92, 117, 48, 48]) ++ [48]))) W := fun W => HAD.out (acc ++ [92, 117, 48, 48]) [48] (by first | omega | (simp only [List.length_append, List.length_cons, List.length_nil]; omega)) (by decide) W
          have hc : ∀ W, (Op.stringOp .add (bs (acc ++ [92, 117, 48, 48, 48])) ⟨#[51]⟩).run Tryz.prog W = .ok (.string (bs ((acc ++ [92, 117, 48, 48, 48]) ++ [51]))) W := fun W => HAD.out (acc ++ [92, 117, 48, 48, 48]) [51] (by first | omega | (simp only [List.length_append, List.length_cons, List.length_nil]; omega)) (by decide) W
          have hx : ∀ W, (Instr.slice 9 (.string ⟨#[48, 49, 50, 51, 52, 53, 54, 55, 56, 57, 97, 98, 99, 100, 101, 102]⟩) (some (.int .u8 3)) (some (.int .u8 (IntKind.u8.wrap 4))) none).run Tryz.prog W = .ok (.string ⟨#[51]⟩) W := fun W => run_sub_u8 W 9 Tryz.underlying9 [48, 49, 50, 51, 52, 53, 54, 55, 56, 57, 97, 98, 99, 100, 101, 102] 3 4 (by decide) (by decide)
          go_wp2
          go_quiet (fail)
          go_wp2
          go_round
          case rel => exact FIN.out _ _ _ HE.out (below_drewN HBL.out _) (by first | rfl | simp)
          case measure => simpa [intOf] using HM.out
        · obtain rfl : y = 4 := UInt8.toNat_inj.1 hk
          clear hk
          have hi2 : ∀ W : World, (Instr.index 9 (.string (bs l)) (.int .i64 (i : Int))).run Tryz.prog W = .ok (.int .u8 4) W := hidx
          clear hidx hsub
          have HE : Hid (escL 4 = [92, 117, 48, 48] ++ [48] ++ [52]) := Lib.hid (by decide)
          have ha : ∀ W, (Op.stringOp .add (bs acc) ⟨#[92, 117, 48, 48]⟩).run Tryz.prog W = .ok (.string (bs (acc ++ [92, 117, 48, 48]))) W := fun W => HAD.out acc [92, 117, 48, 48] (by first | omega | (simp only [List.length_append, List.length_cons, List.length_nil]; omega)) (by decide) W
          have hb : ∀ W, (Op.stringOp .add (bs (acc ++ [92, 117, 48, 48])) ⟨#[48]⟩).run Tryz.prog W = .ok (.string (bs ((acc ++ [92, 117, 48, 48]) ++ [48]))) W := fun W => HAD.out (acc ++ [92, 117, 48, 48]) [48] (by first | omega | (simp only [List.length_append, List.length_cons, List.length_nil]; omega)) (by decide) W
          have hc : ∀ W, (Op.stringOp .add (bs (acc ++ [92, 117, 48, 48, 48])) ⟨#[52]⟩).run Tryz.prog W = .ok (.string (bs ((acc ++ [92, 117, 48, 48, 48]) ++ [52]))) W := fun W => HAD.out (acc ++ [92, 117, 48, 48, 48]) [52] (by first | omega | (simp only [List.length_append, List.length_cons, List.length_nil]; omega)) (by decide) W
          have hx : ∀ W, (Instr.slice 9 (.string ⟨#[48, 49, 50, 51, 52, 53, 54, 55, 56, 57, 97, 98, 99, 100, 101, 102]⟩) (some (.int .u8 4)) (some (.int .u8 (IntKind.u8.wrap 5))) none).run Tryz.prog W = .ok (.string ⟨#[52]⟩) W := fun W => run_sub_u8 W 9 Tryz.underlying9 [48, 49, 50, 51, 52, 53, 54, 55, 56, 57, 97, 98, 99, 100, 101, 102] 4 5 (by decide) (by decide)
          go_wp2
          go_quiet (fail)
          go_wp2
          go_round
          case rel => exact FIN.out _ _ _ HE.out (below_drewN HBL.out _) (by first | rfl | simp)
          case measure => simpa [intOf] using HM.out
        · obtain rfl : y = 5 := UInt8.toNat_inj.1 hk
          clear hk
          have hi2 : ∀ W : World, (Instr.index 9 (.string (bs l)) (.int .i64 (i : Int))).run Tryz.prog W = .ok (.int .u8 5) W := hidx
          clear hidx hsub
          have HE : Hid (escL 5 = [92, 117, 48, 48] ++ [48] ++ [53]) := Lib.hid (by decide)
          have ha : ∀ W, (Op.stringOp .add (bs acc) ⟨#[92, 117, 48, 48]⟩).run Tryz.prog W = .ok (.string (bs (acc ++ [92, 117, 48, 48]))) W := fun W => HAD.out acc [92, 117, 48, 48] (by first | omega | (simp only [List.length_append, List.length_cons, List.length_nil]; omega)) (by decide) W
          have hb : ∀ W, (Op.stringOp .add (bs (acc ++ [92, 117, 48, 48])) ⟨#[48]⟩).run Tryz.prog W = .ok (.string (bs ((acc ++ [92, 117, 48, 48]) ++ [48]))) W := fun W => HAD.out (acc ++ [92, 117, 48, 48]) [48] (by first | omega | (simp only [List.length_append, List.length_cons, List.length_nil]; omega)) (by decide) W
          have hc : ∀ W, (Op.stringOp .add (bs (acc ++ [92, 117, 48, 48, 48])) ⟨#[53]⟩).run Tryz.prog W = .ok (.string (bs ((acc ++ [92, 117, 48, 48, 48]) ++ [53]))) W := fun W => HAD.out (acc ++ [92, 117, 48, 48, 48]) [53] (by first | omega | (simp only [List.length_append, List.length_cons, List.length_nil]; omega)) (by decide) W
          have hx : ∀ W, (Instr.slice 9 (.string ⟨#[48, 49, 50, 51, 52, 53, 54, 55, 56, 57, 97, 98, 99, 100, 101, 102]⟩) (some (.int .u8 5)) (some (.int .u8 (IntKind.u8.wrap 6))) none).run Tryz.prog W = .ok (.string ⟨#[53]⟩) W := fun W => run_sub_u8 W 9 Tryz.underlying9 [48, 49, 50, 51, 52, 53, 54, 55, 56, 57, 97, 98, 99, 100, 101, 102] 5 6 (by decide) (by decide)
          go_wp2
          go_quiet (fail)
          go_wp2
          go_round
          case rel => exact FIN.out _ _ _ HE.out (below_drewN HBL.out _) (by first | rfl | simp)
          case measure => simpa [intOf] using HM.out
        · obtain rfl : y = 6 := UInt8.toNat_inj.1 hk
          clear hk
          have hi2 : ∀ W : World, (Instr.index 9 (.string (bs l)) (.int .i64 (i : Int))).run Tryz.prog W = .ok (.int .u8 6) W := hidx
          clear hidx hsub
          have HE : Hid (escL 6 = [92, 117, 48, 48] ++ [48] ++ [54]) := Lib.hid (by decide)
          have ha : ∀ W, (Op.stringOp .add (bs acc) ⟨#[92, 117, 48, 48]⟩).run Tryz.prog W = .ok (.string (bs (acc ++ [92, 117, 48, 48]))) W := fun W => HAD.out acc [92, 117, 48, 48] (by first | omega | (simp only [List.length_append, List.length_cons, List.length_nil]; omega)) (by decide) W
          have hb : ∀ W, (Op.stringOp .add (bs (acc ++ [92, 117, 48, 48])) ⟨#[48]⟩).run Tryz.prog W = .ok (.string (bs ((acc ++ [92, 117, 48, 48]) ++ [48]))) W := fun W => HAD.out (acc ++ [92, 117, 48, 48]) [48] (by first | omega | (simp only [List.length_append, List.length_cons, List.length_nil]; omega)) (by decide) W
          have hc : ∀ W, (Op.stringOp .add (bs (acc ++ [92, 117, 48, 48, 48])) ⟨#[54]⟩).run Tryz.prog W = .ok (.string (bs ((acc ++ [92, 117, 48, 48, 48]) ++ [54]))) W := fun W => HAD.out (acc ++ [92, 117, 48, 48, 48]) [54] (by first | omega | (simp only [List.length_append, List.length_cons, List.length_nil]; omega)) (by decide) W
          have hx : ∀ W, (Instr.slice 9 (.string ⟨#[48, 49, 50, 51, 52, 53, 54, 55, 56, 57, 97, 98, 99, 100, 101, 102]⟩) (some (.int .u8 6)) (some (.int .u8 (IntKind.u8.wrap 7))) none).run Tryz.prog W = .ok (.string ⟨#[54]⟩) W := fun W => run_sub_u8 W 9 Tryz.underlying9 [48, 49, 50, 51, 52, 53, 54, 55, 56, 57, 97, 98, 99, 100, 101, 102] 6 7 (by decide) (by decide)
          go_wp2
          go_quiet (fail)
          go_wp2
          go_round
          case rel => exact FIN.out _ _ _ HE.out (below_drewN HBL.out _) (by first | rfl | simp)
          case measure => simpa [intOf] using HM.out
        · obtain rfl : y = 7 := UInt8.toNat_inj.1 hk
          clear hk
          have hi2 : ∀ W : World, (Instr.index 9 (.string (bs l)) (.int .i64 (i : Int))).run Tryz.prog W = .ok (.int .u8 7) W := hidx
          clear hidx hsub
          have HE : Hid (escL 7 = [92, 117, 48, 48] ++ [48] ++ [55]) := Lib.hid (by decide)
          have ha : ∀ W, (Op.stringOp .add (bs acc) ⟨#[92, 117, 48, 48]⟩).run Tryz.prog W = .ok (.string (bs (acc ++ [92, 117, 48, 48]))) W := fun W => HAD.out acc [92, 117, 48, 48] (by first | omega | (simp only [List.length_append, List.length_cons, List.length_nil]; omega)) (by decide) W
          have hb : ∀ W, (Op.stringOp .add (bs (acc ++ [92, 117, 48, 48])) ⟨#[48]⟩).run Tryz.prog W = .ok (.string (bs ((acc ++ [92, 117, 48, 48]) ++ [48]))) W := fun W => HAD.out (acc ++ [92, 117, 48, 48]) [48] (by first | omega | (simp only [List.length_append, List.length_cons, List.length_nil]; omega)) (by decide) W
          have hc : ∀ W, (Op.stringOp .add (bs (acc ++ [92, 117, 48, 48, 48])) ⟨#[55]⟩).run Tryz.prog W = .ok (.string (bs ((acc ++ [92, 117, 48, 48, 48]) ++ [55]))) W := fun W => HAD.out (acc ++ [92, 117, 48, 48, 48]) [55] (by first | omega | (simp only [List.length_append, List.length_cons, List.length_nil]; omega)) (by decide) W
          have hx : ∀ W, (Instr.slice 9 (.string ⟨#[48, 49, 50, 51, 52, 53, 54, 55, 56, 57, 97, 98, 99, 100, 101, 102]⟩) (some (.int .u8 7)) (some (.int .u8 (IntKind.u8.wrap 8))) none).run Tryz.prog W = .ok (.string ⟨#[55]⟩) W := fun W => run_sub_u8 W 9 Tryz.underlying9 [48, 49, 50, 51, 52, 53, 54, 55, 56, 57, 97, 98, 99, 100, 101, 102] 7 8 (by decide) (by decide)
          go_wp2
          go_quiet (fail)
          go_wp2
          go_round
          case rel => exact FIN.out _ _ _ HE.out (below_drewN HBL.out _) (by first | rfl | simp)
          case measure => simpa [intOf] using HM.out
        · obtain rfl : y = 8 := UInt8.toNat_inj.1 hk
          clear hk
          have hi2 : ∀ W : World, (Instr.index 9 (.string (bs l)) (.int .i64 (i : Int))).run Tryz.prog W = .ok (.int .u8 8) W := hidx
          clear hidx hsub
          have HE : Hid (escL 8 = [92, 98]) := Lib.hid (by decide)
          have ha : ∀ W, (Op.stringOp .add (bs acc) ⟨#[92, 98]⟩).run Tryz.prog W = .ok (.string (bs (acc ++ [92, 98]))) W := fun W => HAD.out acc [92, 98] (by first | omega | (simp only [List.length_append, List.length_cons, List.length_nil]; omega)) (by decide) W
          go_wp2
          go_round
          case rel => exact FIN.out _ _ _ HE.out HBL.out rfl
          case measure => simpa [intOf] using HM.out
        · obtain rfl : y = 9 := UInt8.toNat_inj.1 hk
          clear hk
          have hi2 : ∀ W : World, (Instr.index 9 (.string (bs l)) (.int .i64 (i : Int))).run Tryz.prog W = .ok (.int .u8 9) W := hidx
          clear hidx hsub
          have HE : Hid (escL 9 = [92, 116]) := Lib.hid (by decide)
          have ha : ∀ W, (Op.stringOp .add (bs acc) ⟨#[92, 116]⟩).run Tryz.prog W = .ok (.string (bs (acc ++ [92, 116]))) W := fun W => HAD.out acc [92, 116] (by first | omega | (simp only [List.length_append, List.length_cons, List.length_nil]; omega)) (by decide) W
          go_wp2
          go_round
          case rel => exact FIN.out _ _ _ HE.out HBL.out rfl
          case measure => simpa [intOf] using HM.out
        · obtain rfl : y = 10 := UInt8.toNat_inj.1 hk
          clear hk
          have hi2 : ∀ W : World, (Instr.index 9 (.string (bs l)) (.int .i64 (i : Int))).run Tryz.prog W = .ok (.int .u8 10) W := hidx
          clear hidx hsub
          have HE : Hid (escL 10 = [92, 110]) := Lib.hid (by decide)
          have ha : ∀ W, (Op.stringOp .add (bs acc) ⟨#[92, 110]⟩).run Tryz.prog W = .ok (.string (bs (acc ++ [92, 110]))) W := fun W => HAD.out acc [92, 110] (by first | omega | (simp only [List.length_append, List.length_cons, List.length_nil]; omega)) (by decide) W
          go_wp2
          go_round
          case rel => exact FIN.out _ _ _ HE.out HBL.out rfl
          case measure => simpa [intOf] using HM.out
        · obtain rfl : y = 11 := UInt8.toNat_inj.1 hk
          clear hk
          have hi2 : ∀ W : World, (Instr.index 9 (.string (bs l)) (.int .i64 (i : Int))).run Tryz.prog W = .ok (.int .u8 11) W := hidx
          clear hidx hsub
          have HE : Hid (escL 11 = [92, 117, 48, 48] ++ [48] ++ [98]) := Lib.hid (by decide)
          have ha : ∀ W, (Op.stringOp .add (bs acc) ⟨#[92, 117, 48, 48]⟩).run Tryz.prog W = .ok (.string (bs (acc ++ [92, 117, 48, 48]))) W := fun W => HAD.out acc [92, 117, 48, 48] (by first | omega | (simp only [List.length_append, List.length_cons, List.length_nil]; omega)) (by decide) W
          have hb : ∀ W, (Op.stringOp .add (bs (acc ++ [92, 117, 48, 48])) ⟨#[48]⟩).run Tryz.prog W = .ok (.string (bs ((acc ++ [92, 117, 48, 48]) ++ [48]))) W := fun W => HAD.out (acc ++ [92, 117, 48, 48]) [48] (by first | omega | (simp only [List.length_append, List.length_cons, List.length_nil]; omega)) (by decide) W
          have hc : ∀ W, (Op.stringOp .add (bs (acc ++ [92, 117, 48, 48, 48])) ⟨#[98]⟩).run Tryz.prog W = .ok (.string (bs ((acc ++ [92, 117, 48, 48, 48]) ++ [98]))) W := fun W => HAD.out (acc ++ [92, 117, 48, 48, 48]) [98] (by first | omega | (simp only [List.length_append, List.length_cons, List.length_nil]; omega)) (by decide) W
          have hx : ∀ W, (Instr.slice 9 (.string ⟨#[48, 49, 50, 51, 52, 53, 54, 55, 56, 57, 97, 98, 99, 100, 101, 102]⟩) (some (.int .u8 11)) (some (.int .u8 (IntKind.u8.wrap 12))) none).run Tryz.prog W = .ok (.string ⟨#[98]⟩) W := fun W => run_sub_u8 W 9 Tryz.underlying9 [48, 49, 50, 51, 52, 53, 54, 55, 56, 57, 97, 98, 99, 100, 101, 102] 11 12 (by decide) (by decide)
          go_wp2
          go_quiet (fail)
          go_wp2
          go_round
          case rel => exact FIN.out _ _ _ HE.out (below_drewN HBL.out _) (by first | rfl | simp)
          case measure => simpa [intOf] using HM.out
        · obtain rfl : y = 12 := UInt8.toNat_inj.1 hk
          clear hk
          have hi2 : ∀ W : World, (Instr.index 9 (.string (bs l)) (.int .i64 (i : Int))).run Tryz.prog W = .ok (.int .u8 12) W := hidx
          clear hidx hsub
          have HE : Hid (escL 12 = [92, 102]) := Lib.hid (by decide)
          have ha : ∀ W, (Op.stringOp .add (bs acc) ⟨#[92, 102]⟩).run Tryz.prog W = .ok (.string (bs (acc ++ [92, 102]))) W := fun W => HAD.out acc [92, 102] (by first | omega | (simp only [List.length_append, List.length_cons, List.length_nil]; omega)) (by decide) W
          go_wp2
          go_round
          case rel => exact FIN.out _ _ _ HE.out HBL.out rfl
          case measure => simpa [intOf] using HM.out
        · obtain rfl : y = 13 := UInt8.toNat_inj.1 hk
          clear hk
          have hi2 : ∀ W : World, (Instr.index 9 (.string (bs l)) (.int .i64 (i : Int))).run Tryz.prog W = .ok (.int .u8 13) W := hidx
          clear hidx hsub
          have HE : Hid (escL 13 = [92, 114]) := Lib.hid (by decide)
          have ha : ∀ W, (Op.stringOp .add (bs acc) ⟨#[92, 114]⟩).run Tryz.prog W = .ok (.string (bs (acc ++ [92, 114]))) W := fun W => HAD.out acc [92, 114] (by first | omega | (simp only [List.length_append, List.length_cons, List.length_nil]; omega)) (by decide) W
          go_wp2
          go_round
          case rel => exact FIN.out _ _ _ HE.out HBL.out rfl
          case measure => simpa [intOf] using HM.out
        · obtain rfl : y = 14 := UInt8.toNat_inj.1 hk
          clear hk
          have hi2 : ∀ W : World, (Instr.index 9 (.string (bs l)) (.int .i64 (i : Int))).run Tryz.prog W = .ok (.int .u8 14) W := hidx
          clear hidx hsub
          have HE : Hid (escL 14 = [92, 117, 48, 48] ++ [48] ++ [101]) := Lib.hid (by decide)
          have ha : ∀ W, (Op.stringOp .add (bs acc) ⟨#[92, 117, 48, 48]⟩).run Tryz.prog W = .ok (.string (bs (acc ++ [92, 117, 48, 48]))) W := fun W => HAD.out acc [92, 117, 48, 48] (by first | omega | (simp only [List.length_append, List.length_cons, List.length_nil]; omega)) (by decide) W
          have hb : ∀ W, (Op.stringOp .add (bs (acc ++ [92, 117, 48, 48])) ⟨#[48]⟩).run Tryz.prog W = .ok (.string (bs ((acc ++ [92, 117, 48, 48]) ++ [48]))) W := fun W => HAD.out (acc ++ [92, 117, 48, 48]) [48] (by first | omega | (simp only [List.length_append, List.length_cons, List.length_nil]; omega)) (by decide) W
          have hc : ∀ W, (Op.stringOp .add (bs (acc ++ [92, 117, 48, 48, 48])) ⟨#[101]⟩).run Tryz.prog W = .ok (.string (bs ((acc ++ [92, 117, 48, 48, 48]) ++ [101]))) W := fun W => HAD.out (acc ++ [92, 117, 48, 48, 48]) [101] (by first | omega | (simp only [List.length_append, List.length_cons, List.length_nil]; omega)) (by decide) W
          have hx : ∀ W, (Instr.slice 9 (.string ⟨#[48, 49, 50, 51, 52, 53, 54, 55, 56, 57, 97, 98, 99, 100, 101, 102]⟩) (some (.int .u8 14)) (some (.int .u8 (IntKind.u8.wrap 15))) none).run Tryz.prog W = .ok (.string ⟨#[101]⟩) W := fun W => run_sub_u8 W 9 Tryz.underlying9 [48, 49, 50, 51, 52, 53, 54, 55, 56, 57, 97, 98, 99, 100, 101, 102] 14 15 (by decide) (by decide)
          go_wp2
          go_quiet (fail)
          go_wp2
          go_round
          case rel => exact FIN.out _ _ _ HE.out (below_drewN HBL.out _) (by first | rfl | simp)
          case measure => simpa [intOf] using HM.out
        · obtain rfl : y = 15 := UInt8.toNat_inj.1 hk
          clear hk
          have hi2 : ∀ W : World, (Instr.index 9 (.string (bs l)) (.int .i64 (i : Int))).run Tryz.prog W = .ok (.int .u8 15) W := hidx
          clear hidx hsub
          have HE : Hid (escL 15 = [92, 117, 48, 48] ++ [48] ++ [102]) := Lib.hid (by decide)
          have ha : ∀ W, (Op.stringOp .add (bs acc) ⟨#[92, 117, 48, 48]⟩).run Tryz.prog W = .ok (.string (bs (acc ++ [92, 117, 48, 48]))) W := fun W => HAD.out acc [92, 117, 48, 48] (by first | omega | (simp only [List.length_append, List.length_cons, List.length_nil]; omega)) (by decide) W
          have hb : ∀ W, (Op.stringOp .add (bs (acc ++ [92, 117, 48, 48])) ⟨#[48]⟩).run Tryz.prog W = .ok (.string (bs ((acc ++ [92, 117, 48, 48]) ++ [48]))) W := fun W => HAD.out (acc ++ [92, 117, 48, 48]) [48] (by first | omega | (simp only [List.length_append, List.length_cons, List.length_nil]; omega)) (by decide) W
          have hc : ∀ W, (Op.stringOp .add (bs (acc ++ [92, 117, 48, 48, 48])) ⟨#[102]⟩).run Tryz.prog W = .ok (.string (bs ((acc ++ [92, 117, 48, 48, 48]) ++ [102]))) W := fun W => HAD.out (acc ++ [92, 117, 48, 48, 48]) [102] (by first | omega | (simp only [List.length_append, List.length_cons, List.length_nil]; omega)) (by decide) W
          have hx : ∀ W, (Instr.slice 9 (.string ⟨#[48, 49, 50, 51, 52, 53, 54, 55, 56, 57, 97, 98, 99, 100, 101, 102]⟩) (some (.int .u8 15)) (some (.int .u8 (IntKind.u8.wrap 16))) none).run Tryz.prog W = .ok (.string ⟨#[102]⟩) W := fun W => run_sub_u8 W 9 Tryz.underlying9 [48, 49, 50, 51, 52, 53, 54, 55, 56, 57, 97, 98, 99, 100, 101, 102] 15 16 (by decide) (by decide)
          go_wp2
          go_quiet (fail)
          go_wp2
          go_round
          case rel => exact FIN.out _ _ _ HE.out (below_drewN HBL.out _) (by first | rfl | simp)
          case measure => simpa [intOf] using HM.out
        · obtain rfl : y = 16 := UInt8.toNat_inj.1 hk
          clear hk
          have hi2 : ∀ W : World, (Instr.index 9 (.string (bs l)) (.int .i64 (i : Int))).run Tryz.prog W = .ok (.int .u8 16) W := hidx
          clear hidx hsub
          have HE : Hid (escL 16 = [92, 117, 48, 48] ++ [49] ++ [48]) := Lib.hid (by decide)
          have ha : ∀ W, (Op.stringOp .add (bs acc) ⟨#[92, 117, 48, 48]⟩).run Tryz.prog W = .ok (.string (bs (acc ++ [92, 117, 48, 48]))) W := fun W => HAD.out acc [92, 117, 48, 48] (by first | omega | (simp only [List.length_append, List.length_cons, List.length_nil]; omega)) (by decide) W
          have hb : ∀ W, (Op.stringOp .add (bs (acc ++ [92, 117, 48, 48])) ⟨#[49]⟩).run Tryz.prog W = .ok (.string (bs ((acc ++ [92, 117, 48, 48]) ++ [49]))) W := fun W => HAD.out (acc ++ [92, 117, 48, 48]) [49] (by first | omega | (simp only [List.length_append, List.length_cons, List.length_nil]; omega)) (by decide) W
          have hc : ∀ W, (Op.stringOp .add (bs (acc ++ [92, 117, 48, 48, 49])) ⟨#[48]⟩).run Tryz.prog W = .ok (.string (bs ((acc ++ [92, 117, 48, 48, 49]) ++ [48]))) W := fun W => HAD.out (acc ++ [92, 117, 48, 48, 49]) [48] (by first | omega | (simp only [List.length_append, List.length_cons, List.length_nil]; omega)) (by decide) W
          have hx : ∀ W, (Instr.slice 9 (.string ⟨#[48, 49, 50, 51, 52, 53, 54, 55, 56, 57, 97, 98, 99, 100, 101, 102]⟩) (some (.int .u8 0)) (some (.int .u8 (IntKind.u8.wrap 1))) none).run Tryz.prog W = .ok (.string ⟨#[48]⟩) W := fun W => run_sub_u8 W 9 Tryz.underlying9 [48, 49, 50, 51, 52, 53, 54, 55, 56, 57, 97, 98, 99, 100, 101, 102] 0 1 (by decide) (by decide)
          go_wp2
          go_quiet (fail)
          go_wp2
          go_round
          case rel => exact FIN.out _ _ _ HE.out (below_drewN HBL.out _) (by first | rfl | simp)
          case measure => simpa [intOf] using HM.out
        · obtain rfl : y = 17 := UInt8.toNat_inj.1 hk
          clear hk
          have hi2 : ∀ W : World, (Instr.index 9 (.string (bs l)) (.int .i64 (i : Int))).run Tryz.prog W = .ok (.int .u8 17) W := hidx
          clear hidx hsub
          have HE : Hid (escL 17 = [92, 117, 48, 48] ++ [49] ++ [49]) := Lib.hid (by decide)
          have ha : ∀ W, (Op.stringOp .add (bs acc) ⟨#[92, 117, 48, 48]⟩).run Tryz.prog W = .ok (.string (bs (acc ++ [92, 117, 48, 48]))) W := fun W => HAD.out acc [92, 117, 48, 48] (by first | omega | (simp only [List.length_append, List.length_cons, List.length_nil]; omega)) (by decide) W
          have hb : ∀ W, (Op.stringOp .add (bs (acc ++ [92, 117, 48, 48])) ⟨#[49]⟩).run Tryz.prog W = .ok (.string (bs ((acc ++ [92, 117, 48, 48]) ++ [49]))) W := fun W => HAD.out (acc ++ [92, 117, 48, 48]) [49] (by first | omega | (simp only [List.length_append, List.length_cons, List.length_nil]; omega)) (by decide) W
          have hc : ∀ W, (Op.stringOp .add (bs (acc ++ [92, 117, 48, 48, 49])) ⟨#[49]⟩).run Tryz.prog W = .ok (.string (bs ((acc ++ [92, 117, 48, 48, 49]) ++ [49]))) W := fun W => HAD.out (acc ++ [92, 117, 48, 48, 49]) [49] (by first | omega | (simp only [List.length_append, List.length_cons, List.length_nil]; omega)) (by decide) W
          have hx : ∀ W, (Instr.slice 9 (.string ⟨#[48, 49, 50, 51, 52, 53, 54, 55, 56, 57, 97, 98, 99, 100, 101, 102]⟩) (some (.int .u8 1)) (some (.int .u8 (IntKind.u8.wrap 2))) none).run Tryz.prog W = .ok (.string ⟨#[49]⟩) W := fun W => run_sub_u8 W 9 Tryz.underlying9 [48, 49, 50, 51, 52, 53, 54, 55, 56, 57, 97, 98, 99, 100, 101, 102] 1 2 (by decide) (by decide)
          go_wp2
          go_quiet (fail)
          go_wp2
          go_round
          case rel => exact FIN.out _ _ _ HE.out (below_drewN HBL.out _) (by first | rfl | simp)
          case measure => simpa [intOf] using HM.out
        · obtain rfl : y = 18 := UInt8.toNat_inj.1 hk
          clear hk
          have hi2 : ∀ W : World, (Instr.index 9 (.string (bs l)) (.int .i64 (i : Int))).run Tryz.prog W = .ok (.int .u8 18) W := hidx
          clear hidx hsub
          have HE : Hid (escL 18 = [92, 117, 48, 48] ++ [49] ++ [50]) := Lib.hid (by decide)
          have ha : ∀ W, (Op.stringOp .add (bs acc) ⟨#[92, 117, 48, 48]⟩).run Tryz.prog W = .ok (.string (bs (acc ++ [92, 117, 48, 48]))) W := fun W => HAD.out acc [92, 117, 48, 48] (by first | omega | (simp only [List.length_append, List.length_cons, List.length_nil]; omega)) (by decide) W
          have hb : ∀ W, (Op.stringOp .add (bs (acc ++ [92, 117, 48, 48])) ⟨#[49]⟩).run Tryz.prog W = .ok (.string (bs ((acc ++ [92, 117, 48, 48]) ++ [49]))) W := fun W => HAD.out (acc ++ [92, 117, 48, 48]) [49] (by first | omega | (simp only [List.length_append, List.length_cons, List.length_nil]; omega)) (by decide) W
          have hc : ∀ W, (Op.stringOp .add (bs (acc ++ [92, 117, 48, 48, 49])) ⟨#[50]⟩).run Tryz.prog W = .ok (.string (bs ((acc ++ [92, 117, 48, 48, 49]) ++ [50]))) W := fun W => HAD.out (acc ++ [92, 117, 48, 48, 49]) [50] (by first | omega | (simp only [List.length_append, List.length_cons, List.length_nil]; omega)) (by decide) W
          have hx : ∀ W, (Instr.slice 9 (.string ⟨#[48, 49, 50, 51, 52, 53, 54, 55, 56, 57, 97, 98, 99, 100, 101, 102]⟩) (some (.int .u8 2)) (some (.int .u8 (IntKind.u8.wrap 3))) none).run Tryz.prog W = .ok (.string ⟨#[50]⟩) W := fun W => run_sub_u8 W 9 Tryz.underlying9 [48, 49, 50, 51, 52, 53, 54, 55, 56, 57, 97, 98, 99, 100, 101, 102] 2 3 (by decide) (by decide)
          go_wp2
          go_quiet (fail)
          go_wp2
          go_round
          case rel => exact FIN.out _ _ _ HE.out (below_drewN HBL.out _) (by first | rfl | simp)
          case measure => simpa [intOf] using HM.out
        · obtain rfl : y = 19 := UInt8.toNat_inj.1 hk
          clear hk
          have hi2 : ∀ W : World, (Instr.index 9 (.string (bs l)) (.int .i64 (i : Int))).run Tryz.prog W = .ok (.int .u8 19) W := hidx
          clear hidx hsub
          have HE : Hid (escL 19 = [92, 117, 48, 48] ++ [49] ++ [51]) := Lib.hid (by decide)
          have ha : ∀ W, (Op.stringOp .add (bs acc) ⟨#[92, 117, 48, 48]⟩).run Tryz.prog W = .ok (.string (bs (acc ++ [92, 117, 48, 48]))) W := fun W => HAD.out acc [92, 117, 48, 48] (by first | omega | (simp only [List.length_append, List.length_cons, List.length_nil]; omega)) (by decide) W
          have hb : ∀ W, (Op.stringOp .add (bs (acc ++ [92, 117, 48, 48])) ⟨#[49]⟩).run Tryz.prog W = .ok (.string (bs ((acc ++ [92, 117, 48, 48]) ++ [49]))) W := fun W => HAD.out (acc ++ [92, 117, 48, 48]) [49] (by first | omega | (simp only [List.length_append, List.length_cons, List.length_nil]; omega)) (by decide) W
          have hc : ∀ W, (Op.stringOp .add (bs (acc ++ [92, 117, 48, 48, 49])) ⟨#[51]⟩).run Tryz.prog W = .ok (.string (bs ((acc ++ [92, 117, 48, 48, 49]) ++ [51]))) W := fun W => HAD.out (acc ++ [92, 117, 48, 48, 49]) [51] (by first | omega | (simp only [List.length_append, List.length_cons, List.length_nil]; omega)) (by decide) W
          have hx : ∀ W, (Instr.slice 9 (.string ⟨#[48, 49, 50, 51, 52, 53, 54, 55, 56, 57, 97, 98, 99, 100, 101, 102]⟩) (some (.int .u8 3)) (some (.int .u8 (IntKind.u8.wrap 4))) none).run Tryz.prog W = .ok (.string ⟨#[51]⟩) W := fun W => run_sub_u8 W 9 Tryz.underlying9 [48, 49, 50, 51, 52, 53, 54, 55, 56, 57, 97, 98, 99, 100, 101, 102] 3 4 (by decide) (by decide)
          go_wp2
          go_quiet (fail)
          go_wp2
          go_round
          case rel => exact FIN.out _ _ _ HE.out (below_drewN HBL.out _) (by first | rfl | simp)
          case measure => simpa [intOf] using HM.out
        · obtain rfl : y = 20 := UInt8.toNat_inj.1 hk
          clear hk
          have hi2 : ∀ W : World, (Instr.index 9 (.string (bs l)) (.int .i64 (i : Int))).run Tryz.prog W = .ok (.int .u8 20) W := hidx
          clear hidx hsub
          have HE : Hid (escL 20 = [92, 117, 48, 48] ++ [49] ++ [52]) := Lib.hid (by decide)
          have ha : ∀ W, (Op.stringOp .add (bs acc) ⟨#[92, 117, 48, 48]⟩).run Tryz.prog W = .ok (.string (bs (acc ++ [92, 117, 48, 48]))) W := fun W => HAD.out acc [92, 117, 48, 48] (by first | omega | (simp only [List.length_append, List.length_cons, List.length_nil]; omega)) (by decide) W
          have hb : ∀ W, (Op.stringOp .add (bs (acc ++ [92, 117, 48, 48])) ⟨#[49]⟩).run Tryz.prog W = .ok (.string (bs ((acc ++ [92, 117, 48, 48]) ++ [49]))) W := fun W => HAD.out (acc ++ [92, 117, 48, 48]) [49] (by first | omega | (simp only [List.length_append, List.length_cons, List.length_nil]; omega)) (by decide) W
          have hc : ∀ W, (Op.stringOp .add (bs (acc ++ [92, 117, 48, 48, 49])) ⟨#[52]⟩).run Tryz.prog W = .ok (.string (bs ((acc ++ [92, 117, 48, 48, 49]) ++ [52]))) W := fun W => HAD.out (acc ++ [92, 117, 48, 48, 49]) [52] (by first | omega | (simp only [List.length_append, List.length_cons, List.length_nil]; omega)) (by decide) W
          have hx : ∀ W, (Instr.slice 9 (.string ⟨#[48, 49, 50, 51, 52, 53, 54, 55, 56, 57, 97, 98, 99, 100, 101, 102]⟩) (some (.int .u8 4)) (some (.int .u8 (IntKind.u8.wrap 5))) none).run Tryz.prog W = .ok (.string ⟨#[52]⟩) W := fun W => run_sub_u8 W 9 Tryz.underlying9 [48, 49, 50, 51, 52, 53, 54, 55, 56, 57, 97, 98, 99, 100, 101, 102] 4 5 (by decide) (by decide)
          go_wp2
          go_quiet (fail)
          go_wp2
          go_round
          case rel => exact FIN.out _ _ _ HE.out (below_drewN HBL.out _) (by first | rfl | simp)
          case measure => simpa [intOf] using HM.out
        · obtain rfl : y = 21 := UInt8.toNat_inj.1 hk
          clear hk
          have hi2 : ∀ W : World, (Instr.index 9 (.string (bs l)) (.int .i64 (i : Int))).run Tryz.prog W = .ok (.int .u8 21) W := hidx
          clear hidx hsub
          have HE : Hid (escL 21 = [92, 117, 48, 48] ++ [49] ++ [53]) := Lib.hid (by decide)
          have ha : ∀ W, (Op.stringOp .add (bs acc) ⟨#[92, 117, 48, 48]⟩).run Tryz.prog W = .ok (.string (bs (acc ++ [92, 117, 48, 48]))) W := fun W => HAD.out acc [92, 117, 48, 48] (by first | omega | (simp only [List.length_append, List.length_cons, List.length_nil]; omega)) (by decide) W
          have hb : ∀ W, (Op.stringOp .add (bs (acc ++ [92, 117, 48, 48])) ⟨#[49]⟩).run Tryz.prog W = .ok (.string (bs ((acc ++ [92, 117, 48, 48]) ++ [49]))) W := fun W => HAD.out (acc ++ [92, 117, 48, 48]) [49] (by first | omega | (simp only [List.length_append, List.length_cons, List.length_nil]; omega)) (by decide) W
          have hc : ∀ W, (Op.stringOp .add (bs (acc ++ [92, 117, 48, 48, 49])) ⟨#[53]⟩).run Tryz.prog W = .ok (.string (bs ((acc ++ [92, 117, 48, 48, 49]) ++ [53]))) W := fun W => HAD.out (acc ++ [92, 117, 48, 48, 49]) [53] (by first | omega | (simp only [List.length_append, List.length_cons, List.length_nil]; omega)) (by decide) W
          have hx : ∀ W, (Instr.slice 9 (.string ⟨#[48, 49, 50, 51, 52, 53, 54, 55, 56, 57, 97, 98, 99, 100, 101, 102]⟩) (some (.int .u8 5)) (some (.int .u8 (IntKind.u8.wrap 6))) none).run Tryz.prog W = .ok (.string ⟨#[53]⟩) W := fun W => run_sub_u8 W 9 Tryz.underlying9 [48, 49, 50, 51, 52, 53, 54, 55, 56, 57, 97, 98, 99, 100, 101, 102] 5 6 (by decide) (by decide)
          go_wp2
          go_quiet (fail)
          go_wp2
          go_round
          case rel => exact FIN.out _ _ _ HE.out (below_drewN HBL.out _) (by first | rfl | simp)
          case measure => simpa [intOf] using HM.out
        · obtain rfl : y = 22 := UInt8.toNat_inj.1 hk
          clear hk
          have hi2 : ∀ W : World, (Instr.index 9 (.string (bs l)) (.int .i64 (i : Int))).run Tryz.prog W = .ok (.int .u8 22) W := hidx
          clear hidx hsub
          have HE : Hid (escL 22 = [92, 117, 48, 48] ++ [49] ++ [54]) := Lib.hid (by decide)
          have ha : ∀ W, (Op.stringOp .add (bs acc) ⟨#[92, 117, 48, 48]⟩).run Tryz.prog W = .ok (.string (bs (acc ++ [92, 117, 48, 48]))) W := fun W => HAD.out acc [92, 117, 48, 48] (by first | omega | (simp only [List.length_append, List.length_cons, List.length_nil]; omega)) (by decide) W
          have hb : ∀ W, (Op.stringOp .add (bs (acc ++ [92, 117, 48, 48])) ⟨#[49]⟩).run Tryz.prog W = .ok (.string (bs ((acc ++ [92, 117, 48, 48]) ++ [49]))) W := fun W => HAD.out (acc ++ [92, 117, 48, 48]) [49] (by first | omega | (simp only [List.length_append, List.length_cons, List.length_nil]; omega)) (by decide) W
          have hc : ∀ W, (Op.stringOp .add (bs (acc ++ [92, 117, 48, 48, 49])) ⟨#[54]⟩).run Tryz.prog W = .ok (.string (bs ((acc ++ [92, 117, 48, 48, 49]) ++ [54]))) W := fun W => HAD.out (acc ++ [92, 117, 48, 48, 49]) [54] (by first | omega | (simp only [List.length_append, List.length_cons, List.length_nil]; omega)) (by decide) W
          have hx : ∀ W, (Instr.slice 9 (.string ⟨#[48, 49, 50, 51, 52, 53, 54, 55, 56, 57, 97, 98, 99, 100, 101, 102]⟩) (some (.int .u8 6)) (some (.int .u8 (IntKind.u8.wrap 7))) none).run Tryz.prog W = .ok (.string ⟨#[54]⟩) W := fun W => run_sub_u8 W 9 Tryz.underlying9 [48, 49, 50, 51, 52, 53, 54, 55, 56, 57, 97, 98, 99, 100, 101, 102] 6 7 (by decide) (by decide)
          go_wp2
          go_quiet (fail)
          go_wp2
          go_round
          case rel => exact FIN.out _ _ _ HE.out (below_drewN HBL.out _) (by first | rfl | simp)
          case measure => simpa [intOf] using HM.out
        · obtain rfl : y = 23 := UInt8.toNat_inj.1 hk
          clear hk
          have hi2 : ∀ W : World, (Instr.index 9 (.string (bs l)) (.int .i64 (i : Int))).run Tryz.prog W = .ok (.int .u8 23) W := hidx
          clear hidx hsub
          have HE : Hid (escL 23 = [92, 117, 48, 48] ++ [49] ++ [55]) := Lib.hid (by decide)
          have ha : ∀ W, (Op.stringOp .add (bs acc) ⟨#[92, 117, 48, 48]⟩).run Tryz.prog W = .ok (.string (bs (acc ++ [92, 117, 48, 48]))) W := fun W => HAD.out acc [92, 117, 48, 48] (by first | omega | (simp only [List.length_append, List.length_cons, List.length_nil]; omega)) (by decide) W
          have hb : ∀ W, (Op.stringOp .add (bs (acc ++ [92, 117, 48, 48])) ⟨#[49]⟩).run Tryz.prog W = .ok (.string (bs ((acc ++ [92, 117, 48, 48]) ++ [49]))) W := fun W => HAD.out (acc ++ [92, 117, 48, 48]) [49] (by first | omega | (simp only [List.length_append, List.length_cons, List.length_nil]; omega)) (by decide) W
          have hc : ∀ W, (Op.stringOp .add (bs (acc ++ [92, 117, 48, 48, 49])) ⟨#[55]⟩).run Tryz.prog W = .ok (.string (bs ((acc ++ [92, 117, 48, 48, 49]) ++ [55]))) W := fun W => HAD.out (acc ++ [92, 117, 48, 48, 49]) [55] (by first | omega | (simp only [List.length_append, List.length_cons, List.length_nil]; omega)) (by decide) W
          have hx : ∀ W, (Instr.slice 9 (.string ⟨#[48, 49, 50, 51, 52, 53, 54, 55, 56, 57, 97, 98, 99, 100, 101, 102]⟩) (some (.int .u8 7)) (some (.int .u8 (IntKind.u8.wrap 8))) none).run Tryz.prog W = .ok (.string ⟨#[55]⟩) W := fun W => run_sub_u8 W 9 Tryz.underlying9 [48, 49, 50, 51, 52, 53, 54, 55, 56, 57, 97, 98, 99, 100, 101, 102] 7 8 (by decide) (by decide)
          go_wp2
          go_quiet (fail)
          go_wp2
          go_round
          case rel => exact FIN.out _ _ _ HE.out (below_drewN HBL.out _) (by first | rfl | simp)
          case measure => simpa [intOf] using HM.out
        · obtain rfl : y = 24 := UInt8.toNat_inj.1 hk
          clear hk
          have hi2 : ∀ W : World, (Instr.index 9 (.string (bs l)) (.int .i64 (i : Int))).run Tryz.prog W = .ok (.int .u8 24) W := hidx
          clear hidx hsub
          have HE : Hid (escL 24 = [92, 117, 48, 48] ++ [49] ++ [56]) := Lib.hid (by decide)
          have ha : ∀ W, (Op.stringOp .add (bs acc) ⟨#[92, 117, 48, 48]⟩).run Tryz.prog W = .ok (.string (bs (acc ++ [92, 117, 48, 48]))) W := fun W => HAD.out acc [92, 117, 48, 48] (by first | omega | (simp only [List.length_append, List.length_cons, List.length_nil]; omega)) (by decide) W
          have hb : ∀ W, (Op.stringOp .add (bs (acc ++ [92, 117, 48, 48])) ⟨#[49]⟩).run Tryz.prog W = .ok (.string (bs ((acc ++ [92, 117, 48, 48]) ++ [49]))) W := fun W => HAD.out (acc ++ [92, 117, 48, 48]) [49] (by first | omega | (simp only [List.length_append, List.length_cons, List.length_nil]; omega)) (by decide) W
          have hc : ∀ W, (Op.stringOp .add (bs (acc ++ [92, 117, 48, 48, 49])) ⟨#[56]⟩).run Tryz.prog W = .ok (.string (bs ((acc ++ [92, 117, 48, 48, 49]) ++ [56]))) W := fun W => HAD.out (acc ++ [92, 117, 48, 48, 49]) [56] (by first | omega | (simp only [List.length_append, List.length_cons, List.length_nil]; omega)) (by decide) W
          have hx : ∀ W, (Instr.slice 9 (.string ⟨#[48, 49, 50, 51, 52, 53, 54, 55, 56, 57, 97, 98, 99, 100, 101, 102]⟩) (some (.int .u8 8)) (some (.int .u8 (IntKind.u8.wrap 9))) none).run Tryz.prog W = .ok (.string ⟨#[56]⟩) W := fun W => run_sub_u8 W 9 Tryz.underlying9 [48, 49, 50, 51, 52, 53, 54, 55, 56, 57, 97, 98, 99, 100, 101, 102] 8 9 (by decide) (by decide)
          go_wp2
          go_quiet (fail)
          go_wp2
          go_round
          case rel => exact FIN.out _ _ _ HE.out (below_drewN HBL.out _) (by first | rfl | simp)
          case measure => simpa [intOf] using HM.out
        · obtain rfl : y = 25 := UInt8.toNat_inj.1 hk
          clear hk
          have hi2 : ∀ W : World, (Instr.index 9 (.string (bs l)) (.int .i64 (i : Int))).run Tryz.prog W = .ok (.int .u8 25) W := hidx
          clear hidx hsub
          have HE : Hid (escL 25 = [92, 117, 48, 48] ++ [49] ++ [57]) := Lib.hid (by decide)
          have ha : ∀ W, (Op.stringOp .add (bs acc) ⟨#[92, 117, 48, 48]⟩).run Tryz.prog W = .ok (.string (bs (acc ++ [92, 117, 48, 48]))) W := fun W => HAD.out acc [92, 117, 48, 48] (by first | omega | (simp only [List.length_append, List.length_cons, List.length_nil]; omega)) (by decide) W
          have hb : ∀ W, (Op.stringOp .add (bs (acc ++ [92, 117, 48, 48])) ⟨#[49]⟩).run Tryz.prog W = .ok (.string (bs ((acc ++ [92, 117, 48, 48]) ++ [49]))) W := fun W => HAD.out (acc ++ [92, 117, 48, 48]) [49] (by first | omega | (simp only [List.length_append, List.length_cons, List.length_nil]; omega)) (by decide) W
          have hc : ∀ W, (Op.stringOp .add (bs (acc ++ [92, 117, 48, 48, 49])) ⟨#[57]⟩).run Tryz.prog W = .ok (.string (bs ((acc ++ [92, 117, 48, 48, 49]) ++ [57]))) W := fun W => HAD.out (acc ++ [92, 117, 48, 48, 49]) [57] (by first | omega | (simp only [List.length_append, List.length_cons, List.length_nil]; omega)) (by decide) W
          have hx : ∀ W, (Instr.slice 9 (.string ⟨#[48, 49, 50, 51, 52, 53, 54, 55, 56, 57, 97, 98, 99, 100, 101, 102]⟩) (some (.int .u8 9)) (some (.int .u8 (IntKind.u8.wrap 10))) none).run Tryz.prog W = .ok (.string ⟨#[57]⟩) W := fun W => run_sub_u8 W 9 Tryz.underlying9 [48, 49, 50, 51, 52, 53, 54, 55, 56, 57, 97, 98, 99, 100, 101, 102] 9 10 (by decide) (by decide)
          go_wp2
          go_quiet (fail)
          go_wp2
          go_round
          case rel => exact FIN.out _ _ _ HE.out (below_drewN HBL.out _) (by first | rfl | simp)
          case measure => simpa [intOf] using HM.out
        · obtain rfl : y = 26 := UInt8.toNat_inj.1 hk
          clear hk
          have hi2 : ∀ W : World, (Instr.index 9 (.string (bs l)) (.int .i64 (i : Int))).run Tryz.prog W = .ok (.int .u8 26) W := hidx
          clear hidx hsub
          have HE : Hid (escL 26 = [92, 117, 48, 48] ++ [49] ++ [97]) := Lib.hid (by decide)
          have ha : ∀ W, (Op.stringOp .add (bs acc) ⟨#[92, 117, 48, 48]⟩).run Tryz.prog W = .ok (.string (bs (acc ++ [92, 117, 48, 48]))) W := fun W => HAD.out acc [92, 117, 48, 48] (by first | omega | (simp only [List.length_append, List.length_cons, List.length_nil]; omega)) (by decide) W
          have hb : ∀ W, (Op.stringOp .add (bs (acc ++ [92, 117, 48, 48])) ⟨#[49]⟩).run Tryz.prog W = .ok (.string (bs ((acc ++ [92, 117, 48, 48]) ++ [49]))) W := fun W => HAD.out (acc ++ [92, 117, 48, 48]) [49] (by first | omega | (simp only [List.length_append, List.length_cons, List.length_nil]; omega)) (by decide) W
          have hc : ∀ W, (Op.stringOp .add (bs (acc ++ [92, 117, 48, 48, 49])) ⟨#[97]⟩).run Tryz.prog W = .ok (.string (bs ((acc ++ [92, 117, 48, 48, 49]) ++ [97]))) W := fun W => HAD.out (acc ++ [92, 117, 48, 48, 49]) [97] (by first | omega | (simp only [List.length_append, List.length_cons, List.length_nil]; omega)) (by decide) W
          have hx : ∀ W, (Instr.slice 9 (.string ⟨#[48, 49, 50, 51, 52, 53, 54, 55, 56, 57, 97, 98, 99, 100, 101, 102]⟩) (some (.int .u8 10)) (some (.int .u8 (IntKind.u8.wrap 11))) none).run Tryz.prog W = .ok (.string ⟨#[97]⟩) W := fun W => run_sub_u8 W 9 Tryz.underlying9 [48, 49, 50, 51, 52, 53, 54, 55, 56, 57, 97, 98, 99, 100, 101, 102] 10 11 (by decide) (by decide)
          go_wp2
          go_quiet (fail)
          go_wp2
          go_round
          case rel => exact FIN.out _ _ _ HE.out (below_drewN HBL.out _) (by first | rfl | simp)
          case measure => simpa [intOf] using HM.out
        · obtain rfl : y = 27 := UInt8.toNat_inj.1 hk
          clear hk
          have hi2 : ∀ W : World, (Instr.index 9 (.string (bs l)) (.int .i64 (i : Int))).run Tryz.prog W = .ok (.int .u8 27) W := hidx
          clear hidx hsub
          have HE : Hid (escL 27 = [92, 117, 48, 48] ++ [49] ++ [98]) := Lib.hid (by decide)
          have ha : ∀ W, (Op.stringOp .add (bs acc) ⟨#[92, 117, 48, 48]⟩).run Tryz.prog W = .ok (.string (bs (acc ++ [92, 117, 48, 48]))) W := fun W => HAD.out acc [92, 117, 48, 48] (by first | omega | (simp only [List.length_append, List.length_cons, List.length_nil]; omega)) (by decide) W
          have hb : ∀ W, (Op.stringOp .add (bs (acc ++ [92, 117, 48, 48])) ⟨#[49]⟩).run Tryz.prog W = .ok (.string (bs ((acc ++ [92, 117, 48, 48]) ++ [49]))) W := fun W => HAD.out (acc ++ [92, 117, 48, 48]) [49] (by first | omega | (simp only [List.length_append, List.length_cons, List.length_nil]; omega)) (by decide) W
          have hc : ∀ W, (Op.stringOp .add (bs (acc ++ [92, 117, 48, 48, 49])) ⟨#[98]⟩).run Tryz.prog W = .ok (.string (bs ((acc ++ [92, 117, 48, 48, 49]) ++ [98]))) W := fun W => HAD.out (acc ++ [92, 117, 48, 48, 49]) [98] (by first | omega | (simp only [List.length_append, List.length_cons, List.length_nil]; omega)) (by decide) W
          have hx : ∀ W, (Instr.slice 9 (.string ⟨#[48, 49, 50, 51, 52, 53, 54, 55, 56, 57, 97, 98, 99, 100, 101, 102]⟩) (some (.int .u8 11)) (some (.int .u8 (IntKind.u8.wrap 12))) none).run Tryz.prog W = .ok (.string ⟨#[98]⟩) W := fun W => run_sub_u8 W 9 Tryz.underlying9 [48, 49, 50, 51, 52, 53, 54, 55, 56, 57, 97, 98, 99, 100, 101, 102] 11 12 (by decide) (by decide)
          go_wp2
          go_quiet (fail)
          go_wp2
          go_round
          case rel => exact FIN.out _ _ _ HE.out (below_drewN HBL.out _) (by first | rfl | simp)
          case measure => simpa [intOf] using HM.out
        · obtain rfl : y = 28 := UInt8.toNat_inj.1 hk
          clear hk
          have hi2 : ∀ W : World, (Instr.index 9 (.string (bs l)) (.int .i64 (i : Int))).run Tryz.prog W = .ok (.int .u8 28) W := hidx
          clear hidx hsub
          have HE : Hid (escL 28 = [92, 117, 48, 48] ++ [49] ++ [99]) := Lib.hid (by decide)
          have ha : ∀ W, (Op.stringOp .add (bs acc) ⟨#[92, 117, 48, 48]⟩).run Tryz.prog W = .ok (.string (bs (acc ++ [92, 117, 48, 48]))) W := fun W => HAD.out acc [92, 117, 48, 48] (by first | omega | (simp only [List.length_append, List.length_cons, List.length_nil]; omega)) (by decide) W
          have hb : ∀ W, (Op.stringOp .add (bs (acc ++ [92, 117, 48, 48])) ⟨#[49]⟩).run Tryz.prog W = .ok (.string (bs ((acc ++ [92, 117, 48, 48]) ++ [49]))) W := fun W => HAD.out (acc ++ [92, 117, 48, 48]) [49] (by first | omega | (simp only [List.length_append, List.length_cons, List.length_nil]; omega)) (by decide) W
          have hc : ∀ W, (Op.stringOp .add (bs (acc ++ [92, 117, 48, 48, 49])) ⟨#[99]⟩).run Tryz.prog W = .ok (.string (bs ((acc ++ [92, 117, 48, 48, 49]) ++ [99]))) W := fun W => HAD.out (acc ++ [92, 117, 48, 48, 49]) [99] (by first | omega | (simp only [List.length_append, List.length_cons, List.length_nil]; omega)) (by decide) W
          have hx : ∀ W, (Instr.slice 9 (.string ⟨#[48, 49, 50, 51, 52, 53, 54, 55, 56, 57, 97, 98, 99, 100, 101, 102]⟩) (some (.int .u8 12)) (some (.int .u8 (IntKind.u8.wrap 13))) none).run Tryz.prog W = .ok (.string ⟨#[99]⟩) W := fun W => run_sub_u8 W 9 Tryz.underlying9 [48, 49, 50, 51, 52, 53, 54, 55, 56, 57, 97, 98, 99, 100, 101, 102] 12 13 (by decide) (by decide)
          go_wp2
          go_quiet (fail)
          go_wp2
          go_round
          case rel => exact FIN.out _ _ _ HE.out (below_drewN HBL.out _) (by first | rfl | simp)
          case measure => simpa [intOf] using HM.out
        · obtain rfl : y = 29 := UInt8.toNat_inj.1 hk
          clear hk
          have hi2 : ∀ W : World, (Instr.index 9 (.string (bs l)) (.int .i64 (i : Int))).run Tryz.prog W = .ok (.int .u8 29) W := hidx
          clear hidx hsub
          have HE : Hid (escL 29 = [92, 117, 48, 48] ++ [49] ++ [100]) := Lib.hid (by decide)
          have ha : ∀ W, (Op.stringOp .add (bs acc) ⟨#[92, 117, 48, 48]⟩).run Tryz.prog W = .ok (.string (bs (acc ++ [92, 117, 48, 48]))) W := fun W => HAD.out acc [92, 117, 48, 48] (by first | omega | (simp only [List.length_append, List.length_cons, List.length_nil]; omega)) (by decide) W
          have hb : ∀ W, (Op.stringOp .add (bs (acc ++ [92, 117, 48, 48])) ⟨#[49]⟩).run Tryz.prog W = .ok (.string (bs ((acc ++ [92, 117, 48, 48]) ++ [49]))) W := fun W => HAD.out (acc ++ [92, 117, 48, 48]) [49] (by first | omega | (simp only [List.length_append, List.length_cons, List.length_nil]; omega)) (by decide) W
          have hc : ∀ W, (Op.stringOp .add (bs (acc ++ [92, 117, 48, 48, 49])) ⟨#[100]⟩).run Tryz.prog W = .ok (.string (bs ((acc ++ [92, 117, 48, 48, 49]) ++ [100]))) W := fun W => HAD.out (acc ++ [92, 117, 48, 48, 49]) [100] (by first | omega | (simp only [List.length_append, List.length_cons, List.length_nil]; omega)) (by decide) W
          have hx : ∀ W, (Instr.slice 9 (.string ⟨#[48, 49, 50, 51, 52, 53, 54, 55, 56, 57, 97, 98, 99, 100, 101, 102]⟩) (some (.int .u8 13)) (some (.int .u8 (IntKind.u8.wrap 14))) none).run Tryz.prog W = .ok (.string ⟨#[100]⟩) W := fun W => run_sub_u8 W 9 Tryz.underlying9 [48, 49, 50, 51, 52, 53, 54, 55, 56, 57, 97, 98, 99, 100, 101, 102] 13 14 (by decide) (by decide)
          go_wp2
          go_quiet (fail)
          go_wp2
          go_round
          case rel => exact FIN.out _ _ _ HE.out (below_drewN HBL.out _) (by first | rfl | simp)
          case measure => simpa [intOf] using HM.out
        · obtain rfl : y = 30 := UInt8.toNat_inj.1 hk
          clear hk
          have hi2 : ∀ W : World, (Instr.index 9 (.string (bs l)) (.int .i64 (i : Int))).run Tryz.prog W = .ok (.int .u8 30) W := hidx
          clear hidx hsub
          have HE : Hid (escL 30 = [92, 117, 48, 48] ++ [49] ++ [101]) := Lib.hid (by decide)
          have ha : ∀ W, (Op.stringOp .add (bs acc) ⟨#[92, 117, 48, 48]⟩).run Tryz.prog W = .ok (.string (bs (acc ++ [92, 117, 48, 48]))) W := fun W => HAD.out acc [92, 117, 48, 48] (by first | omega | (simp only [List.length_append, List.length_cons, List.length_nil]; omega)) (by decide) W
          have hb : ∀ W, (Op.stringOp .add (bs (acc ++ [92, 117, 48, 48])) ⟨#[49]⟩).run Tryz.prog W = .ok (.string (bs ((acc ++ [92, 117, 48, 48]) ++ [49]))) W := fun W => HAD.out (acc ++ [92, 117, 48, 48]) [49] (by first | omega | (simp only [List.length_append, List.length_cons, List.length_nil]; omega)) (by decide) W
          have hc : ∀ W, (Op.stringOp .add (bs (acc ++ [92, 117, 48, 48, 49])) ⟨#[101]⟩).run Tryz.prog W = .ok (.string (bs ((acc ++ [92, 117, 48, 48, 49]) ++ [101]))) W := fun W => HAD.out (acc ++ [92, 117, 48, 48, 49]) [101] (by first | omega | (simp only [List.length_append, List.length_cons, List.length_nil]; omega)) (by decide) W
          have hx : ∀ W, (Instr.slice 9 (.string ⟨#[48, 49, 50, 51, 52, 53, 54, 55, 56, 57, 97, 98, 99, 100, 101, 102]⟩) (some (.int .u8 14)) (some (.int .u8 (IntKind.u8.wrap 15))) none).run Tryz.prog W = .ok (.string ⟨#[101]⟩) W := fun W => run_sub_u8 W 9 Tryz.underlying9 [48, 49, 50, 51, 52, 53, 54, 55, 56, 57, 97, 98, 99, 100, 101, 102] 14 15 (by decide) (by decide)
          go_wp2
          go_quiet (fail)
          go_wp2
          go_round
          case rel => exact FIN.out _ _ _ HE.out (below_drewN HBL.out _) (by first | rfl | simp)
          case measure => simpa [intOf] using HM.out
        · obtain rfl : y = 31 := UInt8.toNat_inj.1 hk
          clear hk
          have hi2 : ∀ W : World, (Instr.index 9 (.string (bs l)) (.int .i64 (i : Int))).run Tryz.prog W = .ok (.int .u8 31) W := hidx
          clear hidx hsub
          have HE : Hid (escL 31 = [92, 117, 48, 48] ++ [49] ++ [102]) := Lib.hid (by decide)
          have ha : ∀ W, (Op.stringOp .add (bs acc) ⟨#[92, 117, 48, 48]⟩).run Tryz.prog W = .ok (.string (bs (acc ++ [92, 117, 48, 48]))) W := fun W => HAD.out acc [92, 117, 48, 48] (by first | omega | (simp only [List.length_append, List.length_cons, List.length_nil]; omega)) (by decide) W
          have hb : ∀ W, (Op.stringOp .add (bs (acc ++ [92, 117, 48, 48])) ⟨#[49]⟩).run Tryz.prog W = .ok (.string (bs ((acc ++ [92, 117, 48, 48]) ++ [49]))) W := fun W => HAD.out (acc ++ [92, 117, 48, 48]) [49] (by first | omega | (simp only [List.length_append, List.length_cons, List.length_nil]; omega)) (by decide) W
          have hc : ∀ W, (Op.stringOp .add (bs (acc ++ [92, 117, 48, 48, 49])) ⟨#[102]⟩).run Tryz.prog W = .ok (.string (bs ((acc ++ [92, 117, 48, 48, 49]) ++ [102]))) W := fun W => HAD.out (acc ++ [92, 117, 48, 48, 49]) [102] (by first | omega | (simp only [List.length_append, List.length_cons, List.length_nil]; omega)) (by decide) W
          have hx : ∀ W, (Instr.slice 9 (.string ⟨#[48, 49, 50, 51, 52, 53, 54, 55, 56, 57, 97, 98, 99, 100, 101, 102]⟩) (some (.int .u8 15)) (some (.int .u8 (IntKind.u8.wrap 16))) none).run Tryz.prog W = .ok (.string ⟨#[102]⟩) W := fun W => run_sub_u8 W 9 Tryz.underlying9 [48, 49, 50, 51, 52, 53, 54, 55, 56, 57, 97, 98, 99, 100, 101, 102] 15 16 (by decide) (by decide)
          go_wp2
          go_quiet (fail)
          go_wp2
          go_round
          case rel => exact FIN.out _ _ _ HE.out (below_drewN HBL.out _) (by first | rfl | simp)
          case measure => simpa [intOf] using HM.out
      · by_cases h34 : y = 34
        · subst h34
          have hi2 : ∀ W : World, (Instr.index 9 (.string (bs l)) (.int .i64 (i : Int))).run Tryz.prog W = .ok (.int .u8 34) W := hidx
          have HE : Hid (escL 34 = [92] ++ [34]) := Lib.hid (by decide)
          clear hidx
          have ha : ∀ W, (Op.stringOp .add (bs acc) ⟨#[92]⟩).run Tryz.prog W = .ok (.string (bs (acc ++ [92]))) W := fun W => HAD.out acc [92] (by first | omega | (simp only [List.length_append, List.length_cons, List.length_nil]; omega)) (by decide) W
          have hb : ∀ W, (Op.stringOp .add (bs (acc ++ [92])) (bs [34])).run Tryz.prog W = .ok (.string (bs (acc ++ [92] ++ [34]))) W := fun W => HAD.out (acc ++ [92]) [34] (by first | omega | (simp only [List.length_append, List.length_cons, List.length_nil]; omega)) (by decide) W
          go_wp2
          go_round
          case rel => exact FIN.out _ _ _ HE.out HBL.out (by first | rfl | simp)
          case measure => simpa [intOf] using HM.out
        · by_cases h92 : y = 92
          · subst h92
            have hi2 : ∀ W : World, (Instr.index 9 (.string (bs l)) (.int .i64 (i : Int))).run Tryz.prog W = .ok (.int .u8 92) W := hidx
            have HE : Hid (escL 92 = [92] ++ [92]) := Lib.hid (by decide)
            clear hidx
            have ha : ∀ W, (Op.stringOp .add (bs acc) ⟨#[92]⟩).run Tryz.prog W = .ok (.string (bs (acc ++ [92]))) W := fun W => HAD.out acc [92] (by first | omega | (simp only [List.length_append, List.length_cons, List.length_nil]; omega)) (by decide) W
            have hb : ∀ W, (Op.stringOp .add (bs (acc ++ [92])) (bs [92])).run Tryz.prog W = .ok (.string (bs (acc ++ [92] ++ [92]))) W := fun W => HAD.out (acc ++ [92]) [92] (by first | omega | (simp only [List.length_append, List.length_cons, List.length_nil]; omega)) (by decide) W
            go_wp2
            go_round
            case rel => exact FIN.out _ _ _ HE.out HBL.out (by first | rfl | simp)
            case measure => simpa [intOf] using HM.out
          · have HE : Hid (escL y = [y]) := Lib.hid (escL_plain ⟨h32, h34, h92⟩)
            have g34 : ¬ y.toNat = 34 := fun e => h34 (UInt8.toNat_inj.1 e)
            have g92 : ¬ y.toNat = 92 := fun e => h92 (UInt8.toNat_inj.1 e)
            have hb : ∀ W, (Op.stringOp .add (bs acc) (bs [y])).run Tryz.prog W = .ok (.string (bs (acc ++ [y]))) W := fun W => HAD.out acc [y] (by omega) (by simp) W
            have hy2 := y.toNat_lt
            clear h34 h92
            generalize y.toNat = c at *
            have z34 : ((c : Int) == 34) = false := by rw [beq_eq_false_iff_ne]; omega
            have z92 : ((c : Int) == 92) = false := by rw [beq_eq_false_iff_ne]; omega
            have z8 : ((c : Int) == 8) = false := by rw [beq_eq_false_iff_ne]; omega
            have z9 : ((c : Int) == 9) = false := by rw [beq_eq_false_iff_ne]; omega
            have z10 : ((c : Int) == 10) = false := by rw [beq_eq_false_iff_ne]; omega
            have z12 : ((c : Int) == 12) = false := by rw [beq_eq_false_iff_ne]; omega
            have z13 : ((c : Int) == 13) = false := by rw [beq_eq_false_iff_ne]; omega
            have z32 : ¬ (c : Int) < 32 := by omega
            clear hy2 g34 g92 h32
            go_wp2
            go_round
            case rel => exact FIN.out _ _ _ HE.out HBL.out rfl
            case measure => simpa [intOf] using HM.out
    · have e : i = l.length := by omega
      have HQ : Hid (acc ++ [34] = quoteL l) := Lib.hid (by rw [HACC.out, e, List.take_length]; rfl)
      have ha : ∀ W, (Op.stringOp .add (bs acc) ⟨#[34]⟩).run Tryz.prog W = .ok (.string (bs (acc ++ [34]))) W := fun W => HAD.out acc [34] (by first | omega | (simp only [List.length_append, List.length_cons, List.length_nil]; omega)) (by decide) W
      have hge : ¬ (i : Int) < (l.length : Int) := by omega
      clear e hacc
      go_wp2
      go_ret
      rw [HQ.out]
      exact ⟨rfl, HBL.out⟩
end Go.Proofs.YtjckojedafajeaaGreatDoor
/- Layer 8: pure: a text in quotes is UTF-8, and read as it was. -/
namespace Go.Proofs.YtjckojedafajeaaGreatDoor
open Go.RowKit
theorem decodeN_pre {n n' b0 b1 b2 b3 c1 c2 c3 x k : Nat} (h : Lib.decodeN n b0 b1 b2 b3 = (x, k)) (hx : ¬ (x = 65533 ∧ k = 1)) (hn : k ≤ n') (h1 : 1 < k → c1 = b1) (h2 : 2 < k → c2 = b2) (h3 : 3 < k → c3 = b3) : Lib.decodeN n' b0 c1 c2 c3 = (x, k) := by
  unfold Lib.decodeN at h
  split at h
  · rename_i g
    unfold Lib.decodeN
    rw [if_pos g]; exact h
  · rename_i g
    split at h
    · rename_i g2
      split at h
      · rename_i g3
        injection h with e1 e2
        subst e2
        obtain rfl := h1 (by omega)
        unfold Lib.decodeN
        rw [if_neg g, if_pos ⟨g2.1, by omega, g2.2.2⟩, if_pos g3, e1]
      · injection h with e1 e2; exact absurd ⟨e1.symm, e2.symm⟩ hx
    · rename_i g2
      split at h
      · rename_i g3
        split at h
        · rename_i g4
          injection h with e1 e2
          subst e2
          obtain rfl := h1 (by omega)
          obtain rfl := h2 (by omega)
          unfold Lib.decodeN
          rw [if_neg g, if_neg (fun q => by omega), if_pos ⟨g3.1, ⟨by omega, g3.2.1.2⟩, by omega, g3.2.2.2⟩, if_pos g4, e1]
        · injection h with e1 e2; exact absurd ⟨e1.symm, e2.symm⟩ hx
      · rename_i g3
        split at h
        · rename_i g4
          split at h
          · rename_i g5
            injection h with e1 e2
            subst e2
            obtain rfl := h1 (by omega)
            obtain rfl := h2 (by omega)
            obtain rfl := h3 (by omega)
            unfold Lib.decodeN
            rw [if_neg g, if_neg (fun q => by omega), if_neg (fun q => by omega), if_pos ⟨g4.1, ⟨by omega, g4.2.1.2⟩, ⟨by omega, g4.2.2.1.2⟩, by omega, g4.2.2.2.2⟩, if_pos g5, e1]
          · injection h with e1 e2; exact absurd ⟨e1.symm, e2.symm⟩ hx
        · injection h with e1 e2; exact absurd ⟨e1.symm, e2.symm⟩ hx
theorem escL_low : ∀ b : Fin 256, b.val < 128 → ∀ x ∈ escL (UInt8.ofNat b.val), x.toNat < 128 := by decide +kernel
theorem escL_at {b : UInt8} (h : b.toNat < 128) : ∀ x ∈ escL b, x.toNat < 128 := by
  have := escL_low ⟨b.toNat, b.toNat_lt⟩ h
  simpa only [UInt8.ofNat_toNat] using this
theorem esc_high : ∀ (l : List UInt8), (∀ b ∈ l, 128 ≤ b.toNat) → l.flatMap escL = l
  | [], _ => rfl
  | b :: t, h => by
    have hb := h b List.mem_cons_self
    rw [List.flatMap_cons, esc_high t (fun x hx => h x (List.mem_cons_of_mem _ hx)), escL_plain ⟨by omega, fun e => by subst e; exact absurd hb (by decide), fun e => by subst e; exact absurd hb (by decide)⟩]
    rfl
theorem valid_esc : ∀ (n : Nat) (s : List UInt8), s.length ≤ n → Lib.validD s = true → Lib.validD (s.flatMap escL ++ [34]) = true := by
  intro n
  induction n with
  | zero => intro s h _; obtain rfl : s = [] := List.eq_nil_of_length_eq_zero (by omega); decide
  | succ n ih =>
    intro s hs hv
    cases s with
    | nil => decide
    | cons b t =>
      by_cases hb : b.toNat < 128
      · rw [Lib.validD_cons b t hb] at hv
        have h1 := ih t (by simpa using hs) hv
        rw [List.flatMap_cons, List.append_assoc, Lib.validD_ascii (escL b).length _ (by rw [List.take_left']; exact escL_at hb; rfl), List.drop_left']
        · exact h1
        · rfl
      · have hne : b :: t ≠ [] := by simp
        have hst := Lib.validD_step (b :: t) hne
        rw [hv] at hst
        have hd := dec_bs (b :: t) 0 (by simp)
        have e : Utf8.decode (bs (b :: t)) 0 = Lib.decodeL (b :: t) := rfl
        rw [e] at hd
        by_cases hbad : (Lib.decodeL (b :: t)).1 = 65533 ∧ (Lib.decodeL (b :: t)).2 = 1
        · rw [if_pos hbad] at hst; cases hst
        · rw [if_neg hbad] at hst
          rcases hd with ⟨h1, _⟩ | ⟨_, _, _, hk1, hk⟩
          · exact absurd h1 hb
          · obtain ⟨q, hq⟩ : ∃ q, q = Lib.decodeL (b :: t) := ⟨_, rfl⟩
            rw [← hq] at hst hk hk1 hbad
            obtain ⟨x, k⟩ := q
            simp only at hst hk hk1 hbad
            obtain ⟨s, hS⟩ : ∃ s, s = b :: t := ⟨_, rfl⟩
            rw [← hS] at hst hk hq hs ⊢
            have hkl : k ≤ s.length := by have := (hk (k - 1) (by omega)).1; omega
            have hhi : ∀ y ∈ s.take k, 128 ≤ y.toNat := by
              intro y hy
              obtain ⟨j, hj, rfl⟩ := List.getElem_of_mem hy
              rw [List.length_take] at hj
              have := (hk j (by omega)).2
              rw [Nat.zero_add] at this
              simpa [List.getD_eq_getElem?_getD, (by omega : j < s.length)] using this
            have hfl : s.flatMap escL ++ [34] = s.take k ++ ((s.drop k).flatMap escL ++ [34]) := by
              conv => lhs; rw [← List.take_append_drop k s]
              rw [List.flatMap_append, esc_high _ hhi, List.append_assoc]
            have h1 := ih (s.drop k) (by rw [List.length_drop]; omega) hst.symm
            obtain ⟨L, hL⟩ : ∃ L, L = s.take k ++ ((s.drop k).flatMap escL ++ [34]) := ⟨_, rfl⟩
            have hg : ∀ j, j < k → L.getD j 0 = s.getD j 0 := fun j hj => by
              have h5 : j < (s.take k).length := by rw [List.length_take]; omega
              rw [hL, List.getD_eq_getElem?_getD, List.getElem?_append_left h5, List.getElem?_take, if_pos hj, List.getD_eq_getElem?_getD]
            have hLl : k ≤ L.length := by rw [hL, List.length_append, List.length_take]; omega
            have hdL : Lib.decodeL L = (x, k) := by
              rw [Lib.decodeL_N] at hq ⊢
              rw [hg 0 (by omega)]
              exact decodeN_pre hq.symm hbad hLl (fun h => by rw [hg 1 h]) (fun h => by rw [hg 2 h]) (fun h => by rw [hg 3 h])
            rw [hfl, ← hL, Lib.validD_step L (by intro e; rw [e] at hLl; simp at hLl; omega), hdL, if_neg hbad]
            simp only
            rw [hL, List.drop_left' (by rw [List.length_take]; omega)]
            exact h1
theorem valid_quote {s : List UInt8} (h : Lib.validD s = true) : Lib.validD (quoteL s) = true := by
  unfold quoteL
  rw [List.append_assoc]
  show Lib.validD (34 :: (s.flatMap escL ++ [34])) = true
  rw [Lib.validD_cons _ _ (by decide)]
  exact valid_esc _ s (Nat.le_refl _) h
theorem quote_run (s : List UInt8) : runJ .value [] fl0 (quoteL s) = some (.mk 3 false Dec.zero s [] [], fl0) := by
  have h1 := reads_all _ (.mk 3 false Dec.zero s [] []) (Nat.le_refl _) (by unfold MayJ; exact .inr (.inr (.inr (.inl ⟨rfl, rfl, rfl, rfl, rfl⟩)))) [] fl0 [] (.inl rfl) (by unfold depthJ; simp)
  rw [List.append_nil] at h1
  have e : tellJ (.mk 3 false Dec.zero s [] []) = quoteL s := rfl
  rw [e] at h1
  rw [h1]
  exact (runJ_behind0 _ _ _).trans (by kernel_rfl)
theorem quote_parse {s : List UInt8} (h : s.length ≤ 20000) : parseJ true (quoteL s) = (.mk 3 false Dec.zero s [] [], 0) := by
  have h2 := quoteL_le s
  exact okR _ _ (quote_run s) (by omega) (by show (quoteL s).length ≤ _; omega)
end Go.Proofs.YtjckojedafajeaaGreatDoor
