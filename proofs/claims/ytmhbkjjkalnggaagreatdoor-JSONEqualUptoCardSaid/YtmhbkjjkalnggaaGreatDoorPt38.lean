import Derived.Test.YtmhbkjjkalnggaaGreatDoorPt37
namespace Go.Proofs.YtmhbkjjkalnggaaGreatDoor
open Go.RowKit
set_option maxRecDepth 100000
set_option maxHeartbeats 8000000
theorem bs_one {l : List UInt8} {i : Nat} (h : i < l.length) : (l.take (i + 1)).drop i = [l.getD i 0] := by
 rw [List.drop_take, show i + 1 - i = 1 by omega]
 have e : l.drop i = l.getD i 0 :: l.drop (i + 1) := by rw [List.drop_eq_getElem_cons h]; simp [h]
 rw [e]; rfl
theorem run_sub_u8 {P : Program} (W : World) (t : TypeId) (ht : P.underlying t = some .string) (l : List UInt8) (i j : Nat) (hij : i <= j) (hj : j <= l.length) :
   (Instr.slice t (.string (bs l)) (some (.int .u8 (i : Int))) (some (.int .u8 (j : Int))) none).run P W = .ok (.string (bs ((l.take j).drop i))) W := by
 simp [Instr.slice, run_underlying ht, Instr.sliceBounds, Instr.sliceBound, asIntOf, go_sem, bs_size, hij, hj, bs_extract]
theorem q_add (a b : List UInt8) (h : a.length <= 19000000) (h2 : b.length <= 10) (W : World) : (Op.stringOp .add (bs a) (bs b)).run Tryz.prog W = .ok (.string (bs (a ++ b))) W := run_add_bs (P := Tryz.prog) (W := W) a b (by omega)
theorem q2 (acc : List UInt8) (x : UInt8) (h : acc.length <= 12000001) (W : World) : (Op.stringOp .add (bs acc) ⟨#[92, x]⟩).run Tryz.prog W = .ok (.string (bs (acc ++ [92, x]))) W := q_add acc [92, x] (by omega) (by simp) W
theorem q4 (acc : List UInt8) (h : acc.length <= 12000001) (W : World) : (Op.stringOp .add (bs acc) ⟨#[92, 117, 48, 48]⟩).run Tryz.prog W = .ok (.string (bs (acc ++ [92, 117, 48, 48]))) W := q_add acc [92, 117, 48, 48] (by omega) (by simp) W
theorem q5 (acc : List UInt8) (x : UInt8) (h : acc.length <= 12000001) (W : World) : (Op.stringOp .add (bs (acc ++ [92, 117, 48, 48])) ⟨#[x]⟩).run Tryz.prog W = .ok (.string (bs ((acc ++ [92, 117, 48, 48]) ++ [x]))) W := q_add (acc ++ [92, 117, 48, 48]) [x] (by simp only [List.length_append, List.length_cons, List.length_nil]; omega) (by simp) W
theorem q6 (acc : List UInt8) (x y : UInt8) (h : acc.length <= 12000001) (W : World) : (Op.stringOp .add (bs (acc ++ [92, 117, 48, 48, x])) ⟨#[y]⟩).run Tryz.prog W = .ok (.string (bs ((acc ++ [92, 117, 48, 48, x]) ++ [y]))) W := q_add (acc ++ [92, 117, 48, 48, x]) [y] (by simp only [List.length_append, List.length_cons, List.length_nil]; omega) (by simp) W
def hexs : List UInt8 := [48, 49, 50, 51, 52, 53, 54, 55, 56, 57, 97, 98, 99, 100, 101, 102]
theorem qx (p q : Int) (i : Nat) (y : UInt8) (hp : p = i) (hq : IntKind.u8.wrap q = ((i + 1 : Nat) : Int)) (hi : i + 1 <= hexs.length) (hy : ((hexs.take (i + 1)).drop i) = [y]) (W : World) :
   (Instr.slice 9 (.string ⟨#[48, 49, 50, 51, 52, 53, 54, 55, 56, 57, 97, 98, 99, 100, 101, 102]⟩) (some (.int .u8 p)) (some (.int .u8 (IntKind.u8.wrap q))) none).run Tryz.prog W = .ok (.string ⟨#[y]⟩) W := by
 have h := run_sub_u8 (P := Tryz.prog) W 9 Tryz.underlying9 hexs i (i + 1) (by omega) hi
 rw [hy, <- hq, <- hp] at h
 exact h
theorem qi {l : List UInt8} {i : Nat} {y : UInt8} (k : Int) (h : ∀ W : World, (Instr.index 9 (.string (bs l)) (.int .i64 (i : Int))).run Tryz.prog W = .ok (.int .u8 (y.toNat : Int)) W) (hk : (y.toNat : Int) = k) (W : World) : (Instr.index 9 (.string (bs l)) (.int .i64 (i : Int))).run Tryz.prog W = .ok (.int .u8 k) W := hk ▸ h W
theorem dquote_ok (l : List UInt8) (w : World) (hl : l.length <= 2000000) :
   Calls Tryz.prog 43 #[.string (bs l)] w fun e w' => e = .returned (.string (bs (quoteL l))) /\ Below w.heap.size w w' := by
 have hsz := bs_size l
 have HL := hid hl
 have HIX : Hid (∀ k : Nat, k < l.length -> ∀ W : World, (Instr.index 9 (.string (bs l)) (.int .i64 (k : Int))).run Tryz.prog W = .ok (.int .u8 ((l.getD k 0).toNat : Int)) W) := hid fun k hk W => run_byte _ Tryz.underlying9 l k hk W
 have HAD : Hid (∀ a b : List UInt8, a.length <= 20000000 -> b.length <= 20000000 -> ∀ W, (Op.stringOp .add (bs a) (bs b)).run Tryz.prog W = .ok (.string (bs (a ++ b))) W) := hid fun a b h1 h2 W => run_add_bs (P := Tryz.prog) (W := W) a b (by omega)
 have HLEN : Hid (∀ i, (([34] : List UInt8) ++ (l.take i).flatMap escL).length <= 12000001) := hid fun i => by
   have h1 := flat_esc_le (l.take i)
   have h2 : (l.take i).length <= l.length := by rw [List.length_take]; omega
   rw [List.length_append]; simp only [List.length_cons, List.length_nil]; omega
 clear hl
 go_enter Tryz.func43, Tryz.ntmps43
 go_wp2
 go_loopw [4, 3] (fun v4 v3 wr => ∃ i : Nat, v4 = .int .i64 (i : Int) /\ v3 = .string (bs ([34] ++ (l.take i).flatMap escL)) /\ i <= l.length /\ Hid (Below w.heap.size w wr)) (fun v4 _ _ => l.length - (intOf v4).toNat)
 case atStart => exact ⟨0, rfl, rfl, Nat.zero_le _, hid (Below.refl _ _)⟩
 case round =>
   obtain ⟨i, rfl, rfl, hil, HBL⟩ := hrel
   have hal := HLEN.out i
   obtain ⟨acc, hacc⟩ : ∃ acc, acc = ([34] : List UInt8) ++ (l.take i).flatMap escL := ⟨_, rfl⟩
   rw [<- hacc] at hal ⊢
   have HACC := hid hacc
   have hle := HL.out
   by_cases hi : i < l.length
   · have HN : Hid (∀ u, escL (l.getD i 0) = u -> bs (acc ++ u) = bs ([34] ++ (l.take (i + 1)).flatMap escL)) := hid fun u hu => by rw [esc_next l i hi, hu, HACC.out, List.append_assoc]
     have hidx := HIX.out i hi
     have hsub : ∀ W : World, (Instr.slice 9 (.string (bs l)) (some (.int .i64 (i : Int))) (some (.int .i64 ((i : Int) + 1))) none).run Tryz.prog W = .ok (.string (bs [l.getD i 0])) W := fun W => by
       have h9 := run_sub_bsJ (P := Tryz.prog) W 9 Tryz.underlying9 l i (i + 1) (by omega) (by omega)
       rw [bs_one hi] at h9
       exact h9
     have hlt : (i : Int) < (l.length : Int) := by omega
     obtain ⟨y, hy⟩ : ∃ y, y = l.getD i 0 := ⟨_, rfl⟩
     rw [<- hy] at HN hidx hsub
     clear hy hacc
     have FIN : Hid (∀ W' u v, escL y = u -> Below w.heap.size w W' -> v = bs (acc ++ u) -> ∃ j : Nat, Value.int .i64 ((i : Int) + 1) = .int .i64 (j : Int) /\ Value.string v = .string (bs ([34] ++ (l.take j).flatMap escL)) /\ j <= l.length /\ Hid (Below w.heap.size w W')) := hid fun W' u v hu hb hv => ⟨i + 1, rfl, by rw [hv, HN.out u hu], by omega, hid hb⟩
     clear HN
     have HM : Hid (l.length - ((i : Int) + 1).toNat < l.length - i) := hid (by omega)
     have hz0 : ∀ W, (Instr.slice 9 (.string ⟨#[48, 49]⟩) (some (.int .u8 (IntKind.u8.wrap 0))) (some (.int .u8 (IntKind.u8.wrap (IntKind.u8.wrap 0 + 1)))) none).run Tryz.prog W = .ok (.string ⟨#[48]⟩) W := fun W => run_sub_u8 W 9 Tryz.underlying9 [48, 49] 0 1 (by decide) (by decide)
     have hz1 : ∀ W, (Instr.slice 9 (.string ⟨#[48, 49]⟩) (some (.int .u8 (IntKind.u8.wrap 1))) (some (.int .u8 (IntKind.u8.wrap (IntKind.u8.wrap 1 + 1)))) none).run Tryz.prog W = .ok (.string ⟨#[49]⟩) W := fun W => run_sub_u8 W 9 Tryz.underlying9 [48, 49] 1 2 (by decide) (by decide)
     by_cases h32 : y.toNat < 32
     · have hor : y.toNat = 0 ∨ y.toNat = 1 ∨ y.toNat = 2 ∨ y.toNat = 3 ∨ y.toNat = 4 ∨ y.toNat = 5 ∨ y.toNat = 6 ∨ y.toNat = 7 ∨ y.toNat = 8 ∨ y.toNat = 9 ∨ y.toNat = 10 ∨ y.toNat = 11 ∨ y.toNat = 12 ∨ y.toNat = 13 ∨ y.toNat = 14 ∨ y.toNat = 15 ∨ y.toNat = 16 ∨ y.toNat = 17 ∨ y.toNat = 18 ∨ y.toNat = 19 ∨ y.toNat = 20 ∨ y.toNat = 21 ∨ y.toNat = 22 ∨ y.toNat = 23 ∨ y.toNat = 24 ∨ y.toNat = 25 ∨ y.toNat = 26 ∨ y.toNat = 27 ∨ y.toNat = 28 ∨ y.toNat = 29 ∨ y.toNat = 30 ∨ y.toNat = 31 := by omega
       clear h32
       rcases hor with hk | hk | hk | hk | hk | hk | hk | hk | hk | hk | hk | hk | hk | hk | hk | hk | hk | hk | hk | hk | hk | hk | hk | hk | hk | hk | hk | hk | hk | hk | hk | hk
       · obtain rfl : y = 0 := UInt8.toNat_inj.1 hk
         have hi2 := qi 0 hidx rfl
         clear hk hidx hsub
         have HE : Hid (escL 0 = [92, 117, 48, 48] ++ [48] ++ [48]) := hid (by decide)
         have ha := q4 acc hal
         have hb := q5 acc 48 hal
         have hc := q6 acc 48 48 hal
         have hx := qx 0 1 0 48 rfl rfl (by decide) rfl
         go_wp2
         go_quiet (fail)
         go_wp2
         go_round
         case rel => exact FIN.out _ _ _ HE.out (below_drewN HBL.out _) (by first | rfl | simp)
         case measure => simpa [intOf] using HM.out
       · obtain rfl : y = 1 := UInt8.toNat_inj.1 hk
         have hi2 := qi 1 hidx rfl
         clear hk hidx hsub
         have HE : Hid (escL 1 = [92, 117, 48, 48] ++ [48] ++ [49]) := hid (by decide)
         have ha := q4 acc hal
         have hb := q5 acc 48 hal
         have hc := q6 acc 48 49 hal
         have hx := qx 1 2 1 49 rfl rfl (by decide) rfl
         go_wp2
         go_quiet (fail)
         go_wp2
         go_round
         case rel => exact FIN.out _ _ _ HE.out (below_drewN HBL.out _) (by first | rfl | simp)
         case measure => simpa [intOf] using HM.out
       · obtain rfl : y = 2 := UInt8.toNat_inj.1 hk
         have hi2 := qi 2 hidx rfl
         clear hk hidx hsub
         have HE : Hid (escL 2 = [92, 117, 48, 48] ++ [48] ++ [50]) := hid (by decide)
         have ha := q4 acc hal
         have hb := q5 acc 48 hal
         have hc := q6 acc 48 50 hal
         have hx := qx 2 3 2 50 rfl rfl (by decide) rfl
         go_wp2
         go_quiet (fail)
         go_wp2
         go_round
         case rel => exact FIN.out _ _ _ HE.out (below_drewN HBL.out _) (by first | rfl | simp)
         case measure => simpa [intOf] using HM.out
       · obtain rfl : y = 3 := UInt8.toNat_inj.1 hk
         have hi2 := qi 3 hidx rfl
         clear hk hidx hsub
         have HE : Hid (escL 3 = [92, 117, 48, 48] ++ [48] ++ [51]) := hid (by decide)
         have ha := q4 acc hal
         have hb := q5 acc 48 hal
         have hc := q6 acc 48 51 hal
         have hx := qx 3 4 3 51 rfl rfl (by decide) rfl
         go_wp2
         go_quiet (fail)
         go_wp2
         go_round
         case rel => exact FIN.out _ _ _ HE.out (below_drewN HBL.out _) (by first | rfl | simp)
         case measure => simpa [intOf] using HM.out
       · obtain rfl : y = 4 := UInt8.toNat_inj.1 hk
         have hi2 := qi 4 hidx rfl
         clear hk hidx hsub
         have HE : Hid (escL 4 = [92, 117, 48, 48] ++ [48] ++ [52]) := hid (by decide)
         have ha := q4 acc hal
         have hb := q5 acc 48 hal
         have hc := q6 acc 48 52 hal
         have hx := qx 4 5 4 52 rfl rfl (by decide) rfl
         go_wp2
         go_quiet (fail)
         go_wp2
         go_round
         case rel => exact FIN.out _ _ _ HE.out (below_drewN HBL.out _) (by first | rfl | simp)
         case measure => simpa [intOf] using HM.out
       · obtain rfl : y = 5 := UInt8.toNat_inj.1 hk
         have hi2 := qi 5 hidx rfl
         clear hk hidx hsub
         have HE : Hid (escL 5 = [92, 117, 48, 48] ++ [48] ++ [53]) := hid (by decide)
         have ha := q4 acc hal
         have hb := q5 acc 48 hal
         have hc := q6 acc 48 53 hal
         have hx := qx 5 6 5 53 rfl rfl (by decide) rfl
         go_wp2
         go_quiet (fail)
         go_wp2
         go_round
         case rel => exact FIN.out _ _ _ HE.out (below_drewN HBL.out _) (by first | rfl | simp)
         case measure => simpa [intOf] using HM.out
       · obtain rfl : y = 6 := UInt8.toNat_inj.1 hk
         have hi2 := qi 6 hidx rfl
         clear hk hidx hsub
         have HE : Hid (escL 6 = [92, 117, 48, 48] ++ [48] ++ [54]) := hid (by decide)
         have ha := q4 acc hal
         have hb := q5 acc 48 hal
         have hc := q6 acc 48 54 hal
         have hx := qx 6 7 6 54 rfl rfl (by decide) rfl
         go_wp2
         go_quiet (fail)
         go_wp2
         go_round
         case rel => exact FIN.out _ _ _ HE.out (below_drewN HBL.out _) (by first | rfl | simp)
         case measure => simpa [intOf] using HM.out
       · obtain rfl : y = 7 := UInt8.toNat_inj.1 hk
         have hi2 := qi 7 hidx rfl
         clear hk hidx hsub
         have HE : Hid (escL 7 = [92, 117, 48, 48] ++ [48] ++ [55]) := hid (by decide)
         have ha := q4 acc hal
         have hb := q5 acc 48 hal
         have hc := q6 acc 48 55 hal
         have hx := qx 7 8 7 55 rfl rfl (by decide) rfl
         go_wp2
         go_quiet (fail)
         go_wp2
         go_round
         case rel => exact FIN.out _ _ _ HE.out (below_drewN HBL.out _) (by first | rfl | simp)
         case measure => simpa [intOf] using HM.out
       · obtain rfl : y = 8 := UInt8.toNat_inj.1 hk
         have hi2 := qi 8 hidx rfl
         clear hk hidx hsub
         have HE : Hid (escL 8 = [92, 98]) := hid (by decide)
         have ha := q2 acc 98 hal
         go_wp2
         go_round
         case rel => exact FIN.out _ _ _ HE.out HBL.out rfl
         case measure => simpa [intOf] using HM.out
       · obtain rfl : y = 9 := UInt8.toNat_inj.1 hk
         have hi2 := qi 9 hidx rfl
         clear hk hidx hsub
         have HE : Hid (escL 9 = [92, 116]) := hid (by decide)
         have ha := q2 acc 116 hal
         go_wp2
         go_round
         case rel => exact FIN.out _ _ _ HE.out HBL.out rfl
         case measure => simpa [intOf] using HM.out
       · obtain rfl : y = 10 := UInt8.toNat_inj.1 hk
         have hi2 := qi 10 hidx rfl
         clear hk hidx hsub
         have HE : Hid (escL 10 = [92, 110]) := hid (by decide)
         have ha := q2 acc 110 hal
         go_wp2
         go_round
         case rel => exact FIN.out _ _ _ HE.out HBL.out rfl
         case measure => simpa [intOf] using HM.out
       · obtain rfl : y = 11 := UInt8.toNat_inj.1 hk
         have hi2 := qi 11 hidx rfl
         clear hk hidx hsub
         have HE : Hid (escL 11 = [92, 117, 48, 48] ++ [48] ++ [98]) := hid (by decide)
         have ha := q4 acc hal
         have hb := q5 acc 48 hal
         have hc := q6 acc 48 98 hal
         have hx := qx 11 12 11 98 rfl rfl (by decide) rfl
         go_wp2
         go_quiet (fail)
         go_wp2
         go_round
         case rel => exact FIN.out _ _ _ HE.out (below_drewN HBL.out _) (by first | rfl | simp)
         case measure => simpa [intOf] using HM.out
       · obtain rfl : y = 12 := UInt8.toNat_inj.1 hk
         have hi2 := qi 12 hidx rfl
         clear hk hidx hsub
         have HE : Hid (escL 12 = [92, 102]) := hid (by decide)
         have ha := q2 acc 102 hal
         go_wp2
         go_round
         case rel => exact FIN.out _ _ _ HE.out HBL.out rfl
         case measure => simpa [intOf] using HM.out
       · obtain rfl : y = 13 := UInt8.toNat_inj.1 hk
         have hi2 := qi 13 hidx rfl
         clear hk hidx hsub
         have HE : Hid (escL 13 = [92, 114]) := hid (by decide)
         have ha := q2 acc 114 hal
         go_wp2
         go_round
         case rel => exact FIN.out _ _ _ HE.out HBL.out rfl
         case measure => simpa [intOf] using HM.out
       · obtain rfl : y = 14 := UInt8.toNat_inj.1 hk
         have hi2 := qi 14 hidx rfl
         clear hk hidx hsub
         have HE : Hid (escL 14 = [92, 117, 48, 48] ++ [48] ++ [101]) := hid (by decide)
         have ha := q4 acc hal
         have hb := q5 acc 48 hal
         have hc := q6 acc 48 101 hal
         have hx := qx 14 15 14 101 rfl rfl (by decide) rfl
         go_wp2
         go_quiet (fail)
         go_wp2
         go_round
         case rel => exact FIN.out _ _ _ HE.out (below_drewN HBL.out _) (by first | rfl | simp)
         case measure => simpa [intOf] using HM.out
       · obtain rfl : y = 15 := UInt8.toNat_inj.1 hk
         have hi2 := qi 15 hidx rfl
         clear hk hidx hsub
         have HE : Hid (escL 15 = [92, 117, 48, 48] ++ [48] ++ [102]) := hid (by decide)
         have ha := q4 acc hal
         have hb := q5 acc 48 hal
         have hc := q6 acc 48 102 hal
         have hx := qx 15 16 15 102 rfl rfl (by decide) rfl
         go_wp2
         go_quiet (fail)
         go_wp2
         go_round
         case rel => exact FIN.out _ _ _ HE.out (below_drewN HBL.out _) (by first | rfl | simp)
         case measure => simpa [intOf] using HM.out
       · obtain rfl : y = 16 := UInt8.toNat_inj.1 hk
         have hi2 := qi 16 hidx rfl
         clear hk hidx hsub
         have HE : Hid (escL 16 = [92, 117, 48, 48] ++ [49] ++ [48]) := hid (by decide)
         have ha := q4 acc hal
         have hb := q5 acc 49 hal
         have hc := q6 acc 49 48 hal
         have hx := qx 0 1 0 48 rfl rfl (by decide) rfl
         go_wp2
         go_quiet (fail)
         go_wp2
         go_round
         case rel => exact FIN.out _ _ _ HE.out (below_drewN HBL.out _) (by first | rfl | simp)
         case measure => simpa [intOf] using HM.out
       · obtain rfl : y = 17 := UInt8.toNat_inj.1 hk
         have hi2 := qi 17 hidx rfl
         clear hk hidx hsub
         have HE : Hid (escL 17 = [92, 117, 48, 48] ++ [49] ++ [49]) := hid (by decide)
         have ha := q4 acc hal
         have hb := q5 acc 49 hal
         have hc := q6 acc 49 49 hal
         have hx := qx 1 2 1 49 rfl rfl (by decide) rfl
         go_wp2
         go_quiet (fail)
         go_wp2
         go_round
         case rel => exact FIN.out _ _ _ HE.out (below_drewN HBL.out _) (by first | rfl | simp)
         case measure => simpa [intOf] using HM.out
       · obtain rfl : y = 18 := UInt8.toNat_inj.1 hk
         have hi2 := qi 18 hidx rfl
         clear hk hidx hsub
         have HE : Hid (escL 18 = [92, 117, 48, 48] ++ [49] ++ [50]) := hid (by decide)
         have ha := q4 acc hal
         have hb := q5 acc 49 hal
         have hc := q6 acc 49 50 hal
         have hx := qx 2 3 2 50 rfl rfl (by decide) rfl
         go_wp2
         go_quiet (fail)
         go_wp2
         go_round
         case rel => exact FIN.out _ _ _ HE.out (below_drewN HBL.out _) (by first | rfl | simp)
         case measure => simpa [intOf] using HM.out
       · obtain rfl : y = 19 := UInt8.toNat_inj.1 hk
         have hi2 := qi 19 hidx rfl
         clear hk hidx hsub
         have HE : Hid (escL 19 = [92, 117, 48, 48] ++ [49] ++ [51]) := hid (by decide)
         have ha := q4 acc hal
         have hb := q5 acc 49 hal
         have hc := q6 acc 49 51 hal
         have hx := qx 3 4 3 51 rfl rfl (by decide) rfl
         go_wp2
         go_quiet (fail)
         go_wp2
         go_round
         case rel => exact FIN.out _ _ _ HE.out (below_drewN HBL.out _) (by first | rfl | simp)
         case measure => simpa [intOf] using HM.out
       · obtain rfl : y = 20 := UInt8.toNat_inj.1 hk
         have hi2 := qi 20 hidx rfl
         clear hk hidx hsub
         have HE : Hid (escL 20 = [92, 117, 48, 48] ++ [49] ++ [52]) := hid (by decide)
         have ha := q4 acc hal
         have hb := q5 acc 49 hal
         have hc := q6 acc 49 52 hal
         have hx := qx 4 5 4 52 rfl rfl (by decide) rfl
         go_wp2
         go_quiet (fail)
         go_wp2
         go_round
         case rel => exact FIN.out _ _ _ HE.out (below_drewN HBL.out _) (by first | rfl | simp)
         case measure => simpa [intOf] using HM.out
       · obtain rfl : y = 21 := UInt8.toNat_inj.1 hk
         have hi2 := qi 21 hidx rfl
         clear hk hidx hsub
         have HE : Hid (escL 21 = [92, 117, 48, 48] ++ [49] ++ [53]) := hid (by decide)
         have ha := q4 acc hal
         have hb := q5 acc 49 hal
         have hc := q6 acc 49 53 hal
         have hx := qx 5 6 5 53 rfl rfl (by decide) rfl
         go_wp2
         go_quiet (fail)
         go_wp2
         go_round
         case rel => exact FIN.out _ _ _ HE.out (below_drewN HBL.out _) (by first | rfl | simp)
         case measure => simpa [intOf] using HM.out
       · obtain rfl : y = 22 := UInt8.toNat_inj.1 hk
         have hi2 := qi 22 hidx rfl
         clear hk hidx hsub
         have HE : Hid (escL 22 = [92, 117, 48, 48] ++ [49] ++ [54]) := hid (by decide)
         have ha := q4 acc hal
         have hb := q5 acc 49 hal
         have hc := q6 acc 49 54 hal
         have hx := qx 6 7 6 54 rfl rfl (by decide) rfl
         go_wp2
         go_quiet (fail)
         go_wp2
         go_round
         case rel => exact FIN.out _ _ _ HE.out (below_drewN HBL.out _) (by first | rfl | simp)
         case measure => simpa [intOf] using HM.out
       · obtain rfl : y = 23 := UInt8.toNat_inj.1 hk
         have hi2 := qi 23 hidx rfl
         clear hk hidx hsub
         have HE : Hid (escL 23 = [92, 117, 48, 48] ++ [49] ++ [55]) := hid (by decide)
         have ha := q4 acc hal
         have hb := q5 acc 49 hal
         have hc := q6 acc 49 55 hal
         have hx := qx 7 8 7 55 rfl rfl (by decide) rfl
         go_wp2
         go_quiet (fail)
         go_wp2
         go_round
         case rel => exact FIN.out _ _ _ HE.out (below_drewN HBL.out _) (by first | rfl | simp)
         case measure => simpa [intOf] using HM.out
       · obtain rfl : y = 24 := UInt8.toNat_inj.1 hk
         have hi2 := qi 24 hidx rfl
         clear hk hidx hsub
         have HE : Hid (escL 24 = [92, 117, 48, 48] ++ [49] ++ [56]) := hid (by decide)
         have ha := q4 acc hal
         have hb := q5 acc 49 hal
         have hc := q6 acc 49 56 hal
         have hx := qx 8 9 8 56 rfl rfl (by decide) rfl
         go_wp2
         go_quiet (fail)
         go_wp2
         go_round
         case rel => exact FIN.out _ _ _ HE.out (below_drewN HBL.out _) (by first | rfl | simp)
         case measure => simpa [intOf] using HM.out
       · obtain rfl : y = 25 := UInt8.toNat_inj.1 hk
         have hi2 := qi 25 hidx rfl
         clear hk hidx hsub
         have HE : Hid (escL 25 = [92, 117, 48, 48] ++ [49] ++ [57]) := hid (by decide)
         have ha := q4 acc hal
         have hb := q5 acc 49 hal
         have hc := q6 acc 49 57 hal
         have hx := qx 9 10 9 57 rfl rfl (by decide) rfl
         go_wp2
         go_quiet (fail)
         go_wp2
         go_round
         case rel => exact FIN.out _ _ _ HE.out (below_drewN HBL.out _) (by first | rfl | simp)
         case measure => simpa [intOf] using HM.out
       · obtain rfl : y = 26 := UInt8.toNat_inj.1 hk
         have hi2 := qi 26 hidx rfl
         clear hk hidx hsub
         have HE : Hid (escL 26 = [92, 117, 48, 48] ++ [49] ++ [97]) := hid (by decide)
         have ha := q4 acc hal
         have hb := q5 acc 49 hal
         have hc := q6 acc 49 97 hal
         have hx := qx 10 11 10 97 rfl rfl (by decide) rfl
         go_wp2
         go_quiet (fail)
         go_wp2
         go_round
         case rel => exact FIN.out _ _ _ HE.out (below_drewN HBL.out _) (by first | rfl | simp)
         case measure => simpa [intOf] using HM.out
       · obtain rfl : y = 27 := UInt8.toNat_inj.1 hk
         have hi2 := qi 27 hidx rfl
         clear hk hidx hsub
         have HE : Hid (escL 27 = [92, 117, 48, 48] ++ [49] ++ [98]) := hid (by decide)
         have ha := q4 acc hal
         have hb := q5 acc 49 hal
         have hc := q6 acc 49 98 hal
         have hx := qx 11 12 11 98 rfl rfl (by decide) rfl
         go_wp2
         go_quiet (fail)
         go_wp2
         go_round
         case rel => exact FIN.out _ _ _ HE.out (below_drewN HBL.out _) (by first | rfl | simp)
         case measure => simpa [intOf] using HM.out
       · obtain rfl : y = 28 := UInt8.toNat_inj.1 hk
         have hi2 := qi 28 hidx rfl
         clear hk hidx hsub
         have HE : Hid (escL 28 = [92, 117, 48, 48] ++ [49] ++ [99]) := hid (by decide)
         have ha := q4 acc hal
         have hb := q5 acc 49 hal
         have hc := q6 acc 49 99 hal
         have hx := qx 12 13 12 99 rfl rfl (by decide) rfl
         go_wp2
         go_quiet (fail)
         go_wp2
         go_round
         case rel => exact FIN.out _ _ _ HE.out (below_drewN HBL.out _) (by first | rfl | simp)
         case measure => simpa [intOf] using HM.out
       · obtain rfl : y = 29 := UInt8.toNat_inj.1 hk
         have hi2 := qi 29 hidx rfl
         clear hk hidx hsub
         have HE : Hid (escL 29 = [92, 117, 48, 48] ++ [49] ++ [100]) := hid (by decide)
         have ha := q4 acc hal
         have hb := q5 acc 49 hal
         have hc := q6 acc 49 100 hal
         have hx := qx 13 14 13 100 rfl rfl (by decide) rfl
         go_wp2
         go_quiet (fail)
         go_wp2
         go_round
         case rel => exact FIN.out _ _ _ HE.out (below_drewN HBL.out _) (by first | rfl | simp)
         case measure => simpa [intOf] using HM.out
       · obtain rfl : y = 30 := UInt8.toNat_inj.1 hk
         have hi2 := qi 30 hidx rfl
         clear hk hidx hsub
         have HE : Hid (escL 30 = [92, 117, 48, 48] ++ [49] ++ [101]) := hid (by decide)
         have ha := q4 acc hal
         have hb := q5 acc 49 hal
         have hc := q6 acc 49 101 hal
         have hx := qx 14 15 14 101 rfl rfl (by decide) rfl
         go_wp2
         go_quiet (fail)
         go_wp2
         go_round
         case rel => exact FIN.out _ _ _ HE.out (below_drewN HBL.out _) (by first | rfl | simp)
         case measure => simpa [intOf] using HM.out
       · obtain rfl : y = 31 := UInt8.toNat_inj.1 hk
         have hi2 := qi 31 hidx rfl
         clear hk hidx hsub
         have HE : Hid (escL 31 = [92, 117, 48, 48] ++ [49] ++ [102]) := hid (by decide)
         have ha := q4 acc hal
         have hb := q5 acc 49 hal
         have hc := q6 acc 49 102 hal
         have hx := qx 15 16 15 102 rfl rfl (by decide) rfl
         go_wp2
         go_quiet (fail)
         go_wp2
         go_round
         case rel => exact FIN.out _ _ _ HE.out (below_drewN HBL.out _) (by first | rfl | simp)
         case measure => simpa [intOf] using HM.out
     · by_cases h34 : y = 34
       · subst h34
         have hi2 : ∀ W : World, (Instr.index 9 (.string (bs l)) (.int .i64 (i : Int))).run Tryz.prog W = .ok (.int .u8 34) W := hidx
         have HE : Hid (escL 34 = [92] ++ [34]) := hid (by decide)
         clear hidx
         have ha : ∀ W, (Op.stringOp .add (bs acc) ⟨#[92]⟩).run Tryz.prog W = .ok (.string (bs (acc ++ [92]))) W := fun W => HAD.out acc [92] (by first | omega | (simp only [List.length_append, List.length_cons, List.length_nil]; omega)) (by decide) W
         have hb : ∀ W, (Op.stringOp .add (bs (acc ++ [92])) (bs [34])).run Tryz.prog W = .ok (.string (bs (acc ++ [92] ++ [34]))) W := fun W => HAD.out (acc ++ [92]) [34] (by first | omega | (simp only [List.length_append, List.length_cons, List.length_nil]; omega)) (by decide) W
         go_wp2
         go_round
         case rel => exact FIN.out _ _ _ HE.out HBL.out (by first | rfl | simp)
         case measure => simpa [intOf] using HM.out
       · by_cases h92 : y = 92
         · subst h92
           have hi2 : ∀ W : World, (Instr.index 9 (.string (bs l)) (.int .i64 (i : Int))).run Tryz.prog W = .ok (.int .u8 92) W := hidx
           have HE : Hid (escL 92 = [92] ++ [92]) := hid (by decide)
           clear hidx
           have ha : ∀ W, (Op.stringOp .add (bs acc) ⟨#[92]⟩).run Tryz.prog W = .ok (.string (bs (acc ++ [92]))) W := fun W => HAD.out acc [92] (by first | omega | (simp only [List.length_append, List.length_cons, List.length_nil]; omega)) (by decide) W
           have hb : ∀ W, (Op.stringOp .add (bs (acc ++ [92])) (bs [92])).run Tryz.prog W = .ok (.string (bs (acc ++ [92] ++ [92]))) W := fun W => HAD.out (acc ++ [92]) [92] (by first | omega | (simp only [List.length_append, List.length_cons, List.length_nil]; omega)) (by decide) W
           go_wp2
           go_round
           case rel => exact FIN.out _ _ _ HE.out HBL.out (by first | rfl | simp)
           case measure => simpa [intOf] using HM.out
         · have HE : Hid (escL y = [y]) := hid (escL_plain ⟨h32, h34, h92⟩)
           have g34 : ¬ y.toNat = 34 := fun e => h34 (UInt8.toNat_inj.1 e)
           have g92 : ¬ y.toNat = 92 := fun e => h92 (UInt8.toNat_inj.1 e)
           have hb : ∀ W, (Op.stringOp .add (bs acc) (bs [y])).run Tryz.prog W = .ok (.string (bs (acc ++ [y]))) W := fun W => HAD.out acc [y] (by omega) (by simp) W
           have hy2 := y.toNat_lt
           clear h34 h92
           generalize y.toNat = c at *
           have z34 : ((c : Int) == 34) = false := by rw [beq_eq_false_iff_ne]; omega
           have z92 : ((c : Int) == 92) = false := by rw [beq_eq_false_iff_ne]; omega
           have z8 : ((c : Int) == 8) = false := by rw [beq_eq_false_iff_ne]; omega
           have z9 : ((c : Int) == 9) = false := by rw [beq_eq_false_iff_ne]; omega
           have z10 : ((c : Int) == 10) = false := by rw [beq_eq_false_iff_ne]; omega
           have z12 : ((c : Int) == 12) = false := by rw [beq_eq_false_iff_ne]; omega
           have z13 : ((c : Int) == 13) = false := by rw [beq_eq_false_iff_ne]; omega
           have z32 : ¬ (c : Int) < 32 := by omega
           clear hy2 g34 g92 h32
           go_wp2
           go_round
           case rel => exact FIN.out _ _ _ HE.out HBL.out rfl
           case measure => simpa [intOf] using HM.out
   · have e : i = l.length := by omega
     have HQ : Hid (acc ++ [34] = quoteL l) := hid (by rw [HACC.out, e, List.take_length]; rfl)
     have ha : ∀ W, (Op.stringOp .add (bs acc) ⟨#[34]⟩).run Tryz.prog W = .ok (.string (bs (acc ++ [34]))) W := fun W => HAD.out acc [34] (by first | omega | (simp only [List.length_append, List.length_cons, List.length_nil]; omega)) (by decide) W
     have hge : ¬ (i : Int) < (l.length : Int) := by omega
     clear e hacc
     go_wp2
     go_ret
     rw [HQ.out]
     exact ⟨rfl, HBL.out⟩
end Go.Proofs.YtmhbkjjkalnggaaGreatDoor
