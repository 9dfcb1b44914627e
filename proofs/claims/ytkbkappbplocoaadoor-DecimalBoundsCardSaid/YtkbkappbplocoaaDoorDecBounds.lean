/- Layer 7: the walk of DecimalBounds. -/
import Derived.Test.YtkbkappbplocoaaDoorDecBnd0
namespace Go.Proofs.YtkbkappbplocoaaDoor
open Go.RowKit

def GivesW (f : Nat) (args : Array Value) (d : Dec) (k : Nat) : Prop := ∀ W : World, PowTab W → Calls Tryd.prog f args W fun e w' => e = .returned (.tuple #[.agg #[.bool d.neg, .string (bs d.digits), .int .i64 d.exp], .int .i64 (k : Int)]) ∧ Below W.heap.size W w'
theorem parseW (l : List UInt8) {d : Dec} {k : Nat} (h : parseD l = d ∧ parseE l = k) : GivesW 11 #[.string (bs l)] d k := fun W hT => by
  have := parse_ok l W hT
  rw [h.1, h.2] at this
  exact this
set_option maxRecDepth 100000 in
set_option maxHeartbeats 8000000 in
theorem bounds_law (w : World) (hT : PowTab w) :
    Calls Tryd.prog 5 #[] w fun e w' => e = .returned (.bool true) ∧ Below w.heap.size w w' := by
  have HT := Lib.hid hT
  have HWK := Lib.hid (fun W h => works_ok W h)
  have P1 := Lib.hid (parseW _ bn1)
  have P2 := Lib.hid (parseW _ bn2)
  have P3 := Lib.hid (parseW _ bn3)
  have S4 := Lib.hid (sum2 most_may ((mayB_iff ⟨false, [49], 1000⟩).1 (by kernel_rfl)))
  rw [bn4.1, bn4.2] at S4
  have S5 := Lib.hid (sum3 most_may most_may ((mayB_iff ⟨true, [49], -1000⟩).1 (by kernel_rfl)))
  rw [bn5.1, bn5.2] at S5
  have S6 := Lib.hid (sum3 most_may ((mayB_iff ⟨false, [49], 0⟩).1 (by kernel_rfl)) ((mayB_iff ⟨true, N9, 1000⟩).1 (by kernel_rfl)))
  rw [bn6.1, bn6.2] at S6
  have M9 : Hid (GivesT 24 #[decV most, decV ⟨false, [49], 1⟩] (mulD most ⟨false, [49], 1⟩) (mulE most ⟨false, [49], 1⟩)) := Lib.hid (mulG most_may ((mayB_iff ⟨false, [49], 1⟩).1 (by kernel_rfl)))
  rw [bn9.1, bn9.2] at M9
  obtain ⟨NN, hNN⟩ : ∃ NN : Nat, NN = 1000 := ⟨_, rfl⟩
  have P7 := Lib.hid (parseW _ bn7)
  have P8 := Lib.hid (parseW _ bn8)
  rw [← hNN] at P7 P8
  have HNN := Lib.hid hNN
  have hN9 : Hid (N9 = List.replicate 100 57) := Lib.hid rfl
  unfold most at P1 S4 S5 S6 M9
  unfold GivesW at P1 P2 P3 P7 P8
  unfold GivesT at M9
  unfold decV Dec.zero at *
  simp only at P1 P2 P3 S4 S5 S6 M9 P7 P8
  have HLN : Hid (N9.length = 100) := Lib.hid (by kernel_rfl)
  generalize N9 = n9 at *
  have ha1 : ∀ W, (Op.stringOp .add (bs n9) ⟨#[101, 49, 48, 48, 48]⟩).run Tryd.prog W = .ok (.string (bs (n9 ++ [101, 49, 48, 48, 48]))) W := fun W => run_add_bs W _ [101, 49, 48, 48, 48] (by rw [HLN.out]; decide)
  have ha2 : ∀ W, (Op.stringOp .add (bs n9) ⟨#[57, 101, 49, 48, 48, 48]⟩).run Tryd.prog W = .ok (.string (bs (n9 ++ [57, 101, 49, 48, 48, 48]))) W := fun W => run_add_bs W _ [57, 101, 49, 48, 48, 48] (by rw [HLN.out]; decide)
  have ha3 : ∀ W, (Op.stringOp .add (bs n9) ⟨#[101, 49, 48, 48, 49]⟩).run Tryd.prog W = .ok (.string (bs (n9 ++ [101, 49, 48, 48, 49]))) W := fun W => run_add_bs W _ [101, 49, 48, 48, 49] (by rw [HLN.out]; decide)
  generalize n9 ++ [101, 49, 48, 48, 48] = t1 at *
  generalize n9 ++ [57, 101, 49, 48, 48, 48] = t2 at *
  generalize n9 ++ [101, 49, 48, 48, 49] = t3 at *
  clear hT hNN
  go_enter Tryd.func5, Tryd.ntmps5
  go_wp2_with fail
  go_loop [1, 2] (fun v1 v2 => ∃ i : Nat, i ≤ 100 ∧ v2 = .int .i64 i ∧ v1 = .string (bs (List.replicate i 57))) (fun _ v2 => 100 - (intOf v2).toNat)
  case atStart => exact ⟨0, Nat.zero_le _, rfl, rfl⟩
  case round =>
    obtain ⟨i, hi, rfl, rfl⟩ := hrel
    by_cases hlt : i < 100
    · have hadd : ∀ W, (Op.stringOp .add (bs (List.replicate i 57)) ⟨#[57]⟩).run Tryd.prog W = .ok (.string (bs (List.replicate (i + 1) 57))) W := fun W => by
        have := run_add_bs (P := Tryd.prog) W (List.replicate i 57) [57] (by simp; omega)
        rwa [← List.replicate_succ'] at this
      generalize bs (List.replicate i 57) = s0 at *
      clear P1 P2 P3 S4 S5 S6 M9 P7 P8 ha1 ha2 ha3
      go_wp2
      exact ⟨⟨i + 1, by omega, by go_num, rfl⟩, by simp [intOf]; omega⟩
    obtain rfl : i = 100 := by omega
    rw [← hN9.out]
    obtain ⟨w1, hw1⟩ : ∃ w1, w1 = (w.alloc (.cells #[.bool false, .string (bs n9), .int .i64 1000] 23)).alloc (.cells #[.bool false, .string ⟨#[49]⟩, .int .i64 0] 23) := ⟨_, rfl⟩
    have HD1 : Hid (Decs w w1 [(w.heap.size + 1, ⟨false, [49], 0⟩), (w.heap.size, ⟨false, n9, 1000⟩)]) := Lib.hid (by
      subst hw1
      have h0 : Decs w w [] := ⟨Below.refl _ _, fun i b d hi => by simp at hi⟩
      have h3 := (h0.var false n9 1000).var false [49] 0
      rw [show (w.alloc (.cells #[.bool false, .string (bs n9), .int .i64 1000] 23)).heap.size = w.heap.size + 1 by simp] at h3
      exact h3)
    go_upto_region 8 with fail
    rw [← hw1]
    clear hw1
    go_wp2_with fail
    refine (P1.out _ (HT.out.below HD1.out.below)).mono ?_
    rintro e w101 ⟨rfl, hb102⟩
    have HD103 := Lib.hid (HD1.out.call hb102)
    clear hb102 HD1
    obtain ⟨w104, hw105⟩ : ∃ w9, w9 = w101.alloc (.cells #[.bool false, .string (bs n9), .int .i64 1000] 23) := ⟨_, rfl⟩
    have HD106 : Hid (Decs w w104 [(w101.heap.size, ⟨false, n9, 1000⟩), (w.heap.size + 1, ⟨false, [49], 0⟩), (w.heap.size, ⟨false, n9, 1000⟩)]) := Lib.hid (by rw [hw105]; exact HD103.out.var false n9 1000)
    clear HD103
    go_upto_region 9 with fail
    rw [← hw105]
    clear hw105
    go_wp2_with fail
    refine (P2.out _ (HT.out.below HD106.out.below)).mono ?_
    rintro e w107 ⟨rfl, hb108⟩
    have HD109 := Lib.hid (HD106.out.call hb108)
    clear hb108 HD106
    obtain ⟨w110, hw111⟩ : ∃ w9, w9 = w107.alloc (.cells #[.bool false, .string (bs []), .int .i64 0] 23) := ⟨_, rfl⟩
    have HD112 : Hid (Decs w w110 [(w107.heap.size, ⟨false, [], 0⟩), (w101.heap.size, ⟨false, n9, 1000⟩), (w.heap.size + 1, ⟨false, [49], 0⟩), (w.heap.size, ⟨false, n9, 1000⟩)]) := Lib.hid (by rw [hw111]; exact HD109.out.var false [] 0)
    clear HD109
    go_upto_region 10 with fail
    rw [← hw111]
    clear hw111
    go_wp2_with fail
    refine (P3.out _ (HT.out.below HD112.out.below)).mono ?_
    rintro e w113 ⟨rfl, hb114⟩
    have HD115 := Lib.hid (HD112.out.call hb114)
    clear hb114 HD112
    obtain ⟨w116, hw117⟩ : ∃ w9, w9 = w113.alloc (.cells #[.bool false, .string (bs []), .int .i64 0] 23) := ⟨_, rfl⟩
    have HD118 : Hid (Decs w w116 [(w113.heap.size, ⟨false, [], 0⟩), (w107.heap.size, ⟨false, [], 0⟩), (w101.heap.size, ⟨false, n9, 1000⟩), (w.heap.size + 1, ⟨false, [49], 0⟩), (w.heap.size, ⟨false, n9, 1000⟩)]) := Lib.hid (by rw [hw117]; exact HD115.out.var false [] 0)
    clear HD115
    go_upto_region 11 with fail
    rw [← hw117]
    clear hw117
    have f119 : w116.cell? ⟨w.heap.size, 0, none⟩ = some (.bool false) := HD118.out.c0 (i := 4) (b := w.heap.size) (d := ⟨false, n9, 1000⟩) rfl
    have f120 : w116.cell? ⟨w.heap.size, 1, none⟩ = some (.string (bs n9)) := HD118.out.c1 (i := 4) (b := w.heap.size) (d := ⟨false, n9, 1000⟩) rfl
    have f121 : w116.cell? ⟨w.heap.size, 2, none⟩ = some (.int .i64 1000) := HD118.out.c2 (i := 4) (b := w.heap.size) (d := ⟨false, n9, 1000⟩) rfl
    go_wp2_with fail
    refine (S4.out _ (HT.out.below HD118.out.below)).mono ?_
    rintro e w122 ⟨rfl, hb123⟩
    have HD124 := Lib.hid (HD118.out.call hb123)
    clear hb123 HD118 f119 f120 f121
    obtain ⟨w125, hw126⟩ : ∃ w9, w9 = w122.alloc (.cells #[.bool false, .string (bs []), .int .i64 0] 23) := ⟨_, rfl⟩
    have HD127 : Hid (Decs w w125 [(w122.heap.size, ⟨false, [], 0⟩), (w113.heap.size, ⟨false, [], 0⟩), (w107.heap.size, ⟨false, [], 0⟩), (w101.heap.size, ⟨false, n9, 1000⟩), (w.heap.size + 1, ⟨false, [49], 0⟩), (w.heap.size, ⟨false, n9, 1000⟩)]) := Lib.hid (by rw [hw126]; exact HD124.out.var false [] 0)
    clear HD124
    go_upto_region 12 with fail
    rw [← hw126]
    clear hw126
    have f128 : w125.cell? ⟨w.heap.size, 0, none⟩ = some (.bool false) := HD127.out.c0 (i := 5) (b := w.heap.size) (d := ⟨false, n9, 1000⟩) rfl
    have f129 : w125.cell? ⟨w.heap.size, 1, none⟩ = some (.string (bs n9)) := HD127.out.c1 (i := 5) (b := w.heap.size) (d := ⟨false, n9, 1000⟩) rfl
    have f130 : w125.cell? ⟨w.heap.size, 2, none⟩ = some (.int .i64 1000) := HD127.out.c2 (i := 5) (b := w.heap.size) (d := ⟨false, n9, 1000⟩) rfl
    go_wp2_with fail
    refine (S5.out _ (HT.out.below HD127.out.below)).mono ?_
    rintro e w131 ⟨rfl, hb132⟩
    have HD133 := Lib.hid (HD127.out.call hb132)
    clear hb132 HD127 f128 f129 f130
    obtain ⟨w134, hw135⟩ : ∃ w9, w9 = w131.alloc (.cells #[.bool false, .string (bs []), .int .i64 0] 23) := ⟨_, rfl⟩
    have HD136 : Hid (Decs w w134 [(w131.heap.size, ⟨false, [], 0⟩), (w122.heap.size, ⟨false, [], 0⟩), (w113.heap.size, ⟨false, [], 0⟩), (w107.heap.size, ⟨false, [], 0⟩), (w101.heap.size, ⟨false, n9, 1000⟩), (w.heap.size + 1, ⟨false, [49], 0⟩), (w.heap.size, ⟨false, n9, 1000⟩)]) := Lib.hid (by rw [hw135]; exact HD133.out.var false [] 0)
    clear HD133
    go_upto_region 13 with fail
    rw [← hw135]
    clear hw135
    have f137 : w134.cell? ⟨w.heap.size, 0, none⟩ = some (.bool false) := HD136.out.c0 (i := 6) (b := w.heap.size) (d := ⟨false, n9, 1000⟩) rfl
    have f138 : w134.cell? ⟨w.heap.size, 1, none⟩ = some (.string (bs n9)) := HD136.out.c1 (i := 6) (b := w.heap.size) (d := ⟨false, n9, 1000⟩) rfl
    have f139 : w134.cell? ⟨w.heap.size, 2, none⟩ = some (.int .i64 1000) := HD136.out.c2 (i := 6) (b := w.heap.size) (d := ⟨false, n9, 1000⟩) rfl
    have f140 : w134.cell? ⟨w.heap.size + 1, 0, none⟩ = some (.bool false) := HD136.out.c0 (i := 5) (b := w.heap.size + 1) (d := ⟨false, [49], 0⟩) rfl
    have f141 : w134.cell? ⟨w.heap.size + 1, 1, none⟩ = some (.string (bs [49])) := HD136.out.c1 (i := 5) (b := w.heap.size + 1) (d := ⟨false, [49], 0⟩) rfl
    have f142 : w134.cell? ⟨w.heap.size + 1, 2, none⟩ = some (.int .i64 0) := HD136.out.c2 (i := 5) (b := w.heap.size + 1) (d := ⟨false, [49], 0⟩) rfl
    go_wp2_with fail
    refine (S6.out _ (HT.out.below HD136.out.below)).mono ?_
    rintro e w143 ⟨rfl, hb144⟩
    have HD145 := Lib.hid (HD136.out.call hb144)
    clear hb144 HD136 f137 f138 f139 f140 f141 f142
    obtain ⟨w146, hw147⟩ : ∃ w9, w9 = w143.alloc (.cells #[.bool false, .string (bs [49]), .int .i64 0] 23) := ⟨_, rfl⟩
    have HD148 : Hid (Decs w w146 [(w143.heap.size, ⟨false, [49], 0⟩), (w131.heap.size, ⟨false, [], 0⟩), (w122.heap.size, ⟨false, [], 0⟩), (w113.heap.size, ⟨false, [], 0⟩), (w107.heap.size, ⟨false, [], 0⟩), (w101.heap.size, ⟨false, n9, 1000⟩), (w.heap.size + 1, ⟨false, [49], 0⟩), (w.heap.size, ⟨false, n9, 1000⟩)]) := Lib.hid (by rw [hw147]; exact HD145.out.var false [49] 0)
    clear HD145
    go_upto_region 14 with fail
    rw [← hw147]
    clear hw147
    obtain ⟨wz, hwz⟩ : ∃ wz, wz = w146.alloc (.cells (u8s (List.replicate NN 0)).toArray 5) := ⟨_, rfl⟩
    have HRZ : Hid (Row wz w146.heap.size 5 (u8s (zeros 0 ++ List.replicate (NN - 0) 0)).toArray) := Lib.hid (by subst hwz; exact Row.new _ _ _)
    have HDZ : Hid (Decs w wz [(w143.heap.size, ⟨false, [49], 0⟩), (w131.heap.size, ⟨false, [], 0⟩), (w122.heap.size, ⟨false, [], 0⟩), (w113.heap.size, ⟨false, [], 0⟩), (w107.heap.size, ⟨false, [], 0⟩), (w101.heap.size, ⟨false, n9, 1000⟩), (w.heap.size + 1, ⟨false, [49], 0⟩), (w.heap.size, ⟨false, n9, 1000⟩)]) := Lib.hid (by subst hwz; exact HD148.out.call ((Below.refl _ _).alloc (Nat.le_refl _) _))
    have HNE : Hid (∀ q ∈ ([(w143.heap.size, ⟨false, [49], 0⟩), (w131.heap.size, ⟨false, [], 0⟩), (w122.heap.size, ⟨false, [], 0⟩), (w113.heap.size, ⟨false, [], 0⟩), (w107.heap.size, ⟨false, [], 0⟩), (w101.heap.size, ⟨false, n9, 1000⟩), (w.heap.size + 1, ⟨false, [49], 0⟩), (w.heap.size, ⟨false, n9, 1000⟩)] : List (Nat × Dec)), q.1 ≠ w146.heap.size) := Lib.hid HD148.out.lt
    have HWZ : Hid (w.heap.size ≤ w146.heap.size) := Lib.hid HD148.out.below.size
    go_upto_region 15 with (
          skip
          refine wpList_make_u8 ?_ 43 5 (.const (.int .i64 1000)) ?_ NN ?_ Tryd.underlying43 infoU8 (by rw [HNN.out]; decide) ?_
          · with_reducible rfl
          · with_reducible rfl
          · exact congrArg (Value.int .i64) (by rw [HNN.out]; rfl))
    rw [← hwz]
    clear hwz HD148
    obtain ⟨G, hG⟩ : ∃ G, G = w146.heap.size := ⟨_, rfl⟩
    rw [← hG] at HRZ HNE HWZ ⊢
    clear hG
    go_wp2_with fail
    go_loopw [18] (fun v18 wr => ∃ j : Nat, j ≤ NN ∧ v18 = .int .i64 j ∧ Hid (Row wr G 5 (u8s (zeros j ++ List.replicate (NN - j) 0)).toArray ∧ Decs w wr [(w143.heap.size, ⟨false, [49], 0⟩), (w131.heap.size, ⟨false, [], 0⟩), (w122.heap.size, ⟨false, [], 0⟩), (w113.heap.size, ⟨false, [], 0⟩), (w107.heap.size, ⟨false, [], 0⟩), (w101.heap.size, ⟨false, n9, 1000⟩), (w.heap.size + 1, ⟨false, [49], 0⟩), (w.heap.size, ⟨false, n9, 1000⟩)])) (fun v18 _ => NN - (intOf v18).toNat)
    case atStart => exact ⟨0, Nat.zero_le _, rfl, Lib.hid ⟨HRZ.out, HDZ.out⟩⟩
    case round =>
      obtain ⟨j, hj, rfl, HR⟩ := hrel
      have hlen : (zeros j ++ List.replicate (NN - j) (0 : UInt8)).length = NN := by rw [List.length_append, zlen, List.length_replicate]; omega
      have hNb : NN ≤ 1000 := by rw [HNN.out]; exact Nat.le_refl _
      by_cases hlt2 : j < NN
      · have kc := HR.out.1.cell (i := j) (v := .int .u8 (((zeros j ++ List.replicate (NN - j) (0 : UInt8)).getD j 0).toNat : Int)) (by rw [List.getElem?_toArray]; exact u8s_get _ (by rw [hlen]; exact hlt2))
        have fc := HR.out.1.free j
        have HROW := Lib.hid (HR.out.1.set_ j (.int .u8 ((48 : UInt8).toNat : Int)))
        rw [u8s_set, zeros_step NN j hlt2] at HROW
        have HBL := Lib.hid (HR.out.2.set_ ⟨G, j, none⟩ HWZ.out HNE.out (.int .u8 ((48 : UInt8).toNat : Int)))
        clear hlen
        generalize ((zeros j ++ List.replicate (NN - j) (0 : UInt8)).getD j 0).toNat = z at *
        go_wp2
        exact ⟨⟨j + 1, by omega, by go_num, Lib.hid ⟨HROW.out, HBL.out⟩⟩, by simp [intOf]; omega⟩
      obtain rfl : j = NN := by omega
      have hrow : Row wr G 5 (u8s (zeros j)).toArray := by have := HR.out.1; rwa [Nat.sub_self, List.replicate_zero, List.append_nil] at this
      have hj1 : 1 < j := by rw [HNN.out]; decide
      have kc := hrow.cell (i := 1) (v := .int .u8 (((zeros j).getD 1 0).toNat : Int)) (by rw [List.getElem?_toArray]; exact u8s_get _ (by rw [zlen]; exact hj1))
      have fc := hrow.free 1
      have hrow2 := hrow.set_ 1 (.int .u8 ((46 : UInt8).toNat : Int))
      rw [u8s_set] at hrow2
      have HDY := Lib.hid (HR.out.2.set_ ⟨G, 1, none⟩ HWZ.out HNE.out (.int .u8 ((46 : UInt8).toNat : Int)))
      have hZl : ((zeros j).set 1 46).length = j := by rw [List.length_set, zlen]
      obtain ⟨wy, hwy⟩ : ∃ wy, wy = wr.setCell ⟨G, 1, none⟩ (.int .u8 ((46 : UInt8).toNat : Int)) := ⟨_, rfl⟩
      rw [← hwy] at hrow2 HDY
      have ha8 : ∀ W, (Op.stringOp .add (bs ((zeros j).set 1 46)) ⟨#[48]⟩).run Tryd.prog W = .ok (.string (bs ((zeros j).set 1 46 ++ [48]))) W := fun W => run_add_bs W _ [48] (by rw [hZl]; simp; omega)
      generalize (zeros j).set 1 46 ++ [48] = Z2 at *
      generalize (zeros j).set 1 46 = Z at *
      generalize ((zeros j).getD 1 0).toNat = z1 at *
      have HRY := Lib.hid hrow2
      have hcvG : Hid (∀ W, Row W G 5 (u8s Z).toArray → (convert 43 9 (.slice (some ⟨G, 0, none⟩) j j)).run Tryd.prog W = .ok (.string (bs Z)) W) := Lib.hid (fun W hr => by
        have hh : Holds W (some ⟨G, 0, none⟩) Z.length 1 (u8s Z) := ⟨by rw [u8s_length, Nat.mul_one], fun _ => ⟨G, 0, rfl, hr.lt, fun i v hv => by rw [Nat.zero_add]; exact hr.cell (by rw [List.getElem?_toArray]; exact hv)⟩⟩
        have := run_text_bs hh 43 9 5 j Tryd.underlying43 Tryd.underlying5 Tryd.underlying9
        rwa [hZl] at this)
      clear hrow hrow2 hlen HR HDZ HRZ
      go_upto_region 20 with fail
      rw [show ((46 : UInt8).toNat : Int) = 46 by rfl] at hwy
      rw [← hwy]
      clear hwy kc fc
      have hcv := hcvG.out _ HRY.out
      go_wp2_with fail
      refine (P7.out _ (HT.out.below HDY.out.below)).mono ?_
      rintro e w149 ⟨rfl, hb150⟩
      have HRY2 := Lib.hid (HRY.out.call hb150)
      have HD151 := Lib.hid (HDY.out.call hb150)
      clear hb150 HDY
      obtain ⟨w152, hw153⟩ : ∃ w9, w9 = w149.alloc (.cells #[.bool false, .string (bs []), .int .i64 0] 23) := ⟨_, rfl⟩
      have HD154 : Hid (Decs w w152 [(w149.heap.size, ⟨false, [], 0⟩), (w143.heap.size, ⟨false, [49], 0⟩), (w131.heap.size, ⟨false, [], 0⟩), (w122.heap.size, ⟨false, [], 0⟩), (w113.heap.size, ⟨false, [], 0⟩), (w107.heap.size, ⟨false, [], 0⟩), (w101.heap.size, ⟨false, n9, 1000⟩), (w.heap.size + 1, ⟨false, [49], 0⟩), (w.heap.size, ⟨false, n9, 1000⟩)]) := Lib.hid (by rw [hw153]; exact HD151.out.var false [] 0)
      clear HD151
      have HRY3 : Hid (Row w152 G 5 (u8s Z).toArray) := Lib.hid (by rw [hw153]; exact HRY2.out.alloc _)
      go_upto_region 21 with fail
      rw [← hw153]
      clear hw153
      clear hcv
      have hcv := hcvG.out _ HRY3.out
      go_wp2_with fail
      refine (P8.out _ (HT.out.below HD154.out.below)).mono ?_
      rintro e w155 ⟨rfl, hb156⟩
      have HD157 := Lib.hid (HD154.out.call hb156)
      clear hb156 HD154
      obtain ⟨w158, hw159⟩ : ∃ w9, w9 = w155.alloc (.cells #[.bool false, .string (bs []), .int .i64 0] 23) := ⟨_, rfl⟩
      have HD160 : Hid (Decs w w158 [(w155.heap.size, ⟨false, [], 0⟩), (w149.heap.size, ⟨false, [], 0⟩), (w143.heap.size, ⟨false, [49], 0⟩), (w131.heap.size, ⟨false, [], 0⟩), (w122.heap.size, ⟨false, [], 0⟩), (w113.heap.size, ⟨false, [], 0⟩), (w107.heap.size, ⟨false, [], 0⟩), (w101.heap.size, ⟨false, n9, 1000⟩), (w.heap.size + 1, ⟨false, [49], 0⟩), (w.heap.size, ⟨false, n9, 1000⟩)]) := Lib.hid (by rw [hw159]; exact HD157.out.var false [] 0)
      clear HD157
      go_upto_region 22 with fail
      rw [← hw159]
      clear hw159
      have f161 : w158.cell? ⟨w.heap.size, 0, none⟩ = some (.bool false) := HD160.out.c0 (i := 9) (b := w.heap.size) (d := ⟨false, n9, 1000⟩) rfl
      have f162 : w158.cell? ⟨w.heap.size, 1, none⟩ = some (.string (bs n9)) := HD160.out.c1 (i := 9) (b := w.heap.size) (d := ⟨false, n9, 1000⟩) rfl
      have f163 : w158.cell? ⟨w.heap.size, 2, none⟩ = some (.int .i64 1000) := HD160.out.c2 (i := 9) (b := w.heap.size) (d := ⟨false, n9, 1000⟩) rfl
      go_wp2_with fail
      refine (M9.out _ (HT.out.below HD160.out.below)).mono ?_
      rintro e w164 ⟨rfl, hb165⟩
      have HD166 := Lib.hid (HD160.out.call hb165)
      clear hb165 HD160 f161 f162 f163
      obtain ⟨w167, hw168⟩ : ∃ w9, w9 = w164.alloc (.cells #[.bool false, .string (bs []), .int .i64 0] 23) := ⟨_, rfl⟩
      have HD169 : Hid (Decs w w167 [(w164.heap.size, ⟨false, [], 0⟩), (w155.heap.size, ⟨false, [], 0⟩), (w149.heap.size, ⟨false, [], 0⟩), (w143.heap.size, ⟨false, [49], 0⟩), (w131.heap.size, ⟨false, [], 0⟩), (w122.heap.size, ⟨false, [], 0⟩), (w113.heap.size, ⟨false, [], 0⟩), (w107.heap.size, ⟨false, [], 0⟩), (w101.heap.size, ⟨false, n9, 1000⟩), (w.heap.size + 1, ⟨false, [49], 0⟩), (w.heap.size, ⟨false, n9, 1000⟩)]) := Lib.hid (by rw [hw168]; exact HD166.out.var false [] 0)
      clear HD166
      go_upto_region 23 with fail
      rw [← hw168]
      clear hw168
      have ht0 : (bs []).toList = [] := bs_toList []
      have f170 : w167.cell? ⟨w101.heap.size, 0, none⟩ = some (.bool false) := HD169.out.c0 (i := 8) (b := w101.heap.size) (d := ⟨false, n9, 1000⟩) rfl
      have f171 : w167.cell? ⟨w101.heap.size, 1, none⟩ = some (.string (bs n9)) := HD169.out.c1 (i := 8) (b := w101.heap.size) (d := ⟨false, n9, 1000⟩) rfl
      have f172 : w167.cell? ⟨w101.heap.size, 2, none⟩ = some (.int .i64 1000) := HD169.out.c2 (i := 8) (b := w101.heap.size) (d := ⟨false, n9, 1000⟩) rfl
      have f173 : w167.cell? ⟨w.heap.size, 0, none⟩ = some (.bool false) := HD169.out.c0 (i := 10) (b := w.heap.size) (d := ⟨false, n9, 1000⟩) rfl
      have f174 : w167.cell? ⟨w.heap.size, 1, none⟩ = some (.string (bs n9)) := HD169.out.c1 (i := 10) (b := w.heap.size) (d := ⟨false, n9, 1000⟩) rfl
      have f175 : w167.cell? ⟨w.heap.size, 2, none⟩ = some (.int .i64 1000) := HD169.out.c2 (i := 10) (b := w.heap.size) (d := ⟨false, n9, 1000⟩) rfl
      have f176 : w167.cell? ⟨w122.heap.size, 0, none⟩ = some (.bool false) := HD169.out.c0 (i := 5) (b := w122.heap.size) (d := ⟨false, [], 0⟩) rfl
      have f177 : w167.cell? ⟨w122.heap.size, 1, none⟩ = some (.string (bs [])) := HD169.out.c1 (i := 5) (b := w122.heap.size) (d := ⟨false, [], 0⟩) rfl
      have f178 : w167.cell? ⟨w122.heap.size, 2, none⟩ = some (.int .i64 0) := HD169.out.c2 (i := 5) (b := w122.heap.size) (d := ⟨false, [], 0⟩) rfl
      have f179 : w167.cell? ⟨w143.heap.size, 0, none⟩ = some (.bool false) := HD169.out.c0 (i := 3) (b := w143.heap.size) (d := ⟨false, [49], 0⟩) rfl
      have f180 : w167.cell? ⟨w143.heap.size, 1, none⟩ = some (.string (bs [49])) := HD169.out.c1 (i := 3) (b := w143.heap.size) (d := ⟨false, [49], 0⟩) rfl
      have f181 : w167.cell? ⟨w143.heap.size, 2, none⟩ = some (.int .i64 0) := HD169.out.c2 (i := 3) (b := w143.heap.size) (d := ⟨false, [49], 0⟩) rfl
      have f182 : w167.cell? ⟨w.heap.size + 1, 0, none⟩ = some (.bool false) := HD169.out.c0 (i := 9) (b := w.heap.size + 1) (d := ⟨false, [49], 0⟩) rfl
      have f183 : w167.cell? ⟨w.heap.size + 1, 1, none⟩ = some (.string (bs [49])) := HD169.out.c1 (i := 9) (b := w.heap.size + 1) (d := ⟨false, [49], 0⟩) rfl
      have f184 : w167.cell? ⟨w.heap.size + 1, 2, none⟩ = some (.int .i64 0) := HD169.out.c2 (i := 9) (b := w.heap.size + 1) (d := ⟨false, [49], 0⟩) rfl
      have f185 : w167.cell? ⟨w149.heap.size, 0, none⟩ = some (.bool false) := HD169.out.c0 (i := 2) (b := w149.heap.size) (d := ⟨false, [], 0⟩) rfl
      have f186 : w167.cell? ⟨w149.heap.size, 1, none⟩ = some (.string (bs [])) := HD169.out.c1 (i := 2) (b := w149.heap.size) (d := ⟨false, [], 0⟩) rfl
      have f187 : w167.cell? ⟨w149.heap.size, 2, none⟩ = some (.int .i64 0) := HD169.out.c2 (i := 2) (b := w149.heap.size) (d := ⟨false, [], 0⟩) rfl
      go_wp2_with (refine (num_ok _ _).mono ?_; rintro e9 w9 ⟨rfl, rfl⟩)
      refine (HWK.out _ (HT.out.below HD169.out.below)).mono ?_
      rintro e wq ⟨rfl, hbq⟩
      have HBQ := Lib.hid (Below.call HD169.out.below hbq)
      clear hbq
      go_wp2
      go_ret
      exact ⟨rfl, HBQ.out⟩
end Go.Proofs.YtkbkappbplocoaaDoor
