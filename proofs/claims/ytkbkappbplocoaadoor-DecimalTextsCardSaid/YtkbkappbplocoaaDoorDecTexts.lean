/- Layer 7: the walk of DecimalTexts. -/
import Derived.Test.YtkbkappbplocoaaDoorDecRefS
import Derived.Test.YtkbkappbplocoaaDoorDecRefT
import Derived.Test.YtkbkappbplocoaaDoorDecBack
namespace Go.Proofs.YtkbkappbplocoaaDoor
open Go.RowKit

set_option maxHeartbeats 4000000 in
theorem texts_law (t : List UInt8) (d : Dec) (w : World) (ht : t.length ≤ 9223372036854775807) (hd : d.digits.length ≤ 9223372036854775807) (hT : PowTab w) :
    Calls Tryd.prog 3 #[.string (bs t), decV d] w fun e w' => e = .returned (.bool true) ∧ Below w.heap.size w w' := by
  have HT := Lib.hid hT
  have HWK := Lib.hid (fun W h => works_ok W h)
  have HPT := Lib.hid (fun W h => parse_ok t W h)
  have HRP : Hid (t.length ≤ 3000 → ∀ W, Calls Tryd.prog 12 #[.string (bs t)] W (Told W (parseD t) (parseE t))) := Lib.hid (fun h W => refparse_ok t W (by omega))
  have HLG := Lib.hid (fun b W h => long_ok (some ⟨b, 0, none⟩) 1 1 [d] W rfl (by decide) h (fun x hx => by rw [List.mem_singleton] at hx; subst hx; omega))
  have HME : Hid (mayB d = true → May d) := Lib.hid (mayB_iff d).1
  have hts := bs_size t
  obtain ⟨⟨xn, xl, xx⟩, hd2⟩ : ∃ d2, d2 = parseD t := ⟨_, rfl⟩
  obtain ⟨k, hk⟩ : ∃ k, k = parseE t := ⟨_, rfl⟩
  rw [← hd2, ← hk] at HPT HRP
  clear hd2 hk
  obtain ⟨neg, l, x⟩ := d
  unfold Told at HPT HRP
  unfold decV at HPT HRP ⊢
  simp only at HPT HRP hd ⊢
  obtain ⟨w1, hw1⟩ : ∃ w1, w1 = w.alloc (.cells #[.bool neg, .string (bs l), .int .i64 x] 23) := ⟨_, rfl⟩
  have HD1 : Hid (Decs w w1 [(w.heap.size, ⟨neg, l, x⟩)]) := Lib.hid (by subst hw1; exact Decs.one ((Below.refl _ _).alloc (Nat.le_refl _) _) (Row.new _ _ _))
  clear hT
  generalize hS : bs t = S at *
  go_enter Tryd.func3, Tryd.ntmps3
  go_upto_region 1 with fail
  rw [← hw1]
  clear hw1
  have c0 := HD1.out.c0 (i := 0) rfl
  have c1 := HD1.out.c1 (i := 0) rfl
  have c2 := HD1.out.c2 (i := 0) rfl
  simp only at c0 c1 c2
  by_cases g1 : 3000 < t.length
  · go_wp2_with fail
    refine (HWK.out _ (HT.out.below HD1.out.below)).mono ?_
    rintro e wz ⟨rfl, hbz⟩
    have HBZ := Lib.hid (HD1.out.below.call hbz)
    clear hbz
    go_wp2
    go_ret
    exact ⟨rfl, HBZ.out⟩
  obtain ⟨w2, hw2⟩ : ∃ w2, w2 = w1.alloc (.cells #[.bool neg, .string (bs l), .int .i64 x] 23) := ⟨_, rfl⟩
  have HRS : Hid (Row w2 w1.heap.size 23 #[.bool neg, .string (bs l), .int .i64 x]) := Lib.hid (by subst hw2; exact Row.new _ _ _)
  have HD2 : Hid (Decs w w2 [(w.heap.size, ⟨neg, l, x⟩)]) := Lib.hid (by subst hw2; exact HD1.out.call ((Below.refl _ _).alloc (Nat.le_refl _) _))
  go_wp2_with fail
  rw [← hw2]
  clear hw2 c0 c1 c2 HD1
  refine (HLG.out _ _ (one_holds HRS.out rfl)).mono ?_
  rintro e w3 ⟨rfl, rfl⟩
  have HLB : Hid (longB [⟨neg, l, x⟩] = decide (1000 < l.length)) := Lib.hid (by simp [longB])
  rw [HLB.out]
  clear HLG HRS HLB
  by_cases g2 : 1000 < l.length
  · rw [decide_eq_true g2]
    go_wp2_with fail
    refine (HWK.out _ (HT.out.below HD2.out.below)).mono ?_
    rintro e wz ⟨rfl, hbz⟩
    have HBZ := Lib.hid (HD2.out.below.call hbz)
    clear hbz
    go_wp2
    go_ret
    exact ⟨rfl, HBZ.out⟩
  rw [decide_eq_false g2]
  have HR2 := Lib.hid (HRP.out (by omega))
  have HTX := Lib.hid (fun W h => text_ok ⟨neg, l, x⟩ W h (by simp only; omega))
  have HCK := Lib.hid (fun W => check_ok ⟨neg, l, x⟩ W (by simp only; omega))
  have HMY := Lib.hid (fun W => may_ok ⟨neg, l, x⟩ W (by simp only; omega))
  have HRT := Lib.hid (fun (h : mayB ⟨neg, l, x⟩ = true) W h2 => reftext_ok ⟨neg, l, x⟩ W h2 (HME.out h))
  unfold TextPost at HTX
  unfold decV at HTX HCK HMY HRT
  simp only at HTX HCK HMY HRT
  clear HRP
  cases hm : mayB ⟨neg, l, x⟩
  · have HE : txL ⟨neg, l, x⟩ = [] := by unfold txL; rw [hm]; rfl
    rw [checkE_no hm, HE] at HTX
    rw [checkE_no hm] at HCK
    rw [hm] at HMY
    clear hm HE HRT HME
    go_wp2_with fail
    refine (HPT.out _ (HT.out.below HD2.out.below)).mono ?_
    rintro e w101 ⟨rfl, hb102⟩
    have HD103 := Lib.hid (HD2.out.call hb102)
    clear hb102 HD2
    obtain ⟨w104, hw105⟩ : ∃ w9, w9 = w101.alloc (.cells #[.bool xn, .string (bs xl), .int .i64 xx] 23) := ⟨_, rfl⟩
    have HD106 : Hid (Decs w w104 [(w101.heap.size, ⟨xn, xl, xx⟩), (w.heap.size, ⟨neg, l, x⟩)]) := Lib.hid (by rw [hw105]; exact HD103.out.var xn xl xx)
    clear HD103
    go_upto_region 4 with fail
    rw [← hw105]
    clear hw105
    go_wp2_with fail
    refine (HR2.out _).mono ?_
    rintro e w107 ⟨rfl, hb108⟩
    have HD109 := Lib.hid (HD106.out.call hb108)
    clear hb108 HD106
    obtain ⟨w110, hw111⟩ : ∃ w9, w9 = w107.alloc (.cells #[.bool xn, .string (bs xl), .int .i64 xx] 23) := ⟨_, rfl⟩
    have HD112 : Hid (Decs w w110 [(w107.heap.size, ⟨xn, xl, xx⟩), (w101.heap.size, ⟨xn, xl, xx⟩), (w.heap.size, ⟨neg, l, x⟩)]) := Lib.hid (by rw [hw111]; exact HD109.out.var xn xl xx)
    clear HD109
    go_upto_region 5 with fail
    rw [← hw111]
    clear hw111
    have f113 : w110.cell? ⟨w.heap.size, 0, none⟩ = some (.bool neg) := HD112.out.c0 (i := 2) (b := w.heap.size) (d := ⟨neg, l, x⟩) rfl
    have f114 : w110.cell? ⟨w.heap.size, 1, none⟩ = some (.string (bs l)) := HD112.out.c1 (i := 2) (b := w.heap.size) (d := ⟨neg, l, x⟩) rfl
    have f115 : w110.cell? ⟨w.heap.size, 2, none⟩ = some (.int .i64 x) := HD112.out.c2 (i := 2) (b := w.heap.size) (d := ⟨neg, l, x⟩) rfl
    go_wp2_with fail
    refine (HTX.out _ (HT.out.below HD112.out.below)).mono ?_
    rintro e w116 ⟨rfl, hb117⟩
    have HD118 := Lib.hid (HD112.out.call hb117)
    clear hb117 HD112 f113 f114 f115
    have f119 : w116.cell? ⟨w101.heap.size, 0, none⟩ = some (.bool xn) := HD118.out.c0 (i := 1) (b := w101.heap.size) (d := ⟨xn, xl, xx⟩) rfl
    have f120 : w116.cell? ⟨w101.heap.size, 1, none⟩ = some (.string (bs xl)) := HD118.out.c1 (i := 1) (b := w101.heap.size) (d := ⟨xn, xl, xx⟩) rfl
    have f121 : w116.cell? ⟨w101.heap.size, 2, none⟩ = some (.int .i64 xx) := HD118.out.c2 (i := 1) (b := w101.heap.size) (d := ⟨xn, xl, xx⟩) rfl
    have f122 : w116.cell? ⟨w107.heap.size, 0, none⟩ = some (.bool xn) := HD118.out.c0 (i := 0) (b := w107.heap.size) (d := ⟨xn, xl, xx⟩) rfl
    have f123 : w116.cell? ⟨w107.heap.size, 1, none⟩ = some (.string (bs xl)) := HD118.out.c1 (i := 0) (b := w107.heap.size) (d := ⟨xn, xl, xx⟩) rfl
    have f124 : w116.cell? ⟨w107.heap.size, 2, none⟩ = some (.int .i64 xx) := HD118.out.c2 (i := 0) (b := w107.heap.size) (d := ⟨xn, xl, xx⟩) rfl
    have f125 : w116.cell? ⟨w.heap.size, 0, none⟩ = some (.bool neg) := HD118.out.c0 (i := 2) (b := w.heap.size) (d := ⟨neg, l, x⟩) rfl
    have f126 : w116.cell? ⟨w.heap.size, 1, none⟩ = some (.string (bs l)) := HD118.out.c1 (i := 2) (b := w.heap.size) (d := ⟨neg, l, x⟩) rfl
    have f127 : w116.cell? ⟨w.heap.size, 2, none⟩ = some (.int .i64 x) := HD118.out.c2 (i := 2) (b := w.heap.size) (d := ⟨neg, l, x⟩) rfl
    go_wp2_with (refine (num_ok _ _).mono ?_; rintro e9 w9 ⟨rfl, rfl⟩)
    refine (HMY.out _).mono ?_
    rintro e w128 ⟨rfl, hb129⟩
    have HD130 := Lib.hid (HD118.out.call hb129)
    clear hb129 HD118 f119 f120 f121 f122 f123 f124 f125 f126 f127
    have f131 : w128.cell? ⟨w.heap.size, 0, none⟩ = some (.bool neg) := HD130.out.c0 (i := 2) (b := w.heap.size) (d := ⟨neg, l, x⟩) rfl
    have f132 : w128.cell? ⟨w.heap.size, 1, none⟩ = some (.string (bs l)) := HD130.out.c1 (i := 2) (b := w.heap.size) (d := ⟨neg, l, x⟩) rfl
    have f133 : w128.cell? ⟨w.heap.size, 2, none⟩ = some (.int .i64 x) := HD130.out.c2 (i := 2) (b := w.heap.size) (d := ⟨neg, l, x⟩) rfl
    have ht0 : (bs []).toList = [] := bs_toList []
    go_wp2_with fail
    refine (HCK.out _).mono ?_
    rintro e w134 ⟨rfl, hb135⟩
    have HD136 := Lib.hid (HD130.out.call hb135)
    clear hb135 HD130 f131 f132 f133
    go_wp2_with (refine (num_ok _ _).mono ?_; rintro e9 w9 ⟨rfl, rfl⟩)
    refine (HWK.out _ (HT.out.below HD136.out.below)).mono ?_
    rintro e wz ⟨rfl, hbz⟩
    have HBZ := Lib.hid (Below.call HD136.out.below hbz)
    clear hbz
    go_wp2
    go_ret
    exact ⟨rfl, HBZ.out⟩
  · have HE : txL ⟨neg, l, x⟩ = textL ⟨neg, l, x⟩ := by unfold txL; rw [if_pos hm]
    have HRX := Lib.hid (HRT.out hm)
    rw [checkE_yes hm, HE] at HTX
    rw [checkE_yes hm] at HCK
    generalize bs (textL ⟨neg, l, x⟩) = TT at *
    rw [hm] at HMY
    clear hm HE HRT HME
    go_wp2_with fail
    refine (HPT.out _ (HT.out.below HD2.out.below)).mono ?_
    rintro e w101 ⟨rfl, hb102⟩
    have HD103 := Lib.hid (HD2.out.call hb102)
    clear hb102 HD2
    obtain ⟨w104, hw105⟩ : ∃ w9, w9 = w101.alloc (.cells #[.bool xn, .string (bs xl), .int .i64 xx] 23) := ⟨_, rfl⟩
    have HD106 : Hid (Decs w w104 [(w101.heap.size, ⟨xn, xl, xx⟩), (w.heap.size, ⟨neg, l, x⟩)]) := Lib.hid (by rw [hw105]; exact HD103.out.var xn xl xx)
    clear HD103
    go_upto_region 4 with fail
    rw [← hw105]
    clear hw105
    go_wp2_with fail
    refine (HR2.out _).mono ?_
    rintro e w107 ⟨rfl, hb108⟩
    have HD109 := Lib.hid (HD106.out.call hb108)
    clear hb108 HD106
    obtain ⟨w110, hw111⟩ : ∃ w9, w9 = w107.alloc (.cells #[.bool xn, .string (bs xl), .int .i64 xx] 23) := ⟨_, rfl⟩
    have HD112 : Hid (Decs w w110 [(w107.heap.size, ⟨xn, xl, xx⟩), (w101.heap.size, ⟨xn, xl, xx⟩), (w.heap.size, ⟨neg, l, x⟩)]) := Lib.hid (by rw [hw111]; exact HD109.out.var xn xl xx)
    clear HD109
    go_upto_region 5 with fail
    rw [← hw111]
    clear hw111
    have f113 : w110.cell? ⟨w.heap.size, 0, none⟩ = some (.bool neg) := HD112.out.c0 (i := 2) (b := w.heap.size) (d := ⟨neg, l, x⟩) rfl
    have f114 : w110.cell? ⟨w.heap.size, 1, none⟩ = some (.string (bs l)) := HD112.out.c1 (i := 2) (b := w.heap.size) (d := ⟨neg, l, x⟩) rfl
    have f115 : w110.cell? ⟨w.heap.size, 2, none⟩ = some (.int .i64 x) := HD112.out.c2 (i := 2) (b := w.heap.size) (d := ⟨neg, l, x⟩) rfl
    go_wp2_with fail
    refine (HTX.out _ (HT.out.below HD112.out.below)).mono ?_
    rintro e w116 ⟨rfl, hb117⟩
    have HD118 := Lib.hid (HD112.out.call hb117)
    clear hb117 HD112 f113 f114 f115
    have f119 : w116.cell? ⟨w101.heap.size, 0, none⟩ = some (.bool xn) := HD118.out.c0 (i := 1) (b := w101.heap.size) (d := ⟨xn, xl, xx⟩) rfl
    have f120 : w116.cell? ⟨w101.heap.size, 1, none⟩ = some (.string (bs xl)) := HD118.out.c1 (i := 1) (b := w101.heap.size) (d := ⟨xn, xl, xx⟩) rfl
    have f121 : w116.cell? ⟨w101.heap.size, 2, none⟩ = some (.int .i64 xx) := HD118.out.c2 (i := 1) (b := w101.heap.size) (d := ⟨xn, xl, xx⟩) rfl
    have f122 : w116.cell? ⟨w107.heap.size, 0, none⟩ = some (.bool xn) := HD118.out.c0 (i := 0) (b := w107.heap.size) (d := ⟨xn, xl, xx⟩) rfl
    have f123 : w116.cell? ⟨w107.heap.size, 1, none⟩ = some (.string (bs xl)) := HD118.out.c1 (i := 0) (b := w107.heap.size) (d := ⟨xn, xl, xx⟩) rfl
    have f124 : w116.cell? ⟨w107.heap.size, 2, none⟩ = some (.int .i64 xx) := HD118.out.c2 (i := 0) (b := w107.heap.size) (d := ⟨xn, xl, xx⟩) rfl
    have f125 : w116.cell? ⟨w.heap.size, 0, none⟩ = some (.bool neg) := HD118.out.c0 (i := 2) (b := w.heap.size) (d := ⟨neg, l, x⟩) rfl
    have f126 : w116.cell? ⟨w.heap.size, 1, none⟩ = some (.string (bs l)) := HD118.out.c1 (i := 2) (b := w.heap.size) (d := ⟨neg, l, x⟩) rfl
    have f127 : w116.cell? ⟨w.heap.size, 2, none⟩ = some (.int .i64 x) := HD118.out.c2 (i := 2) (b := w.heap.size) (d := ⟨neg, l, x⟩) rfl
    go_wp2_with (refine (num_ok _ _).mono ?_; rintro e9 w9 ⟨rfl, rfl⟩)
    refine (HMY.out _).mono ?_
    rintro e w128 ⟨rfl, hb129⟩
    have HD130 := Lib.hid (HD118.out.call hb129)
    clear hb129 HD118 f119 f120 f121 f122 f123 f124 f125 f126 f127
    have f131 : w128.cell? ⟨w.heap.size, 0, none⟩ = some (.bool neg) := HD130.out.c0 (i := 2) (b := w.heap.size) (d := ⟨neg, l, x⟩) rfl
    have f132 : w128.cell? ⟨w.heap.size, 1, none⟩ = some (.string (bs l)) := HD130.out.c1 (i := 2) (b := w.heap.size) (d := ⟨neg, l, x⟩) rfl
    have f133 : w128.cell? ⟨w.heap.size, 2, none⟩ = some (.int .i64 x) := HD130.out.c2 (i := 2) (b := w.heap.size) (d := ⟨neg, l, x⟩) rfl
    go_wp2_with fail
    refine (HCK.out _).mono ?_
    rintro e w134 ⟨rfl, hb135⟩
    have HD136 := Lib.hid (HD130.out.call hb135)
    clear hb135 HD130 f131 f132 f133
    have f137 : w134.cell? ⟨w.heap.size, 0, none⟩ = some (.bool neg) := HD136.out.c0 (i := 2) (b := w.heap.size) (d := ⟨neg, l, x⟩) rfl
    have f138 : w134.cell? ⟨w.heap.size, 1, none⟩ = some (.string (bs l)) := HD136.out.c1 (i := 2) (b := w.heap.size) (d := ⟨neg, l, x⟩) rfl
    have f139 : w134.cell? ⟨w.heap.size, 2, none⟩ = some (.int .i64 x) := HD136.out.c2 (i := 2) (b := w.heap.size) (d := ⟨neg, l, x⟩) rfl
    go_wp2_with (refine (num_ok _ _).mono ?_; rintro e9 w9 ⟨rfl, rfl⟩)
    refine (HRX.out _ (HT.out.below HD136.out.below)).mono ?_
    rintro e w140 ⟨rfl, hb141⟩
    have HD142 := Lib.hid (HD136.out.call hb141)
    clear hb141 HD136 f137 f138 f139
    go_wp2_with (refine (num_ok _ _).mono ?_; rintro e9 w9 ⟨rfl, rfl⟩)
    refine (HWK.out _ (HT.out.below HD142.out.below)).mono ?_
    rintro e wz ⟨rfl, hbz⟩
    have HBZ := Lib.hid (Below.call HD142.out.below hbz)
    clear hbz
    go_wp2
    go_ret
    exact ⟨rfl, HBZ.out⟩
end Go.Proofs.YtkbkappbplocoaaDoor
