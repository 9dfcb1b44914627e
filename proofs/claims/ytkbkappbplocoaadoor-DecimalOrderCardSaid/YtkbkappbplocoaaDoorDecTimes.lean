/- Layer 7: the walk of times, which DecimalOrder calls. -/
import Derived.Test.YtkbkappbplocoaaDoorDecLaw1
namespace Go.Proofs.YtkbkappbplocoaaDoor
open Go.RowKit

theorem mulD_comm (a b : Dec) : mulD b a = mulD a b ∧ mulE b a = mulE a b := by
  unfold mulD mulE
  rw [Nat.mul_comm (num b.digits), Int.add_comm b.exp, show (b.neg != a.neg) = (a.neg != b.neg) by cases a.neg <;> cases b.neg <;> rfl]
  exact ⟨rfl, rfl⟩
theorem mul_may (a b : Dec) : May (mulD a b) := mk_may _ _ _
/-- The product goes with the sum. -/
theorem mul_sum {a b c : Dec} (ha : May a) (hb : May b) (hc : May c) (h1 : mulE a b = 0) (h2 : mulE a c = 0) (h3 : erZ 3000 (vl 3000 b + vl 3000 c) = 0) :
    mulD a (ofZ 3000 (vl 3000 b + vl 3000 c)) = ofZ 3000 (vl 3000 (mulD a b) + vl 3000 (mulD a c)) ∧ mulE a (ofZ 3000 (vl 3000 b + vl 3000 c)) = erZ 3000 (vl 3000 (mulD a b) + vl 3000 (mulD a c)) := by
  have hs := ofZ_may 3000 (vl 3000 b + vl 3000 c)
  have e1 := mul_lift (k := 3000) (by omega) ha hb
  have e2 := mul_lift (k := 3000) (by omega) ha hc
  have e3 := mul_lift (k := 3000) (by omega) ha hs
  rw [e1.2] at h1
  rw [e2.2] at h2
  rw [e1.1, e2.1, e3.1, e3.2, vl_ofZ h1, vl_ofZ h2, pr_add (by omega) ha hb hc hs (vl_ofZ h3)]
  exact ⟨rfl, rfl⟩
set_option maxHeartbeats 1000000 in
theorem times_ok (a b c : Dec) (w : World) (hT : PowTab w) (ma : May a) (mb : May b) (mc : May c) :
    Calls Tryd.prog 27 #[decV a, decV b, decV c] w fun e w' => e = .returned (.bool true) ∧ Below w.heap.size w w' := by
  have HT := Lib.hid hT
  have H1 := Lib.hid (mulG ma mb)
  have H2 := Lib.hid (mulG mb ma)
  rw [(mulD_comm a b).1, (mulD_comm a b).2] at H2
  have H3 := Lib.hid (mulG ma mc)
  have H4 := Lib.hid (sumG mb mc)
  have H5 := Lib.hid (mulG ma (ofZ_may 3000 (vl 3000 b + vl 3000 c)))
  have H6 := Lib.hid (sumG (mul_may a b) (mul_may a c))
  have HX := Lib.hid (fun h1 h2 h3 => mul_sum ma mb mc h1 h2 h3)
  clear hT ma mb mc
  generalize ofZ 3000 (vl 3000 (mulD a b) + vl 3000 (mulD a c)) = t at *
  generalize erZ 3000 (vl 3000 (mulD a b) + vl 3000 (mulD a c)) = te at *
  generalize ofZ 3000 (vl 3000 b + vl 3000 c) = s at *
  generalize erZ 3000 (vl 3000 b + vl 3000 c) = se at *
  generalize mulD a s = r at *
  generalize mulE a s = re at *
  generalize mulD a b = p at *
  generalize mulE a b = pe at *
  generalize mulD a c = q at *
  generalize mulE a c = qe at *
  obtain ⟨an, al, ax⟩ := a
  obtain ⟨bn, bl, bx⟩ := b
  obtain ⟨cn, cl, cx⟩ := c
  obtain ⟨pn, pl, px⟩ := p
  obtain ⟨qn, ql, qx⟩ := q
  obtain ⟨sn, sl, sx⟩ := s
  obtain ⟨rn, rl, rx⟩ := r
  obtain ⟨tn, tl, tx⟩ := t
  unfold GivesT at H1 H2 H3 H5
  unfold GivesS at H4 H6
  unfold decV at *
  simp only at H1 H2 H3 H4 H5 H6 ⊢
  obtain ⟨w1, hw1⟩ : ∃ w1, w1 = ((w.alloc (.cells #[.bool an, .string (bs al), .int .i64 ax] 23)).alloc (.cells #[.bool bn, .string (bs bl), .int .i64 bx] 23)).alloc (.cells #[.bool cn, .string (bs cl), .int .i64 cx] 23) := ⟨_, rfl⟩
  have HD1 : Hid (Decs w w1 [(w.heap.size + 1 + 1, ⟨cn, cl, cx⟩), (w.heap.size + 1, ⟨bn, bl, bx⟩), (w.heap.size, ⟨an, al, ax⟩)]) := Lib.hid (three_vars w an bn cn al bl cl ax bx cx hw1)
  go_enter Tryd.func27, Tryd.ntmps27
  go_upto_region 1 with fail
  rw [← hw1]
  clear hw1
  have f101 : w1.cell? ⟨w.heap.size, 0, none⟩ = some (.bool an) := HD1.out.c0 (i := 2) (b := w.heap.size) (d := ⟨an, al, ax⟩) rfl
  have f102 : w1.cell? ⟨w.heap.size, 1, none⟩ = some (.string (bs al)) := HD1.out.c1 (i := 2) (b := w.heap.size) (d := ⟨an, al, ax⟩) rfl
  have f103 : w1.cell? ⟨w.heap.size, 2, none⟩ = some (.int .i64 ax) := HD1.out.c2 (i := 2) (b := w.heap.size) (d := ⟨an, al, ax⟩) rfl
  have f104 : w1.cell? ⟨w.heap.size + 1, 0, none⟩ = some (.bool bn) := HD1.out.c0 (i := 1) (b := w.heap.size + 1) (d := ⟨bn, bl, bx⟩) rfl
  have f105 : w1.cell? ⟨w.heap.size + 1, 1, none⟩ = some (.string (bs bl)) := HD1.out.c1 (i := 1) (b := w.heap.size + 1) (d := ⟨bn, bl, bx⟩) rfl
  have f106 : w1.cell? ⟨w.heap.size + 1, 2, none⟩ = some (.int .i64 bx) := HD1.out.c2 (i := 1) (b := w.heap.size + 1) (d := ⟨bn, bl, bx⟩) rfl
  go_wp2_with fail
  refine (H1.out _ (HT.out.below HD1.out.below)).mono ?_
  rintro e w107 ⟨rfl, hb108⟩
  have HD109 := Lib.hid (HD1.out.call hb108)
  clear hb108 HD1 f101 f102 f103 f104 f105 f106
  obtain ⟨w110, hw111⟩ : ∃ w9, w9 = w107.alloc (.cells #[.bool pn, .string (bs pl), .int .i64 px] 23) := ⟨_, rfl⟩
  have HD112 : Hid (Decs w w110 [(w107.heap.size, ⟨pn, pl, px⟩), (w.heap.size + 1 + 1, ⟨cn, cl, cx⟩), (w.heap.size + 1, ⟨bn, bl, bx⟩), (w.heap.size, ⟨an, al, ax⟩)]) := Lib.hid (by rw [hw111]; exact HD109.out.var pn pl px)
  clear HD109
  go_upto_region 2 with fail
  rw [← hw111]
  clear hw111
  have f113 : w110.cell? ⟨w.heap.size, 0, none⟩ = some (.bool an) := HD112.out.c0 (i := 3) (b := w.heap.size) (d := ⟨an, al, ax⟩) rfl
  have f114 : w110.cell? ⟨w.heap.size, 1, none⟩ = some (.string (bs al)) := HD112.out.c1 (i := 3) (b := w.heap.size) (d := ⟨an, al, ax⟩) rfl
  have f115 : w110.cell? ⟨w.heap.size, 2, none⟩ = some (.int .i64 ax) := HD112.out.c2 (i := 3) (b := w.heap.size) (d := ⟨an, al, ax⟩) rfl
  have f116 : w110.cell? ⟨w.heap.size + 1, 0, none⟩ = some (.bool bn) := HD112.out.c0 (i := 2) (b := w.heap.size + 1) (d := ⟨bn, bl, bx⟩) rfl
  have f117 : w110.cell? ⟨w.heap.size + 1, 1, none⟩ = some (.string (bs bl)) := HD112.out.c1 (i := 2) (b := w.heap.size + 1) (d := ⟨bn, bl, bx⟩) rfl
  have f118 : w110.cell? ⟨w.heap.size + 1, 2, none⟩ = some (.int .i64 bx) := HD112.out.c2 (i := 2) (b := w.heap.size + 1) (d := ⟨bn, bl, bx⟩) rfl
  go_wp2_with fail
  refine (H2.out _ (HT.out.below HD112.out.below)).mono ?_
  rintro e w119 ⟨rfl, hb120⟩
  have HD121 := Lib.hid (HD112.out.call hb120)
  clear hb120 HD112 f113 f114 f115 f116 f117 f118
  obtain ⟨w122, hw123⟩ : ∃ w9, w9 = w119.alloc (.cells #[.bool pn, .string (bs pl), .int .i64 px] 23) := ⟨_, rfl⟩
  have HD124 : Hid (Decs w w122 [(w119.heap.size, ⟨pn, pl, px⟩), (w107.heap.size, ⟨pn, pl, px⟩), (w.heap.size + 1 + 1, ⟨cn, cl, cx⟩), (w.heap.size + 1, ⟨bn, bl, bx⟩), (w.heap.size, ⟨an, al, ax⟩)]) := Lib.hid (by rw [hw123]; exact HD121.out.var pn pl px)
  clear HD121
  go_upto_region 3 with fail
  rw [← hw123]
  clear hw123
  have f125 : w122.cell? ⟨w107.heap.size, 0, none⟩ = some (.bool pn) := HD124.out.c0 (i := 1) (b := w107.heap.size) (d := ⟨pn, pl, px⟩) rfl
  have f126 : w122.cell? ⟨w107.heap.size, 1, none⟩ = some (.string (bs pl)) := HD124.out.c1 (i := 1) (b := w107.heap.size) (d := ⟨pn, pl, px⟩) rfl
  have f127 : w122.cell? ⟨w107.heap.size, 2, none⟩ = some (.int .i64 px) := HD124.out.c2 (i := 1) (b := w107.heap.size) (d := ⟨pn, pl, px⟩) rfl
  have f128 : w122.cell? ⟨w119.heap.size, 0, none⟩ = some (.bool pn) := HD124.out.c0 (i := 0) (b := w119.heap.size) (d := ⟨pn, pl, px⟩) rfl
  have f129 : w122.cell? ⟨w119.heap.size, 1, none⟩ = some (.string (bs pl)) := HD124.out.c1 (i := 0) (b := w119.heap.size) (d := ⟨pn, pl, px⟩) rfl
  have f130 : w122.cell? ⟨w119.heap.size, 2, none⟩ = some (.int .i64 px) := HD124.out.c2 (i := 0) (b := w119.heap.size) (d := ⟨pn, pl, px⟩) rfl
  have f131 : w122.cell? ⟨w.heap.size, 0, none⟩ = some (.bool an) := HD124.out.c0 (i := 4) (b := w.heap.size) (d := ⟨an, al, ax⟩) rfl
  have f132 : w122.cell? ⟨w.heap.size, 1, none⟩ = some (.string (bs al)) := HD124.out.c1 (i := 4) (b := w.heap.size) (d := ⟨an, al, ax⟩) rfl
  have f133 : w122.cell? ⟨w.heap.size, 2, none⟩ = some (.int .i64 ax) := HD124.out.c2 (i := 4) (b := w.heap.size) (d := ⟨an, al, ax⟩) rfl
  have f134 : w122.cell? ⟨w.heap.size + 1 + 1, 0, none⟩ = some (.bool cn) := HD124.out.c0 (i := 2) (b := w.heap.size + 1 + 1) (d := ⟨cn, cl, cx⟩) rfl
  have f135 : w122.cell? ⟨w.heap.size + 1 + 1, 1, none⟩ = some (.string (bs cl)) := HD124.out.c1 (i := 2) (b := w.heap.size + 1 + 1) (d := ⟨cn, cl, cx⟩) rfl
  have f136 : w122.cell? ⟨w.heap.size + 1 + 1, 2, none⟩ = some (.int .i64 cx) := HD124.out.c2 (i := 2) (b := w.heap.size + 1 + 1) (d := ⟨cn, cl, cx⟩) rfl
  go_wp2_with (refine (num_ok _ _).mono ?_; rintro e9 w9 ⟨rfl, rfl⟩)
  refine (H3.out _ (HT.out.below HD124.out.below)).mono ?_
  rintro e w137 ⟨rfl, hb138⟩
  have HD139 := Lib.hid (HD124.out.call hb138)
  clear hb138 HD124 f125 f126 f127 f128 f129 f130 f131 f132 f133 f134 f135 f136
  obtain ⟨w140, hw141⟩ : ∃ w9, w9 = w137.alloc (.cells #[.bool qn, .string (bs ql), .int .i64 qx] 23) := ⟨_, rfl⟩
  have HD142 : Hid (Decs w w140 [(w137.heap.size, ⟨qn, ql, qx⟩), (w119.heap.size, ⟨pn, pl, px⟩), (w107.heap.size, ⟨pn, pl, px⟩), (w.heap.size + 1 + 1, ⟨cn, cl, cx⟩), (w.heap.size + 1, ⟨bn, bl, bx⟩), (w.heap.size, ⟨an, al, ax⟩)]) := Lib.hid (by rw [hw141]; exact HD139.out.var qn ql qx)
  clear HD139
  go_upto_region 6 with fail
  rw [← hw141]
  clear hw141
  have f143 : w140.cell? ⟨w.heap.size + 1, 0, none⟩ = some (.bool bn) := HD142.out.c0 (i := 4) (b := w.heap.size + 1) (d := ⟨bn, bl, bx⟩) rfl
  have f144 : w140.cell? ⟨w.heap.size + 1, 1, none⟩ = some (.string (bs bl)) := HD142.out.c1 (i := 4) (b := w.heap.size + 1) (d := ⟨bn, bl, bx⟩) rfl
  have f145 : w140.cell? ⟨w.heap.size + 1, 2, none⟩ = some (.int .i64 bx) := HD142.out.c2 (i := 4) (b := w.heap.size + 1) (d := ⟨bn, bl, bx⟩) rfl
  have f146 : w140.cell? ⟨w.heap.size + 1 + 1, 0, none⟩ = some (.bool cn) := HD142.out.c0 (i := 3) (b := w.heap.size + 1 + 1) (d := ⟨cn, cl, cx⟩) rfl
  have f147 : w140.cell? ⟨w.heap.size + 1 + 1, 1, none⟩ = some (.string (bs cl)) := HD142.out.c1 (i := 3) (b := w.heap.size + 1 + 1) (d := ⟨cn, cl, cx⟩) rfl
  have f148 : w140.cell? ⟨w.heap.size + 1 + 1, 2, none⟩ = some (.int .i64 cx) := HD142.out.c2 (i := 3) (b := w.heap.size + 1 + 1) (d := ⟨cn, cl, cx⟩) rfl
  go_wp2_with fail
  refine (H4.out _ (HT.out.below HD142.out.below)).mono ?_
  rintro e w149 ⟨rfl, hb150⟩
  have HD151 := Lib.hid (HD142.out.call hb150)
  clear hb150 HD142 f143 f144 f145 f146 f147 f148
  obtain ⟨w152, hw153⟩ : ∃ w9, w9 = w149.alloc (.cells #[.bool sn, .string (bs sl), .int .i64 sx] 23) := ⟨_, rfl⟩
  have HD154 : Hid (Decs w w152 [(w149.heap.size, ⟨sn, sl, sx⟩), (w137.heap.size, ⟨qn, ql, qx⟩), (w119.heap.size, ⟨pn, pl, px⟩), (w107.heap.size, ⟨pn, pl, px⟩), (w.heap.size + 1 + 1, ⟨cn, cl, cx⟩), (w.heap.size + 1, ⟨bn, bl, bx⟩), (w.heap.size, ⟨an, al, ax⟩)]) := Lib.hid (by rw [hw153]; exact HD151.out.var sn sl sx)
  clear HD151
  go_upto_region 7 with fail
  rw [← hw153]
  clear hw153
  by_cases e1 : pe = 0 ∧ qe = 0 ∧ se = 0
  · obtain ⟨rfl, rfl, rfl⟩ := e1
    obtain ⟨hx1, hx2⟩ := HX.out rfl rfl rfl
    injection hx1 with hx3 hx4 hx5
    subst hx2 hx3 hx4 hx5
    clear HX
    have f155 : w152.cell? ⟨w.heap.size, 0, none⟩ = some (.bool an) := HD154.out.c0 (i := 6) (b := w.heap.size) (d := ⟨an, al, ax⟩) rfl
    have f156 : w152.cell? ⟨w.heap.size, 1, none⟩ = some (.string (bs al)) := HD154.out.c1 (i := 6) (b := w.heap.size) (d := ⟨an, al, ax⟩) rfl
    have f157 : w152.cell? ⟨w.heap.size, 2, none⟩ = some (.int .i64 ax) := HD154.out.c2 (i := 6) (b := w.heap.size) (d := ⟨an, al, ax⟩) rfl
    have f158 : w152.cell? ⟨w149.heap.size, 0, none⟩ = some (.bool sn) := HD154.out.c0 (i := 0) (b := w149.heap.size) (d := ⟨sn, sl, sx⟩) rfl
    have f159 : w152.cell? ⟨w149.heap.size, 1, none⟩ = some (.string (bs sl)) := HD154.out.c1 (i := 0) (b := w149.heap.size) (d := ⟨sn, sl, sx⟩) rfl
    have f160 : w152.cell? ⟨w149.heap.size, 2, none⟩ = some (.int .i64 sx) := HD154.out.c2 (i := 0) (b := w149.heap.size) (d := ⟨sn, sl, sx⟩) rfl
    go_wp2_with (refine (num_ok _ _).mono ?_; rintro e9 w9 ⟨rfl, rfl⟩)
    refine (H5.out _ (HT.out.below HD154.out.below)).mono ?_
    rintro e w161 ⟨rfl, hb162⟩
    have HD163 := Lib.hid (HD154.out.call hb162)
    clear hb162 HD154 f155 f156 f157 f158 f159 f160
    obtain ⟨w164, hw165⟩ : ∃ w9, w9 = w161.alloc (.cells #[.bool rn, .string (bs rl), .int .i64 rx] 23) := ⟨_, rfl⟩
    have HD166 : Hid (Decs w w164 [(w161.heap.size, ⟨rn, rl, rx⟩), (w149.heap.size, ⟨sn, sl, sx⟩), (w137.heap.size, ⟨qn, ql, qx⟩), (w119.heap.size, ⟨pn, pl, px⟩), (w107.heap.size, ⟨pn, pl, px⟩), (w.heap.size + 1 + 1, ⟨cn, cl, cx⟩), (w.heap.size + 1, ⟨bn, bl, bx⟩), (w.heap.size, ⟨an, al, ax⟩)]) := Lib.hid (by rw [hw165]; exact HD163.out.var rn rl rx)
    clear HD163
    go_upto_region 10 with fail
    rw [← hw165]
    clear hw165
    have f167 : w164.cell? ⟨w107.heap.size, 0, none⟩ = some (.bool pn) := HD166.out.c0 (i := 4) (b := w107.heap.size) (d := ⟨pn, pl, px⟩) rfl
    have f168 : w164.cell? ⟨w107.heap.size, 1, none⟩ = some (.string (bs pl)) := HD166.out.c1 (i := 4) (b := w107.heap.size) (d := ⟨pn, pl, px⟩) rfl
    have f169 : w164.cell? ⟨w107.heap.size, 2, none⟩ = some (.int .i64 px) := HD166.out.c2 (i := 4) (b := w107.heap.size) (d := ⟨pn, pl, px⟩) rfl
    have f170 : w164.cell? ⟨w137.heap.size, 0, none⟩ = some (.bool qn) := HD166.out.c0 (i := 2) (b := w137.heap.size) (d := ⟨qn, ql, qx⟩) rfl
    have f171 : w164.cell? ⟨w137.heap.size, 1, none⟩ = some (.string (bs ql)) := HD166.out.c1 (i := 2) (b := w137.heap.size) (d := ⟨qn, ql, qx⟩) rfl
    have f172 : w164.cell? ⟨w137.heap.size, 2, none⟩ = some (.int .i64 qx) := HD166.out.c2 (i := 2) (b := w137.heap.size) (d := ⟨qn, ql, qx⟩) rfl
    go_wp2_with fail
    refine (H6.out _ (HT.out.below HD166.out.below)).mono ?_
    rintro e w173 ⟨rfl, hb174⟩
    have HD175 := Lib.hid (HD166.out.call hb174)
    clear hb174 HD166 f167 f168 f169 f170 f171 f172
    obtain ⟨w176, hw177⟩ : ∃ w9, w9 = w173.alloc (.cells #[.bool rn, .string (bs rl), .int .i64 rx] 23) := ⟨_, rfl⟩
    have HD178 : Hid (Decs w w176 [(w173.heap.size, ⟨rn, rl, rx⟩), (w161.heap.size, ⟨rn, rl, rx⟩), (w149.heap.size, ⟨sn, sl, sx⟩), (w137.heap.size, ⟨qn, ql, qx⟩), (w119.heap.size, ⟨pn, pl, px⟩), (w107.heap.size, ⟨pn, pl, px⟩), (w.heap.size + 1 + 1, ⟨cn, cl, cx⟩), (w.heap.size + 1, ⟨bn, bl, bx⟩), (w.heap.size, ⟨an, al, ax⟩)]) := Lib.hid (by rw [hw177]; exact HD175.out.var rn rl rx)
    clear HD175
    go_upto_region 11 with fail
    rw [← hw177]
    clear hw177
    have f179 : w176.cell? ⟨w161.heap.size, 0, none⟩ = some (.bool rn) := HD178.out.c0 (i := 1) (b := w161.heap.size) (d := ⟨rn, rl, rx⟩) rfl
    have f180 : w176.cell? ⟨w161.heap.size, 1, none⟩ = some (.string (bs rl)) := HD178.out.c1 (i := 1) (b := w161.heap.size) (d := ⟨rn, rl, rx⟩) rfl
    have f181 : w176.cell? ⟨w161.heap.size, 2, none⟩ = some (.int .i64 rx) := HD178.out.c2 (i := 1) (b := w161.heap.size) (d := ⟨rn, rl, rx⟩) rfl
    have f182 : w176.cell? ⟨w173.heap.size, 0, none⟩ = some (.bool rn) := HD178.out.c0 (i := 0) (b := w173.heap.size) (d := ⟨rn, rl, rx⟩) rfl
    have f183 : w176.cell? ⟨w173.heap.size, 1, none⟩ = some (.string (bs rl)) := HD178.out.c1 (i := 0) (b := w173.heap.size) (d := ⟨rn, rl, rx⟩) rfl
    have f184 : w176.cell? ⟨w173.heap.size, 2, none⟩ = some (.int .i64 rx) := HD178.out.c2 (i := 0) (b := w173.heap.size) (d := ⟨rn, rl, rx⟩) rfl
    go_wp2_with (refine (num_ok _ _).mono ?_; rintro e9 w9 ⟨rfl, rfl⟩)
    go_ret
    exact ⟨rfl, HD178.out.below⟩
  · have hk : ¬ pe = 0 ∨ (pe = 0 ∧ ¬ qe = 0) ∨ (pe = 0 ∧ qe = 0 ∧ ¬ se = 0) := by omega
    rcases hk with hk | ⟨rfl, hk⟩ | ⟨rfl, rfl, hk⟩
    · have hk1 : ((pe : Int) == 0) = false := by rw [beq_eq_false_iff_ne]; omega
      go_wp2_with (refine (num_ok _ _).mono ?_; rintro e9 w9 ⟨rfl, rfl⟩)
      go_ret
      exact ⟨rfl, HD154.out.below⟩
    · have hk1 : ((qe : Int) == 0) = false := by rw [beq_eq_false_iff_ne]; omega
      go_wp2_with (refine (num_ok _ _).mono ?_; rintro e9 w9 ⟨rfl, rfl⟩)
      go_ret
      exact ⟨rfl, HD154.out.below⟩
    · have hk1 : ((se : Int) == 0) = false := by rw [beq_eq_false_iff_ne]; omega
      go_wp2_with (refine (num_ok _ _).mono ?_; rintro e9 w9 ⟨rfl, rfl⟩)
      go_ret
      exact ⟨rfl, HD154.out.below⟩
end Go.Proofs.YtkbkappbplocoaaDoor
