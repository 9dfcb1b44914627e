/- Layer 7: the walk of DecimalShares. -/
import Derived.Test.YthgjelpmdndceaaDoorDecShr0
import Derived.Test.YthgjelpmdndceaaDoorDecLaw1
namespace Go.Proofs.YthgjelpmdndceaaDoor
open Go.RowKit

theorem long3 (a b c : Dec) (ha : a.digits.length ≤ 9223372036854775807) (hb : b.digits.length ≤ 9223372036854775807) (hc : c.digits.length ≤ 9223372036854775807) (W : World) :
    Calls Tryd.prog 4 #[.slice (some ⟨W.heap.size, 0, none⟩) 3 3] (W.alloc (.cells #[.bool a.neg, .string (bs a.digits), .int .i64 a.exp, .bool b.neg, .string (bs b.digits), .int .i64 b.exp, .bool c.neg, .string (bs c.digits), .int .i64 c.exp] 23)) fun e w' => e = .returned (.bool (longB [a, b, c])) ∧ (W.alloc (.cells #[.bool a.neg, .string (bs a.digits), .int .i64 a.exp, .bool b.neg, .string (bs b.digits), .int .i64 b.exp, .bool c.neg, .string (bs c.digits), .int .i64 c.exp] 23)) = w' := by
  have hr := Row.new W 23 #[.bool a.neg, .string (bs a.digits), .int .i64 a.exp, .bool b.neg, .string (bs b.digits), .int .i64 b.exp, .bool c.neg, .string (bs c.digits), .int .i64 c.exp]
  exact long_ok (some ⟨W.heap.size, 0, none⟩) 3 3 [a, b, c] _ rfl (by decide) ⟨rfl, fun _ => ⟨W.heap.size, 0, rfl, hr.lt, fun j v hv => by have := hr.cell (i := j) (v := v) (by simpa [dcs] using hv); simpa using this⟩⟩ (fun d hd => by
    simp only [List.mem_cons, List.not_mem_nil, or_false] at hd
    rcases hd with rfl | rfl | rfl <;> assumption)
/-- Multiple, as the law wants it. -/
def GivesM (f : Nat) (args : Array Value) (r : Bool) (k : Nat) : Prop := ∀ W : World, Calls Tryd.prog f args W fun e w' => e = .returned (.tuple #[.bool r, .int .i64 (k : Int)]) ∧ Below W.heap.size W w'
theorem multG (a b : Dec) (ha : a.digits.length ≤ 1000) (hb : b.digits.length ≤ 1000) : GivesM 8 #[decV a, decV b] (multB a b) (multE a b) := fun W => multiple_ok a b W (by omega) (by omega)
theorem comG (a b : Dec) (ha : a.digits.length ≤ 1000) (hb : b.digits.length ≤ 1000) : GivesT 6 #[decV a, decV b] (comD a b) (comE a b) := fun W h => common_ok a b W h (by omega) (by omega)
theorem mulRG (a b : Dec) (ha : a.digits.length ≤ 1000) (hb : b.digits.length ≤ 1000) : GivesT 10 #[decV a, decV b] (mulR a b) (mulRE a b) := fun W h => mul_ok a b W h (by omega) (by omega)
theorem comD_len (a b : Dec) : (comD a b).digits.length ≤ 1000 := by
  unfold comD
  split
  · have := (mk_may false (comN (lev a (minX a b)) (lev b (minX a b))) (minX a b)).len; omega
  · simp [Dec.zero]
theorem mulR_len (a b : Dec) : (mulR a b).digits.length ≤ 1000 := by
  unfold mulR
  split
  · unfold mulD
    have := (mk_may (a.neg != b.neg) (num a.digits * num b.digits) (a.exp + b.exp)).len; omega
  · simp [Dec.zero]
set_option maxRecDepth 1000000 in
set_option maxHeartbeats 40000000 in
theorem shares_law (x a b : Dec) (w : World) (hT : PowTab w) (hx : x.digits.length ≤ 9223372036854775807) (ha : a.digits.length ≤ 9223372036854775807) (hb : b.digits.length ≤ 9223372036854775807) :
    Calls Tryd.prog 3 #[decV x, decV a, decV b] w fun e w' => e = .returned (.bool true) ∧ Below w.heap.size w w' := by
  have HT := Lib.hid hT
  have HWK := Lib.hid (fun W h => works_ok W h)
  have HLG := Lib.hid (fun W => long3 x a b hx ha hb W)
  have HLS : Hid (longB [x, a, b] = false → x.digits.length ≤ 1000 ∧ a.digits.length ≤ 1000 ∧ b.digits.length ≤ 1000) := Lib.hid fun h => ⟨longB_no h x (by simp), longB_no h a (by simp), longB_no h b (by simp)⟩
  obtain ⟨lb, hlb⟩ : ∃ lb, lb = longB [x, a, b] := ⟨_, rfl⟩
  rw [← hlb] at HLG HLS
  clear hT hx ha hb hlb
  obtain ⟨w1, hw1⟩ : ∃ w1, w1 = ((w.alloc (.cells (decC x) 23)).alloc (.cells (decC a) 23)).alloc (.cells (decC b) 23) := ⟨_, rfl⟩
  have HD1 : Hid (Decs w w1 [(w.heap.size + 1 + 1, b), (w.heap.size + 1, a), (w.heap.size, x)]) := Lib.hid (three_vars w x.neg a.neg b.neg x.digits a.digits b.digits x.exp a.exp b.exp hw1)
  unfold decC at hw1
  go_enter Tryd.func3, Tryd.ntmps3
  unfold decV
  go_upto_region 1 with fail
  rw [← hw1]
  clear hw1
  have HC := Lib.hid (fun (h : lb = false) => comG a b (HLS.out h).2.1 (HLS.out h).2.2)
  have HC2 := Lib.hid (fun (h : lb = false) => comG b a (HLS.out h).2.2 (HLS.out h).2.1)
  rw [(shr_sym a b).1, (shr_sym a b).2] at HC2
  have HO := Lib.hid (fun (h : lb = false) => multG (comD a b) a (comD_len a b) (HLS.out h).2.1)
  have HW2 := Lib.hid (fun (h : lb = false) => multG (comD a b) b (comD_len a b) (HLS.out h).2.2)
  have H1OK := Lib.hid (fun h : comE a b = 0 => one_ok h)
  have HCK := Lib.hid (fun (h : lb = false) W => check_ok x W (by have := (HLS.out h).1; omega))
  have HP := Lib.hid (fun (h : lb = false) => multG x a (HLS.out h).1 (HLS.out h).2.1)
  have HQ := Lib.hid (fun (h : lb = false) => multG x b (HLS.out h).1 (HLS.out h).2.2)
  have HR := Lib.hid (fun (h : lb = false) => multG x (comD a b) (HLS.out h).1 (comD_len a b))
  have HROK := Lib.hid (fun (h : comE a b = 0) (hx : mayB x = true) => r_ok h hx)
  have HZ := Lib.hid (fun (h : lb = false) => mulRG x (comD a b) (HLS.out h).1 (comD_len a b))
  have HWH := Lib.hid (fun (h : lb = false) W => whole_ok x W (by have := (HLS.out h).1; omega))
  have HS := Lib.hid (fun (h : lb = false) => multG (mulR x (comD a b)) a (mulR_len _ _) (HLS.out h).2.1)
  have HZOK := Lib.hid (fun (h : comE a b = 0) (hw : wholeB x = true) (hz : mulRE x (comD a b) = 0) => z_ok h hw hz)
  have HCKE := Lib.hid (fun h : mayB x = true => checkE_yes h)
  have HCKN := Lib.hid (fun h : mayB x = false => checkE_no h)
  generalize mulR x (comD a b) = z at *
  generalize mulRE x (comD a b) = ze at *
  generalize comD a b = c at *
  generalize comE a b = ce at *
  obtain ⟨xv, hxv⟩ : ∃ v, v = mayB x := ⟨_, rfl⟩
  obtain ⟨xw, hxw⟩ : ∃ v, v = wholeB x := ⟨_, rfl⟩
  rw [← hxv] at HROK HCKE HCKN
  rw [← hxw] at HZOK
  have HWH2 : Hid (∀ (h : lb = false) W, Calls Tryd.prog 11 #[decV x] W fun e w' => e = .returned (.bool xw) ∧ Below W.heap.size W w') := Lib.hid (by rw [hxw]; exact HWH.out)
  generalize checkE x = xe at *
  generalize multB x a = pb at *
  generalize multE x a = pe at *
  generalize multB x b = qb at *
  generalize multE x b = qe at *
  generalize multB x c = rb at *
  generalize multE x c = re at *
  generalize multB c a = ob at *
  generalize multE c a = oe at *
  generalize multB c b = tb at *
  generalize multE c b = te at *
  generalize multB z a = sb at *
  generalize multE z a = se at *
  clear hxv hxw HWH
  obtain ⟨xn, xl, xx⟩ := x
  obtain ⟨an, al, ax⟩ := a
  obtain ⟨bn, bl, bx⟩ := b
  obtain ⟨cn, cl, cx⟩ := c
  obtain ⟨zn, zl, zx⟩ := z
  unfold GivesT at HC HC2 HZ
  unfold GivesM at HO HW2 HP HQ HR HS
  unfold decV at *
  simp only at HLG HC HC2 HO HW2 HCK HP HQ HR HZ HWH2 HS
  have hd1 := HD1.out
  have f101 : w1.cell? ⟨w.heap.size, 0, none⟩ = some (.bool xn) := HD1.out.c0 (i := 2) (b := w.heap.size) (d := ⟨xn, xl, xx⟩) rfl
  have f102 : w1.cell? ⟨w.heap.size, 1, none⟩ = some (.string (bs xl)) := HD1.out.c1 (i := 2) (b := w.heap.size) (d := ⟨xn, xl, xx⟩) rfl
  have f103 : w1.cell? ⟨w.heap.size, 2, none⟩ = some (.int .i64 xx) := HD1.out.c2 (i := 2) (b := w.heap.size) (d := ⟨xn, xl, xx⟩) rfl
  have f104 : w1.cell? ⟨w.heap.size + 1, 0, none⟩ = some (.bool an) := HD1.out.c0 (i := 1) (b := w.heap.size + 1) (d := ⟨an, al, ax⟩) rfl
  have f105 : w1.cell? ⟨w.heap.size + 1, 1, none⟩ = some (.string (bs al)) := HD1.out.c1 (i := 1) (b := w.heap.size + 1) (d := ⟨an, al, ax⟩) rfl
  have f106 : w1.cell? ⟨w.heap.size + 1, 2, none⟩ = some (.int .i64 ax) := HD1.out.c2 (i := 1) (b := w.heap.size + 1) (d := ⟨an, al, ax⟩) rfl
  have f107 : w1.cell? ⟨w.heap.size + 1 + 1, 0, none⟩ = some (.bool bn) := HD1.out.c0 (i := 0) (b := w.heap.size + 1 + 1) (d := ⟨bn, bl, bx⟩) rfl
  have f108 : w1.cell? ⟨w.heap.size + 1 + 1, 1, none⟩ = some (.string (bs bl)) := HD1.out.c1 (i := 0) (b := w.heap.size + 1 + 1) (d := ⟨bn, bl, bx⟩) rfl
  have f109 : w1.cell? ⟨w.heap.size + 1 + 1, 2, none⟩ = some (.int .i64 bx) := HD1.out.c2 (i := 0) (b := w.heap.size + 1 + 1) (d := ⟨bn, bl, bx⟩) rfl
  go_wp2_with fail
  refine (HLG.out w1).mono ?_
  rintro e4 w4 ⟨rfl, rfl⟩
  have HD2 : Hid (Decs w (w1.alloc (.cells #[.bool xn, .string (bs xl), .int .i64 xx, .bool an, .string (bs al), .int .i64 ax, .bool bn, .string (bs bl), .int .i64 bx] 23)) [(w.heap.size + 1 + 1, ⟨bn, bl, bx⟩), (w.heap.size + 1, ⟨an, al, ax⟩), (w.heap.size, ⟨xn, xl, xx⟩)]) := Lib.hid ⟨HD1.out.below.alloc HD1.out.below.size (.cells #[.bool xn, .string (bs xl), .int .i64 xx, .bool an, .string (bs al), .int .i64 ax, .bool bn, .string (bs bl), .int .i64 bx] 23), fun ii bb dd hi => (HD1.out.at_ ii bb dd hi).alloc (.cells #[.bool xn, .string (bs xl), .int .i64 xx, .bool an, .string (bs al), .int .i64 ax, .bool bn, .string (bs bl), .int .i64 bx] 23)⟩
  clear hd1 HD1 f101 f102 f103 f104 f105 f106 f107 f108 f109
  generalize w1.alloc (.cells #[.bool xn, .string (bs xl), .int .i64 xx, .bool an, .string (bs al), .int .i64 ax, .bool bn, .string (bs bl), .int .i64 bx] 23) = w2 at *
  cases lb with
  | true =>
    go_wp2_with (refine (num_ok _ _).mono ?_; rintro e9 w9 ⟨rfl, rfl⟩)
    refine (HWK.out _ (HT.out.below HD2.out.below)).mono ?_
    rintro e wz ⟨rfl, hbz⟩
    have HBZ := Lib.hid (Below.call HD2.out.below hbz)
    clear hbz
    go_wp2
    go_ret
    exact ⟨rfl, HBZ.out⟩
  | false =>
    have HCx := Lib.hid (HC.out (by trivial))
    have f110 : w2.cell? ⟨w.heap.size + 1, 0, none⟩ = some (.bool an) := HD2.out.c0 (i := 1) (b := w.heap.size + 1) (d := ⟨an, al, ax⟩) rfl
    have f111 : w2.cell? ⟨w.heap.size + 1, 1, none⟩ = some (.string (bs al)) := HD2.out.c1 (i := 1) (b := w.heap.size + 1) (d := ⟨an, al, ax⟩) rfl
    have f112 : w2.cell? ⟨w.heap.size + 1, 2, none⟩ = some (.int .i64 ax) := HD2.out.c2 (i := 1) (b := w.heap.size + 1) (d := ⟨an, al, ax⟩) rfl
    have f113 : w2.cell? ⟨w.heap.size + 1 + 1, 0, none⟩ = some (.bool bn) := HD2.out.c0 (i := 0) (b := w.heap.size + 1 + 1) (d := ⟨bn, bl, bx⟩) rfl
    have f114 : w2.cell? ⟨w.heap.size + 1 + 1, 1, none⟩ = some (.string (bs bl)) := HD2.out.c1 (i := 0) (b := w.heap.size + 1 + 1) (d := ⟨bn, bl, bx⟩) rfl
    have f115 : w2.cell? ⟨w.heap.size + 1 + 1, 2, none⟩ = some (.int .i64 bx) := HD2.out.c2 (i := 0) (b := w.heap.size + 1 + 1) (d := ⟨bn, bl, bx⟩) rfl
    go_wp2_with fail
    refine (HCx.out _ (HT.out.below HD2.out.below)).mono ?_
    rintro e w116 ⟨rfl, hb117⟩
    have HD118 := Lib.hid (HD2.out.call hb117)
    clear hb117 HD2 f110 f111 f112 f113 f114 f115
    obtain ⟨w119, hw120⟩ : ∃ w9, w9 = w116.alloc (.cells #[.bool cn, .string (bs cl), .int .i64 cx] 23) := ⟨_, rfl⟩
    have HD121 : Hid (Decs w w119 [(w116.heap.size, ⟨cn, cl, cx⟩), (w.heap.size + 1 + 1, ⟨bn, bl, bx⟩), (w.heap.size + 1, ⟨an, al, ax⟩), (w.heap.size, ⟨xn, xl, xx⟩)]) := Lib.hid (by rw [hw120]; exact HD118.out.var cn cl cx)
    clear HD118
    go_upto_region 4 with fail
    rw [← hw120]
    clear hw120
    by_cases he : ce = 0
    rotate_left 1
    · have hk1 : ((ce : Int) == 0) = false := by rw [beq_eq_false_iff_ne]; omega
      go_wp2_with (refine (num_ok _ _).mono ?_; rintro e9 w9 ⟨rfl, rfl⟩)
      refine (HWK.out _ (HT.out.below HD121.out.below)).mono ?_
      rintro e wz ⟨rfl, hbz⟩
      have HBZ := Lib.hid (Below.call HD121.out.below hbz)
      clear hbz
      go_wp2
      go_ret
      exact ⟨rfl, HBZ.out⟩
    · obtain ⟨rfl, rfl, rfl, rfl⟩ := H1OK.out he
      subst he
      have HC2x := Lib.hid (HC2.out (by trivial))
      have HOx := Lib.hid (HO.out (by trivial))
      have HW2x := Lib.hid (HW2.out (by trivial))
      have HCKx := Lib.hid (HCK.out (by trivial))
      have f122 : w119.cell? ⟨w.heap.size + 1, 0, none⟩ = some (.bool an) := HD121.out.c0 (i := 2) (b := w.heap.size + 1) (d := ⟨an, al, ax⟩) rfl
      have f123 : w119.cell? ⟨w.heap.size + 1, 1, none⟩ = some (.string (bs al)) := HD121.out.c1 (i := 2) (b := w.heap.size + 1) (d := ⟨an, al, ax⟩) rfl
      have f124 : w119.cell? ⟨w.heap.size + 1, 2, none⟩ = some (.int .i64 ax) := HD121.out.c2 (i := 2) (b := w.heap.size + 1) (d := ⟨an, al, ax⟩) rfl
      have f125 : w119.cell? ⟨w.heap.size + 1 + 1, 0, none⟩ = some (.bool bn) := HD121.out.c0 (i := 1) (b := w.heap.size + 1 + 1) (d := ⟨bn, bl, bx⟩) rfl
      have f126 : w119.cell? ⟨w.heap.size + 1 + 1, 1, none⟩ = some (.string (bs bl)) := HD121.out.c1 (i := 1) (b := w.heap.size + 1 + 1) (d := ⟨bn, bl, bx⟩) rfl
      have f127 : w119.cell? ⟨w.heap.size + 1 + 1, 2, none⟩ = some (.int .i64 bx) := HD121.out.c2 (i := 1) (b := w.heap.size + 1 + 1) (d := ⟨bn, bl, bx⟩) rfl
      go_wp2_with (refine (num_ok _ _).mono ?_; rintro e9 w9 ⟨rfl, rfl⟩)
      refine (HC2x.out _ (HT.out.below HD121.out.below)).mono ?_
      rintro e w128 ⟨rfl, hb129⟩
      have HD130 := Lib.hid (HD121.out.call hb129)
      clear hb129 HD121 f122 f123 f124 f125 f126 f127
      obtain ⟨w131, hw132⟩ : ∃ w9, w9 = w128.alloc (.cells #[.bool cn, .string (bs cl), .int .i64 cx] 23) := ⟨_, rfl⟩
      have HD133 : Hid (Decs w w131 [(w128.heap.size, ⟨cn, cl, cx⟩), (w116.heap.size, ⟨cn, cl, cx⟩), (w.heap.size + 1 + 1, ⟨bn, bl, bx⟩), (w.heap.size + 1, ⟨an, al, ax⟩), (w.heap.size, ⟨xn, xl, xx⟩)]) := Lib.hid (by rw [hw132]; exact HD130.out.var cn cl cx)
      clear HD130
      go_upto_region 7 with fail
      rw [← hw132]
      clear hw132
      have f134 : w131.cell? ⟨w116.heap.size, 0, none⟩ = some (.bool cn) := HD133.out.c0 (i := 1) (b := w116.heap.size) (d := ⟨cn, cl, cx⟩) rfl
      have f135 : w131.cell? ⟨w116.heap.size, 1, none⟩ = some (.string (bs cl)) := HD133.out.c1 (i := 1) (b := w116.heap.size) (d := ⟨cn, cl, cx⟩) rfl
      have f136 : w131.cell? ⟨w116.heap.size, 2, none⟩ = some (.int .i64 cx) := HD133.out.c2 (i := 1) (b := w116.heap.size) (d := ⟨cn, cl, cx⟩) rfl
      have f137 : w131.cell? ⟨w.heap.size + 1, 0, none⟩ = some (.bool an) := HD133.out.c0 (i := 3) (b := w.heap.size + 1) (d := ⟨an, al, ax⟩) rfl
      have f138 : w131.cell? ⟨w.heap.size + 1, 1, none⟩ = some (.string (bs al)) := HD133.out.c1 (i := 3) (b := w.heap.size + 1) (d := ⟨an, al, ax⟩) rfl
      have f139 : w131.cell? ⟨w.heap.size + 1, 2, none⟩ = some (.int .i64 ax) := HD133.out.c2 (i := 3) (b := w.heap.size + 1) (d := ⟨an, al, ax⟩) rfl
      go_wp2_with fail
      refine (HOx.out _).mono ?_
      rintro e w140 ⟨rfl, hb141⟩
      have HD142 := Lib.hid (HD133.out.call hb141)
      clear hb141 HD133 f134 f135 f136 f137 f138 f139
      have f143 : w140.cell? ⟨w116.heap.size, 0, none⟩ = some (.bool cn) := HD142.out.c0 (i := 1) (b := w116.heap.size) (d := ⟨cn, cl, cx⟩) rfl
      have f144 : w140.cell? ⟨w116.heap.size, 1, none⟩ = some (.string (bs cl)) := HD142.out.c1 (i := 1) (b := w116.heap.size) (d := ⟨cn, cl, cx⟩) rfl
      have f145 : w140.cell? ⟨w116.heap.size, 2, none⟩ = some (.int .i64 cx) := HD142.out.c2 (i := 1) (b := w116.heap.size) (d := ⟨cn, cl, cx⟩) rfl
      have f146 : w140.cell? ⟨w.heap.size + 1 + 1, 0, none⟩ = some (.bool bn) := HD142.out.c0 (i := 2) (b := w.heap.size + 1 + 1) (d := ⟨bn, bl, bx⟩) rfl
      have f147 : w140.cell? ⟨w.heap.size + 1 + 1, 1, none⟩ = some (.string (bs bl)) := HD142.out.c1 (i := 2) (b := w.heap.size + 1 + 1) (d := ⟨bn, bl, bx⟩) rfl
      have f148 : w140.cell? ⟨w.heap.size + 1 + 1, 2, none⟩ = some (.int .i64 bx) := HD142.out.c2 (i := 2) (b := w.heap.size + 1 + 1) (d := ⟨bn, bl, bx⟩) rfl
      go_wp2_with fail
      refine (HW2x.out _).mono ?_
      rintro e w149 ⟨rfl, hb150⟩
      have HD151 := Lib.hid (HD142.out.call hb150)
      clear hb150 HD142 f143 f144 f145 f146 f147 f148
      have f152 : w149.cell? ⟨w116.heap.size, 0, none⟩ = some (.bool cn) := HD151.out.c0 (i := 1) (b := w116.heap.size) (d := ⟨cn, cl, cx⟩) rfl
      have f153 : w149.cell? ⟨w116.heap.size, 1, none⟩ = some (.string (bs cl)) := HD151.out.c1 (i := 1) (b := w116.heap.size) (d := ⟨cn, cl, cx⟩) rfl
      have f154 : w149.cell? ⟨w116.heap.size, 2, none⟩ = some (.int .i64 cx) := HD151.out.c2 (i := 1) (b := w116.heap.size) (d := ⟨cn, cl, cx⟩) rfl
      have f155 : w149.cell? ⟨w128.heap.size, 0, none⟩ = some (.bool cn) := HD151.out.c0 (i := 0) (b := w128.heap.size) (d := ⟨cn, cl, cx⟩) rfl
      have f156 : w149.cell? ⟨w128.heap.size, 1, none⟩ = some (.string (bs cl)) := HD151.out.c1 (i := 0) (b := w128.heap.size) (d := ⟨cn, cl, cx⟩) rfl
      have f157 : w149.cell? ⟨w128.heap.size, 2, none⟩ = some (.int .i64 cx) := HD151.out.c2 (i := 0) (b := w128.heap.size) (d := ⟨cn, cl, cx⟩) rfl
      have f158 : w149.cell? ⟨w.heap.size, 0, none⟩ = some (.bool xn) := HD151.out.c0 (i := 4) (b := w.heap.size) (d := ⟨xn, xl, xx⟩) rfl
      have f159 : w149.cell? ⟨w.heap.size, 1, none⟩ = some (.string (bs xl)) := HD151.out.c1 (i := 4) (b := w.heap.size) (d := ⟨xn, xl, xx⟩) rfl
      have f160 : w149.cell? ⟨w.heap.size, 2, none⟩ = some (.int .i64 xx) := HD151.out.c2 (i := 4) (b := w.heap.size) (d := ⟨xn, xl, xx⟩) rfl
      go_wp2_with (refine (num_ok _ _).mono ?_; rintro e9 w9 ⟨rfl, rfl⟩)
      refine (HCKx.out _).mono ?_
      rintro e w161 ⟨rfl, hb162⟩
      have HD163 := Lib.hid (HD151.out.call hb162)
      clear hb162 HD151 f152 f153 f154 f155 f156 f157 f158 f159 f160
      cases xv with
      | false =>
        obtain rfl := HCKN.out (by trivial)
        have f164 : w161.cell? ⟨w116.heap.size, 0, none⟩ = some (.bool cn) := HD163.out.c0 (i := 1) (b := w116.heap.size) (d := ⟨cn, cl, cx⟩) rfl
        have f165 : w161.cell? ⟨w116.heap.size, 1, none⟩ = some (.string (bs cl)) := HD163.out.c1 (i := 1) (b := w116.heap.size) (d := ⟨cn, cl, cx⟩) rfl
        have f166 : w161.cell? ⟨w116.heap.size, 2, none⟩ = some (.int .i64 cx) := HD163.out.c2 (i := 1) (b := w116.heap.size) (d := ⟨cn, cl, cx⟩) rfl
        have f167 : w161.cell? ⟨w128.heap.size, 0, none⟩ = some (.bool cn) := HD163.out.c0 (i := 0) (b := w128.heap.size) (d := ⟨cn, cl, cx⟩) rfl
        have f168 : w161.cell? ⟨w128.heap.size, 1, none⟩ = some (.string (bs cl)) := HD163.out.c1 (i := 0) (b := w128.heap.size) (d := ⟨cn, cl, cx⟩) rfl
        have f169 : w161.cell? ⟨w128.heap.size, 2, none⟩ = some (.int .i64 cx) := HD163.out.c2 (i := 0) (b := w128.heap.size) (d := ⟨cn, cl, cx⟩) rfl
        go_wp2_with (refine (num_ok _ _).mono ?_; rintro e9 w9 ⟨rfl, rfl⟩)
        refine (HWK.out _ (HT.out.below HD163.out.below)).mono ?_
        rintro e wz ⟨rfl, hbz⟩
        have HBZ := Lib.hid (Below.call HD163.out.below hbz)
        clear hbz f164 f165 f166 f167 f168 f169
        go_wp2
        go_ret
        exact ⟨rfl, HBZ.out⟩
      | true =>
        obtain rfl := HCKE.out (by trivial)
        obtain ⟨rfl, rfl, rfl, rfl⟩ := HROK.out (by trivial) (by trivial)
        have HPx := Lib.hid (HP.out (by trivial))
        have HQx := Lib.hid (HQ.out (by trivial))
        have HRx := Lib.hid (HR.out (by trivial))
        have HZx := Lib.hid (HZ.out (by trivial))
        have HWx := Lib.hid (HWH2.out (by trivial))
        have HSx := Lib.hid (HS.out (by trivial))
        have f170 : w161.cell? ⟨w.heap.size, 0, none⟩ = some (.bool xn) := HD163.out.c0 (i := 4) (b := w.heap.size) (d := ⟨xn, xl, xx⟩) rfl
        have f171 : w161.cell? ⟨w.heap.size, 1, none⟩ = some (.string (bs xl)) := HD163.out.c1 (i := 4) (b := w.heap.size) (d := ⟨xn, xl, xx⟩) rfl
        have f172 : w161.cell? ⟨w.heap.size, 2, none⟩ = some (.int .i64 xx) := HD163.out.c2 (i := 4) (b := w.heap.size) (d := ⟨xn, xl, xx⟩) rfl
        have f173 : w161.cell? ⟨w.heap.size + 1, 0, none⟩ = some (.bool an) := HD163.out.c0 (i := 3) (b := w.heap.size + 1) (d := ⟨an, al, ax⟩) rfl
        have f174 : w161.cell? ⟨w.heap.size + 1, 1, none⟩ = some (.string (bs al)) := HD163.out.c1 (i := 3) (b := w.heap.size + 1) (d := ⟨an, al, ax⟩) rfl
        have f175 : w161.cell? ⟨w.heap.size + 1, 2, none⟩ = some (.int .i64 ax) := HD163.out.c2 (i := 3) (b := w.heap.size + 1) (d := ⟨an, al, ax⟩) rfl
        go_wp2_with (refine (num_ok _ _).mono ?_; rintro e9 w9 ⟨rfl, rfl⟩)
        refine (HPx.out _).mono ?_
        rintro e w176 ⟨rfl, hb177⟩
        have HD178 := Lib.hid (HD163.out.call hb177)
        clear hb177 HD163 f170 f171 f172 f173 f174 f175
        have f179 : w176.cell? ⟨w.heap.size, 0, none⟩ = some (.bool xn) := HD178.out.c0 (i := 4) (b := w.heap.size) (d := ⟨xn, xl, xx⟩) rfl
        have f180 : w176.cell? ⟨w.heap.size, 1, none⟩ = some (.string (bs xl)) := HD178.out.c1 (i := 4) (b := w.heap.size) (d := ⟨xn, xl, xx⟩) rfl
        have f181 : w176.cell? ⟨w.heap.size, 2, none⟩ = some (.int .i64 xx) := HD178.out.c2 (i := 4) (b := w.heap.size) (d := ⟨xn, xl, xx⟩) rfl
        have f182 : w176.cell? ⟨w.heap.size + 1 + 1, 0, none⟩ = some (.bool bn) := HD178.out.c0 (i := 2) (b := w.heap.size + 1 + 1) (d := ⟨bn, bl, bx⟩) rfl
        have f183 : w176.cell? ⟨w.heap.size + 1 + 1, 1, none⟩ = some (.string (bs bl)) := HD178.out.c1 (i := 2) (b := w.heap.size + 1 + 1) (d := ⟨bn, bl, bx⟩) rfl
        have f184 : w176.cell? ⟨w.heap.size + 1 + 1, 2, none⟩ = some (.int .i64 bx) := HD178.out.c2 (i := 2) (b := w.heap.size + 1 + 1) (d := ⟨bn, bl, bx⟩) rfl
        go_wp2_with fail
        refine (HQx.out _).mono ?_
        rintro e w185 ⟨rfl, hb186⟩
        have HD187 := Lib.hid (HD178.out.call hb186)
        clear hb186 HD178 f179 f180 f181 f182 f183 f184
        have f188 : w185.cell? ⟨w.heap.size, 0, none⟩ = some (.bool xn) := HD187.out.c0 (i := 4) (b := w.heap.size) (d := ⟨xn, xl, xx⟩) rfl
        have f189 : w185.cell? ⟨w.heap.size, 1, none⟩ = some (.string (bs xl)) := HD187.out.c1 (i := 4) (b := w.heap.size) (d := ⟨xn, xl, xx⟩) rfl
        have f190 : w185.cell? ⟨w.heap.size, 2, none⟩ = some (.int .i64 xx) := HD187.out.c2 (i := 4) (b := w.heap.size) (d := ⟨xn, xl, xx⟩) rfl
        have f191 : w185.cell? ⟨w116.heap.size, 0, none⟩ = some (.bool cn) := HD187.out.c0 (i := 1) (b := w116.heap.size) (d := ⟨cn, cl, cx⟩) rfl
        have f192 : w185.cell? ⟨w116.heap.size, 1, none⟩ = some (.string (bs cl)) := HD187.out.c1 (i := 1) (b := w116.heap.size) (d := ⟨cn, cl, cx⟩) rfl
        have f193 : w185.cell? ⟨w116.heap.size, 2, none⟩ = some (.int .i64 cx) := HD187.out.c2 (i := 1) (b := w116.heap.size) (d := ⟨cn, cl, cx⟩) rfl
        go_wp2_with fail
        refine (HRx.out _).mono ?_
        rintro e w194 ⟨rfl, hb195⟩
        have HD196 := Lib.hid (HD187.out.call hb195)
        clear hb195 HD187 f188 f189 f190 f191 f192 f193
        go_upto_region 14 with fail
        cases pb <;> cases qb
        all_goals (
          have f197 : w194.cell? ⟨w.heap.size, 0, none⟩ = some (.bool xn) := HD196.out.c0 (i := 4) (b := w.heap.size) (d := ⟨xn, xl, xx⟩) rfl
          have f198 : w194.cell? ⟨w.heap.size, 1, none⟩ = some (.string (bs xl)) := HD196.out.c1 (i := 4) (b := w.heap.size) (d := ⟨xn, xl, xx⟩) rfl
          have f199 : w194.cell? ⟨w.heap.size, 2, none⟩ = some (.int .i64 xx) := HD196.out.c2 (i := 4) (b := w.heap.size) (d := ⟨xn, xl, xx⟩) rfl
          have f200 : w194.cell? ⟨w116.heap.size, 0, none⟩ = some (.bool cn) := HD196.out.c0 (i := 1) (b := w116.heap.size) (d := ⟨cn, cl, cx⟩) rfl
          have f201 : w194.cell? ⟨w116.heap.size, 1, none⟩ = some (.string (bs cl)) := HD196.out.c1 (i := 1) (b := w116.heap.size) (d := ⟨cn, cl, cx⟩) rfl
          have f202 : w194.cell? ⟨w116.heap.size, 2, none⟩ = some (.int .i64 cx) := HD196.out.c2 (i := 1) (b := w116.heap.size) (d := ⟨cn, cl, cx⟩) rfl
          go_wp2_with (refine (num_ok _ _).mono ?_; rintro e9 w9 ⟨rfl, rfl⟩)
          refine (HZx.out _ (HT.out.below HD196.out.below)).mono ?_
          rintro e w203 ⟨rfl, hb204⟩
          have HD205 := Lib.hid (HD196.out.call hb204)
          clear hb204 HD196 f197 f198 f199 f200 f201 f202
          by_cases hz : ze = 0
          rotate_left 1
          · have hk1 : ((ze : Int) == 0) = false := by rw [beq_eq_false_iff_ne]; omega
            obtain ⟨w206, hw207⟩ : ∃ w9, w9 = w203.alloc (.cells #[.bool zn, .string (bs zl), .int .i64 zx] 23) := ⟨_, rfl⟩
            have HD208 : Hid (Decs w w206 [(w203.heap.size, ⟨zn, zl, zx⟩), (w128.heap.size, ⟨cn, cl, cx⟩), (w116.heap.size, ⟨cn, cl, cx⟩), (w.heap.size + 1 + 1, ⟨bn, bl, bx⟩), (w.heap.size + 1, ⟨an, al, ax⟩), (w.heap.size, ⟨xn, xl, xx⟩)]) := Lib.hid (by rw [hw207]; exact HD205.out.var zn zl zx)
            clear HD205
            go_upto_region 17 with fail
            rw [← hw207]
            clear hw207
            go_wp2_with (refine (num_ok _ _).mono ?_; rintro e9 w9 ⟨rfl, rfl⟩)
            refine (HWK.out _ (HT.out.below HD208.out.below)).mono ?_
            rintro e wz ⟨rfl, hbz⟩
            have HBZ := Lib.hid (Below.call HD208.out.below hbz)
            clear hbz
            go_wp2
            go_ret
            exact ⟨rfl, HBZ.out⟩
          · subst hz
            obtain ⟨w209, hw210⟩ : ∃ w9, w9 = w203.alloc (.cells #[.bool zn, .string (bs zl), .int .i64 zx] 23) := ⟨_, rfl⟩
            have HD211 : Hid (Decs w w209 [(w203.heap.size, ⟨zn, zl, zx⟩), (w128.heap.size, ⟨cn, cl, cx⟩), (w116.heap.size, ⟨cn, cl, cx⟩), (w.heap.size + 1 + 1, ⟨bn, bl, bx⟩), (w.heap.size + 1, ⟨an, al, ax⟩), (w.heap.size, ⟨xn, xl, xx⟩)]) := Lib.hid (by rw [hw210]; exact HD205.out.var zn zl zx)
            clear HD205
            go_upto_region 17 with fail
            rw [← hw210]
            clear hw210
            have f212 : w209.cell? ⟨w.heap.size, 0, none⟩ = some (.bool xn) := HD211.out.c0 (i := 5) (b := w.heap.size) (d := ⟨xn, xl, xx⟩) rfl
            have f213 : w209.cell? ⟨w.heap.size, 1, none⟩ = some (.string (bs xl)) := HD211.out.c1 (i := 5) (b := w.heap.size) (d := ⟨xn, xl, xx⟩) rfl
            have f214 : w209.cell? ⟨w.heap.size, 2, none⟩ = some (.int .i64 xx) := HD211.out.c2 (i := 5) (b := w.heap.size) (d := ⟨xn, xl, xx⟩) rfl
            go_wp2_with (refine (num_ok _ _).mono ?_; rintro e9 w9 ⟨rfl, rfl⟩)
            refine (HWx.out _).mono ?_
            rintro e w215 ⟨rfl, hb216⟩
            have HD217 := Lib.hid (HD211.out.call hb216)
            clear hb216 HD211 f212 f213 f214
            cases xw with
            | false =>
              go_wp2_with (refine (num_ok _ _).mono ?_; rintro e9 w9 ⟨rfl, rfl⟩)
              refine (HWK.out _ (HT.out.below HD217.out.below)).mono ?_
              rintro e wz ⟨rfl, hbz⟩
              have HBZ := Lib.hid (Below.call HD217.out.below hbz)
              clear hbz
              go_wp2
              go_ret
              exact ⟨rfl, HBZ.out⟩
            | true =>
              obtain ⟨rfl, rfl⟩ := HZOK.out (by trivial) (by trivial) (by trivial)
              have f218 : w215.cell? ⟨w203.heap.size, 0, none⟩ = some (.bool zn) := HD217.out.c0 (i := 0) (b := w203.heap.size) (d := ⟨zn, zl, zx⟩) rfl
              have f219 : w215.cell? ⟨w203.heap.size, 1, none⟩ = some (.string (bs zl)) := HD217.out.c1 (i := 0) (b := w203.heap.size) (d := ⟨zn, zl, zx⟩) rfl
              have f220 : w215.cell? ⟨w203.heap.size, 2, none⟩ = some (.int .i64 zx) := HD217.out.c2 (i := 0) (b := w203.heap.size) (d := ⟨zn, zl, zx⟩) rfl
              have f221 : w215.cell? ⟨w.heap.size + 1, 0, none⟩ = some (.bool an) := HD217.out.c0 (i := 4) (b := w.heap.size + 1) (d := ⟨an, al, ax⟩) rfl
              have f222 : w215.cell? ⟨w.heap.size + 1, 1, none⟩ = some (.string (bs al)) := HD217.out.c1 (i := 4) (b := w.heap.size + 1) (d := ⟨an, al, ax⟩) rfl
              have f223 : w215.cell? ⟨w.heap.size + 1, 2, none⟩ = some (.int .i64 ax) := HD217.out.c2 (i := 4) (b := w.heap.size + 1) (d := ⟨an, al, ax⟩) rfl
              go_wp2_with fail
              refine (HSx.out _).mono ?_
              rintro e w224 ⟨rfl, hb225⟩
              have HD226 := Lib.hid (HD217.out.call hb225)
              clear hb225 HD217 f218 f219 f220 f221 f222 f223
              go_wp2_with (refine (num_ok _ _).mono ?_; rintro e9 w9 ⟨rfl, rfl⟩)
              refine (HWK.out _ (HT.out.below HD226.out.below)).mono ?_
              rintro e wz ⟨rfl, hbz⟩
              have HBZ := Lib.hid (Below.call HD226.out.below hbz)
              clear hbz
              go_wp2
              go_ret
              exact ⟨rfl, HBZ.out⟩)
end Go.Proofs.YthgjelpmdndceaaDoor
