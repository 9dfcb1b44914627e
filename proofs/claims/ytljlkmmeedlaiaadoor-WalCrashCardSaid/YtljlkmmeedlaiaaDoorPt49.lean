/- Layer 3: what the statements know of a log beforehand. -/
import Derived.Test.YtljlkmmeedlaiaaDoorPt48
namespace Go.Proofs.YtljlkmmeedlaiaaDoor
open Go.RowKit
set_option maxRecDepth 100000 in
set_option maxHeartbeats 2000000 in
theorem known_ok (w : World) : Calls Tryd.prog 8 #[] w fun e w' => e = .returned (.bool true) ∧ Below w.heap.size w w' := by
  go_enter Tryd.func8, Tryd.ntmps8
  go_wp2_with fail
  refine (new_ok none 0 6 [] _ (Holds.nil _ _ _) (by simp) (by omega) (by omega) rfl).mono ?_
  rintro e w1 ⟨dp, rfl, hd1, hb1⟩
  have hst1 : DiskSt w1 (fun q => q < w.heap.size) dp 6 (fun _ => zsec) :=
    ⟨_, _, hd1.there, fun k hk => hk.2, rfl, ⟨rfl, rfl, rfl, fun _ => Sec.zero⟩, rfl, fun k hk => ⟨Nat.lt_of_lt_of_le hk hb1.size, fun h9 => by
      rcases h9.1 with h9 | h9
      · exact h9
      · omega⟩⟩
  have HD1 := Lib.hid hst1
  have HB1 := Lib.hid hb1
  clear hd1 hb1 hst1
  go_wp2_with fail
  refine (st_format (a := 0) (n := 6) HD1.out (by decide) (by decide)).mono ?_
  rintro e w2 ⟨rfl, hd2, hk2⟩
  have HD2 := Lib.hid hd2
  have HB2 : Hid (Below w.heap.size w w2) := Lib.hid (HB1.out.trans (hk2.below HB1.out.size fun k hk => Nat.le_of_not_lt hk))
  clear hd2 hk2 HD1
  go_wp2_with fail
  refine (st_open HD2.out (Clean.format (a := 0) (n := 6) (fun _ => Sec.zero) (by decide) (by decide)) (by decide) (by decide)).mono ?_
  rintro e w3 ⟨p, rfl, hl3, hk3⟩
  obtain ⟨n5, hn5⟩ : ∃ n, n = 500 := ⟨_, rfl⟩
  obtain ⟨n10, hn10⟩ : ∃ n, n = 1000 := ⟨_, rfl⟩
  have HN5 := Lib.hid hn5
  have HN10 := Lib.hid hn10
  have HC5 : Hid (costN n5 = 2) := Lib.hid (by rw [hn5]; decide)
  have HC10 : Hid (costN n10 = 3) := Lib.hid (by rw [hn10]; decide)
  have HV5 : Hid (Value.int .i64 500 = .int .i64 (n5 : Int)) := Lib.hid (by rw [hn5]; rfl)
  have HV10 : Hid (Value.int .i64 1000 = .int .i64 (n10 : Int)) := Lib.hid (by rw [hn10]; rfl)
  have hb5 : n5 ≤ 281474976710656 := by omega
  have hb10 : n10 ≤ 281474976710656 := by omega
  have hb3 : Below w.heap.size w w3 := HB2.out.trans (hk3.below HB2.out.size fun k hk => Nat.le_of_not_lt hk)
  have HT : Hid (KnT w dp p n5 0 true none none none w3) := Lib.hid (KnT.mk (hl3.less (fun k hk => (by
    rcases hk with hk | hk | hk | hk
    · exact hk
    all_goals cases hk))) (fun q e => (by cases e)) (fun q e => (by cases e)) hb3 (fun q r e => (by cases e)))
  clear hl3 hk3 hb3 hn5 hn10 HD2 HB2 HB1
  go_upto_region 4 with fail
  go_cut [6, 7, 8] from 6 to 38 (fun s6 s7 s8 wx => s6 = .int .i64 0 ∧ s7 = .int .i64 0 ∧ s8 = .int .i64 6 ∧ ∃ A B C, KnT w dp p n5 2 true A B C wx)
  case first =>
    refine wp_region_any (by kernel_rfl) ?_
    change wpAny _ _ _ _ 13 #[false, false, false, false, false, false, false, false, false, false, false, false, false] _ (World.drew _)
    have HT := Lib.hid HT.out.dr
    revert HT
    generalize World.drew w3 = W0
    intro HT
    refine wpAny_take (i := 0) (oi := ?o0) (v := .pointer (some ⟨p, 0, none⟩)) ?g0 (by kernel_rfl) ?f0 (by kernel_rfl) ?q0 (Or.inl ⟨?n0, ?y0⟩) ?_
    case g0 => simp only [List.getElem?_toArray, List.getElem?_cons_zero]; with_reducible rfl
    case f0 => kernel_rfl
    case q0 => exact fun _ _ _ h => h
    case n0 => rfl
    case y0 => intro Wy; go_simp
    simp only [Act.put, List.setIfInBounds_toArray, List.set_cons_zero, List.set_cons_succ]
    refine wpAny_take (i := 4) (oi := ?o4) (v := .pointer (some ⟨p, 0, none⟩)) ?g4 (by kernel_rfl) ?f4 (by kernel_rfl) ?q4 (Or.inl ⟨?n4, ?y4⟩) ?_
    case g4 => simp only [List.getElem?_toArray, List.getElem?_cons_succ, List.getElem?_cons_zero]; with_reducible rfl
    case f4 => kernel_rfl
    case q4 => exact fun _ _ _ h => h
    case n4 => rfl
    case y4 => intro Wy; go_simp
    simp only [Act.put, List.setIfInBounds_toArray, List.set_cons_zero, List.set_cons_succ]
    refine wpAny_take (i := 7) (oi := ?o7) (v := .pointer (some ⟨p, 0, none⟩)) ?g7 (by kernel_rfl) ?f7 (by kernel_rfl) ?q7 (Or.inl ⟨?n7, ?y7⟩) ?_
    case g7 => simp only [List.getElem?_toArray, List.getElem?_cons_succ, List.getElem?_cons_zero]; with_reducible rfl
    case f7 => kernel_rfl
    case q7 => exact fun _ _ _ h => h
    case n7 => rfl
    case y7 => intro Wy; go_simp
    simp only [Act.put, List.setIfInBounds_toArray, List.set_cons_zero, List.set_cons_succ]
    refine wpAny_named ?_
    intro a0 ha0
    refine wpAny_inv (fun listed a wx => ∃ s b5 b8 v30 v31 v32 v34 v35 v37 v38 v6 v7 v8, listed = knL s b5 b8 ∧ a = (((((((((a0.put (some 30) v30).put (some 31) v31).put (some 32) v32).put (some 34) v34).put (some 35) v35).put (some 37) v37).put (some 38) v38).put (some 6) v6).put (some 7) v7).put (some 8) v8 ∧ KnF w dp p n5 n10 s b5 b8 v30 v31 v32 v34 v35 v37 v38 v6 v7 v8 wx) ?step ?done 10 _ _ _ (by decide) ?init
    case init =>
      subst ha0
      refine ⟨0, false, false, undef, undef, undef, undef, undef, undef, undef, undef, undef, undef, rfl, ?fr, ?kn⟩
      case fr => kernel_rfl
      case kn =>
        exact ⟨⟨none, none, none, HT.out.unmarked, fun _ => rfl, by omega, fun e => (by cases e), fun _ => rfl, fun e => (by cases e), fun _ => rfl⟩, by omega, by omega, by omega, by omega, by omega, by omega, by omega⟩
    case done =>
      rintro listed a wx ⟨s, b5, b8, v30, v31, v32, v34, v35, v37, v38, v6, v7, v8, rfl, rfl, hF⟩ hr
      subst ha0
      have hs : 8 ≤ s := by
        rcases Nat.lt_or_ge s 8 with hs | hs
        · exfalso
          have h9 := congrArg List.isEmpty hr
          clear hr hF HT HC5 HC10 HV5 HV10 HN5 HN10
          obtain rfl | rfl | rfl | rfl | rfl | rfl | rfl | rfl : s = 0 ∨ s = 1 ∨ s = 2 ∨ s = 3 ∨ s = 4 ∨ s = 5 ∨ s = 6 ∨ s = 7 := by omega
          all_goals
            cases b5 <;> cases b8
            all_goals
              refine Bool.false_ne_true (Eq.trans (Eq.symm ?_) h9)
              kernel_rfl
        · exact hs
      clear hr
      obtain rfl := hF.a6 (by omega)
      obtain rfl := hF.a7 (by omega)
      obtain rfl := hF.a8 (by omega)
      obtain ⟨A, B, C, hT, _⟩ := hF.st
      have hk : knK s = 2 := if_pos (by omega)
      have hc : decide (s ≠ 1) = true := decide_eq_true (by omega)
      rw [hk, hc] at hT
      have HT := Lib.hid hT
      clear hT hk hc hF
      simp only [Act.put, List.setIfInBounds_toArray, List.set_cons_zero, List.set_cons_succ]
      go_wp2_with fail
      go_meet
      exact ⟨rfl, rfl, rfl, A, B, C, HT.out⟩
    case step =>
      rintro listed a wx i ⟨s, b5, b8, v30, v31, v32, v34, v35, v37, v38, v6, v7, v8, rfl, rfl, hF⟩ hi
      have hlt : i < 13 := (ready_false hi).1
      obtain ⟨g1, g2⟩ := ready_after hi
      clear hi
      subst ha0
      have HF := Lib.hid hF
      clear hF
      match i, hlt with
      | 0, _ =>
        exact (Bool.false_ne_true (Eq.symm g1)).elim
      | 1, _ =>
        have g1 : ¬ 1 ≤ s := of_decide_eq_false g1
        obtain rfl : s = 0 := by omega
        refine op_of (i := 1) (o := ?opr1x) ?look1x ?grd1x fun K hK => ?_
        case look1x => simp only [List.getElem?_toArray, List.getElem?_cons_succ, List.getElem?_cons_zero]; with_reducible rfl
        case grd1x => rfl
        refine step_build3 41 5 97 98 99 ?_ Tryd.underlying41 infoU8s ?_
        · with_reducible rfl
        refine hK _ _ ⟨1, b5, b8, _, _, _, _, _, _, _, _, _, _, ?l1x, ?fr1x, HF.out.build⟩
        case l1x => kernel_rfl
        case fr1x => kernel_rfl
      | 2, _ =>
        have g1 : ¬ 2 ≤ s := of_decide_eq_false g1
        obtain rfl | rfl : s = 0 ∨ s = 1 := by omega
        · refine (Bool.false_ne_true (Eq.trans (Eq.symm ?_) g2)).elim
          kernel_rfl
        obtain ⟨g, rfl, hrow, hF⟩ := HF.out.mark
        have HF := Lib.hid hF
        clear hF
        refine op_of (i := 2) (o := ?opr2x) ?look2x ?grd2x fun K hK => ?_
        case look2x => simp only [List.getElem?_toArray, List.getElem?_cons_succ, List.getElem?_cons_zero]; with_reducible rfl
        case grd2x => rfl
        have hrow1 : wx.heap[g]? = some (.cells #[.int .u8 97, .int .u8 98, .int .u8 99] 5 (0, 0)) := hrow
        with_reducible refine step_convert_row (w := wx) (C := #[.int .u8 97, .int .u8 98, .int .u8 99]) (n := 3) (c := 3) (g := g) (x := .tmp 30) (t := 41) (e := 5) (ho := ?ho2) (hx := ?hx2) (hrow := hrow1) (ht := Tryd.underlying41) (he := Tryd.underlying5) ?st2
        case ho2 => with_reducible rfl
        case hx2 => kernel_rfl
        refine hK _ _ ⟨2, b5, b8, _, _, _, _, _, _, _, _, _, _, ?l2x, ?fr2x, HF.out⟩
        case l2x => kernel_rfl
        case fr2x => kernel_rfl
      | 3, _ =>
        have g1 : ¬ 3 ≤ s := of_decide_eq_false g1
        obtain rfl | rfl | rfl : s = 0 ∨ s = 1 ∨ s = 2 := by omega
        · refine (Bool.false_ne_true (Eq.trans (Eq.symm ?_) g2)).elim
          kernel_rfl
        · refine (Bool.false_ne_true (Eq.trans (Eq.symm ?_) g2)).elim
          kernel_rfl
        refine op_of (i := 3) (o := ?opr3x) ?look3x ?grd3x fun K hK => ?_
        case look3x => simp only [List.getElem?_toArray, List.getElem?_cons_succ, List.getElem?_cons_zero]; with_reducible rfl
        case grd3x => rfl
        simp only [Act.put, List.setIfInBounds_toArray, List.set_cons_zero, List.set_cons_succ]
        go_simp
        refine (HF.out.app1).mono ?_
        rintro e wy ⟨rfl, hF⟩
        refine hK _ _ ⟨3, b5, b8, _, _, _, _, _, _, _, _, _, _, ?l3x, ?fr3x, hF⟩
        case l3x => kernel_rfl
        case fr3x => kernel_rfl
      | 4, _ =>
        exact (Bool.false_ne_true (Eq.symm g1)).elim
      | 5, _ =>
        cases b5
        case true => exact (Bool.false_ne_true (Eq.symm g1)).elim
        refine op_of (i := 5) (o := ?opr5x) ?look5x ?grd5x fun K hK => ?_
        case look5x => simp only [List.getElem?_toArray, List.getElem?_cons_succ, List.getElem?_cons_zero]; with_reducible rfl
        case grd5x => rfl
        refine step_make_bytes 41 5 (.const (.int .i64 500)) ?_ n5 ?_ Tryd.underlying41 infoU8s hb5 ?_
        · with_reducible rfl
        · exact HV5.out
        refine hK _ _ ⟨s, true, b8, _, _, _, _, _, _, _, _, _, _, ?l5x, ?fr5x, HF.out.make5⟩
        case l5x => kernel_rfl
        case fr5x => kernel_rfl
      | 6, _ =>
        have g1 : ¬ 4 ≤ s := of_decide_eq_false g1
        cases b5
        case false =>
          obtain rfl | rfl | rfl | rfl : s = 0 ∨ s = 1 ∨ s = 2 ∨ s = 3 := by omega
          all_goals
            refine (Bool.false_ne_true (Eq.trans (Eq.symm ?_) g2)).elim
            kernel_rfl
        obtain rfl | rfl | rfl | rfl : s = 0 ∨ s = 1 ∨ s = 2 ∨ s = 3 := by omega
        · refine (Bool.false_ne_true (Eq.trans (Eq.symm ?_) g2)).elim
          kernel_rfl
        · refine (Bool.false_ne_true (Eq.trans (Eq.symm ?_) g2)).elim
          kernel_rfl
        · refine (Bool.false_ne_true (Eq.trans (Eq.symm ?_) g2)).elim
          kernel_rfl
        refine op_of (i := 6) (o := ?opr6x) ?look6x ?grd6x fun K hK => ?_
        case look6x => simp only [List.getElem?_toArray, List.getElem?_cons_succ, List.getElem?_cons_zero]; with_reducible rfl
        case grd6x => rfl
        simp only [Act.put, List.setIfInBounds_toArray, List.set_cons_zero, List.set_cons_succ]
        go_simp
        refine (HF.out.app2 HC5.out).mono ?_
        rintro e wy ⟨rfl, hF⟩
        refine hK _ _ ⟨4, true, b8, _, _, _, _, _, _, _, _, _, _, ?l6x, ?fr6x, hF⟩
        case l6x => kernel_rfl
        case fr6x => kernel_rfl
      | 7, _ =>
        exact (Bool.false_ne_true (Eq.symm g1)).elim
      | 8, _ =>
        cases b8
        case true => exact (Bool.false_ne_true (Eq.symm g1)).elim
        refine op_of (i := 8) (o := ?opr8x) ?look8x ?grd8x fun K hK => ?_
        case look8x => simp only [List.getElem?_toArray, List.getElem?_cons_succ, List.getElem?_cons_zero]; with_reducible rfl
        case grd8x => rfl
        refine step_make_bytes 41 5 (.const (.int .i64 1000)) ?_ n10 ?_ Tryd.underlying41 infoU8s hb10 ?_
        · with_reducible rfl
        · exact HV10.out
        refine hK _ _ ⟨s, b5, true, _, _, _, _, _, _, _, _, _, _, ?l8x, ?fr8x, HF.out.make10⟩
        case l8x => kernel_rfl
        case fr8x => kernel_rfl
      | 9, _ =>
        have g1 : ¬ 5 ≤ s := of_decide_eq_false g1
        cases b8
        case false =>
          obtain rfl | rfl | rfl | rfl | rfl : s = 0 ∨ s = 1 ∨ s = 2 ∨ s = 3 ∨ s = 4 := by omega
          all_goals
            refine (Bool.false_ne_true (Eq.trans (Eq.symm ?_) g2)).elim
            kernel_rfl
        obtain rfl | rfl | rfl | rfl | rfl : s = 0 ∨ s = 1 ∨ s = 2 ∨ s = 3 ∨ s = 4 := by omega
        · refine (Bool.false_ne_true (Eq.trans (Eq.symm ?_) g2)).elim
          kernel_rfl
        · refine (Bool.false_ne_true (Eq.trans (Eq.symm ?_) g2)).elim
          kernel_rfl
        · refine (Bool.false_ne_true (Eq.trans (Eq.symm ?_) g2)).elim
          kernel_rfl
        · refine (Bool.false_ne_true (Eq.trans (Eq.symm ?_) g2)).elim
          kernel_rfl
        refine op_of (i := 9) (o := ?opr9x) ?look9x ?grd9x fun K hK => ?_
        case look9x => simp only [List.getElem?_toArray, List.getElem?_cons_succ, List.getElem?_cons_zero]; with_reducible rfl
        case grd9x => rfl
        simp only [Act.put, List.setIfInBounds_toArray, List.set_cons_zero, List.set_cons_succ]
        go_simp
        refine (HF.out.app3 HC10.out).mono ?_
        rintro e wy ⟨rfl, hF⟩
        refine hK _ _ ⟨5, b5, true, _, _, _, _, _, _, _, _, _, _, ?l9x, ?fr9x, hF⟩
        case l9x => kernel_rfl
        case fr9x => kernel_rfl
      | 10, _ =>
        have g1 : ¬ 6 ≤ s := of_decide_eq_false g1
        obtain rfl | rfl | rfl | rfl | rfl | rfl : s = 0 ∨ s = 1 ∨ s = 2 ∨ s = 3 ∨ s = 4 ∨ s = 5 := by omega
        · refine (Bool.false_ne_true (Eq.trans (Eq.symm ?_) g2)).elim
          kernel_rfl
        · refine (Bool.false_ne_true (Eq.trans (Eq.symm ?_) g2)).elim
          kernel_rfl
        · refine (Bool.false_ne_true (Eq.trans (Eq.symm ?_) g2)).elim
          kernel_rfl
        · refine (Bool.false_ne_true (Eq.trans (Eq.symm ?_) g2)).elim
          kernel_rfl
        · refine (Bool.false_ne_true (Eq.trans (Eq.symm ?_) g2)).elim
          kernel_rfl
        refine op_of (i := 10) (o := ?opr10x) ?look10x ?grd10x fun K hK => ?_
        case look10x => simp only [List.getElem?_toArray, List.getElem?_cons_succ, List.getElem?_cons_zero]; with_reducible rfl
        case grd10x => rfl
        simp only [Act.put, List.setIfInBounds_toArray, List.set_cons_zero, List.set_cons_succ]
        go_simp
        refine hK _ _ ⟨6, b5, b8, _, _, _, _, _, _, _, _, _, _, ?l10x, ?fr10x, HF.out.set6⟩
        case l10x => kernel_rfl
        case fr10x => kernel_rfl
      | 11, _ =>
        have g1 : ¬ 7 ≤ s := of_decide_eq_false g1
        obtain rfl | rfl | rfl | rfl | rfl | rfl | rfl : s = 0 ∨ s = 1 ∨ s = 2 ∨ s = 3 ∨ s = 4 ∨ s = 5 ∨ s = 6 := by omega
        · refine (Bool.false_ne_true (Eq.trans (Eq.symm ?_) g2)).elim
          kernel_rfl
        · refine (Bool.false_ne_true (Eq.trans (Eq.symm ?_) g2)).elim
          kernel_rfl
        · refine (Bool.false_ne_true (Eq.trans (Eq.symm ?_) g2)).elim
          kernel_rfl
        · refine (Bool.false_ne_true (Eq.trans (Eq.symm ?_) g2)).elim
          kernel_rfl
        · refine (Bool.false_ne_true (Eq.trans (Eq.symm ?_) g2)).elim
          kernel_rfl
        · refine (Bool.false_ne_true (Eq.trans (Eq.symm ?_) g2)).elim
          kernel_rfl
        refine op_of (i := 11) (o := ?opr11x) ?look11x ?grd11x fun K hK => ?_
        case look11x => simp only [List.getElem?_toArray, List.getElem?_cons_succ, List.getElem?_cons_zero]; with_reducible rfl
        case grd11x => rfl
        simp only [Act.put, List.setIfInBounds_toArray, List.set_cons_zero, List.set_cons_succ]
        go_simp
        refine hK _ _ ⟨7, b5, b8, _, _, _, _, _, _, _, _, _, _, ?l11x, ?fr11x, HF.out.set7⟩
        case l11x => kernel_rfl
        case fr11x => kernel_rfl
      | 12, _ =>
        have g1 : ¬ 8 ≤ s := of_decide_eq_false g1
        obtain rfl | rfl | rfl | rfl | rfl | rfl | rfl | rfl : s = 0 ∨ s = 1 ∨ s = 2 ∨ s = 3 ∨ s = 4 ∨ s = 5 ∨ s = 6 ∨ s = 7 := by omega
        · refine (Bool.false_ne_true (Eq.trans (Eq.symm ?_) g2)).elim
          kernel_rfl
        · refine (Bool.false_ne_true (Eq.trans (Eq.symm ?_) g2)).elim
          kernel_rfl
        · refine (Bool.false_ne_true (Eq.trans (Eq.symm ?_) g2)).elim
          kernel_rfl
        · refine (Bool.false_ne_true (Eq.trans (Eq.symm ?_) g2)).elim
          kernel_rfl
        · refine (Bool.false_ne_true (Eq.trans (Eq.symm ?_) g2)).elim
          kernel_rfl
        · refine (Bool.false_ne_true (Eq.trans (Eq.symm ?_) g2)).elim
          kernel_rfl
        · refine (Bool.false_ne_true (Eq.trans (Eq.symm ?_) g2)).elim
          kernel_rfl
        refine op_of (i := 12) (o := ?opr12x) ?look12x ?grd12x fun K hK => ?_
        case look12x => simp only [List.getElem?_toArray, List.getElem?_cons_succ, List.getElem?_cons_zero]; with_reducible rfl
        case grd12x => rfl
        simp only [Act.put, List.setIfInBounds_toArray, List.set_cons_zero, List.set_cons_succ]
        go_simp
        refine hK _ _ ⟨8, b5, b8, _, _, _, _, _, _, _, _, _, _, ?l12x, ?fr12x, HF.out.set8⟩
        case l12x => kernel_rfl
        case fr12x => kernel_rfl
  case rest =>
    obtain ⟨rfl, rfl, rfl, A, B, C, hT⟩ := hcut
    have hst : Calls Tryd.prog 19 #[.pointer (some ⟨p, 0, none⟩)] wc (fun e w' => e = .returned (.tuple #[.int .i64 2, .int .i64 484, .int .u64 2, .bool false]) ∧ Below wc.heap.size wc w') := (st_state hT.st).mono fun e w' ⟨h1, h2⟩ => ⟨by rw [h1]; rfl, h2⟩
    have HT := Lib.hid hT
    have HST := Lib.hid hst
    clear hst hT
    go_wp2_with fail
    refine HST.out.mono ?_
    rintro e w5 ⟨rfl, hb5⟩
    have hT5 := HT.out.call hb5
    obtain ⟨f, hd5, hc5, hf5⟩ := hT5.st.disk
    have hsm9 : ∀ b ∈ knBs n5 2, b.length ≤ 140737488355328 := by
      intro b hb
      have hb : b ∈ [[97, 98, 99], zeros5 n5] := hb
      rcases List.mem_cons.1 hb with rfl | hb
      · decide
      · obtain rfl := List.mem_singleton.1 hb
        show (List.replicate n5 0).length ≤ _
        rw [List.length_replicate]
        have := HN5.out
        omega
    have HLK := Lib.hid (st_look hd5 hc5 hf5 (by simp [knBs]) hsm9)
    have HT5 := Lib.hid hT5
    clear hT5 hd5 hc5 hf5 hb5 HST
    go_wp2_with fail
    refine HLK.out.mono ?_
    rintro e w6 ⟨v, ys, rfl, hys, hl, hbats, hb6⟩
    obtain ⟨y0, y1, rfl⟩ : ∃ y0 y1, ys = [y0, y1] := by
      match ys, hys with
      | [], h => simp [knBs] at h
      | [a], h => simp [knBs] at h
      | [a, b], _ => exact ⟨a, b, rfl⟩
      | a :: b :: c :: r, h => simp [knBs] at h
    have hy0 : y0.l = [97, 98, 99] := by
      simp only [knBs, List.map_cons, List.map_nil] at hys
      injection hys
    have hlt := hl.there
    obtain ⟨g, off, cap, hv, hgF, hc1, hc2, hgl, hrng⟩ := hlt.cells (by simp)
    subst hv
    have hb0 := (hbats y0 (by simp)).lies.there
    have hO : LogSt w6 (fun q => (q < w.heap.size ∨ A = some q ∨ B = some q ∨ C = some q) ∨ (w5.heap.size ≤ q ∧ q < w6.heap.size)) dp p 6 0 6 2 1 (knUsed 2) (knBs n5 2) := HT5.out.st.own hb6 fun q hq => hq
    have HO := Lib.hid hO
    have HLT := Lib.hid hlt
    have HB0 := Lib.hid hb0
    have HBW6 := Lib.hid (HT5.out.below.call hb6)
    have hsz5 := HT5.out.below.size
    have HY0 := Lib.hid hy0
    have hlen : ([y0, y1] : List Bat).length = 2 := rfl
    clear hO hlt hb0 hl hbats hb6 hrng hgF hys HLK hy0
    go_wp2_with fail
    refine (st_reset HO.out (by decide)).mono ?_
    rintro e w7 ⟨rfl, hl7, hk7⟩
    obtain ⟨f7, hd7, hc7, hf7⟩ := hl7.disk
    have HLK7 := Lib.hid (st_look hd7 hc7 hf7 (by simp) (fun b hb => (List.not_mem_nil hb).elim))
    have HL7 := Lib.hid (HLT.out.kept hk7 fun k hk hn => hn (.inr ⟨by
      rcases hk.1 with h9 | h9
      · exact h9.elim
      · exact h9, hk.2⟩))
    have HB7 := Lib.hid (HB0.out.kept hk7 fun k hk hn => hn (.inr ⟨by
      rcases hk.1 with h9 | h9
      · exact h9.elim
      · exact h9, hk.2⟩))
    have HBW7 : Hid (Below w.heap.size w w7) := Lib.hid (HBW6.out.trans (hk7.below HBW6.out.size fun q hq => by
      rcases Nat.lt_or_ge q w.heap.size with h9 | h9
      · exact absurd (.inl (.inl h9)) hq
      · exact h9))
    clear hl7 hk7 hd7 hc7 hf7
    go_wp2_with fail
    refine HLK7.out.mono ?_
    rintro e w8 ⟨v8, ys8, rfl, hys8, hl8, _, hb8⟩
    obtain rfl : ys8 = [] := by
      cases ys8 with
      | nil => rfl
      | cons a r => simp at hys8
    obtain ⟨A8, c8, hv8, _, _⟩ := hl8.form
    subst hv8
    have hl9 := HL7.out.below hb8
    have hb9 := HB7.out.below hb8
    obtain ⟨g', off', cap', hv', _, _, _, _, hrng⟩ := hl9.cells (by simp)
    injection hv' with ha _ _
    injection ha with ha
    injection ha with ha1 ha2 _
    subst ha1; subst ha2
    have hcell : w8.cell? ⟨g, off, none⟩ = some y0.v := by
      have := hrng 0 y0.v (by simp [bvs])
      simpa using this
    have hby : Bytes w8 y0.A 3 [97, 98, 99] := by
      have hs9 : Small y0.l := by rw [HY0.out]; unfold Small; decide
      obtain ⟨A1, c1, e1, h1, _⟩ := lies_bytes hb9 hs9
      have e2 : Value.slice y0.A y0.l.length y0.c = .slice A1 y0.l.length c1 := e1
      injection e2 with e2 _ _
      rw [e2]
      have := h1
      rw [HY0.out] at this
      exact this
    have hvv : y0.v = .slice y0.A 3 y0.c := by
      show Value.slice y0.A y0.l.length y0.c = _
      rw [HY0.out]
      rfl
    rw [hvv] at hcell
    have hconv : (convert 41 9 (.slice y0.A 3 y0.c)).run Tryd.prog w8 = .ok (.string ⟨#[97, 98, 99]⟩) w8 := run_text hby 41 9 5 y0.c Tryd.underlying41 Tryd.underlying5 Tryd.underlying9
    have HBW8 := Lib.hid (HBW7.out.call hb8)
    clear hl8 hb8 hl9 hb9 hrng hby hvv HL7 HB7
    go_wp2
    go_ret
    exact ⟨rfl, HBW8.out⟩
end Go.Proofs.YtljlkmmeedlaiaaDoor
