/- Layer 8: variables that hold values. -/
import Derived.Test.YtfdodndagakmmaaGreatDoorPt52
import Derived.Test.YtfdodndagakmmaaGreatDoorPt43
import Derived.Test.YtfdodndagakmmaaGreatDoorPt38
import Derived.Test.YtfdodndagakmmaaGreatDoorPt50
import Derived.Test.YtfdodndagakmmaaGreatDoorPt51
import Derived.Test.YtfdodndagakmmaaGreatDoorPt42
import Derived.Test.YtfdodndagakmmaaGreatDoorPt33
import Derived.Lib.LaidU8
namespace Go.Proofs.YtfdodndagakmmaaGreatDoor
open Go.RowKit
set_option maxRecDepth 100000
/-- A variable that holds a value. -/
structure VarAt (W : World) (g : Nat) (v : JV) (cs : Array Value) : Prop where
  row : Row W g 30 cs
  is : JIs W (fun _ => True) v cs.toList
  size : cs.size = 8
theorem VarAt.call {W W' : World} {g : Nat} {v : JV} {cs : Array Value} (h : VarAt W g v cs) (hb : Below W.heap.size W W') : VarAt W' g v cs := ⟨h.row.call hb, h.is.below hb, h.size⟩
theorem VarAt.range {W : World} {g : Nat} {v : JV} {cs : Array Value} (h : VarAt W g v cs) : W.rangeAt g 0 cs.toList := fun q u hu => by rw [Nat.zero_add]; exact h.row.cell (by simpa using hu)
theorem VarAt.laid {V : World} {F : Nat → Prop} {v : JV} {cs : Array Value} (hj : JIs V F v cs.toList) : VarAt (varW V cs) V.heap.size v cs :=
  have h8 := size_of_jis hj
  ⟨(varW_ok V cs h8).2.1, (JIs.mono (fun _ _ _ => trivial) _ _ hj).below (varW_ok V cs h8).1, h8⟩
end Go.Proofs.YtfdodndagakmmaaGreatDoor
/- Layer 8's laws: JSONBack. (Written by wip/genjsbkl.py.) -/
namespace Go.Proofs.YtfdodndagakmmaaGreatDoor
open Go.RowKit
theorem JIs.form {W : World} {F : Nat → Prop} {v : JV} {cs : Array Value} (h : JIs W F v cs.toList) : ∃ k b d t L N, cs = jvC k b d t L N := by
  obtain ⟨k, b, d, t, l, ns⟩ := v
  unfold JIs at h
  obtain ⟨A, c, A', c', e, _⟩ := h
  exact ⟨k, b, d, t, _, _, Array.toList_inj.1 e⟩
/-- Print of what may be, read again. -/
theorem print_parse {v : JV} (h : checkJ v = 0) {A : Option Addr} {c : Nat} {W : World} {F : Nat → Prop} (hl : Lies W F 5 1 (.slice A (tellJ v).length c) (tellJ v).length (u8s (tellJ v))) (hT : PowTab W) (hU : Lib.Utf8Tabs 0 1 W) :
    Calls Tryz.prog 11 #[.slice A (tellJ v).length c] W (ParPost W v 0) := by
  obtain ⟨A9, c9, e9, l1, l2, h9⟩ := hl.holds
  obtain ⟨rfl, _, rfl⟩ := Value.slice.inj e9
  have := jparse_v A (tellJ v).length c (tellJ v) W h9 rfl l1 l2 hT hU
  rw [tell_parse h] at this
  exact this
set_option maxRecDepth 1000000 in
set_option maxHeartbeats 8000000 in
theorem back_law (F : Nat → Prop) (c1 : Array Value) (v : JV) (A : Option Addr) (n c : Nat) (b : List UInt8) (w : World) (hJ : JIs w F v c1.toList) (hsm : SmallJ v) (hw : wJ v ≤ 1048576)
    (hA : Holds w A n 1 (u8s b)) (hbn : b.length = n) (hnc : n ≤ c) (hcm : c ≤ 9223372036854775807) (hT : PowTab w) (hU : Lib.Utf8Tabs 0 1 w) :
    Calls Tryz.prog 7 #[.agg c1, .slice A n c] w fun e w' => e = .returned (.bool true) ∧ Below w.heap.size w w' := by
  obtain ⟨k, bb, d, t, L, N, hc1⟩ := hJ.form
  have HE1 := Lib.hid hc1
  have h8 := size_of_jis hJ
  obtain ⟨w1, hw1⟩ : ∃ w1, w1 = w.alloc (.cells c1 30) := ⟨_, rfl⟩
  have hb1 : Below w.heap.size w w1 := by rw [hw1]; exact (Below.refl _ _).alloc (Nat.le_refl _) _
  have HB1 := Lib.hid hb1
  have HV1 : Hid (VarAt w1 w.heap.size v c1) := Lib.hid ⟨by rw [hw1]; exact Row.new _ _ _, (JIs.mono (fun _ _ _ => trivial) _ _ hJ).below hb1, h8⟩
  have HT := Lib.hid (fun V (hb : Below w1.heap.size w1 V) => hT.below (hb1.call hb))
  have HU := Lib.hid (fun V (hb : Below w1.heap.size w1 V) => Utf8Tabs_below hU (hb1.call hb))
  have hd2 := depth_w _ v (Nat.le_refl _)
  have hdv : depthJ v ≤ 1000000 := by omega
  have hfv : askJ v = true → FineJ v := ask_fine _ v (Nat.le_refl _) (by omega)
  have H8c1 := Lib.hid h8
  obtain ⟨w2, hw2⟩ : ∃ w2, w2 = w1.alloc (.cells c1 30) := ⟨_, rfl⟩
  have hb2 : Below w1.heap.size w1 w2 := by rw [hw2]; exact (Below.refl _ _).alloc (Nat.le_refl _) _
  have FS : Hid (Calls Tryz.prog 15 #[.slice (some ⟨w1.heap.size, 0, none⟩) 1 1] w2 fun e w' => (∃ r : Bool, e = .returned (.bool r)) ∧ Below w1.heap.size w1 w') := Lib.hid (by
    have hr : Row w2 w1.heap.size 30 c1 := by rw [hw2]; exact Row.new _ _ _
    refine (jsmall_ok (fun _ => True) (some ⟨w1.heap.size, 0, none⟩) 1 [v] w2 ?_ (by simp) (by omega) (fun x hx => by rw [List.mem_singleton.1 hx]; omega)).mono fun e w' h => ⟨h.1, hb2.call h.2⟩
    unfold KidsAt
    refine ⟨⟨w1.heap.size, 0, c1.toList, rfl, trivial, hr.lt, fun j u hu => ?_, HV1.out.is.below hb2⟩, by unfold KidsAt; trivial⟩
    rw [Nat.zero_mul, Nat.zero_add, Nat.zero_add]
    exact hr.cell (by simpa using hu))
  have FC : Hid (∀ V, Below w1.heap.size w1 V → Calls Tryz.prog 17 #[.agg c1] V fun e w' => e = .returned (.int .i64 (checkJ v)) ∧ Below V.heap.size V w') := Lib.hid fun V hb => jcheck_ok (fun _ => True) c1 v V (HV1.out.call hb).is hsm hfv hdv (HT.out V hb) (HU.out V hb)
  have FP : Hid (∀ V, Below w1.heap.size w1 V → Calls Tryz.prog 18 #[.agg c1] V (PrtPost V (printJ v))) := Lib.hid fun V hb => jprint_ok (fun _ => True) c1 v V (HV1.out.call hb).is h8 hsm hfv hdv (HT.out V hb) (HU.out V hb)
  have FW : Hid (∀ V, Below w1.heap.size w1 V → Calls Tryz.prog 10 #[] V fun e w' => e = .returned (.bool true) ∧ Below V.heap.size V w') := Lib.hid fun V hb => jworks_ok V (HT.out V hb) (HU.out V hb)
  obtain ⟨x, hx⟩ : ∃ x, x = (parseJ (Lib.validD b) b).1 := ⟨_, rfl⟩
  obtain ⟨ek, hek⟩ : ∃ ek, ek = (parseJ (Lib.validD b) b).2 := ⟨_, rfl⟩
  have FB : Hid (∀ V, Below w1.heap.size w1 V → Calls Tryz.prog 11 #[.slice A n c] V (ParPost V x ek)) := Lib.hid fun V hb => by
    have h9 := jparse_v A n c b V (hA.below (hb1.call hb)) hbn hnc hcm (HT.out V hb) (HU.out V hb)
    rw [← hx, ← hek] at h9
    exact h9
  have HX : Hid (ek = 0 → checkJ x = 0 ∧ SmallJ x ∧ FineJ x ∧ depthJ x ≤ 1000000) := Lib.hid fun h0 => parse_facts (l := b) (by rw [hx, ← h0, hek])
  have FX : Hid (ek = 0 → ∀ (cs : Array Value) (V : World), Below w1.heap.size w1 V → JIs V (fun _ => True) x cs.toList → Calls Tryz.prog 17 #[.agg cs] V (fun e w' => e = .returned (.int .i64 0) ∧ Below V.heap.size V w') ∧ Calls Tryz.prog 18 #[.agg cs] V (PrtPost V (tellJ x))) := Lib.hid fun h0 cs V hb hj => by
    obtain ⟨q1, q2, q3, q4⟩ := HX.out h0
    have g1 := jcheck_ok (fun _ => True) cs x V hj q2 (fun _ => q3) q4 (HT.out V hb) (HU.out V hb)
    have g2 := jprint_ok (fun _ => True) cs x V hj (size_of_jis hj) q2 (fun _ => q3) q4 (HT.out V hb) (HU.out V hb)
    rw [q1] at g1
    rw [printJ, if_pos q1] at g2
    exact ⟨g1, g2⟩
  have FR : Hid (∀ (u : JV), checkJ u = 0 → ∀ (A : Option Addr) (c : Nat) (V V' : World), Below w1.heap.size w1 V' → Lies V' (fun q => V.heap.size ≤ q) 5 1 (.slice A (tellJ u).length c) (tellJ u).length (u8s (tellJ u)) → Calls Tryz.prog 11 #[.slice A (tellJ u).length c] V' (ParPost V' u 0)) := Lib.hid fun u h0 A c V V' hb hl => print_parse h0 hl (HT.out V' hb) (HU.out V' hb)
  have FSM : Hid (∀ (u : JV) (ca cb : Array Value) (V : World), JIs V (fun _ => True) u ca.toList → JIs V (fun _ => True) u cb.toList → Calls Tryz.prog 36 #[.agg ca, .agg cb] V fun e w' => e = .returned (.bool true) ∧ Below V.heap.size V w') := Lib.hid fun u ca cb V h1 h2 => jsameL_ok _ u (Nat.le_refl _) _ _ ca cb V h1 h2
  have FEQ : Hid (checkJ v = 0 → ∀ (cb : Array Value) (V : World), Below w1.heap.size w1 V → JIs V (fun _ => True) v cb.toList → Calls Tryz.prog 29 #[.agg c1, .agg cb] V fun e w' => e = .returned (.bool true) ∧ Below V.heap.size V w') := Lib.hid fun h0 cb V hb hj => by
    have h9 := jEqual_ok (fun _ => True) (fun _ => True) c1 cb v v V (HV1.out.call hb).is hj h8 (size_of_jis hj) hsm hsm hfv hfv hdv hdv (HT.out V hb) (HU.out V hb)
    rw [equalJ, h0, eqJ_self _ v (Nat.le_refl _) (check_parts h0).1] at h9
    exact h9
  have HRA : Hid (∀ V, Below w1.heap.size w1 V → V.rangeAt w.heap.size 0 c1.toList) := Lib.hid fun V hb => (HV1.out.call hb).range
  have HW2 := Lib.hid hw2
  clear hJ hsm hw hA hbn hT hU hd2 hdv hfv h8 hc1 hb1 hb2 hw2 hx hek
  go_enter Tryz.func7, Tryz.ntmps7
  go_upto_region 1 with fail
  rw [← hw1]
  clear hw1
  have HG0 := Lib.hid (HRA.out w1 (Below.refl _ _))
  go_wp2_with (first
    | (refine wpList_load_mid ?_ 30 (.tmp 2) ?_ w.heap.size 0 ?_ c1.toList _ HG0.out Tryz.underlying30 rfl (by rw [Array.length_toList]; exact info_of_size H8c1.out) ?_
       · with_reducible rfl
       · with_reducible rfl
       · rfl)
    | (refine wpList_plain ?_ fun K hK => wp_build1 (.tmp 12) ?_ k bb d t L N ?_ (hK _ _ ?_)
       · with_reducible rfl
       · with_reducible rfl
       · exact congrArg Value.agg HE1.out
       rw [← HE1.out, ← HW2.out]))
  clear HG0
  refine FS.out.mono ?_
  rintro e w3 ⟨⟨r, rfl⟩, hb⟩
  have HB3 := Lib.hid hb
  clear hb
  cases r with
  | false =>
    go_wp2_with fail
    refine (FW.out _ HB3.out).mono ?_
    rintro e y1 ⟨rfl, hb⟩
    have HY1 := Lib.hid (HB1.out.call ((HB3.out).call hb))
    clear hb
    go_wp2_with fail
    go_ret
    exact ⟨rfl, HY1.out⟩
  | true =>
    by_cases hlen : (n : Int) > 20000
    · go_wp2_with fail
      refine (FW.out _ HB3.out).mono ?_
      rintro e y1 ⟨rfl, hb⟩
      have HY1 := Lib.hid (HB1.out.call ((HB3.out).call hb))
      clear hb
      go_wp2_with fail
      go_ret
      exact ⟨rfl, HY1.out⟩
    · by_cases hz : checkJ v = 0
      · have FC2 := Lib.hid (FC.out w3 HB3.out)
        rw [hz] at FC2
        have HZ := Lib.hid hz
        have FP2 := Lib.hid (fun V hb => FP.out V hb)
        rw [printJ, if_pos hz] at FP2
        clear hz FC FP
        have HG0 := Lib.hid (HRA.out w3 HB3.out)
        go_wp2_with (first
          | (refine wpList_load_mid ?_ 30 (.tmp 2) ?_ w.heap.size 0 ?_ c1.toList _ HG0.out Tryz.underlying30 rfl (by rw [Array.length_toList]; exact info_of_size H8c1.out) ?_
             · with_reducible rfl
             · with_reducible rfl
             · rfl))
        clear HG0
        refine FC2.out.mono ?_
        rintro e w4 ⟨rfl, hb⟩
        have HB4 := Lib.hid (HB3.out.call hb)
        clear hb
        have HG1 := Lib.hid (HRA.out w4 HB4.out)
        go_wp2_with (first
          | (go_at_call 14; go_in)
          | (refine wpList_load_mid ?_ 30 (.tmp 2) ?_ w.heap.size 0 ?_ c1.toList _ HG1.out Tryz.underlying30 rfl (by rw [Array.length_toList]; exact info_of_size H8c1.out) ?_
             · with_reducible rfl
             · with_reducible rfl
             · rfl))
        clear HG1
        refine (FP2.out w4 HB4.out).mono ?_
        rintro e w5 ⟨A1, c5, rfl, _, _, hl, hb⟩
        have HB5 := Lib.hid (HB4.out.call hb)
        have HL5 := Lib.hid hl
        clear hb hl
        go_wp2_with fail
        refine (FR.out v HZ.out A1 c5 w4 w5 HB5.out HL5.out).mono ?_
        rintro e w6 ⟨cw, rfl, hj, hb⟩
        have H8cw := Lib.hid (size_of_jis hj)
        have HONcw := Lib.hid (one_of_jis hj)
        have HTVcw := Lib.hid (varW_ok w6 cw (size_of_jis hj)).2.2
        obtain ⟨w7, hw9⟩ : ∃ V9, V9 = varW w6 cw := ⟨_, rfl⟩
        have HWw7 := Lib.hid hw9
        have HVcw : Hid (VarAt w7 w6.heap.size v cw) := Lib.hid (by rw [hw9]; exact VarAt.laid hj)
        have HBw7 : Hid (Below w1.heap.size w1 w7) := Lib.hid (HB5.out.call (hb.call (by rw [hw9]; exact (varW_ok w6 cw (size_of_jis hj)).1)))
        clear hj hb hw9
        go_upto_region 5 with (
          skip
          refine wpList_store_mid ?_ 30 (.tmp 5) (.tmp 30) ?_ w6.heap.size 0 cw ?_ ?_ ?_ (info_of_size H8cw.out) HONcw.out ?_
          · with_reducible rfl
          · with_reducible rfl
          · rfl
          · rfl
          · exact HTVcw.out
          show wpList _ _ _ _ _ (varW w6 cw)
          rw [← HWw7.out]
          )
        have HRW : Hid (∀ V, Below w7.heap.size w7 V → V.rangeAt w6.heap.size 0 cw.toList) := Lib.hid fun V hb => (HVcw.out.call hb).range
        have HG1 := Lib.hid (HRA.out w7 HBw7.out)
        have HG2 := Lib.hid (HRW.out w7 (Below.refl _ _))
        go_wp2_with (first
          | (go_at_call 14; go_in)
          | (refine wpList_load_midG ?_ 30 (.tmp 2) ?_ w.heap.size 0 ?_ c1.toList _ HG1.out Tryz.underlying30 rfl (by rw [Array.length_toList]; exact info_of_size H8c1.out) ?_
             · kernel_rfl
             · with_reducible rfl
             · rfl)
          | (refine wpList_load_midG ?_ 30 (.tmp 5) ?_ w6.heap.size 0 ?_ cw.toList _ HG2.out Tryz.underlying30 rfl (by rw [Array.length_toList]; exact info_of_size H8cw.out) ?_
             · kernel_rfl
             · with_reducible rfl
             · rfl))
        clear HG1
        clear HG2
        refine (FSM.out v c1 cw w7 (HV1.out.call HBw7.out).is HVcw.out.is).mono ?_
        rintro e w8 ⟨rfl, hb⟩
        have HB78 := Lib.hid hb
        have HB8 := Lib.hid (HBw7.out.call hb)
        clear hb
        have HG0 := Lib.hid (HRA.out w8 HB8.out)
        have HG1 := Lib.hid (HRW.out w8 HB78.out)
        go_wp2_with (first
          | (refine wpList_load_midG ?_ 30 (.tmp 2) ?_ w.heap.size 0 ?_ c1.toList _ HG0.out Tryz.underlying30 rfl (by rw [Array.length_toList]; exact info_of_size H8c1.out) ?_
             · kernel_rfl
             · with_reducible rfl
             · rfl)
          | (refine wpList_load_midG ?_ 30 (.tmp 5) ?_ w6.heap.size 0 ?_ cw.toList _ HG1.out Tryz.underlying30 rfl (by rw [Array.length_toList]; exact info_of_size H8cw.out) ?_
             · kernel_rfl
             · with_reducible rfl
             · rfl))
        clear HG0
        clear HG1
        refine (FEQ.out HZ.out cw w8 HB8.out (HVcw.out.call HB78.out).is).mono ?_
        rintro e w9 ⟨rfl, hb⟩
        have HB9 := Lib.hid (HB8.out.call hb)
        clear hb HB78 HRW
        go_upto_region 9 with fail
        go_wp2_with fail
        refine (FB.out w9 HB9.out).mono ?_
        rintro e wa ⟨cx, rfl, hj, hb⟩
        have H8cx := Lib.hid (size_of_jis hj)
        have HONcx := Lib.hid (one_of_jis hj)
        have HTVcx := Lib.hid (varW_ok wa cx (size_of_jis hj)).2.2
        obtain ⟨wb, hw9⟩ : ∃ V9, V9 = varW wa cx := ⟨_, rfl⟩
        have HWwb := Lib.hid hw9
        have HVcx : Hid (VarAt wb wa.heap.size x cx) := Lib.hid (by rw [hw9]; exact VarAt.laid hj)
        have HBwb : Hid (Below w1.heap.size w1 wb) := Lib.hid (HB9.out.call (hb.call (by rw [hw9]; exact (varW_ok wa cx (size_of_jis hj)).1)))
        have HRX : Hid (∀ V, Below wb.heap.size wb V → V.rangeAt wa.heap.size 0 cx.toList) := Lib.hid fun V hb => (HVcx.out.call hb).range
        clear hj hb hw9
        go_upto_region 10 with (
          skip
          refine wpList_store_mid ?_ 30 (.tmp 7) (.tmp 54) ?_ wa.heap.size 0 cx ?_ ?_ ?_ (info_of_size H8cx.out) HONcx.out ?_
          · with_reducible rfl
          · with_reducible rfl
          · rfl
          · rfl
          · exact HTVcx.out
          show wpList _ _ _ _ _ (varW wa cx)
          rw [← HWwb.out]
          )
        by_cases he : ek = 0
        · have HCX := Lib.hid (FX.out he)
          have HX0 := Lib.hid (HX.out he)
          subst he
          clear FX HX
          as_aux_lemma =>
            have HG1 := Lib.hid (HRX.out wb (Below.refl _ _))
            go_wp2_with (first
              | (go_at_call 14; go_in)
              | (refine wpList_load_mid ?_ 30 (.tmp 7) ?_ wa.heap.size 0 ?_ cx.toList _ HG1.out Tryz.underlying30 rfl (by rw [Array.length_toList]; exact info_of_size H8cx.out) ?_
                 · with_reducible rfl
                 · with_reducible rfl
                 · rfl))
            clear HG1
            refine (HCX.out cx wb HBwb.out HVcx.out.is).2.mono ?_
            rintro e wc ⟨A2, c2, rfl, _, _, hl, hb⟩
            have HBc := Lib.hid hb
            have HL2 := Lib.hid hl
            have HB2 := Lib.hid (HBwb.out.call hb)
            clear hb hl
            go_wp2_with fail
            refine (FR.out x HX0.out.1 A2 c2 wb wc HB2.out HL2.out).mono ?_
            rintro e wd ⟨cy, rfl, hj, hb⟩
            have H8cy := Lib.hid (size_of_jis hj)
            have HONcy := Lib.hid (one_of_jis hj)
            have HTVcy := Lib.hid (varW_ok wd cy (size_of_jis hj)).2.2
            obtain ⟨we, hw9⟩ : ∃ V9, V9 = varW wd cy := ⟨_, rfl⟩
            have HWwe := Lib.hid hw9
            have HVcy : Hid (VarAt we wd.heap.size x cy) := Lib.hid (by rw [hw9]; exact VarAt.laid hj)
            have HBwe : Hid (Below w1.heap.size w1 we) := Lib.hid (HB2.out.call (hb.call (by rw [hw9]; exact (varW_ok wd cy (size_of_jis hj)).1)))
            have HBe : Hid (Below wb.heap.size wb we) := Lib.hid (HBc.out.call (hb.call (by rw [hw9]; exact (varW_ok wd cy (size_of_jis hj)).1)))
            have HL3 : Hid (∀ V, Below we.heap.size we V → (convert 22 9 (.slice A2 (tellJ x).length c2)).run Tryz.prog V = .ok (.string (bs (tellJ x))) V) := Lib.hid fun V hV => by
              obtain ⟨A9, c9, e9, _, _, h9⟩ := HL2.out.holds
              obtain ⟨rfl, _, rfl⟩ := Value.slice.inj e9
              exact run_text_bs (h9.below (hb.call (Below.call (by rw [hw9]; exact (varW_ok wd cy (size_of_jis hj)).1) hV))) 22 9 5 c2 Tryz.underlying22 Tryz.underlying5 Tryz.underlying9
            clear hj hb hw9
            go_upto_region 14 with (
              skip
              refine wpList_store_mid ?_ 30 (.tmp 10) (.tmp 65) ?_ wd.heap.size 0 cy ?_ ?_ ?_ (info_of_size H8cy.out) HONcy.out ?_
              · with_reducible rfl
              · with_reducible rfl
              · rfl
              · rfl
              · exact HTVcy.out
              show wpList _ _ _ _ _ (varW wd cy)
              rw [← HWwe.out]
              )
            have HVX := Lib.hid (HVcx.out.call HBe.out)
            have HVY := HVcy
            have HBX := HBwe
            have FXC := Lib.hid (fun V (hb : Below we.heap.size we V) => (HCX.out cx V (HBX.out.call hb) (HVX.out.call hb).is).1)
            have FYP := Lib.hid (fun V (hb : Below we.heap.size we V) => (HCX.out cy V (HBX.out.call hb) (HVY.out.call hb).is).2)
            have FXY := Lib.hid (fun V (hb : Below we.heap.size we V) => FSM.out x cx cy V (HVX.out.call hb).is (HVY.out.call hb).is)
            have FWW := Lib.hid (fun V (hb : Below we.heap.size we V) => FW.out V (HBX.out.call hb))
            have HQX := Lib.hid (fun V (hb : Below we.heap.size we V) => (HVX.out.call hb).range)
            have HQY := Lib.hid (fun V (hb : Below we.heap.size we V) => (HVY.out.call hb).range)
            have HEND : Hid (∀ V, Below we.heap.size we V → Below w.heap.size w V) := Lib.hid fun V hb => HB1.out.call (HBX.out.call hb)
            generalize tellJ x = tx at *
            refine wp_region_any (by kernel_rfl) ?_
            change wpAny _ _ _ _ _ _ _ we.drew
            have HY0 : Hid (Below we.heap.size we we.drew) := Lib.hid (Below.refl _ _).drew
            generalize we.drew = y0 at *
            try simp only [List.append]
            refine wpAny_seg (k := 0) 10 16 _ ?_ ?_ ?_ ?_
            · kernel_rfl
            · kernel_rfl
            · kernel_rfl
            simp only [List.drop_zero, List.take_succ_cons, List.take_zero]
            have HG1 := Lib.hid (HQX.out y0 HY0.out)
            go_wp2_with (first
              | (go_at_call 14; go_in)
              | (refine wpList_load_mid ?_ 30 (.tmp 7) ?_ wa.heap.size 0 ?_ cx.toList _ HG1.out Tryz.underlying30 rfl (by rw [Array.length_toList]; exact info_of_size H8cx.out) ?_
                 · with_reducible rfl
                 · with_reducible rfl
                 · rfl))
            clear HG1
            refine (FXC.out y0 HY0.out).mono ?_
            rintro e y1 ⟨rfl, hb⟩
            have HY1 := Lib.hid (HY0.out.call hb)
            clear hb
            go_wp2_with (go_at_call 14; go_in)
            show wpAny _ _ _ _ _ _ _ _
            refine wpAny_of_till (z := 12) (S := fun W => Below we.heap.size we W) _ _ _ _ ?_
            have hS1 := HY1.out
            refine wpTill_take (i := 10) (oi := ?_) (v := ?_) ?_ (by kernel_rfl) (by kernel_rfl) (by kernel_rfl) (by kernel_rfl) (by kernel_rfl) ?_ ?_ (by assumption) ?_
            rotate_left 2
            · simp only [List.getElem?_toArray, List.getElem?_cons_succ, List.getElem?_cons_zero]; with_reducible rfl
            · exact fun _ _ _ h => h
            · refine yieldsIf_load_mid ?_ 30 (.tmp 7) ?_ wa.heap.size 0 ?_ cx.toList _ (fun W hSw => HQX.out W hSw) Tryz.underlying30 rfl (by rw [Array.length_toList]; exact info_of_size H8cx.out)
              · kernel_rfl
              · with_reducible rfl
              · kernel_rfl
            try simp only [Act.put, List.setIfInBounds_toArray, List.set_cons_zero, List.set_cons_succ]
            refine wpTill_take (i := 11) (oi := ?_) (v := ?_) ?_ (by kernel_rfl) (by kernel_rfl) (by kernel_rfl) (by kernel_rfl) (by kernel_rfl) ?_ ?_ (by assumption) ?_
            rotate_left 2
            · simp only [List.getElem?_toArray, List.getElem?_cons_succ, List.getElem?_cons_zero]; with_reducible rfl
            · exact fun _ _ _ h => h
            · refine yieldsIf_load_mid ?_ 30 (.tmp 10) ?_ wd.heap.size 0 ?_ cy.toList _ (fun W hSw => HQY.out W hSw) Tryz.underlying30 rfl (by rw [Array.length_toList]; exact info_of_size H8cy.out)
              · kernel_rfl
              · with_reducible rfl
              · kernel_rfl
            try simp only [Act.put, List.setIfInBounds_toArray, List.set_cons_zero, List.set_cons_succ]
            refine wpTill_oneG (i := 12) (o := ?_) (by kernel_rfl) ?_ ?_ ?_
            rotate_left 1
            · simp only [List.getElem?_toArray, List.getElem?_cons_succ, List.getElem?_cons_zero]; with_reducible rfl
            · rfl
            intro K1 hK1
            replace hK1 := Lib.hid hK1
            go_simp
            (with_reducible refine (FXY.out _ HY1.out).mono ?_)
            rintro e y2 ⟨rfl, hb⟩
            go_wp2_with fail
            have HY2 := Lib.hid (HY1.out.call hb)
            clear hb hS1
            refine hK1.out _ _ (fun h => by cases h) ?_
            clear hK1 K1
            try simp only [Act.put, List.setIfInBounds_toArray, List.set_cons_zero, List.set_cons_succ]
            refine wpTill_past _ _ _ _ (by kernel_rfl) ?_
            refine wpAny_seg (k := 13) 2 11 _ ?_ ?_ ?_ ?_
            · kernel_rfl
            · kernel_rfl
            · kernel_rfl
            simp only [List.drop_succ_cons, List.drop_zero, List.take_succ_cons, List.take_zero]
            go_wp2_with fail
            show wpAny _ _ _ _ _ _ _ _
            refine wpAny_take (i := 18) (oi := ?_) (v := ?_) ?_ (by kernel_rfl) (by kernel_rfl) (by kernel_rfl) ?_ ?_ ?_
            rotate_left 2
            · simp only [List.getElem?_toArray, List.getElem?_cons_succ, List.getElem?_cons_zero]; with_reducible rfl
            · exact fun _ _ _ h => h
            · refine Or.inl ⟨by rfl, ?_⟩; intro W; go_simp; try with_reducible rfl
            try simp only [Act.put, List.setIfInBounds_toArray, List.set_cons_zero, List.set_cons_succ]
            have hS2 := HY2.out
            refine wpAny_of_till (z := 20) (S := fun W => Below we.heap.size we W) _ _ _ _ ?_
            refine wpTill_take (i := 19) (oi := ?_) (v := ?_) ?_ (by kernel_rfl) (by kernel_rfl) (by kernel_rfl) (by kernel_rfl) (by kernel_rfl) ?_ ?_ (by assumption) ?_
            rotate_left 2
            · simp only [List.getElem?_toArray, List.getElem?_cons_succ, List.getElem?_cons_zero]; with_reducible rfl
            · exact fun _ _ _ h => h
            · refine Or.inl ⟨by rfl, ?_⟩; intro W hSw; have hcv := HL3.out W hSw; go_simp; try with_reducible rfl
            try simp only [Act.put, List.setIfInBounds_toArray, List.set_cons_zero, List.set_cons_succ]
            refine wpTill_oneG (i := 15) (o := ?_) (by kernel_rfl) ?_ ?_ ?_
            rotate_left 1
            · simp only [List.getElem?_toArray, List.getElem?_cons_succ, List.getElem?_cons_zero]; with_reducible rfl
            · rfl
            intro K1 hK1
            replace hK1 := Lib.hid hK1
            refine wp_load_mid 30 (.tmp 10) ?_ wd.heap.size 0 ?_ cy.toList _ (HQY.out y2 HY2.out) Tryz.underlying30 rfl (by rw [Array.length_toList]; exact info_of_size H8cy.out) ?_
            · with_reducible rfl
            · kernel_rfl
            refine hK1.out _ _ (fun _ => hS2) ?_
            clear hK1 K1
            try simp only [Act.put, List.setIfInBounds_toArray, List.set_cons_zero, List.set_cons_succ]
            refine wpTill_oneG (i := 16) (o := ?_) (by kernel_rfl) ?_ ?_ ?_
            rotate_left 1
            · simp only [List.getElem?_toArray, List.getElem?_cons_succ, List.getElem?_cons_zero]; with_reducible rfl
            · rfl
            intro K1 hK1
            replace hK1 := Lib.hid hK1
            go_simp
            (with_reducible refine (FYP.out _ HY2.out).mono ?_)
            rintro e y3 ⟨AP, cP, rfl, _, _, hl, hb⟩
            go_wp2_with fail
            have HY3 := Lib.hid (HY2.out.call hb)
            have hS3 := HY3.out
            have hcs : (convert 22 9 (.slice AP tx.length cP)).run Tryz.prog y3 = .ok (.string (bs tx)) y3 := by
              obtain ⟨A9, c9, e9, _, _, h9⟩ := hl.holds
              obtain ⟨rfl, _, rfl⟩ := Value.slice.inj e9
              exact run_text_bs h9 22 9 5 cP Tryz.underlying22 Tryz.underlying5 Tryz.underlying9
            clear hb hl hS2
            refine hK1.out _ _ (fun _ => hS3) ?_
            clear hK1 K1
            try simp only [Act.put, List.setIfInBounds_toArray, List.set_cons_zero, List.set_cons_succ]
            refine wpTill_oneG (i := 17) (o := ?_) (by kernel_rfl) ?_ ?_ ?_
            rotate_left 1
            · simp only [List.getElem?_toArray, List.getElem?_cons_succ, List.getElem?_cons_zero]; with_reducible rfl
            · rfl
            intro K1 hK1
            replace hK1 := Lib.hid hK1
            go_simp
            refine hK1.out _ _ (fun _ => hS3) ?_
            clear hK1 K1
            try simp only [Act.put, List.setIfInBounds_toArray, List.set_cons_zero, List.set_cons_succ]
            clear hcs
            refine wpTill_oneG (i := 20) (o := ?_) (by kernel_rfl) ?_ ?_ ?_
            rotate_left 1
            · simp only [List.getElem?_toArray, List.getElem?_cons_succ, List.getElem?_cons_zero]; with_reducible rfl
            · rfl
            intro K1 hK1
            replace hK1 := Lib.hid hK1
            go_simp
            refine hK1.out _ _ (fun h => by cases h) ?_
            clear hK1 K1
            try simp only [Act.put, List.setIfInBounds_toArray, List.set_cons_zero, List.set_cons_succ]
            refine wpTill_past _ _ _ _ (by kernel_rfl) ?_
            refine wpAny_chain (k := 21) 5 ?_ ?_ ?_ ?_
            · kernel_rfl
            · kernel_rfl
            · kernel_rfl
            simp only [List.drop_succ_cons, List.drop_zero]
            go_wp2_with fail
            refine (FWW.out _ HY3.out).mono ?_
            rintro e y4 ⟨rfl, hb⟩
            have HY4 := Lib.hid (HY3.out.call hb)
            clear hb
            go_wp2
            go_ret
            exact ⟨rfl, HEND.out _ HY4.out⟩
        · have e9 : (ek == 0) = false := by rw [beq_eq_false_iff_ne]; exact he
          have e8 : (ek != 0) = true := by rw [bne_iff_ne]; exact he
          clear he FX HX
          go_wp2_with (first
            | (go_at_call 14; go_in))
          refine (FW.out _ HBwb.out).mono ?_
          rintro e y1 ⟨rfl, hb⟩
          have HY1 := Lib.hid (HB1.out.call ((HBwb.out).call hb))
          clear hb
          go_wp2_with fail
          go_ret
          exact ⟨rfl, HY1.out⟩
      · have FC2 := Lib.hid (FC.out w3 HB3.out)
        have e9 : (checkJ v == 0) = false := by rw [beq_eq_false_iff_ne]; exact hz
        have FP2 := Lib.hid (fun V hb => FP.out V hb)
        rw [printJ, if_neg hz] at FP2
        generalize checkJ v = cv at *
        clear hz FC FP
        have HG0 := Lib.hid (HRA.out w3 HB3.out)
        go_wp2_with (first
          | (refine wpList_load_mid ?_ 30 (.tmp 2) ?_ w.heap.size 0 ?_ c1.toList _ HG0.out Tryz.underlying30 rfl (by rw [Array.length_toList]; exact info_of_size H8c1.out) ?_
             · with_reducible rfl
             · with_reducible rfl
             · rfl))
        clear HG0
        refine FC2.out.mono ?_
        rintro e w4 ⟨rfl, hb⟩
        have HB4 := Lib.hid (HB3.out.call hb)
        clear hb
        have HG1 := Lib.hid (HRA.out w4 HB4.out)
        go_wp2_with (first
          | (go_at_call 14; go_in)
          | (refine wpList_load_mid ?_ 30 (.tmp 2) ?_ w.heap.size 0 ?_ c1.toList _ HG1.out Tryz.underlying30 rfl (by rw [Array.length_toList]; exact info_of_size H8c1.out) ?_
             · with_reducible rfl
             · with_reducible rfl
             · rfl))
        clear HG1
        refine (FP2.out w4 HB4.out).mono ?_
        rintro e w5 ⟨A1, c5, rfl, _, _, hl, hb⟩
        have HB5 := Lib.hid (HB4.out.call hb)
        clear hb hl
        go_upto_region 9 with fail
        go_wp2_with fail
        refine (FB.out w5 HB5.out).mono ?_
        rintro e wa ⟨cx, rfl, hj, hb⟩
        have H8cx := Lib.hid (size_of_jis hj)
        have HONcx := Lib.hid (one_of_jis hj)
        have HTVcx := Lib.hid (varW_ok wa cx (size_of_jis hj)).2.2
        obtain ⟨wb, hw9⟩ : ∃ V9, V9 = varW wa cx := ⟨_, rfl⟩
        have HWwb := Lib.hid hw9
        have HVcx : Hid (VarAt wb wa.heap.size x cx) := Lib.hid (by rw [hw9]; exact VarAt.laid hj)
        have HBwb : Hid (Below w1.heap.size w1 wb) := Lib.hid (HB5.out.call (hb.call (by rw [hw9]; exact (varW_ok wa cx (size_of_jis hj)).1)))
        have HRX : Hid (∀ V, Below wb.heap.size wb V → V.rangeAt wa.heap.size 0 cx.toList) := Lib.hid fun V hb => (HVcx.out.call hb).range
        clear hj hb hw9
        go_upto_region 10 with (
          skip
          refine wpList_store_mid ?_ 30 (.tmp 7) (.tmp 54) ?_ wa.heap.size 0 cx ?_ ?_ ?_ (info_of_size H8cx.out) HONcx.out ?_
          · with_reducible rfl
          · with_reducible rfl
          · rfl
          · rfl
          · exact HTVcx.out
          show wpList _ _ _ _ _ (varW wa cx)
          rw [← HWwb.out]
          )
        by_cases he : ek = 0
        · have HCX := Lib.hid (FX.out he)
          have HX0 := Lib.hid (HX.out he)
          subst he
          clear FX HX
          as_aux_lemma =>
            have HG1 := Lib.hid (HRX.out wb (Below.refl _ _))
            go_wp2_with (first
              | (go_at_call 14; go_in)
              | (refine wpList_load_mid ?_ 30 (.tmp 7) ?_ wa.heap.size 0 ?_ cx.toList _ HG1.out Tryz.underlying30 rfl (by rw [Array.length_toList]; exact info_of_size H8cx.out) ?_
                 · with_reducible rfl
                 · with_reducible rfl
                 · rfl))
            clear HG1
            refine (HCX.out cx wb HBwb.out HVcx.out.is).2.mono ?_
            rintro e wc ⟨A2, c2, rfl, _, _, hl, hb⟩
            have HBc := Lib.hid hb
            have HL2 := Lib.hid hl
            have HB2 := Lib.hid (HBwb.out.call hb)
            clear hb hl
            go_wp2_with fail
            refine (FR.out x HX0.out.1 A2 c2 wb wc HB2.out HL2.out).mono ?_
            rintro e wd ⟨cy, rfl, hj, hb⟩
            have H8cy := Lib.hid (size_of_jis hj)
            have HONcy := Lib.hid (one_of_jis hj)
            have HTVcy := Lib.hid (varW_ok wd cy (size_of_jis hj)).2.2
            obtain ⟨we, hw9⟩ : ∃ V9, V9 = varW wd cy := ⟨_, rfl⟩
            have HWwe := Lib.hid hw9
            have HVcy : Hid (VarAt we wd.heap.size x cy) := Lib.hid (by rw [hw9]; exact VarAt.laid hj)
            have HBwe : Hid (Below w1.heap.size w1 we) := Lib.hid (HB2.out.call (hb.call (by rw [hw9]; exact (varW_ok wd cy (size_of_jis hj)).1)))
            have HBe : Hid (Below wb.heap.size wb we) := Lib.hid (HBc.out.call (hb.call (by rw [hw9]; exact (varW_ok wd cy (size_of_jis hj)).1)))
            have HL3 : Hid (∀ V, Below we.heap.size we V → (convert 22 9 (.slice A2 (tellJ x).length c2)).run Tryz.prog V = .ok (.string (bs (tellJ x))) V) := Lib.hid fun V hV => by
              obtain ⟨A9, c9, e9, _, _, h9⟩ := HL2.out.holds
              obtain ⟨rfl, _, rfl⟩ := Value.slice.inj e9
              exact run_text_bs (h9.below (hb.call (Below.call (by rw [hw9]; exact (varW_ok wd cy (size_of_jis hj)).1) hV))) 22 9 5 c2 Tryz.underlying22 Tryz.underlying5 Tryz.underlying9
            clear hj hb hw9
            go_upto_region 14 with (
              skip
              refine wpList_store_mid ?_ 30 (.tmp 10) (.tmp 65) ?_ wd.heap.size 0 cy ?_ ?_ ?_ (info_of_size H8cy.out) HONcy.out ?_
              · with_reducible rfl
              · with_reducible rfl
              · rfl
              · rfl
              · exact HTVcy.out
              show wpList _ _ _ _ _ (varW wd cy)
              rw [← HWwe.out]
              )
            have HVX := Lib.hid (HVcx.out.call HBe.out)
            have HVY := HVcy
            have HBX := HBwe
            have FXC := Lib.hid (fun V (hb : Below we.heap.size we V) => (HCX.out cx V (HBX.out.call hb) (HVX.out.call hb).is).1)
            have FYP := Lib.hid (fun V (hb : Below we.heap.size we V) => (HCX.out cy V (HBX.out.call hb) (HVY.out.call hb).is).2)
            have FXY := Lib.hid (fun V (hb : Below we.heap.size we V) => FSM.out x cx cy V (HVX.out.call hb).is (HVY.out.call hb).is)
            have FWW := Lib.hid (fun V (hb : Below we.heap.size we V) => FW.out V (HBX.out.call hb))
            have HQX := Lib.hid (fun V (hb : Below we.heap.size we V) => (HVX.out.call hb).range)
            have HQY := Lib.hid (fun V (hb : Below we.heap.size we V) => (HVY.out.call hb).range)
            have HEND : Hid (∀ V, Below we.heap.size we V → Below w.heap.size w V) := Lib.hid fun V hb => HB1.out.call (HBX.out.call hb)
            generalize tellJ x = tx at *
            refine wp_region_any (by kernel_rfl) ?_
            change wpAny _ _ _ _ _ _ _ we.drew
            have HY0 : Hid (Below we.heap.size we we.drew) := Lib.hid (Below.refl _ _).drew
            generalize we.drew = y0 at *
            try simp only [List.append]
            refine wpAny_seg (k := 0) 10 16 _ ?_ ?_ ?_ ?_
            · kernel_rfl
            · kernel_rfl
            · kernel_rfl
            simp only [List.drop_zero, List.take_succ_cons, List.take_zero]
            have HG1 := Lib.hid (HQX.out y0 HY0.out)
            go_wp2_with (first
              | (go_at_call 14; go_in)
              | (refine wpList_load_mid ?_ 30 (.tmp 7) ?_ wa.heap.size 0 ?_ cx.toList _ HG1.out Tryz.underlying30 rfl (by rw [Array.length_toList]; exact info_of_size H8cx.out) ?_
                 · with_reducible rfl
                 · with_reducible rfl
                 · rfl))
            clear HG1
            refine (FXC.out y0 HY0.out).mono ?_
            rintro e y1 ⟨rfl, hb⟩
            have HY1 := Lib.hid (HY0.out.call hb)
            clear hb
            go_wp2_with (go_at_call 14; go_in)
            show wpAny _ _ _ _ _ _ _ _
            refine wpAny_of_till (z := 12) (S := fun W => Below we.heap.size we W) _ _ _ _ ?_
            have hS1 := HY1.out
            refine wpTill_take (i := 10) (oi := ?_) (v := ?_) ?_ (by kernel_rfl) (by kernel_rfl) (by kernel_rfl) (by kernel_rfl) (by kernel_rfl) ?_ ?_ (by assumption) ?_
            rotate_left 2
            · simp only [List.getElem?_toArray, List.getElem?_cons_succ, List.getElem?_cons_zero]; with_reducible rfl
            · exact fun _ _ _ h => h
            · refine yieldsIf_load_mid ?_ 30 (.tmp 7) ?_ wa.heap.size 0 ?_ cx.toList _ (fun W hSw => HQX.out W hSw) Tryz.underlying30 rfl (by rw [Array.length_toList]; exact info_of_size H8cx.out)
              · kernel_rfl
              · with_reducible rfl
              · kernel_rfl
            try simp only [Act.put, List.setIfInBounds_toArray, List.set_cons_zero, List.set_cons_succ]
            refine wpTill_take (i := 11) (oi := ?_) (v := ?_) ?_ (by kernel_rfl) (by kernel_rfl) (by kernel_rfl) (by kernel_rfl) (by kernel_rfl) ?_ ?_ (by assumption) ?_
            rotate_left 2
            · simp only [List.getElem?_toArray, List.getElem?_cons_succ, List.getElem?_cons_zero]; with_reducible rfl
            · exact fun _ _ _ h => h
            · refine yieldsIf_load_mid ?_ 30 (.tmp 10) ?_ wd.heap.size 0 ?_ cy.toList _ (fun W hSw => HQY.out W hSw) Tryz.underlying30 rfl (by rw [Array.length_toList]; exact info_of_size H8cy.out)
              · kernel_rfl
              · with_reducible rfl
              · kernel_rfl
            try simp only [Act.put, List.setIfInBounds_toArray, List.set_cons_zero, List.set_cons_succ]
            refine wpTill_oneG (i := 12) (o := ?_) (by kernel_rfl) ?_ ?_ ?_
            rotate_left 1
            · simp only [List.getElem?_toArray, List.getElem?_cons_succ, List.getElem?_cons_zero]; with_reducible rfl
            · rfl
            intro K1 hK1
            replace hK1 := Lib.hid hK1
            go_simp
            (with_reducible refine (FXY.out _ HY1.out).mono ?_)
            rintro e y2 ⟨rfl, hb⟩
            go_wp2_with fail
            have HY2 := Lib.hid (HY1.out.call hb)
            clear hb hS1
            refine hK1.out _ _ (fun h => by cases h) ?_
            clear hK1 K1
            try simp only [Act.put, List.setIfInBounds_toArray, List.set_cons_zero, List.set_cons_succ]
            refine wpTill_past _ _ _ _ (by kernel_rfl) ?_
            refine wpAny_seg (k := 13) 2 11 _ ?_ ?_ ?_ ?_
            · kernel_rfl
            · kernel_rfl
            · kernel_rfl
            simp only [List.drop_succ_cons, List.drop_zero, List.take_succ_cons, List.take_zero]
            go_wp2_with fail
            show wpAny _ _ _ _ _ _ _ _
            refine wpAny_take (i := 18) (oi := ?_) (v := ?_) ?_ (by kernel_rfl) (by kernel_rfl) (by kernel_rfl) ?_ ?_ ?_
            rotate_left 2
            · simp only [List.getElem?_toArray, List.getElem?_cons_succ, List.getElem?_cons_zero]; with_reducible rfl
            · exact fun _ _ _ h => h
            · refine Or.inl ⟨by rfl, ?_⟩; intro W; go_simp; try with_reducible rfl
            try simp only [Act.put, List.setIfInBounds_toArray, List.set_cons_zero, List.set_cons_succ]
            have hS2 := HY2.out
            refine wpAny_of_till (z := 20) (S := fun W => Below we.heap.size we W) _ _ _ _ ?_
            refine wpTill_take (i := 19) (oi := ?_) (v := ?_) ?_ (by kernel_rfl) (by kernel_rfl) (by kernel_rfl) (by kernel_rfl) (by kernel_rfl) ?_ ?_ (by assumption) ?_
            rotate_left 2
            · simp only [List.getElem?_toArray, List.getElem?_cons_succ, List.getElem?_cons_zero]; with_reducible rfl
            · exact fun _ _ _ h => h
            · refine Or.inl ⟨by rfl, ?_⟩; intro W hSw; have hcv := HL3.out W hSw; go_simp; try with_reducible rfl
            try simp only [Act.put, List.setIfInBounds_toArray, List.set_cons_zero, List.set_cons_succ]
            refine wpTill_oneG (i := 15) (o := ?_) (by kernel_rfl) ?_ ?_ ?_
            rotate_left 1
            · simp only [List.getElem?_toArray, List.getElem?_cons_succ, List.getElem?_cons_zero]; with_reducible rfl
            · rfl
            intro K1 hK1
            replace hK1 := Lib.hid hK1
            refine wp_load_mid 30 (.tmp 10) ?_ wd.heap.size 0 ?_ cy.toList _ (HQY.out y2 HY2.out) Tryz.underlying30 rfl (by rw [Array.length_toList]; exact info_of_size H8cy.out) ?_
            · with_reducible rfl
            · kernel_rfl
            refine hK1.out _ _ (fun _ => hS2) ?_
            clear hK1 K1
            try simp only [Act.put, List.setIfInBounds_toArray, List.set_cons_zero, List.set_cons_succ]
            refine wpTill_oneG (i := 16) (o := ?_) (by kernel_rfl) ?_ ?_ ?_
            rotate_left 1
            · simp only [List.getElem?_toArray, List.getElem?_cons_succ, List.getElem?_cons_zero]; with_reducible rfl
            · rfl
            intro K1 hK1
            replace hK1 := Lib.hid hK1
            go_simp
            (with_reducible refine (FYP.out _ HY2.out).mono ?_)
            rintro e y3 ⟨AP, cP, rfl, _, _, hl, hb⟩
            go_wp2_with fail
            have HY3 := Lib.hid (HY2.out.call hb)
            have hS3 := HY3.out
            have hcs : (convert 22 9 (.slice AP tx.length cP)).run Tryz.prog y3 = .ok (.string (bs tx)) y3 := by
              obtain ⟨A9, c9, e9, _, _, h9⟩ := hl.holds
              obtain ⟨rfl, _, rfl⟩ := Value.slice.inj e9
              exact run_text_bs h9 22 9 5 cP Tryz.underlying22 Tryz.underlying5 Tryz.underlying9
            clear hb hl hS2
            refine hK1.out _ _ (fun _ => hS3) ?_
            clear hK1 K1
            try simp only [Act.put, List.setIfInBounds_toArray, List.set_cons_zero, List.set_cons_succ]
            refine wpTill_oneG (i := 17) (o := ?_) (by kernel_rfl) ?_ ?_ ?_
            rotate_left 1
            · simp only [List.getElem?_toArray, List.getElem?_cons_succ, List.getElem?_cons_zero]; with_reducible rfl
            · rfl
            intro K1 hK1
            replace hK1 := Lib.hid hK1
            go_simp
            refine hK1.out _ _ (fun _ => hS3) ?_
            clear hK1 K1
            try simp only [Act.put, List.setIfInBounds_toArray, List.set_cons_zero, List.set_cons_succ]
            clear hcs
            refine wpTill_oneG (i := 20) (o := ?_) (by kernel_rfl) ?_ ?_ ?_
            rotate_left 1
            · simp only [List.getElem?_toArray, List.getElem?_cons_succ, List.getElem?_cons_zero]; with_reducible rfl
            · rfl
            intro K1 hK1
            replace hK1 := Lib.hid hK1
            go_simp
            refine hK1.out _ _ (fun h => by cases h) ?_
            clear hK1 K1
            try simp only [Act.put, List.setIfInBounds_toArray, List.set_cons_zero, List.set_cons_succ]
            refine wpTill_past _ _ _ _ (by kernel_rfl) ?_
            refine wpAny_chain (k := 21) 5 ?_ ?_ ?_ ?_
            · kernel_rfl
            · kernel_rfl
            · kernel_rfl
            simp only [List.drop_succ_cons, List.drop_zero]
            go_wp2_with fail
            refine (FWW.out _ HY3.out).mono ?_
            rintro e y4 ⟨rfl, hb⟩
            have HY4 := Lib.hid (HY3.out.call hb)
            clear hb
            go_wp2
            go_ret
            exact ⟨rfl, HEND.out _ HY4.out⟩
        · have e9 : (ek == 0) = false := by rw [beq_eq_false_iff_ne]; exact he
          have e8 : (ek != 0) = true := by rw [bne_iff_ne]; exact he
          clear he FX HX
          go_wp2_with (first
            | (go_at_call 14; go_in))
          refine (FW.out _ HBwb.out).mono ?_
          rintro e y1 ⟨rfl, hb⟩
          have HY1 := Lib.hid (HB1.out.call ((HBwb.out).call hb))
          clear hb
          go_wp2_with fail
          go_ret
          exact ⟨rfl, HY1.out⟩
end Go.Proofs.YtfdodndagakmmaaGreatDoor
/- Layer 8: what a row's condition says of the library's tables. -/
namespace Go.Proofs.YtfdodndagakmmaaGreatDoor
open Go.RowKit Go.Lib
theorem pow_of_reads {W : World} (h : VarReads Tryz.prog W "internal/strconv.uint64pow10" (Lib.tabData .u64 Lib.pow10Tab)) : PowTab W := by
  obtain ⟨g, t, cs, fuel, p, hg, ht, hv, hd⟩ := h
  obtain rfl := Option.some.inj ((show Tryz.prog.globalNamed "internal/strconv.uint64pow10" = some 4 by kernel_rfl).symm.trans hg)
  obtain rfl := Option.some.inj ((show (Tryz.prog.globals[4]?).map (·.type) = some 213 by kernel_rfl).symm.trans ht)
  have h9 := Lib.cells_of_tab Tryz.underlying213 Tryz.underlying120 (by kernel_rfl) (by kernel_rfl) hd
  unfold PowTab Lib.TabIs
  rw [hv, ← h9]
theorem u8_of_reads {w : World} (h3 : VarReads Tryz.prog w "unicode/utf8.first" firstData) (h4 : VarReads Tryz.prog w "unicode/utf8.acceptRanges" acceptData) : Lib.Utf8Tabs 0 1 w := by
  refine ⟨fun c hc => ?_, fun i hi => ?_⟩
  · obtain ⟨g, t, cs, fuel, p, hg, hty, hvar, hd⟩ := h3
    obtain rfl := Option.some.inj ((show Tryz.prog.globalNamed "unicode/utf8.first" = some 0 by kernel_rfl).symm.trans hg)
    obtain rfl := Option.some.inj ((show (Tryz.prog.globals[0]?).map (·.type) = some 95 by kernel_rfl).symm.trans hty)
    have hcs := cells_of_tab Tryz.underlying95 Tryz.underlying5 (by kernel_rfl) (by kernel_rfl) hd
    have := World.var?_cell hg hvar c
    rw [this, ← Array.getElem?_toList, hcs]
    simp [firstTab, hc]
  · obtain ⟨g, t, cs, fuel, p, hg, hty, hvar, hd⟩ := h4
    obtain rfl := Option.some.inj ((show Tryz.prog.globalNamed "unicode/utf8.acceptRanges" = some 1 by kernel_rfl).symm.trans hg)
    obtain rfl := Option.some.inj ((show (Tryz.prog.globals[1]?).map (·.type) = some 98 by kernel_rfl).symm.trans hty)
    obtain ⟨fuel', d, q, hdi, he⟩ := array_elem Tryz.underlying98 hd i hi
    simp only [List.getElem?_map, List.getElem?_range hi, Option.map_some, Option.some.injEq] at hdi
    subst hdi
    have c2 : Tryz.prog.cellsOf 97 = 2 := by kernel_rfl
    have c1 : Tryz.prog.cellsOf 5 = 1 := by kernel_rfl
    rw [c2] at he
    have hcs := ints_of_struct Tryz.underlying97 (fun j f hj => by
      match j, hj with
      | 0, hj => simp at hj; subst hj; exact ⟨Tryz.underlying5, rfl, c1⟩
      | 1, hj => simp at hj; subst hj; exact ⟨Tryz.underlying5, rfl, c1⟩
      | j + 2, hj => simp at hj) (by rw [c2]; rfl) he
    have e0 := congrArg (·[0]?) hcs
    have e1 := congrArg (·[1]?) hcs
    simp only [List.getElem?_take, List.getElem?_drop] at e0 e1
    constructor
    · rw [World.var?_cell hg hvar (2 * i), ← Array.getElem?_toList]
      simpa [Nat.mul_comm] using e0
    · rw [World.var?_cell hg hvar (2 * i + 1), ← Array.getElem?_toList]
      simpa [Nat.mul_comm] using e1
end Go.Proofs.YtfdodndagakmmaaGreatDoor
