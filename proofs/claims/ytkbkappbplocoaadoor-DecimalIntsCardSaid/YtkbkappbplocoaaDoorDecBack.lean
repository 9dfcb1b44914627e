/- Layer 7: the walk of DecimalBack. -/
import Derived.Test.YtkbkappbplocoaaDoorDecLaw0
namespace Go.Proofs.YtkbkappbplocoaaDoor
open Go.RowKit

theorem one_holds {w : World} {b : Nat} {d : Dec} {cs : List Value} (h : Row w b 23 cs.toArray) (e : cs = [.bool d.neg, .string (bs d.digits), .int .i64 d.exp]) : Holds w (some ⟨b, 0, none⟩) 1 3 (dcs [d]) :=
  ⟨rfl, fun _ => ⟨b, 0, rfl, h.lt, fun j v hv => by
    have := h.cell (i := j) (v := v) (by subst e; simpa [dcs] using hv)
    simpa using this⟩⟩
set_option maxHeartbeats 1000000 in
theorem back_law (t : List UInt8) (d : Dec) (w : World) (ht : t.length ≤ 9223372036854775807) (hd : d.digits.length ≤ 9223372036854775807) (hT : PowTab w) :
    Calls Tryd.prog 6 #[.string (bs t), decV d] w fun e w' => e = .returned (.bool true) ∧ Below w.heap.size w w' := by
  have HT := Lib.hid hT
  have HWK := Lib.hid (fun W h => works_ok W h)
  have HPT := Lib.hid (fun W h => parse_ok t W h)
  have HLG := Lib.hid (fun b W h => long_ok (some ⟨b, 0, none⟩) 1 1 [d] W rfl (by decide) h (fun x hx => by rw [List.mem_singleton] at hx; subst hx; omega))
  have hts := bs_size t
  obtain ⟨neg, l, x⟩ := d
  unfold decV
  simp only at hd ⊢
  obtain ⟨w1, hw1⟩ : ∃ w1, w1 = w.alloc (.cells #[.bool neg, .string (bs l), .int .i64 x] 23) := ⟨_, rfl⟩
  have HB1 : Hid (Below w.heap.size w w1) := Lib.hid (by subst hw1; exact (Below.refl _ _).alloc (Nat.le_refl _) _)
  have HR1 : Hid (Row w1 w.heap.size 23 #[.bool neg, .string (bs l), .int .i64 x]) := Lib.hid (by subst hw1; exact Row.new _ _ _)
  clear hT
  generalize hS : bs t = S at *
  go_enter Tryd.func6, Tryd.ntmps6
  go_upto_region 1 with fail
  rw [← hw1]
  clear hw1
  have c0 := HR1.out.cell (i := 0) (v := .bool neg) rfl
  have c1 := HR1.out.cell (i := 1) (v := .string (bs l)) rfl
  have c2 := HR1.out.cell (i := 2) (v := .int .i64 x) rfl
  by_cases g1 : 3000 < t.length
  · have g1' := g1
    go_wp2_with fail
    refine (HWK.out _ (HT.out.below HB1.out)).mono ?_
    rintro e wz ⟨rfl, hbz⟩
    have HBZ := Lib.hid (HB1.out.call hbz)
    clear hbz
    go_wp2
    go_ret
    exact ⟨rfl, HBZ.out⟩
  · obtain ⟨w2, hw2⟩ : ∃ w2, w2 = w1.alloc (.cells #[.bool neg, .string (bs l), .int .i64 x] 23) := ⟨_, rfl⟩
    have hb2 : Below w1.heap.size w1 w2 := by subst hw2; exact (Below.refl _ _).alloc (Nat.le_refl _) _
    have HRS : Hid (Row w2 w1.heap.size 23 #[.bool neg, .string (bs l), .int .i64 x]) := Lib.hid (by subst hw2; exact Row.new _ _ _)
    have HB2 := Lib.hid (HB1.out.call hb2)
    have HR2 := Lib.hid (HR1.out.call hb2)
    clear hb2 HB1 HR1
    go_wp2_with fail
    rw [← hw2]
    clear hw2 c0 c1 c2
    refine (HLG.out _ _ (one_holds HRS.out rfl)).mono ?_
    rintro e w3 ⟨rfl, rfl⟩
    have HLB : Hid (longB [⟨neg, l, x⟩] = decide (1000 < l.length)) := Lib.hid (by simp [longB])
    rw [HLB.out]
    by_cases g2 : 1000 < l.length
    · rw [decide_eq_true g2]
      go_wp2_with fail
      refine (HWK.out _ (HT.out.below HB2.out)).mono ?_
      rintro e wz ⟨rfl, hbz⟩
      have HBZ := Lib.hid (HB2.out.call hbz)
      clear hbz
      go_wp2
      go_ret
      exact ⟨rfl, HBZ.out⟩
    · rw [decide_eq_false g2]
      have c0 := HR2.out.cell (i := 0) (v := .bool neg) rfl
      have c1 := HR2.out.cell (i := 1) (v := .string (bs l)) rfl
      have c2 := HR2.out.cell (i := 2) (v := .int .i64 x) rfl
      have HTX := Lib.hid (fun W h => text_ok ⟨neg, l, x⟩ W h (by simp only; omega))
      have HCK := Lib.hid (fun W => check_ok ⟨neg, l, x⟩ W (by simp only; omega))
      unfold decV at HTX HCK
      simp only at HTX HCK
      go_wp2_with fail
      refine (HTX.out _ (HT.out.below HB2.out)).mono ?_
      rintro e w4 ⟨rfl, hb4⟩
      have HB4 := Lib.hid (HB2.out.call hb4)
      have HR4 := Lib.hid (HR2.out.call hb4)
      clear hb4 c0 c1 c2 HB2 HR2 HTX HRS HLB HLG
      cases hm : mayB ⟨neg, l, x⟩
      · rw [checkE_no hm]
        clear hm HCK
        go_wp2_with (refine (num_ok _ _).mono ?_; rintro e9 w9 ⟨rfl, rfl⟩)
        have HB7 := HB4
        clear HB4 HR4
        have HPM := Lib.hid (parseD_may t)
        have HPB := Lib.hid (parse_back t)
        obtain ⟨⟨n2, l2, x2⟩, hd2⟩ : ∃ d2, d2 = parseD t := ⟨_, rfl⟩
        rw [← hd2] at HPT HPM HPB
        clear hd2
        unfold Told decV at HPT
        simp only at HPT
        refine (HPT.out _ (HT.out.below HB7.out)).mono ?_
        rintro e w8 ⟨rfl, hb8⟩
        obtain ⟨w10, hw10⟩ : ∃ w10, w10 = w8.alloc (.cells #[.bool n2, .string (bs l2), .int .i64 x2] 23) := ⟨_, rfl⟩
        have hb10 : Below w8.heap.size w8 w10 := by subst hw10; exact (Below.refl _ _).alloc (Nat.le_refl _) _
        have HX10 : Hid (Row w10 w8.heap.size 23 #[.bool n2, .string (bs l2), .int .i64 x2]) := Lib.hid (by subst hw10; exact Row.new _ _ _)
        have HB10 := Lib.hid ((HB7.out.call hb8).call hb10)
        clear hb8 hb10 HB7 HPT
        go_upto_region 9 with fail
        rw [← hw10]
        clear hw10
        obtain ⟨k, hk⟩ : ∃ k, k = parseE t := ⟨_, rfl⟩
        rw [← hk]
        clear hk
        by_cases hk0 : k = 0
        · subst hk0
          have x0 := HX10.out.cell (i := 0) (v := .bool n2) rfl
          have x1 := HX10.out.cell (i := 1) (v := .string (bs l2)) rfl
          have x2' := HX10.out.cell (i := 2) (v := .int .i64 x2) rfl
          have hlen := HPM.out.len
          simp only at hlen
          have HTX := Lib.hid (fun W h => text_ok ⟨n2, l2, x2⟩ W h (by simp only; omega))
          have hmy := (mayB_iff _).2 HPM.out
          have HCK := Lib.hid (fun W => check_ok ⟨n2, l2, x2⟩ W (by simp only; omega))
          have HP2 := Lib.hid (fun W h => parse_ok (textL ⟨n2, l2, x2⟩) W h)
          rw [HPB.out.1, HPB.out.2] at HP2
          have HE : txL ⟨n2, l2, x2⟩ = textL ⟨n2, l2, x2⟩ := by unfold txL; rw [if_pos hmy]
          unfold TextPost at HTX
          unfold Told at HP2
          rw [checkE_yes hmy, HE] at HTX
          rw [checkE_yes hmy] at HCK
          unfold decV at HTX HP2 HCK
          simp only at HTX HP2 HCK
          generalize bs (textL ⟨n2, l2, x2⟩) = T at *
          clear hmy HE hlen HPB HPM
          go_wp2_with (refine (num_ok _ _).mono ?_; rintro e9 w9 ⟨rfl, rfl⟩)
          refine (HTX.out _ (HT.out.below HB10.out)).mono ?_
          rintro e w11 ⟨rfl, hb11⟩
          have HB11 := Lib.hid (HB10.out.call hb11)
          have HX11 := Lib.hid (HX10.out.call hb11)
          clear hb11 x0 x1 x2' HB10 HX10
          go_wp2_with fail
          refine (HP2.out _ (HT.out.below HB11.out)).mono ?_
          rintro e w12 ⟨rfl, hb12⟩
          obtain ⟨w13, hw13⟩ : ∃ w13, w13 = w12.alloc (.cells #[.bool n2, .string (bs l2), .int .i64 x2] 23) := ⟨_, rfl⟩
          have hb13 : Below w12.heap.size w12 w13 := by subst hw13; exact (Below.refl _ _).alloc (Nat.le_refl _) _
          have HY13 : Hid (Row w13 w12.heap.size 23 #[.bool n2, .string (bs l2), .int .i64 x2]) := Lib.hid (by subst hw13; exact Row.new _ _ _)
          have HB13 := Lib.hid ((HB11.out.call hb12).call hb13)
          have HX13 := Lib.hid ((HX11.out.call hb12).call hb13)
          clear hb12 hb13 HB11 HX11 HP2
          go_upto_region 13 with fail
          rw [← hw13]
          clear hw13
          have y0 := HY13.out.cell (i := 0) (v := .bool n2) rfl
          have y1 := HY13.out.cell (i := 1) (v := .string (bs l2)) rfl
          have y2 := HY13.out.cell (i := 2) (v := .int .i64 x2) rfl
          go_wp2_with fail
          refine (HTX.out _ (HT.out.below HB13.out)).mono ?_
          rintro e w14 ⟨rfl, hb14⟩
          have HB14 := Lib.hid (HB13.out.call hb14)
          have HX14 := Lib.hid (HX13.out.call hb14)
          have HY14 := Lib.hid (HY13.out.call hb14)
          clear hb14 y0 y1 y2 HB13 HX13 HY13 HTX
          have x0 := HX14.out.cell (i := 0) (v := .bool n2) rfl
          have x1 := HX14.out.cell (i := 1) (v := .string (bs l2)) rfl
          have x2' := HX14.out.cell (i := 2) (v := .int .i64 x2) rfl
          go_wp2_with fail
          refine (HCK.out _).mono ?_
          rintro e w15 ⟨rfl, hb15⟩
          have HB15 := Lib.hid (HB14.out.call hb15)
          have HX15 := Lib.hid (HX14.out.call hb15)
          have HY15 := Lib.hid (HY14.out.call hb15)
          clear hb15 x0 x1 x2' HB14 HX14 HY14 HCK
          have x0 := HX15.out.cell (i := 0) (v := .bool n2) rfl
          have x1 := HX15.out.cell (i := 1) (v := .string (bs l2)) rfl
          have x2' := HX15.out.cell (i := 2) (v := .int .i64 x2) rfl
          have y0 := HY15.out.cell (i := 0) (v := .bool n2) rfl
          have y1 := HY15.out.cell (i := 1) (v := .string (bs l2)) rfl
          have y2 := HY15.out.cell (i := 2) (v := .int .i64 x2) rfl
          go_wp2_with (refine (num_ok _ _).mono ?_; rintro e9 w9 ⟨rfl, rfl⟩)
          refine (HWK.out _ (HT.out.below HB15.out)).mono ?_
          rintro e wz ⟨rfl, hbz⟩
          have HBZ := Lib.hid (HB15.out.call hbz)
          clear hbz
          go_wp2
          go_ret
          exact ⟨rfl, HBZ.out⟩
        · have hk1 : ((k : Int) == 0) = false := by rw [beq_eq_false_iff_ne]; omega
          go_wp2_with (refine (num_ok _ _).mono ?_; rintro e9 w9 ⟨rfl, rfl⟩)
          refine (HWK.out _ (HT.out.below HB10.out)).mono ?_
          rintro e wz ⟨rfl, hbz⟩
          have HBZ := Lib.hid (HB10.out.call hbz)
          clear hbz
          go_wp2
          go_ret
          exact ⟨rfl, HBZ.out⟩
      · have hm2 := (mayB_iff _).1 hm
        have HP2 := Lib.hid (fun W h => parse_ok (textL ⟨neg, l, x⟩) W h)
        rw [(parse_text hm2).1, (parse_text hm2).2] at HP2
        unfold Told decV at HP2
        simp only at HP2
        have HE : txL ⟨neg, l, x⟩ = textL ⟨neg, l, x⟩ := by unfold txL; rw [if_pos hm]
        rw [checkE_yes hm, HE]
        rw [checkE_yes hm] at HCK
        clear hm hm2 HE
        go_wp2_with (refine (num_ok _ _).mono ?_; rintro e9 w9 ⟨rfl, rfl⟩)
        refine (HP2.out _ (HT.out.below HB4.out)).mono ?_
        rintro e w5 ⟨rfl, hb5⟩
        obtain ⟨w6, hw6⟩ : ∃ w6, w6 = w5.alloc (.cells #[.bool neg, .string (bs l), .int .i64 x] 23) := ⟨_, rfl⟩
        have hb6 : Below w5.heap.size w5 w6 := by subst hw6; exact (Below.refl _ _).alloc (Nat.le_refl _) _
        have HX6 : Hid (Row w6 w5.heap.size 23 #[.bool neg, .string (bs l), .int .i64 x]) := Lib.hid (by subst hw6; exact Row.new _ _ _)
        have HB6 := Lib.hid ((HB4.out.call hb5).call hb6)
        have HR6 := Lib.hid ((HR4.out.call hb5).call hb6)
        clear hb5 hb6 HB4 HR4 HP2
        go_upto_region 6 with fail
        rw [← hw6]
        clear hw6
        have x0 := HX6.out.cell (i := 0) (v := .bool neg) rfl
        have x1 := HX6.out.cell (i := 1) (v := .string (bs l)) rfl
        have x2 := HX6.out.cell (i := 2) (v := .int .i64 x) rfl
        have d0 := HR6.out.cell (i := 0) (v := .bool neg) rfl
        have d1 := HR6.out.cell (i := 1) (v := .string (bs l)) rfl
        have d2 := HR6.out.cell (i := 2) (v := .int .i64 x) rfl
        go_wp2_with (refine (num_ok _ _).mono ?_; rintro e9 w9 ⟨rfl, rfl⟩)
        refine (HCK.out _).mono ?_
        rintro e w7 ⟨rfl, hb7⟩
        have HB7 := Lib.hid (HB6.out.call hb7)
        clear hb7 x0 x1 x2 d0 d1 d2 HB6 HR6 HX6 HCK
        go_wp2_with (refine (num_ok _ _).mono ?_; rintro e9 w9 ⟨rfl, rfl⟩)
        have HPM := Lib.hid (parseD_may t)
        have HPB := Lib.hid (parse_back t)
        obtain ⟨⟨n2, l2, x2⟩, hd2⟩ : ∃ d2, d2 = parseD t := ⟨_, rfl⟩
        rw [← hd2] at HPT HPM HPB
        clear hd2
        unfold Told decV at HPT
        simp only at HPT
        refine (HPT.out _ (HT.out.below HB7.out)).mono ?_
        rintro e w8 ⟨rfl, hb8⟩
        obtain ⟨w10, hw10⟩ : ∃ w10, w10 = w8.alloc (.cells #[.bool n2, .string (bs l2), .int .i64 x2] 23) := ⟨_, rfl⟩
        have hb10 : Below w8.heap.size w8 w10 := by subst hw10; exact (Below.refl _ _).alloc (Nat.le_refl _) _
        have HX10 : Hid (Row w10 w8.heap.size 23 #[.bool n2, .string (bs l2), .int .i64 x2]) := Lib.hid (by subst hw10; exact Row.new _ _ _)
        have HB10 := Lib.hid ((HB7.out.call hb8).call hb10)
        clear hb8 hb10 HB7 HPT
        go_upto_region 9 with fail
        rw [← hw10]
        clear hw10
        obtain ⟨k, hk⟩ : ∃ k, k = parseE t := ⟨_, rfl⟩
        rw [← hk]
        clear hk
        by_cases hk0 : k = 0
        · subst hk0
          have x0 := HX10.out.cell (i := 0) (v := .bool n2) rfl
          have x1 := HX10.out.cell (i := 1) (v := .string (bs l2)) rfl
          have x2' := HX10.out.cell (i := 2) (v := .int .i64 x2) rfl
          have hlen := HPM.out.len
          simp only at hlen
          have HTX := Lib.hid (fun W h => text_ok ⟨n2, l2, x2⟩ W h (by simp only; omega))
          have hmy := (mayB_iff _).2 HPM.out
          have HCK := Lib.hid (fun W => check_ok ⟨n2, l2, x2⟩ W (by simp only; omega))
          have HP2 := Lib.hid (fun W h => parse_ok (textL ⟨n2, l2, x2⟩) W h)
          rw [HPB.out.1, HPB.out.2] at HP2
          have HE : txL ⟨n2, l2, x2⟩ = textL ⟨n2, l2, x2⟩ := by unfold txL; rw [if_pos hmy]
          unfold TextPost at HTX
          unfold Told at HP2
          rw [checkE_yes hmy, HE] at HTX
          rw [checkE_yes hmy] at HCK
          unfold decV at HTX HP2 HCK
          simp only at HTX HP2 HCK
          generalize bs (textL ⟨n2, l2, x2⟩) = T at *
          clear hmy HE hlen HPB HPM
          go_wp2_with (refine (num_ok _ _).mono ?_; rintro e9 w9 ⟨rfl, rfl⟩)
          refine (HTX.out _ (HT.out.below HB10.out)).mono ?_
          rintro e w11 ⟨rfl, hb11⟩
          have HB11 := Lib.hid (HB10.out.call hb11)
          have HX11 := Lib.hid (HX10.out.call hb11)
          clear hb11 x0 x1 x2' HB10 HX10
          go_wp2_with fail
          refine (HP2.out _ (HT.out.below HB11.out)).mono ?_
          rintro e w12 ⟨rfl, hb12⟩
          obtain ⟨w13, hw13⟩ : ∃ w13, w13 = w12.alloc (.cells #[.bool n2, .string (bs l2), .int .i64 x2] 23) := ⟨_, rfl⟩
          have hb13 : Below w12.heap.size w12 w13 := by subst hw13; exact (Below.refl _ _).alloc (Nat.le_refl _) _
          have HY13 : Hid (Row w13 w12.heap.size 23 #[.bool n2, .string (bs l2), .int .i64 x2]) := Lib.hid (by subst hw13; exact Row.new _ _ _)
          have HB13 := Lib.hid ((HB11.out.call hb12).call hb13)
          have HX13 := Lib.hid ((HX11.out.call hb12).call hb13)
          clear hb12 hb13 HB11 HX11 HP2
          go_upto_region 13 with fail
          rw [← hw13]
          clear hw13
          have y0 := HY13.out.cell (i := 0) (v := .bool n2) rfl
          have y1 := HY13.out.cell (i := 1) (v := .string (bs l2)) rfl
          have y2 := HY13.out.cell (i := 2) (v := .int .i64 x2) rfl
          go_wp2_with fail
          refine (HTX.out _ (HT.out.below HB13.out)).mono ?_
          rintro e w14 ⟨rfl, hb14⟩
          have HB14 := Lib.hid (HB13.out.call hb14)
          have HX14 := Lib.hid (HX13.out.call hb14)
          have HY14 := Lib.hid (HY13.out.call hb14)
          clear hb14 y0 y1 y2 HB13 HX13 HY13 HTX
          have x0 := HX14.out.cell (i := 0) (v := .bool n2) rfl
          have x1 := HX14.out.cell (i := 1) (v := .string (bs l2)) rfl
          have x2' := HX14.out.cell (i := 2) (v := .int .i64 x2) rfl
          go_wp2_with fail
          refine (HCK.out _).mono ?_
          rintro e w15 ⟨rfl, hb15⟩
          have HB15 := Lib.hid (HB14.out.call hb15)
          have HX15 := Lib.hid (HX14.out.call hb15)
          have HY15 := Lib.hid (HY14.out.call hb15)
          clear hb15 x0 x1 x2' HB14 HX14 HY14 HCK
          have x0 := HX15.out.cell (i := 0) (v := .bool n2) rfl
          have x1 := HX15.out.cell (i := 1) (v := .string (bs l2)) rfl
          have x2' := HX15.out.cell (i := 2) (v := .int .i64 x2) rfl
          have y0 := HY15.out.cell (i := 0) (v := .bool n2) rfl
          have y1 := HY15.out.cell (i := 1) (v := .string (bs l2)) rfl
          have y2 := HY15.out.cell (i := 2) (v := .int .i64 x2) rfl
          go_wp2_with (refine (num_ok _ _).mono ?_; rintro e9 w9 ⟨rfl, rfl⟩)
          refine (HWK.out _ (HT.out.below HB15.out)).mono ?_
          rintro e wz ⟨rfl, hbz⟩
          have HBZ := Lib.hid (HB15.out.call hbz)
          clear hbz
          go_wp2
          go_ret
          exact ⟨rfl, HBZ.out⟩
        · have hk1 : ((k : Int) == 0) = false := by rw [beq_eq_false_iff_ne]; omega
          go_wp2_with (refine (num_ok _ _).mono ?_; rintro e9 w9 ⟨rfl, rfl⟩)
          refine (HWK.out _ (HT.out.below HB10.out)).mono ?_
          rintro e wz ⟨rfl, hbz⟩
          have HBZ := Lib.hid (HB10.out.call hbz)
          clear hbz
          go_wp2
          go_ret
          exact ⟨rfl, HBZ.out⟩
end Go.Proofs.YtkbkappbplocoaaDoor
