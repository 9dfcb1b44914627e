import Derived.Test.YtmhbkjjkalnggaaGreatDoorPt39
namespace Go.Proofs.YtmhbkjjkalnggaaGreatDoor
open Go.RowKit
theorem rt_add (W : World) (a b S : List UInt8) (hS : Hid (S = a ++ b)) (h : a.length + b.length <= 1000000) : (Op.stringOp .add (bs a) (bs b)).run Tryz.prog W = .ok (.string (bs S)) W := by
 rw [hS.out]; exact run_add_bs W a b (by omega)
set_option maxHeartbeats 2000000 in
theorem reftext_ok (d : Dec) (w : World) (hT : PowTab w) (hm : May d) :
   Calls Tryz.prog 42 #[decV d] w fun e w' => e = .returned (.string (bs (textL d))) /\ Below w.heap.size w w' := by
 have HT := hid hT
 have hl100 := hm.len
 have hx1 := hm.lo
 have hx2 := hm.hi
 clear hT hm
 obtain ⟨neg, l, x⟩ := d
 unfold decV
 simp only at hl100 hx1 hx2 ⊢
 obtain ⟨w1, hw1⟩ : ∃ w1, w1 = w.alloc (.cells #[.bool neg, .string (bs l), .int .i64 x] 24) := ⟨_, rfl⟩
 have HD1 : Hid (Decs w w1 [(w.heap.size, ⟨neg, l, x⟩)]) := hid (by subst hw1; exact Decs.one ((Below.refl _ _).alloc (Nat.le_refl _) _) (Row.new _ _ _))
 have hs := bs_size l
 have c0 := HD1.out.c0 (i := 0) rfl
 have c1 := HD1.out.c1 (i := 0) rfl
 have c2 := HD1.out.c2 (i := 0) rfl
 simp only at c0 c1 c2
 by_cases hl : l = []
 · have HX : Hid (textL ⟨neg, l, x⟩ = [48]) := hid (by unfold textL; rw [if_pos hl])
   subst hl
   have ht0 : (bs []).toList.isEmpty = true := by rw [bs_toList]; rfl
   have ht1 : (bs []).toList = [] := bs_toList []
   go_enter Tryz.func42, Tryz.ntmps42
   go_upto_region 1 with fail
   rw [<- hw1]
   clear hw1
   go_wp2
   go_ret
   exact ⟨by rw [HX.out]; rfl, HD1.out.below⟩
 have hlt : 0 < l.length := List.length_pos_iff.2 hl
 obtain ⟨p, hp⟩ : ∃ p : Int, p = l.length + x := ⟨_, rfl⟩
 have HTL : ∀ B : List UInt8, B = (if neg then [45] else []) -> Hid (textL ⟨neg, l, x⟩ = B ++ bodyL l x) := fun B hB => hid (by unfold textL; rw [if_neg hl, hB])
 have hE : (bs l).toList.isEmpty = false := by rw [bs_toList]; cases l with | nil => exact absurd rfl hl | cons b r => rfl
 have hE1 : ¬ (bs l).toList = [] := by rw [bs_toList]; exact hl
 have hwp : IntKind.i64.wrap ((l.length : Int) + x) = p := by rw [hp]; simp [IntKind.wrap, IntKind.bits, IntKind.signed]; omega
 go_enter Tryz.func42, Tryz.ntmps42
 go_upto_region 1 with fail
 rw [<- hw1]
 clear hw1
 cases neg
 · obtain ⟨B, hB⟩ : ∃ B : List UInt8, B = [] := ⟨_, rfl⟩
   have HB := hid hB
   have HTX := HTL B hB
   have hBl : B.length <= 1 := by rw [hB]; decide
   clear HTL hB
   go_upto_region 6 with fail
   rw [show (⟨#[]⟩ : ByteArray) = bs B by rw [HB.out]; rfl]
   clear c0
   by_cases g1 : 0 <= x /\ p <= 21
   · obtain ⟨g1a, g1b⟩ := g1
     have HBD := hid (body1 hp g1a g1b)
     have HN1 := hid (fun W => rnoughts_ok x W (by omega))
     obtain ⟨S1, HS1⟩ : ∃ S, Hid (S = B ++ l) := ⟨_, hid rfl⟩
     obtain ⟨S2, HS2⟩ : ∃ S, Hid (S = S1 ++ zeros x.toNat) := ⟨_, hid rfl⟩
     have a1 : ∀ W, (Op.stringOp .add (bs B) (bs l)).run Tryz.prog W = .ok (.string (bs S1)) W := fun W => rt_add W _ _ _ HS1 (by omega)
     have a2 : ∀ W, (Op.stringOp .add (bs S1) (bs (zeros x.toNat))).run Tryz.prog W = .ok (.string (bs S2)) W := fun W => rt_add W _ _ _ HS2 (by rw [HS1.out]; simp [zeros]; omega)
     have e1 : decide (0 <= x) = true := decide_eq_true g1a
     have e2 : decide (p <= 21) = true := decide_eq_true g1b
     clear hp
     go_wp2_with fail
     refine wp_region_held_drew (S := (fun W => Decs w W [(w.heap.size, ⟨false, l, x⟩)])) (by kernel_rfl) (HD1.out.drew) (fun hHeld => ?_)
     refine wpAnyH_z 0 ?_
     try simp only [Act.put, sA, sB, sC]
     refine wpAnyH_z 1 ?_
     try simp only [Act.put, sA, sB, sC]
     refine wpAnyH_y 2 ?_ ?_ ?_
     rotate_left
     · intro W hSw; have q1 := hSw.c1 (i := 0) rfl; go_simp; try with_reducible rfl
     try simp only [Act.put, sA, sB, sC]
     refine wpAnyH_z 3 ?_
     try simp only [Act.put, sA, sB, sC]
     refine wpAnyH_z 4 ?_
     try simp only [Act.put, sA, sB, sC]
     refine wpAnyH_y 5 ?_ ?_ ?_
     rotate_left
     · intro W hSw; have q2 := hSw.c2 (i := 0) rfl; go_simp; try with_reducible rfl
     try simp only [Act.put, sA, sB, sC]
     refine wpAnyH_ready (rs := [6]) (by kernel_rfl) (by simp) ?_
     refine AllReadyH.cons (o := ?_) ?_ (fun K1 hK1 => ?_) AllReadyH.nil
     rotate_left 1
     · simp only [gA, gB, gC]; with_reducible rfl
     rw [if_pos (by rfl)]
     go_simp
     refine (HN1.out _).mono ?_
     rintro e2 w2 ⟨rfl, hb2⟩
     go_wp2_with fail
     refine hK1.out _ _ (hHeld.call hb2) (fun hHeld1 => ?_)
     clear hK1 K1
     try simp only [Act.put, sA, sB, sC]
     refine wpAnyH_z 7 ?_
     try simp only [Act.put, sA, sB, sC]
     refine wpAnyH_z 8 ?_
     try simp only [Act.put, sA, sB, sC]
     refine wpAnyH_done (by kernel_rfl) ?_ _
     go_wp2
     go_ret
     exact ⟨by rw [HTX.out, HBD.out, HS2.out, HS1.out, List.append_assoc]; rfl, hHeld1.below⟩
   by_cases g2 : 0 < p /\ p <= 21
   · have HBD := hid (body2 hp g1 g2)
     obtain ⟨g2a, g2b⟩ := g2
     have g0 : x < 0 := by omega
     obtain ⟨q, rfl⟩ := Int.eq_ofNat_of_zero_le (Int.le_of_lt g2a)
     have hql : q <= l.length := by omega
     rw [Int.toNat_natCast] at HBD
     have hf : ∀ W, (Instr.slice 9 (.string (bs l)) (some (.int .i64 (q : Int))) none none).run Tryz.prog W = .ok (.string (bs (l.drop q))) W := fun W => run_from_bs W _ Tryz.underlying9 l q hql
     have ht : ∀ W, (Instr.slice 9 (.string (bs l)) none (some (.int .i64 (q : Int))) none).run Tryz.prog W = .ok (.string (bs (l.take q))) W := fun W => run_to_bs W _ Tryz.underlying9 l q hql
     obtain ⟨S1, HS1⟩ : ∃ S, Hid (S = B ++ l.take q) := ⟨_, hid rfl⟩
     obtain ⟨S2, HS2⟩ : ∃ S, Hid (S = S1 ++ [46]) := ⟨_, hid rfl⟩
     obtain ⟨S3, HS3⟩ : ∃ S, Hid (S = S2 ++ l.drop q) := ⟨_, hid rfl⟩
     have a1 : ∀ W, (Op.stringOp .add (bs B) (bs (l.take q))).run Tryz.prog W = .ok (.string (bs S1)) W := fun W => rt_add W _ _ _ HS1 (by simp; omega)
     have a2 : ∀ W, (Op.stringOp .add (bs S1) ⟨#[46]⟩).run Tryz.prog W = .ok (.string (bs S2)) W := fun W => rt_add W _ [46] _ HS2 (by rw [HS1.out]; simp; omega)
     have a3 : ∀ W, (Op.stringOp .add (bs S2) (bs (l.drop q))).run Tryz.prog W = .ok (.string (bs S3)) W := fun W => rt_add W _ _ _ HS3 (by rw [HS2.out, HS1.out]; simp; omega)
     have e1 : decide (0 <= x) = false := by simp; omega
     have e2 : decide (x < 0) = true := by simp; omega
     have e3 : decide ((0 : Int) < (q : Int)) = true := by simp; omega
     have e4 : decide ((q : Int) <= 21) = true := by simp; omega
     clear hp g1
     go_wp2_with fail
     refine wp_region_held_drew (S := (fun W => Decs w W [(w.heap.size, ⟨false, l, x⟩)])) (by kernel_rfl) (HD1.out.drew) (fun hHeld => ?_)
     refine wpAnyH_z 0 ?_
     try simp only [Act.put, sA, sB, sC]
     refine wpAnyH_z 1 ?_
     try simp only [Act.put, sA, sB, sC]
     refine wpAnyH_y 2 ?_ ?_ ?_
     rotate_left
     · intro W hSw; have q1 := hSw.c1 (i := 0) rfl; go_simp; try with_reducible rfl
     try simp only [Act.put, sA, sB, sC]
     refine wpAnyH_z 3 ?_
     try simp only [Act.put, sA, sB, sC]
     refine wpAnyH_z 4 ?_
     try simp only [Act.put, sA, sB, sC]
     refine wpAnyH_z 5 ?_
     try simp only [Act.put, sA, sB, sC]
     refine wpAnyH_z 6 ?_
     try simp only [Act.put, sA, sB, sC]
     refine wpAnyH_z 7 ?_
     try simp only [Act.put, sA, sB, sC]
     refine wpAnyH_y 8 ?_ ?_ ?_
     rotate_left
     · intro W hSw; have q1 := hSw.c1 (i := 0) rfl; go_simp; try with_reducible rfl
     try simp only [Act.put, sA, sB, sC]
     refine wpAnyH_z 9 ?_
     try simp only [Act.put, sA, sB, sC]
     refine wpAnyH_z 10 ?_
     try simp only [Act.put, sA, sB, sC]
     refine wpAnyH_z 11 ?_
     try simp only [Act.put, sA, sB, sC]
     refine wpAnyH_z 12 ?_
     try simp only [Act.put, sA, sB, sC]
     refine wpAnyH_done (by kernel_rfl) ?_ _
     go_wp2
     go_ret
     exact ⟨by rw [HTX.out, HBD.out, HS3.out, HS2.out, HS1.out]; simp only [List.append_assoc]; rfl, HD1.out.below.drew⟩
   by_cases g3 : -5 <= p /\ p <= 0
   · have HBD := hid (body3 hp g1 g2 g3)
     obtain ⟨g3a, g3b⟩ := g3
     have g0 : x < 0 := by omega
     obtain ⟨k, hk⟩ : ∃ k : Nat, p = -(k : Int) := ⟨(-p).toNat, by omega⟩
     subst hk
     rw [Int.neg_neg, Int.toNat_natCast] at HBD
     have HN1 := hid (fun W => rnoughts_ok (k : Int) W (by omega))
     rw [Int.toNat_natCast] at HN1
     have hwk : IntKind.i64.wrap (k : Int) = k := by simp [IntKind.wrap, IntKind.bits, IntKind.signed]; omega
     have hk5 : k <= 5 := by omega
     obtain ⟨S1, HS1⟩ : ∃ S, Hid (S = B ++ [48, 46]) := ⟨_, hid rfl⟩
     obtain ⟨S2, HS2⟩ : ∃ S, Hid (S = S1 ++ zeros k) := ⟨_, hid rfl⟩
     obtain ⟨S3, HS3⟩ : ∃ S, Hid (S = S2 ++ l) := ⟨_, hid rfl⟩
     have a1 : ∀ W, (Op.stringOp .add (bs B) ⟨#[48, 46]⟩).run Tryz.prog W = .ok (.string (bs S1)) W := fun W => rt_add W _ [48, 46] _ HS1 (by simp; omega)
     have a2 : ∀ W, (Op.stringOp .add (bs S1) (bs (zeros k))).run Tryz.prog W = .ok (.string (bs S2)) W := fun W => rt_add W _ _ _ HS2 (by rw [HS1.out]; simp [zeros]; omega)
     have a3 : ∀ W, (Op.stringOp .add (bs S2) (bs l)).run Tryz.prog W = .ok (.string (bs S3)) W := fun W => rt_add W _ _ _ HS3 (by rw [HS2.out, HS1.out]; simp [zeros]; omega)
     have e1 : decide (0 <= x) = false := by simp; omega
     have e2 : decide (x < 0) = true := by simp; omega
     have e3 : decide ((0 : Int) < -(k : Int)) = false := decide_eq_false (by omega)
     have e4 : decide (-(k : Int) <= 0) = true := decide_eq_true (by omega)
     have e5 : decide ((-5 : Int) <= -(k : Int)) = true := by simp; omega
     clear hp g1 g2
     go_wp2_with fail
     refine wp_region_held_drew (S := (fun W => Decs w W [(w.heap.size, ⟨false, l, x⟩)])) (by kernel_rfl) (HD1.out.drew) (fun hHeld => ?_)
     refine wpAnyH_z 0 ?_
     try simp only [Act.put, sA, sB, sC]
     refine wpAnyH_z 1 ?_
     try simp only [Act.put, sA, sB, sC]
     refine wpAnyH_z 2 ?_
     try simp only [Act.put, sA, sB, sC]
     refine wpAnyH_z 3 ?_
     try simp only [Act.put, sA, sB, sC]
     refine wpAnyH_z 6 ?_
     try simp only [Act.put, sA, sB, sC]
     refine wpAnyH_y 7 ?_ ?_ ?_
     rotate_left
     · intro W hSw; have q1 := hSw.c1 (i := 0) rfl; go_simp; try with_reducible rfl
     try simp only [Act.put, sA, sB, sC]
     refine wpAnyH_ready (rs := [4]) (by kernel_rfl) (by simp) ?_
     refine AllReadyH.cons (o := ?_) ?_ (fun K1 hK1 => ?_) AllReadyH.nil
     rotate_left 1
     · simp only [gA, gB, gC]; with_reducible rfl
     rw [if_pos (by rfl)]
     go_simp
     refine (HN1.out _).mono ?_
     rintro e2 w2 ⟨rfl, hb2⟩
     go_wp2_with fail
     refine hK1.out _ _ (hHeld.call hb2) (fun hHeld1 => ?_)
     clear hK1 K1
     try simp only [Act.put, sA, sB, sC]
     refine wpAnyH_z 5 ?_
     try simp only [Act.put, sA, sB, sC]
     refine wpAnyH_z 8 ?_
     try simp only [Act.put, sA, sB, sC]
     refine wpAnyH_z 9 ?_
     try simp only [Act.put, sA, sB, sC]
     refine wpAnyH_done (by kernel_rfl) ?_ _
     go_wp2
     go_ret
     exact ⟨by rw [HTX.out, HBD.out, HS3.out, HS2.out, HS1.out]; simp only [List.append_assoc]; rfl, hHeld1.below⟩
   have HIT := hid (fun W (h : PowTab W) => itoa_ok (p - 1) (by omega) (by omega) W h)
   have hilen := Lib.itoa_length_le (p - 1) (by omega) (by omega)
   have hpw : IntKind.i64.wrap (p - 1) = p - 1 := by simp [IntKind.wrap, IntKind.bits, IntKind.signed]; omega
   have ht : ∀ W, (Instr.slice 9 (.string (bs l)) none (some (.int .i64 1)) none).run Tryz.prog W = .ok (.string (bs (l.take 1))) W := fun W => run_to_bs W _ Tryz.underlying9 l 1 (by omega)
   have hf : ∀ W, (Instr.slice 9 (.string (bs l)) (some (.int .i64 1)) none none).run Tryz.prog W = .ok (.string (bs (l.drop 1))) W := fun W => run_from_bs W _ Tryz.underlying9 l 1 (by omega)
   have HT1 : Hid ([l.getD 0 0] = l.take 1) := hid (by cases l with | nil => exact absurd rfl hl | cons b r => simp)
   obtain ⟨hd, HHD⟩ : ∃ t, Hid (t = l.take 1) := ⟨_, hid rfl⟩
   obtain ⟨tl, HTL1⟩ : ∃ t, Hid (t = l.drop 1) := ⟨_, hid rfl⟩
   rw [<- HHD.out] at ht
   rw [<- HTL1.out] at hf
   have hhl : hd.length <= 1 := by rw [HHD.out]; exact List.length_take_le _ _
   have htl : tl.length <= 100 := by rw [HTL1.out, List.length_drop]; exact Nat.le_trans (Nat.sub_le _ _) hl100
   obtain ⟨S1, HS1⟩ : ∃ S, Hid (S = B ++ hd) := ⟨_, hid rfl⟩
   have h1l : S1.length <= 2 := by rw [HS1.out]; simp; omega
   have a1 : ∀ W, (Op.stringOp .add (bs B) (bs hd)).run Tryz.prog W = .ok (.string (bs S1)) W := fun W => rt_add W _ _ _ HS1 (by omega)
   have hq : (0 <= x /\ 21 < p) ∨ (x < 0 /\ 21 < p) ∨ (x < 0 /\ p < -5) := by omega
   by_cases g5 : 1 < l.length
   · have HBD := hid (body4 hp g1 g2 g3 hlt g5)
     rw [HT1.out, <- HHD.out, <- HTL1.out] at HBD
     obtain ⟨S2, HS2⟩ : ∃ S, Hid (S = S1 ++ [46]) := ⟨_, hid rfl⟩
     obtain ⟨S3, HS3⟩ : ∃ S, Hid (S = S2 ++ tl) := ⟨_, hid rfl⟩
     obtain ⟨S4, HS4⟩ : ∃ S, Hid (S = S3 ++ [101]) := ⟨_, hid rfl⟩
     obtain ⟨S5, HS5⟩ : ∃ S, Hid (S = S4 ++ Lib.itoa (p - 1)) := ⟨_, hid rfl⟩
     have h2l : S2.length <= 3 := by rw [HS2.out]; simp; omega
     have h3l : S3.length <= 103 := by rw [HS3.out]; simp; omega
     have h4l : S4.length <= 104 := by rw [HS4.out]; simp; omega
     have a2 : ∀ W, (Op.stringOp .add (bs S1) ⟨#[46]⟩).run Tryz.prog W = .ok (.string (bs S2)) W := fun W => rt_add W _ [46] _ HS2 (by simp; omega)
     have a3 : ∀ W, (Op.stringOp .add (bs S2) (bs tl)).run Tryz.prog W = .ok (.string (bs S3)) W := fun W => rt_add W _ _ _ HS3 (by omega)
     have a4 : ∀ W, (Op.stringOp .add (bs S3) ⟨#[101]⟩).run Tryz.prog W = .ok (.string (bs S4)) W := fun W => rt_add W _ [101] _ HS4 (by simp; omega)
     have a5 : ∀ W, (Op.stringOp .add (bs S4) (bs (Lib.itoa (p - 1)))).run Tryz.prog W = .ok (.string (bs S5)) W := fun W => rt_add W _ _ _ HS5 (by omega)
     clear hp g1 g2 g3
     rcases hq with ⟨q1, q2⟩ | ⟨q1, q2⟩ | ⟨q1, q2⟩
     all_goals (
       go_wp2_with fail
       refine (HIT.out _ (HT.out.below HD1.out.below)).mono ?_
       rintro e w10 ⟨rfl, hb10⟩
       have HB10 := hid (HD1.out.below.call hb10)
       clear hb10
       go_wp2
       go_ret
       refine ⟨?_, HB10.out⟩
       rw [HTX.out, HBD.out, HS5.out, HS4.out, HS3.out, HS2.out, HS1.out]
       simp only [List.append_assoc]
       rfl)
   · have HBD := hid (body5 hp g1 g2 g3 hlt g5)
     rw [HT1.out, <- HHD.out] at HBD
     obtain ⟨S4, HS4⟩ : ∃ S, Hid (S = S1 ++ [101]) := ⟨_, hid rfl⟩
     obtain ⟨S5, HS5⟩ : ∃ S, Hid (S = S4 ++ Lib.itoa (p - 1)) := ⟨_, hid rfl⟩
     have h4l : S4.length <= 3 := by rw [HS4.out]; simp; omega
     have a4 : ∀ W, (Op.stringOp .add (bs S1) ⟨#[101]⟩).run Tryz.prog W = .ok (.string (bs S4)) W := fun W => rt_add W _ [101] _ HS4 (by simp; omega)
     have a5 : ∀ W, (Op.stringOp .add (bs S4) (bs (Lib.itoa (p - 1)))).run Tryz.prog W = .ok (.string (bs S5)) W := fun W => rt_add W _ _ _ HS5 (by omega)
     clear hp g1 g2 g3
     rcases hq with ⟨q1, q2⟩ | ⟨q1, q2⟩ | ⟨q1, q2⟩
     all_goals (
       go_wp2_with fail
       refine (HIT.out _ (HT.out.below HD1.out.below)).mono ?_
       rintro e w10 ⟨rfl, hb10⟩
       have HB10 := hid (HD1.out.below.call hb10)
       clear hb10
       go_wp2
       go_ret
       refine ⟨?_, HB10.out⟩
       rw [HTX.out, HBD.out, HS5.out, HS4.out, HS1.out]
       simp only [List.append_assoc]
       rfl)
 · obtain ⟨B, hB⟩ : ∃ B : List UInt8, B = [45] := ⟨_, rfl⟩
   have HB := hid hB
   have HTX := HTL B hB
   have hBl : B.length <= 1 := by rw [hB]; decide
   clear HTL hB
   go_upto_region 6 with fail
   rw [show (⟨#[45]⟩ : ByteArray) = bs B by rw [HB.out]; rfl]
   clear c0
   by_cases g1 : 0 <= x /\ p <= 21
   · obtain ⟨g1a, g1b⟩ := g1
     have HBD := hid (body1 hp g1a g1b)
     have HN1 := hid (fun W => rnoughts_ok x W (by omega))
     obtain ⟨S1, HS1⟩ : ∃ S, Hid (S = B ++ l) := ⟨_, hid rfl⟩
     obtain ⟨S2, HS2⟩ : ∃ S, Hid (S = S1 ++ zeros x.toNat) := ⟨_, hid rfl⟩
     have a1 : ∀ W, (Op.stringOp .add (bs B) (bs l)).run Tryz.prog W = .ok (.string (bs S1)) W := fun W => rt_add W _ _ _ HS1 (by omega)
     have a2 : ∀ W, (Op.stringOp .add (bs S1) (bs (zeros x.toNat))).run Tryz.prog W = .ok (.string (bs S2)) W := fun W => rt_add W _ _ _ HS2 (by rw [HS1.out]; simp [zeros]; omega)
     have e1 : decide (0 <= x) = true := decide_eq_true g1a
     have e2 : decide (p <= 21) = true := decide_eq_true g1b
     clear hp
     go_wp2_with fail
     refine wp_region_held_drew (S := (fun W => Decs w W [(w.heap.size, ⟨true, l, x⟩)])) (by kernel_rfl) (HD1.out.drew) (fun hHeld => ?_)
     refine wpAnyH_z 0 ?_
     try simp only [Act.put, sA, sB, sC]
     refine wpAnyH_z 1 ?_
     try simp only [Act.put, sA, sB, sC]
     refine wpAnyH_y 2 ?_ ?_ ?_
     rotate_left
     · intro W hSw; have q1 := hSw.c1 (i := 0) rfl; go_simp; try with_reducible rfl
     try simp only [Act.put, sA, sB, sC]
     refine wpAnyH_z 3 ?_
     try simp only [Act.put, sA, sB, sC]
     refine wpAnyH_z 4 ?_
     try simp only [Act.put, sA, sB, sC]
     refine wpAnyH_y 5 ?_ ?_ ?_
     rotate_left
     · intro W hSw; have q2 := hSw.c2 (i := 0) rfl; go_simp; try with_reducible rfl
     try simp only [Act.put, sA, sB, sC]
     refine wpAnyH_ready (rs := [6]) (by kernel_rfl) (by simp) ?_
     refine AllReadyH.cons (o := ?_) ?_ (fun K1 hK1 => ?_) AllReadyH.nil
     rotate_left 1
     · simp only [gA, gB, gC]; with_reducible rfl
     rw [if_pos (by rfl)]
     go_simp
     refine (HN1.out _).mono ?_
     rintro e2 w2 ⟨rfl, hb2⟩
     go_wp2_with fail
     refine hK1.out _ _ (hHeld.call hb2) (fun hHeld1 => ?_)
     clear hK1 K1
     try simp only [Act.put, sA, sB, sC]
     refine wpAnyH_z 7 ?_
     try simp only [Act.put, sA, sB, sC]
     refine wpAnyH_z 8 ?_
     try simp only [Act.put, sA, sB, sC]
     refine wpAnyH_done (by kernel_rfl) ?_ _
     go_wp2
     go_ret
     exact ⟨by rw [HTX.out, HBD.out, HS2.out, HS1.out, List.append_assoc]; rfl, hHeld1.below⟩
   by_cases g2 : 0 < p /\ p <= 21
   · have HBD := hid (body2 hp g1 g2)
     obtain ⟨g2a, g2b⟩ := g2
     have g0 : x < 0 := by omega
     obtain ⟨q, rfl⟩ := Int.eq_ofNat_of_zero_le (Int.le_of_lt g2a)
     have hql : q <= l.length := by omega
     rw [Int.toNat_natCast] at HBD
     have hf : ∀ W, (Instr.slice 9 (.string (bs l)) (some (.int .i64 (q : Int))) none none).run Tryz.prog W = .ok (.string (bs (l.drop q))) W := fun W => run_from_bs W _ Tryz.underlying9 l q hql
     have ht : ∀ W, (Instr.slice 9 (.string (bs l)) none (some (.int .i64 (q : Int))) none).run Tryz.prog W = .ok (.string (bs (l.take q))) W := fun W => run_to_bs W _ Tryz.underlying9 l q hql
     obtain ⟨S1, HS1⟩ : ∃ S, Hid (S = B ++ l.take q) := ⟨_, hid rfl⟩
     obtain ⟨S2, HS2⟩ : ∃ S, Hid (S = S1 ++ [46]) := ⟨_, hid rfl⟩
     obtain ⟨S3, HS3⟩ : ∃ S, Hid (S = S2 ++ l.drop q) := ⟨_, hid rfl⟩
     have a1 : ∀ W, (Op.stringOp .add (bs B) (bs (l.take q))).run Tryz.prog W = .ok (.string (bs S1)) W := fun W => rt_add W _ _ _ HS1 (by simp; omega)
     have a2 : ∀ W, (Op.stringOp .add (bs S1) ⟨#[46]⟩).run Tryz.prog W = .ok (.string (bs S2)) W := fun W => rt_add W _ [46] _ HS2 (by rw [HS1.out]; simp; omega)
     have a3 : ∀ W, (Op.stringOp .add (bs S2) (bs (l.drop q))).run Tryz.prog W = .ok (.string (bs S3)) W := fun W => rt_add W _ _ _ HS3 (by rw [HS2.out, HS1.out]; simp; omega)
     have e1 : decide (0 <= x) = false := by simp; omega
     have e2 : decide (x < 0) = true := by simp; omega
     have e3 : decide ((0 : Int) < (q : Int)) = true := by simp; omega
     have e4 : decide ((q : Int) <= 21) = true := by simp; omega
     clear hp g1
     go_wp2_with fail
     refine wp_region_held_drew (S := (fun W => Decs w W [(w.heap.size, ⟨true, l, x⟩)])) (by kernel_rfl) (HD1.out.drew) (fun hHeld => ?_)
     refine wpAnyH_z 0 ?_
     try simp only [Act.put, sA, sB, sC]
     refine wpAnyH_z 1 ?_
     try simp only [Act.put, sA, sB, sC]
     refine wpAnyH_y 2 ?_ ?_ ?_
     rotate_left
     · intro W hSw; have q1 := hSw.c1 (i := 0) rfl; go_simp; try with_reducible rfl
     try simp only [Act.put, sA, sB, sC]
     refine wpAnyH_z 3 ?_
     try simp only [Act.put, sA, sB, sC]
     refine wpAnyH_z 4 ?_
     try simp only [Act.put, sA, sB, sC]
     refine wpAnyH_z 5 ?_
     try simp only [Act.put, sA, sB, sC]
     refine wpAnyH_z 6 ?_
     try simp only [Act.put, sA, sB, sC]
     refine wpAnyH_z 7 ?_
     try simp only [Act.put, sA, sB, sC]
     refine wpAnyH_y 8 ?_ ?_ ?_
     rotate_left
     · intro W hSw; have q1 := hSw.c1 (i := 0) rfl; go_simp; try with_reducible rfl
     try simp only [Act.put, sA, sB, sC]
     refine wpAnyH_z 9 ?_
     try simp only [Act.put, sA, sB, sC]
     refine wpAnyH_z 10 ?_
     try simp only [Act.put, sA, sB, sC]
     refine wpAnyH_z 11 ?_
     try simp only [Act.put, sA, sB, sC]
     refine wpAnyH_z 12 ?_
     try simp only [Act.put, sA, sB, sC]
     refine wpAnyH_done (by kernel_rfl) ?_ _
     go_wp2
     go_ret
     exact ⟨by rw [HTX.out, HBD.out, HS3.out, HS2.out, HS1.out]; simp only [List.append_assoc]; rfl, HD1.out.below.drew⟩
   by_cases g3 : -5 <= p /\ p <= 0
   · have HBD := hid (body3 hp g1 g2 g3)
     obtain ⟨g3a, g3b⟩ := g3
     have g0 : x < 0 := by omega
     obtain ⟨k, hk⟩ : ∃ k : Nat, p = -(k : Int) := ⟨(-p).toNat, by omega⟩
     subst hk
     rw [Int.neg_neg, Int.toNat_natCast] at HBD
     have HN1 := hid (fun W => rnoughts_ok (k : Int) W (by omega))
     rw [Int.toNat_natCast] at HN1
     have hwk : IntKind.i64.wrap (k : Int) = k := by simp [IntKind.wrap, IntKind.bits, IntKind.signed]; omega
     have hk5 : k <= 5 := by omega
     obtain ⟨S1, HS1⟩ : ∃ S, Hid (S = B ++ [48, 46]) := ⟨_, hid rfl⟩
     obtain ⟨S2, HS2⟩ : ∃ S, Hid (S = S1 ++ zeros k) := ⟨_, hid rfl⟩
     obtain ⟨S3, HS3⟩ : ∃ S, Hid (S = S2 ++ l) := ⟨_, hid rfl⟩
     have a1 : ∀ W, (Op.stringOp .add (bs B) ⟨#[48, 46]⟩).run Tryz.prog W = .ok (.string (bs S1)) W := fun W => rt_add W _ [48, 46] _ HS1 (by simp; omega)
     have a2 : ∀ W, (Op.stringOp .add (bs S1) (bs (zeros k))).run Tryz.prog W = .ok (.string (bs S2)) W := fun W => rt_add W _ _ _ HS2 (by rw [HS1.out]; simp [zeros]; omega)
     have a3 : ∀ W, (Op.stringOp .add (bs S2) (bs l)).run Tryz.prog W = .ok (.string (bs S3)) W := fun W => rt_add W _ _ _ HS3 (by rw [HS2.out, HS1.out]; simp [zeros]; omega)
     have e1 : decide (0 <= x) = false := by simp; omega
     have e2 : decide (x < 0) = true := by simp; omega
     have e3 : decide ((0 : Int) < -(k : Int)) = false := decide_eq_false (by omega)
     have e4 : decide (-(k : Int) <= 0) = true := decide_eq_true (by omega)
     have e5 : decide ((-5 : Int) <= -(k : Int)) = true := by simp; omega
     clear hp g1 g2
     go_wp2_with fail
     refine wp_region_held_drew (S := (fun W => Decs w W [(w.heap.size, ⟨true, l, x⟩)])) (by kernel_rfl) (HD1.out.drew) (fun hHeld => ?_)
     refine wpAnyH_z 0 ?_
     try simp only [Act.put, sA, sB, sC]
     refine wpAnyH_z 1 ?_
     try simp only [Act.put, sA, sB, sC]
     refine wpAnyH_z 2 ?_
     try simp only [Act.put, sA, sB, sC]
     refine wpAnyH_z 3 ?_
     try simp only [Act.put, sA, sB, sC]
     refine wpAnyH_z 6 ?_
     try simp only [Act.put, sA, sB, sC]
     refine wpAnyH_y 7 ?_ ?_ ?_
     rotate_left
     · intro W hSw; have q1 := hSw.c1 (i := 0) rfl; go_simp; try with_reducible rfl
     try simp only [Act.put, sA, sB, sC]
     refine wpAnyH_ready (rs := [4]) (by kernel_rfl) (by simp) ?_
     refine AllReadyH.cons (o := ?_) ?_ (fun K1 hK1 => ?_) AllReadyH.nil
     rotate_left 1
     · simp only [gA, gB, gC]; with_reducible rfl
     rw [if_pos (by rfl)]
     go_simp
     refine (HN1.out _).mono ?_
     rintro e2 w2 ⟨rfl, hb2⟩
     go_wp2_with fail
     refine hK1.out _ _ (hHeld.call hb2) (fun hHeld1 => ?_)
     clear hK1 K1
     try simp only [Act.put, sA, sB, sC]
     refine wpAnyH_z 5 ?_
     try simp only [Act.put, sA, sB, sC]
     refine wpAnyH_z 8 ?_
     try simp only [Act.put, sA, sB, sC]
     refine wpAnyH_z 9 ?_
     try simp only [Act.put, sA, sB, sC]
     refine wpAnyH_done (by kernel_rfl) ?_ _
     go_wp2
     go_ret
     exact ⟨by rw [HTX.out, HBD.out, HS3.out, HS2.out, HS1.out]; simp only [List.append_assoc]; rfl, hHeld1.below⟩
   have HIT := hid (fun W (h : PowTab W) => itoa_ok (p - 1) (by omega) (by omega) W h)
   have hilen := Lib.itoa_length_le (p - 1) (by omega) (by omega)
   have hpw : IntKind.i64.wrap (p - 1) = p - 1 := by simp [IntKind.wrap, IntKind.bits, IntKind.signed]; omega
   have ht : ∀ W, (Instr.slice 9 (.string (bs l)) none (some (.int .i64 1)) none).run Tryz.prog W = .ok (.string (bs (l.take 1))) W := fun W => run_to_bs W _ Tryz.underlying9 l 1 (by omega)
   have hf : ∀ W, (Instr.slice 9 (.string (bs l)) (some (.int .i64 1)) none none).run Tryz.prog W = .ok (.string (bs (l.drop 1))) W := fun W => run_from_bs W _ Tryz.underlying9 l 1 (by omega)
   have HT1 : Hid ([l.getD 0 0] = l.take 1) := hid (by cases l with | nil => exact absurd rfl hl | cons b r => simp)
   obtain ⟨hd, HHD⟩ : ∃ t, Hid (t = l.take 1) := ⟨_, hid rfl⟩
   obtain ⟨tl, HTL1⟩ : ∃ t, Hid (t = l.drop 1) := ⟨_, hid rfl⟩
   rw [<- HHD.out] at ht
   rw [<- HTL1.out] at hf
   have hhl : hd.length <= 1 := by rw [HHD.out]; exact List.length_take_le _ _
   have htl : tl.length <= 100 := by rw [HTL1.out, List.length_drop]; exact Nat.le_trans (Nat.sub_le _ _) hl100
   obtain ⟨S1, HS1⟩ : ∃ S, Hid (S = B ++ hd) := ⟨_, hid rfl⟩
   have h1l : S1.length <= 2 := by rw [HS1.out]; simp; omega
   have a1 : ∀ W, (Op.stringOp .add (bs B) (bs hd)).run Tryz.prog W = .ok (.string (bs S1)) W := fun W => rt_add W _ _ _ HS1 (by omega)
   have hq : (0 <= x /\ 21 < p) ∨ (x < 0 /\ 21 < p) ∨ (x < 0 /\ p < -5) := by omega
   by_cases g5 : 1 < l.length
   · have HBD := hid (body4 hp g1 g2 g3 hlt g5)
     rw [HT1.out, <- HHD.out, <- HTL1.out] at HBD
     obtain ⟨S2, HS2⟩ : ∃ S, Hid (S = S1 ++ [46]) := ⟨_, hid rfl⟩
     obtain ⟨S3, HS3⟩ : ∃ S, Hid (S = S2 ++ tl) := ⟨_, hid rfl⟩
     obtain ⟨S4, HS4⟩ : ∃ S, Hid (S = S3 ++ [101]) := ⟨_, hid rfl⟩
     obtain ⟨S5, HS5⟩ : ∃ S, Hid (S = S4 ++ Lib.itoa (p - 1)) := ⟨_, hid rfl⟩
     have h2l : S2.length <= 3 := by rw [HS2.out]; simp; omega
     have h3l : S3.length <= 103 := by rw [HS3.out]; simp; omega
     have h4l : S4.length <= 104 := by rw [HS4.out]; simp; omega
     have a2 : ∀ W, (Op.stringOp .add (bs S1) ⟨#[46]⟩).run Tryz.prog W = .ok (.string (bs S2)) W := fun W => rt_add W _ [46] _ HS2 (by simp; omega)
     have a3 : ∀ W, (Op.stringOp .add (bs S2) (bs tl)).run Tryz.prog W = .ok (.string (bs S3)) W := fun W => rt_add W _ _ _ HS3 (by omega)
     have a4 : ∀ W, (Op.stringOp .add (bs S3) ⟨#[101]⟩).run Tryz.prog W = .ok (.string (bs S4)) W := fun W => rt_add W _ [101] _ HS4 (by simp; omega)
     have a5 : ∀ W, (Op.stringOp .add (bs S4) (bs (Lib.itoa (p - 1)))).run Tryz.prog W = .ok (.string (bs S5)) W := fun W => rt_add W _ _ _ HS5 (by omega)
     clear hp g1 g2 g3
     rcases hq with ⟨q1, q2⟩ | ⟨q1, q2⟩ | ⟨q1, q2⟩
     all_goals (
       go_wp2_with fail
       refine (HIT.out _ (HT.out.below HD1.out.below)).mono ?_
       rintro e w10 ⟨rfl, hb10⟩
       have HB10 := hid (HD1.out.below.call hb10)
       clear hb10
       go_wp2
       go_ret
       refine ⟨?_, HB10.out⟩
       rw [HTX.out, HBD.out, HS5.out, HS4.out, HS3.out, HS2.out, HS1.out]
       simp only [List.append_assoc]
       rfl)
   · have HBD := hid (body5 hp g1 g2 g3 hlt g5)
     rw [HT1.out, <- HHD.out] at HBD
     obtain ⟨S4, HS4⟩ : ∃ S, Hid (S = S1 ++ [101]) := ⟨_, hid rfl⟩
     obtain ⟨S5, HS5⟩ : ∃ S, Hid (S = S4 ++ Lib.itoa (p - 1)) := ⟨_, hid rfl⟩
     have h4l : S4.length <= 3 := by rw [HS4.out]; simp; omega
     have a4 : ∀ W, (Op.stringOp .add (bs S1) ⟨#[101]⟩).run Tryz.prog W = .ok (.string (bs S4)) W := fun W => rt_add W _ [101] _ HS4 (by simp; omega)
     have a5 : ∀ W, (Op.stringOp .add (bs S4) (bs (Lib.itoa (p - 1)))).run Tryz.prog W = .ok (.string (bs S5)) W := fun W => rt_add W _ _ _ HS5 (by omega)
     clear hp g1 g2 g3
     rcases hq with ⟨q1, q2⟩ | ⟨q1, q2⟩ | ⟨q1, q2⟩
     all_goals (
       go_wp2_with fail
       refine (HIT.out _ (HT.out.below HD1.out.below)).mono ?_
       rintro e w10 ⟨rfl, hb10⟩
       have HB10 := hid (HD1.out.below.call hb10)
       clear hb10
       go_wp2
       go_ret
       refine ⟨?_, HB10.out⟩
       rw [HTX.out, HBD.out, HS5.out, HS4.out, HS1.out]
       simp only [List.append_assoc]
       rfl)
end Go.Proofs.YtmhbkjjkalnggaaGreatDoor
