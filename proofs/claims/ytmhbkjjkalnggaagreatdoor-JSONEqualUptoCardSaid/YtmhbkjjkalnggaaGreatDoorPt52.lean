import Derived.Test.YtmhbkjjkalnggaaGreatDoorPt48
import Derived.Test.YtmhbkjjkalnggaaGreatDoorPt51
set_option maxRecDepth 1000000
set_option maxHeartbeats 8000000
namespace Go.Proofs.YtmhbkjjkalnggaaGreatDoor
open Go.RowKit
theorem JIs.form {W : World} {F : Nat -> Prop} {v : JV} {cs : Array Value} (h : JIs W F v cs.toList) : ∃ k b d t L N, cs = jvC k b d t L N := by
 obtain ⟨k, b, d, t, l, ns⟩ := v
 unfold JIs at h
 obtain ⟨A, c, A', c', e, _⟩ := h
 exact ⟨k, b, d, t, _, _, Array.toList_inj.1 e⟩
theorem run_build2 (k : Int) (b : Bool) (d : Dec) (t : List UInt8) (L N : Value) (k' : Int) (b' : Bool) (d' : Dec) (t' : List UInt8) (L' N' : Value) (w : World) : (Instr.buildSlice 25 2 #[(0, .agg (jvC k b d t L N)), (1, .agg (jvC k' b' d' t' L' N'))]).run Tryz.prog w = .ok (.slice (some ⟨w.heap.size, 0, none⟩) 2 2) (w.alloc (.cells (jvC k b d t L N ++ jvC k' b' d' t' L' N') 28)) := by
 obtain ⟨i, hi, hz, hs1, hb⟩ := info_parts infoJV
 have hsz : ∀ w : World, (sizeOf 28).run Tryz.prog w = .ok 8 w := fun w => by simp [sizeOf, typeInfo, hi, hs1]
 have hzv : ∀ w : World, (zeroValue 28).run Tryz.prog w = .ok (.agg zeroJ) w := fun w => by simp [zeroValue, typeInfo, hi, hz]
 have hf : Instr.fill (fun i => some (i * 8, 8)) ((Array.range (2 * 8)).map ((Value.agg zeroJ).cells[· % (Value.agg zeroJ).cells.size]!)) [(0, .agg (jvC k b d t L N)), (1, .agg (jvC k' b' d' t' L' N'))] = some (jvC k b d t L N ++ jvC k' b' d' t' L' N') := by kernel_rfl
 unfold Instr.buildSlice
 simp only [Sem.run_bind, run_underlying Tryz.underlying25, Result.andThen_ok, hsz]
 rw [if_neg (by decide), if_neg (by decide)]
 simp only [Sem.run_bind, Result.andThen_ok, hzv, Sem.run_pure, hf]
 simp [newRow]
theorem wp_build2 {o : Oper} {a : Act} {w : World} {K : Act -> World -> Prop} {Q : Exit -> Act -> World -> Prop} (x y : Operand) (ho : o.op = .buildSlice 25 2 #[(0, x), (1, y)]) (k : Int) (b : Bool) (d : Dec) (t : List UInt8) (L N : Value) (hx : a.eval x = .agg (jvC k b d t L N)) (k' : Int) (b' : Bool) (d' : Dec) (t' : List UInt8) (L' N' : Value) (hy : a.eval y = .agg (jvC k' b' d' t' L' N'))
   (h : K (a.put o.dst (.slice (some ⟨w.heap.size, 0, none⟩) 2 2)) (w.alloc (.cells (jvC k b d t L N ++ jvC k' b' d' t' L' N') 28))) : o.wp Tryz.prog a w K Q := by
 unfold Oper.wp execOp
 simp [ho, hx, hy, run_build2 k b d t L N k' b' d' t' L' N' w, Result.andThen]
 exact h
theorem equal_sym {a b : JV} (ha : checkJ a = 0) (hb : checkJ b = 0) : eqJ a b = eqJ b a := by
 rw [Bool.eq_iff_iff, eq_sorted _ a (Nat.le_refl _) b (check_parts ha).1 (check_parts hb).1, eq_sorted _ b (Nat.le_refl _) a (check_parts hb).1 (check_parts ha).1]
 exact eq_comm
theorem equalJ_sym (a b : JV) : equalJ a b = equalJ b a := by
 unfold equalJ
 by_cases ha : checkJ a = 0
 · by_cases hb : checkJ b = 0
   · rw [ha, hb, equal_sym ha hb]
   · rw [beq_eq_false_iff_ne.2 hb]; simp
 · rw [beq_eq_false_iff_ne.2 ha]; simp
theorem equal_law (F1 F2 : Nat -> Prop) (c1 c2 : Array Value) (a b : JV) (w : World) (hA : JIs w F1 a c1.toList) (hB : JIs w F2 b c2.toList) (hsa : SmallJ a) (hsb : SmallJ b) (hw : wJ a + wJ b <= 1048576)
   (hT : PowTab w) (hU : Lib.Utf8Tabs 0 1 w) :
   Calls Tryz.prog 4 #[.agg c1, .agg c2] w fun e w' => e = .returned (.bool true) /\ Below w.heap.size w w' := by
 obtain ⟨k, bb, d, t, L, N, hc1⟩ := hA.form
 obtain ⟨k', bb', d', t', L', N', hc2⟩ := hB.form
 have HE1 := hid hc1
 have HE2 := hid hc2
 have h81 := size_of_jis hA
 have h82 := size_of_jis hB
 obtain ⟨w1, hw1⟩ : ∃ w1, w1 = w.alloc (.cells c1 28) := ⟨_, rfl⟩
 obtain ⟨w2, hw2⟩ : ∃ w2, w2 = w1.alloc (.cells c2 28) := ⟨_, rfl⟩
 have s1 : w1.heap.size = w.heap.size + 1 := by rw [hw1]; simp
 have hb1 : Below w.heap.size w w1 := by rw [hw1]; exact (Below.refl _ _).alloc (Nat.le_refl _) _
 have hb2 : Below w1.heap.size w1 w2 := by rw [hw2]; exact (Below.refl _ _).alloc (Nat.le_refl _) _
 have hb12 := hb1.call hb2
 have HB2 := hid hb12
 have HV1 : Hid (VarAt w2 w.heap.size a c1) := hid ⟨Row.call (by rw [hw1]; exact Row.new _ _ _) hb2, (JIs.mono (fun _ _ _ => trivial) _ _ hA).below hb12, h81⟩
 have HV2 : Hid (VarAt w2 (w.heap.size + 1) b c2) := hid ⟨by rw [<- s1, hw2]; exact Row.new _ _ _, (JIs.mono (fun _ _ _ => trivial) _ _ hB).below hb12, h82⟩
 have HT := hid (fun V (hb : Below w2.heap.size w2 V) => hT.below (hb12.call hb))
 have HU := hid (fun V (hb : Below w2.heap.size w2 V) => Utf8Tabs_below hU (hb12.call hb))
 have hda := depth_w _ a (Nat.le_refl _)
 have hdb := depth_w _ b (Nat.le_refl _)
 have hda : depthJ a <= 1000000 := by omega
 have hdb : depthJ b <= 1000000 := by omega
 have hfa : askJ a = true -> FineJ a := ask_fine _ a (Nat.le_refl _) (by omega)
 have hfb : askJ b = true -> FineJ b := ask_fine _ b (Nat.le_refl _) (by omega)
 have H8c1 := hid h81
 have H8c2 := hid h82
 obtain ⟨w3, hw3⟩ : ∃ w3, w3 = w2.alloc (.cells (c1 ++ c2) 28) := ⟨_, rfl⟩
 have hb3 : Below w2.heap.size w2 w3 := by rw [hw3]; exact (Below.refl _ _).alloc (Nat.le_refl _) _
 have FS : Hid (Calls Tryz.prog 6 #[.slice (some ⟨w2.heap.size, 0, none⟩) 2 2] w3 fun e w' => (∃ r : Bool, e = .returned (.bool r)) /\ Below w2.heap.size w2 w') := hid (by
   have hr : Row w3 w2.heap.size 28 (c1 ++ c2) := by rw [hw3]; exact Row.new _ _ _
   refine (jsmall_ok (fun _ => True) (some ⟨w2.heap.size, 0, none⟩) 2 [a, b] w3 ?_ (by simp) (by omega) (fun x hx => by
     rcases List.mem_cons.1 hx with rfl | hx
     · omega
     · rw [List.mem_singleton.1 hx]; omega)).mono fun e w' h => ⟨h.1, hb3.call h.2⟩
   unfold KidsAt
   refine ⟨⟨w2.heap.size, 0, c1.toList, rfl, trivial, hr.lt, fun j u hu => ?_, HV1.out.is.below hb3⟩, ?_⟩
   · rw [Nat.zero_mul, Nat.zero_add, Nat.zero_add]
     have hj : j < c1.size := by have := (List.getElem?_eq_some_iff.1 hu).1; simpa using this
     exact hr.cell (by rw [Array.getElem?_append_left hj]; simpa using hu)
   · unfold KidsAt
     refine ⟨⟨w2.heap.size, 0, c2.toList, rfl, trivial, hr.lt, fun j u hu => ?_, HV2.out.is.below hb3⟩, by unfold KidsAt; trivial⟩
     rw [show 0 + ((0 + 1) * 8 + j) = 8 + j by omega]
     exact hr.cell (by rw [Array.getElem?_append_right (by omega), h81, Nat.add_sub_cancel_left]; simpa using hu))
 have FW : Hid (∀ V, Below w2.heap.size w2 V -> Calls Tryz.prog 7 #[] V fun e w' => e = .returned (.bool true) /\ Below V.heap.size V w') := hid fun V hb => jworks_ok V (HT.out V hb) (HU.out V hb)
 obtain ⟨r, hr⟩ : ∃ r, r = equalJ a b := ⟨_, rfl⟩
 obtain ⟨q, hq⟩ : ∃ q, q = (checkJ a == 0) := ⟨_, rfl⟩
 have FE12 : Hid (∀ V, Below w2.heap.size w2 V -> Calls Tryz.prog 23 #[.agg c1, .agg c2] V fun e w' => e = .returned (.bool r) /\ Below V.heap.size V w') := hid fun V hb => by
   rw [hr]
   exact jEqual_ok (fun _ => True) (fun _ => True) c1 c2 a b V (HV1.out.call hb).is (HV2.out.call hb).is h81 h82 hsa hsb hfa hfb hda hdb (HT.out V hb) (HU.out V hb)
 have FE21 : Hid (∀ V, Below w2.heap.size w2 V -> Calls Tryz.prog 23 #[.agg c2, .agg c1] V fun e w' => e = .returned (.bool r) /\ Below V.heap.size V w') := hid fun V hb => by
   rw [hr, equalJ_sym]
   exact jEqual_ok (fun _ => True) (fun _ => True) c2 c1 b a V (HV2.out.call hb).is (HV1.out.call hb).is h82 h81 hsb hsa hfb hfa hdb hda (HT.out V hb) (HU.out V hb)
 have FE11 : Hid (∀ V, Below w2.heap.size w2 V -> Calls Tryz.prog 23 #[.agg c1, .agg c1] V fun e w' => e = .returned (.bool q) /\ Below V.heap.size V w') := hid fun V hb => by
   have e9 : q = equalJ a a := by
     rw [hq]; unfold equalJ
     by_cases h0 : checkJ a = 0
     · rw [h0, eqJ_self _ a (Nat.le_refl _) (check_parts h0).1]; rfl
     · rw [beq_eq_false_iff_ne.2 h0]; rfl
   rw [e9]
   exact jEqual_ok (fun _ => True) (fun _ => True) c1 c1 a a V (HV1.out.call hb).is (HV1.out.call hb).is h81 h81 hsa hsa hfa hfa hda hda (HT.out V hb) (HU.out V hb)
 have FCA : Hid (∀ V, Below w2.heap.size w2 V -> Calls Tryz.prog 16 #[.agg c1] V fun e w' => e = .returned (.int .i64 (checkJ a)) /\ Below V.heap.size V w') := hid fun V hb => dcheck_ok (fun _ => True) c1 a V (HV1.out.call hb).is hsa hda (by omega) (HT.out V hb)
 have FCB : Hid (∀ V, Below w2.heap.size w2 V -> Calls Tryz.prog 16 #[.agg c2] V fun e w' => e = .returned (.int .i64 (checkJ b)) /\ Below V.heap.size V w') := hid fun V hb => dcheck_ok (fun _ => True) c2 b V (HV2.out.call hb).is hsb hdb (by omega) (HT.out V hb)
 have FS1 : Hid (checkJ a = 0 -> ∀ V, Below w2.heap.size w2 V -> Calls Tryz.prog 19 #[.agg c1] V (CopPost V (sortJ a))) := hid fun h0 V hb => dsorted_ok _ a (Nat.le_refl _) (check_parts h0).1 (by omega) (fun _ => True) c1 V (HV1.out.call hb).is
 have FS2 : Hid (checkJ b = 0 -> ∀ V, Below w2.heap.size w2 V -> Calls Tryz.prog 19 #[.agg c2] V (CopPost V (sortJ b))) := hid fun h0 V hb => dsorted_ok _ b (Nat.le_refl _) (check_parts h0).1 (by omega) (fun _ => True) c2 V (HV2.out.call hb).is
 have FSM : Hid (checkJ a = 0 -> checkJ b = 0 -> ∀ (x y : Array Value) (G H : Nat -> Prop) (V : World), JIs V G (sortJ a) x.toList -> JIs V H (sortJ b) y.toList -> Calls Tryz.prog 17 #[.agg x, .agg y] V fun e w' => e = .returned (.bool r) /\ Below V.heap.size V w') := hid fun ha hb x y G H V h1 h2 => by
   refine (jrefSame_ok _ (sortJ a) (Nat.le_refl _) (sortJ b) G H x y V h1 h2).mono fun e w' h => ?_
   obtain ⟨⟨r2, hr2, he⟩, hbb⟩ := h
   refine ⟨?_, hbb⟩
   rw [he]
   have : r2 = r := by
     rw [Bool.eq_iff_iff, hr2, hr, equalJ, ha, hb, <- eq_sorted _ a (Nat.le_refl _) b (check_parts ha).1 (check_parts hb).1]
     simp
   rw [this]
 have HRF : Hid (checkJ a ≠ 0 ∨ checkJ b ≠ 0 -> r = false) := hid fun h => by
   rw [hr]; unfold equalJ
   rcases h with h | h
   · rw [beq_eq_false_iff_ne.2 h]; rfl
   · rw [beq_eq_false_iff_ne.2 h]; simp
 have HRc1 : Hid (∀ V, Below w2.heap.size w2 V -> V.rangeAt w.heap.size 0 c1.toList) := hid fun V hb => (HV1.out.call hb).range
 have HRc2 : Hid (∀ V, Below w2.heap.size w2 V -> V.rangeAt (w.heap.size + 1) 0 c2.toList) := hid fun V hb => (HV2.out.call hb).range
 have HW3 := hid hw3
 have HQ := hid hq
 clear hA hB hsa hsb hw hT hU hda hdb hfa hfb h81 h82 hc1 hc2 hb1 hb2 hb12 hb3 hw3 hr hq
 generalize checkJ a = ca at *
 generalize checkJ b = cb at *
 go_enter Tryz.func4, Tryz.ntmps4
 go_upto_region 1 with fail
 rw [<- hw1, <- hw2]
 clear hw1 hw2
 try simp only [s1]
 have HGc1 := hid (HRc1.out w2 (Below.refl _ _))
 have HGc2 := hid (HRc2.out w2 (Below.refl _ _))
 go_wp2_with (first
   | (refine ldJ (.tmp 2) w.heap.size 0 c1 HGc1.out (info_of_size H8c1.out) ?_)
   | (refine ldJ (.tmp 3) (w.heap.size + 1) 0 c2 HGc2.out (info_of_size H8c2.out) ?_)
   | (refine wpList_plain ?_ fun K hK => wp_build2 (.tmp 6) (.tmp 7) ?_ k bb d t L N ?_ k' bb' d' t' L' N' ?_ (hK _ _ ?_)
      · with_reducible rfl
      · with_reducible rfl
      · exact congrArg Value.agg HE1.out
      · exact congrArg Value.agg HE2.out
      rw [<- HE1.out, <- HE2.out, <- HW3.out]))
 clear HGc1
 clear HGc2
 refine FS.out.mono ?_
 rintro e w4 ⟨⟨rs, rfl⟩, hb⟩
 have HB4 := hid hb
 clear hb FS
 cases rs with
 | false =>
   go_wp2_with fail
   refine (FW.out _ HB4.out).mono ?_
   rintro e y1 ⟨rfl, hb⟩
   have HY1 := hid (HB2.out.call ((HB4.out).call hb))
   clear hb
   go_wp2_with fail
   go_ret
   exact ⟨rfl, HY1.out⟩
 | true =>
   have HGc1 := hid (HRc1.out w4 HB4.out)
   go_wp2_with (first
     | (refine ldJ (.tmp 2) w.heap.size 0 c1 HGc1.out (info_of_size H8c1.out) ?_))
   clear HGc1
   refine (FCA.out w4 HB4.out).mono ?_
   rintro e w5 ⟨rfl, hb⟩
   have HB5 := hid (HB4.out.call hb)
   clear hb
   by_cases ha : ca = 0
   · have hq : q = true := by rw [HQ.out, ha]; rfl
     subst ha hq
     have HGc2 := hid (HRc2.out w5 HB5.out)
     go_wp2_with (first
       | (refine wpList_load_midG ?_ 28 (.tmp 3) ?_ (w.heap.size + 1) 0 ?_ c2.toList _ HGc2.out Tryz.underlying28 rfl (by rw [Array.length_toList]; exact info_of_size H8c2.out) ?_
          · kernel_rfl
          · with_reducible rfl
          · rfl))
     clear HGc2
     refine (FCB.out w5 HB5.out).mono ?_
     rintro e w6 ⟨rfl, hb⟩
     have HB6 := hid (HB5.out.call hb)
     clear hb
     by_cases hbz : cb = 0
     · subst hbz
       replace FSM := hid (FSM.out (by trivial) (by trivial))
       replace FS1 := hid (FS1.out (by trivial))
       replace FS2 := hid (FS2.out (by trivial))
       clear HRF HQ
       go_upto_region 4 with fail
       obtain ⟨wv, hwv⟩ : ∃ wv, wv = w6 := ⟨_, rfl⟩
       rw [<- hwv]
       have HBV : Hid (Below w2.heap.size w2 wv) := hid (by rw [hwv]; exact HB6.out)
       clear hwv
       as_aux_lemma =>
         refine wp_region_till 33 (fun W => Below w2.heap.size w2 W) (by kernel_rfl) ?_
         have hS : Below w2.heap.size w2 wv.drew := HBV.out.drew
         refine wpTill_l 0 (.tmp 2) w.heap.size 0 c1 H8c1.out HRc1.out ?_
         try simp only [Act.put, sA, sB, sC]
         refine wpTill_l 1 (.tmp 3) (w.heap.size + 1) 0 c2 H8c2.out HRc2.out ?_
         try simp only [Act.put, sA, sB, sC]
         refine wpTill_z 3 ?_
         try simp only [Act.put, sA, sB, sC]
         refine wpTill_oG 2 ?_
         intro K1 hK1
         go_simp
         (with_reducible refine ((FE12.out _) hS).mono ?_)
         rintro e1 v1 ⟨rfl, hb⟩
         go_wp2_with fail
         have hS2 := hS.call hb
         clear hS
         have hS := hS2
         clear hS2
         clear hb
         refine hK1.out _ _ (fun _ => hS) ?_
         clear hK1 K1
         try simp only [Act.put, sA, sB, sC]
         refine wpTill_z 4 ?_
         try simp only [Act.put, sA, sB, sC]
         refine wpTill_l 5 (.tmp 2) w.heap.size 0 c1 H8c1.out HRc1.out ?_
         try simp only [Act.put, sA, sB, sC]
         refine wpTill_l 7 (.tmp 3) (w.heap.size + 1) 0 c2 H8c2.out HRc2.out ?_
         try simp only [Act.put, sA, sB, sC]
         refine wpTill_oG 6 ?_
         intro K1 hK1
         go_simp
         (with_reducible refine (FS1.out _ hS).mono ?_)
         rintro e1 v1 ⟨cs3, rfl, hcop, hb⟩
         go_wp2_with fail
         have HJ3 := hid hcop.jis
         have HV3 := hid hb
         have hS2 := hS.call hb
         clear hS hb hcop
         have hS := hS2
         clear hS2
         refine hK1.out _ _ (fun _ => hS) ?_
         clear hK1 K1
         try simp only [Act.put, sA, sB, sC]
         refine wpTill_oG 8 ?_
         intro K1 hK1
         go_simp
         (with_reducible refine (FS2.out _ hS).mono ?_)
         rintro e1 v2 ⟨cs4, rfl, hcop, hb⟩
         go_wp2_with fail
         have HJ4 := hid hcop.jis
         have HJ5 := hid (HJ3.out.below hb)
         have hS2 := hS.call hb
         clear hS hb hcop
         have hS := hS2
         clear hS2
         refine hK1.out _ _ (fun _ => hS) ?_
         clear hK1 K1
         try simp only [Act.put, sA, sB, sC]
         refine wpTill_oG 9 ?_
         intro K1 hK1
         go_simp
         (with_reducible refine (FSM.out cs3 cs4 _ _ _ HJ5.out HJ4.out).mono ?_)
         rintro e1 v3 ⟨rfl, hb⟩
         go_wp2_with fail
         have hS2 := hS.call hb
         clear hS hb
         have hS := hS2
         clear hS2
         refine hK1.out _ _ (fun _ => hS) ?_
         clear hK1 K1
         try simp only [Act.put, sA, sB, sC]
         refine wpTill_z 10 ?_
         try simp only [Act.put, sA, sB, sC]
         refine wpTill_z 11 ?_
         try simp only [Act.put, sA, sB, sC]
         refine wpTill_z 12 ?_
         try simp only [Act.put, sA, sB, sC]
         refine wpTill_l 13 (.tmp 3) (w.heap.size + 1) 0 c2 H8c2.out HRc2.out ?_
         try simp only [Act.put, sA, sB, sC]
         refine wpTill_l 14 (.tmp 2) w.heap.size 0 c1 H8c1.out HRc1.out ?_
         try simp only [Act.put, sA, sB, sC]
         refine wpTill_l 16 (.tmp 2) w.heap.size 0 c1 H8c1.out HRc1.out ?_
         try simp only [Act.put, sA, sB, sC]
         refine wpTill_l 17 (.tmp 3) (w.heap.size + 1) 0 c2 H8c2.out HRc2.out ?_
         try simp only [Act.put, sA, sB, sC]
         refine wpTill_oG 15 ?_
         intro K1 hK1
         go_simp
         (with_reducible refine ((FE21.out _) hS).mono ?_)
         rintro e1 v1 ⟨rfl, hb⟩
         go_wp2_with fail
         have hS2 := hS.call hb
         clear hS
         have hS := hS2
         clear hS2
         clear hb
         refine hK1.out _ _ (fun _ => hS) ?_
         clear hK1 K1
         try simp only [Act.put, sA, sB, sC]
         refine wpTill_oG 18 ?_
         intro K1 hK1
         go_simp
         (with_reducible refine ((FE12.out _) hS).mono ?_)
         rintro e1 v1 ⟨rfl, hb⟩
         go_wp2_with fail
         have hS2 := hS.call hb
         clear hS
         have hS := hS2
         clear hS2
         clear hb
         refine hK1.out _ _ (fun _ => hS) ?_
         clear hK1 K1
         try simp only [Act.put, sA, sB, sC]
         refine wpTill_z 19 ?_
         try simp only [Act.put, sA, sB, sC]
         refine wpTill_z 20 ?_
         try simp only [Act.put, sA, sB, sC]
         refine wpTill_z 21 ?_
         try simp only [Act.put, sA, sB, sC]
         refine wpTill_l 22 (.tmp 2) w.heap.size 0 c1 H8c1.out HRc1.out ?_
         try simp only [Act.put, sA, sB, sC]
         refine wpTill_l 23 (.tmp 2) w.heap.size 0 c1 H8c1.out HRc1.out ?_
         try simp only [Act.put, sA, sB, sC]
         refine wpTill_l 25 (.tmp 2) w.heap.size 0 c1 H8c1.out HRc1.out ?_
         try simp only [Act.put, sA, sB, sC]
         refine wpTill_oG 24 ?_
         intro K1 hK1
         go_simp
         (with_reducible refine ((FE11.out _) hS).mono ?_)
         rintro e1 v1 ⟨rfl, hb⟩
         go_wp2_with fail
         have hS2 := hS.call hb
         clear hS
         have hS := hS2
         clear hS2
         clear hb
         refine hK1.out _ _ (fun _ => hS) ?_
         clear hK1 K1
         try simp only [Act.put, sA, sB, sC]
         refine wpTill_oG 26 ?_
         intro K1 hK1
         go_simp
         (with_reducible refine ((FCA.out _) hS).mono ?_)
         rintro e1 v1 ⟨rfl, hb⟩
         go_wp2_with fail
         have hS2 := hS.call hb
         clear hS
         have hS := hS2
         clear hS2
         clear hb
         refine hK1.out _ _ (fun _ => hS) ?_
         clear hK1 K1
         try simp only [Act.put, sA, sB, sC]
         refine wpTill_z 27 ?_
         try simp only [Act.put, sA, sB, sC]
         refine wpTill_z 28 ?_
         try simp only [Act.put, sA, sB, sC]
         refine wpTill_z 29 ?_
         try simp only [Act.put, sA, sB, sC]
         refine wpTill_z 30 ?_
         try simp only [Act.put, sA, sB, sC]
         refine wpTill_oG 31 ?_
         intro K1 hK1
         go_simp
         (with_reducible refine ((FW.out _) hS).mono ?_)
         rintro e1 v1 ⟨rfl, hb⟩
         go_wp2_with fail
         have hS2 := hS.call hb
         clear hS
         have hS := hS2
         clear hS2
         clear hb
         refine hK1.out _ _ (fun _ => hS) ?_
         clear hK1 K1
         try simp only [Act.put, sA, sB, sC]
         refine wpTill_z 32 ?_
         try simp only [Act.put, sA, sB, sC]
         refine wpTill_oG 33 ?_
         intro K1 hK1
         go_simp
         refine hK1.out _ _ (fun h => by cases h) ?_
         clear hK1 K1
         try simp only [Act.put, sA, sB, sC]
         refine wpTill_past _ _ _ _ (by kernel_rfl) ?_
         refine wpAny_done (by kernel_rfl) ?_ _
         have HF := hid (HB2.out.call hS)
         clear hS
         go_wp2
         go_ret
         exact ⟨rfl, HF.out⟩
     · have e9 : (cb == 0) = false := by rw [beq_eq_false_iff_ne]; exact hbz
       obtain rfl : r = false := HRF.out (.inr hbz)
       clear HRF HQ FSM FS1 FS2 hbz
       go_upto_region 4 with fail
       obtain ⟨wv, hwv⟩ : ∃ wv, wv = w6 := ⟨_, rfl⟩
       rw [<- hwv]
       have HBV : Hid (Below w2.heap.size w2 wv) := hid (by rw [hwv]; exact HB6.out)
       clear hwv
       as_aux_lemma =>
         refine wp_region_till 33 (fun W => Below w2.heap.size w2 W) (by kernel_rfl) ?_
         have hS : Below w2.heap.size w2 wv.drew := HBV.out.drew
         refine wpTill_l 0 (.tmp 2) w.heap.size 0 c1 H8c1.out HRc1.out ?_
         try simp only [Act.put, sA, sB, sC]
         refine wpTill_l 1 (.tmp 3) (w.heap.size + 1) 0 c2 H8c2.out HRc2.out ?_
         try simp only [Act.put, sA, sB, sC]
         refine wpTill_z 3 ?_
         try simp only [Act.put, sA, sB, sC]
         refine wpTill_oG 2 ?_
         intro K1 hK1
         go_simp
         (with_reducible refine ((FE12.out _) hS).mono ?_)
         rintro e1 v1 ⟨rfl, hb⟩
         go_wp2_with fail
         have hS2 := hS.call hb
         clear hS
         have hS := hS2
         clear hS2
         clear hb
         refine hK1.out _ _ (fun _ => hS) ?_
         clear hK1 K1
         try simp only [Act.put, sA, sB, sC]
         refine wpTill_z 4 ?_
         try simp only [Act.put, sA, sB, sC]
         refine wpTill_t 5 (v := ?_) ?_ ?_
         rotate_left
         · refine Or.inr ⟨by rfl, ?_⟩; with_reducible rfl
         try simp only [Act.put, sA, sB, sC]
         refine wpTill_t 7 (v := ?_) ?_ ?_
         rotate_left
         · refine Or.inr ⟨by rfl, ?_⟩; with_reducible rfl
         try simp only [Act.put, sA, sB, sC]
         refine wpTill_t 6 (v := ?_) ?_ ?_
         rotate_left
         · refine Or.inr ⟨by rfl, ?_⟩; with_reducible rfl
         try simp only [Act.put, sA, sB, sC]
         refine wpTill_t 8 (v := ?_) ?_ ?_
         rotate_left
         · refine Or.inr ⟨by rfl, ?_⟩; with_reducible rfl
         try simp only [Act.put, sA, sB, sC]
         refine wpTill_t 9 (v := ?_) ?_ ?_
         rotate_left
         · refine Or.inr ⟨by rfl, ?_⟩; with_reducible rfl
         try simp only [Act.put, sA, sB, sC]
         refine wpTill_z 10 ?_
         try simp only [Act.put, sA, sB, sC]
         refine wpTill_z 11 ?_
         try simp only [Act.put, sA, sB, sC]
         refine wpTill_z 12 ?_
         try simp only [Act.put, sA, sB, sC]
         refine wpTill_l 13 (.tmp 3) (w.heap.size + 1) 0 c2 H8c2.out HRc2.out ?_
         try simp only [Act.put, sA, sB, sC]
         refine wpTill_l 14 (.tmp 2) w.heap.size 0 c1 H8c1.out HRc1.out ?_
         try simp only [Act.put, sA, sB, sC]
         refine wpTill_l 16 (.tmp 2) w.heap.size 0 c1 H8c1.out HRc1.out ?_
         try simp only [Act.put, sA, sB, sC]
         refine wpTill_l 17 (.tmp 3) (w.heap.size + 1) 0 c2 H8c2.out HRc2.out ?_
         try simp only [Act.put, sA, sB, sC]
         refine wpTill_oG 15 ?_
         intro K1 hK1
         go_simp
         (with_reducible refine ((FE21.out _) hS).mono ?_)
         rintro e1 v1 ⟨rfl, hb⟩
         go_wp2_with fail
         have hS2 := hS.call hb
         clear hS
         have hS := hS2
         clear hS2
         clear hb
         refine hK1.out _ _ (fun _ => hS) ?_
         clear hK1 K1
         try simp only [Act.put, sA, sB, sC]
         refine wpTill_oG 18 ?_
         intro K1 hK1
         go_simp
         (with_reducible refine ((FE12.out _) hS).mono ?_)
         rintro e1 v1 ⟨rfl, hb⟩
         go_wp2_with fail
         have hS2 := hS.call hb
         clear hS
         have hS := hS2
         clear hS2
         clear hb
         refine hK1.out _ _ (fun _ => hS) ?_
         clear hK1 K1
         try simp only [Act.put, sA, sB, sC]
         refine wpTill_z 19 ?_
         try simp only [Act.put, sA, sB, sC]
         refine wpTill_z 20 ?_
         try simp only [Act.put, sA, sB, sC]
         refine wpTill_z 21 ?_
         try simp only [Act.put, sA, sB, sC]
         refine wpTill_l 22 (.tmp 2) w.heap.size 0 c1 H8c1.out HRc1.out ?_
         try simp only [Act.put, sA, sB, sC]
         refine wpTill_l 23 (.tmp 2) w.heap.size 0 c1 H8c1.out HRc1.out ?_
         try simp only [Act.put, sA, sB, sC]
         refine wpTill_l 25 (.tmp 2) w.heap.size 0 c1 H8c1.out HRc1.out ?_
         try simp only [Act.put, sA, sB, sC]
         refine wpTill_oG 24 ?_
         intro K1 hK1
         go_simp
         (with_reducible refine ((FE11.out _) hS).mono ?_)
         rintro e1 v1 ⟨rfl, hb⟩
         go_wp2_with fail
         have hS2 := hS.call hb
         clear hS
         have hS := hS2
         clear hS2
         clear hb
         refine hK1.out _ _ (fun _ => hS) ?_
         clear hK1 K1
         try simp only [Act.put, sA, sB, sC]
         refine wpTill_oG 26 ?_
         intro K1 hK1
         go_simp
         (with_reducible refine ((FCA.out _) hS).mono ?_)
         rintro e1 v1 ⟨rfl, hb⟩
         go_wp2_with fail
         have hS2 := hS.call hb
         clear hS
         have hS := hS2
         clear hS2
         clear hb
         refine hK1.out _ _ (fun _ => hS) ?_
         clear hK1 K1
         try simp only [Act.put, sA, sB, sC]
         refine wpTill_z 27 ?_
         try simp only [Act.put, sA, sB, sC]
         refine wpTill_z 28 ?_
         try simp only [Act.put, sA, sB, sC]
         refine wpTill_z 29 ?_
         try simp only [Act.put, sA, sB, sC]
         refine wpTill_z 30 ?_
         try simp only [Act.put, sA, sB, sC]
         refine wpTill_oG 31 ?_
         intro K1 hK1
         go_simp
         (with_reducible refine ((FW.out _) hS).mono ?_)
         rintro e1 v1 ⟨rfl, hb⟩
         go_wp2_with fail
         have hS2 := hS.call hb
         clear hS
         have hS := hS2
         clear hS2
         clear hb
         refine hK1.out _ _ (fun _ => hS) ?_
         clear hK1 K1
         try simp only [Act.put, sA, sB, sC]
         refine wpTill_z 32 ?_
         try simp only [Act.put, sA, sB, sC]
         refine wpTill_oG 33 ?_
         intro K1 hK1
         go_simp
         refine hK1.out _ _ (fun h => by cases h) ?_
         clear hK1 K1
         try simp only [Act.put, sA, sB, sC]
         refine wpTill_past _ _ _ _ (by kernel_rfl) ?_
         refine wpAny_done (by kernel_rfl) ?_ _
         have HF := hid (HB2.out.call hS)
         clear hS
         go_wp2
         go_ret
         exact ⟨rfl, HF.out⟩
   · have e9 : (ca == 0) = false := by rw [beq_eq_false_iff_ne]; exact ha
     have hq : q = false := by rw [HQ.out]; exact e9
     obtain rfl : r = false := HRF.out (.inl ha)
     subst hq
     clear HRF HQ FSM FS1 FS2 ha
     go_upto_region 4 with fail
     obtain ⟨wv, hwv⟩ : ∃ wv, wv = w5 := ⟨_, rfl⟩
     rw [<- hwv]
     have HBV : Hid (Below w2.heap.size w2 wv) := hid (by rw [hwv]; exact HB5.out)
     clear hwv
     as_aux_lemma =>
       refine wp_region_till 33 (fun W => Below w2.heap.size w2 W) (by kernel_rfl) ?_
       have hS : Below w2.heap.size w2 wv.drew := HBV.out.drew
       refine wpTill_l 0 (.tmp 2) w.heap.size 0 c1 H8c1.out HRc1.out ?_
       try simp only [Act.put, sA, sB, sC]
       refine wpTill_l 1 (.tmp 3) (w.heap.size + 1) 0 c2 H8c2.out HRc2.out ?_
       try simp only [Act.put, sA, sB, sC]
       refine wpTill_z 3 ?_
       try simp only [Act.put, sA, sB, sC]
       refine wpTill_oG 2 ?_
       intro K1 hK1
       go_simp
       (with_reducible refine ((FE12.out _) hS).mono ?_)
       rintro e1 v1 ⟨rfl, hb⟩
       go_wp2_with fail
       have hS2 := hS.call hb
       clear hS
       have hS := hS2
       clear hS2
       clear hb
       refine hK1.out _ _ (fun _ => hS) ?_
       clear hK1 K1
       try simp only [Act.put, sA, sB, sC]
       refine wpTill_z 4 ?_
       try simp only [Act.put, sA, sB, sC]
       refine wpTill_t 5 (v := ?_) ?_ ?_
       rotate_left
       · refine Or.inr ⟨by rfl, ?_⟩; with_reducible rfl
       try simp only [Act.put, sA, sB, sC]
       refine wpTill_t 7 (v := ?_) ?_ ?_
       rotate_left
       · refine Or.inr ⟨by rfl, ?_⟩; with_reducible rfl
       try simp only [Act.put, sA, sB, sC]
       refine wpTill_t 6 (v := ?_) ?_ ?_
       rotate_left
       · refine Or.inr ⟨by rfl, ?_⟩; with_reducible rfl
       try simp only [Act.put, sA, sB, sC]
       refine wpTill_t 8 (v := ?_) ?_ ?_
       rotate_left
       · refine Or.inr ⟨by rfl, ?_⟩; with_reducible rfl
       try simp only [Act.put, sA, sB, sC]
       refine wpTill_t 9 (v := ?_) ?_ ?_
       rotate_left
       · refine Or.inr ⟨by rfl, ?_⟩; with_reducible rfl
       try simp only [Act.put, sA, sB, sC]
       refine wpTill_z 10 ?_
       try simp only [Act.put, sA, sB, sC]
       refine wpTill_z 11 ?_
       try simp only [Act.put, sA, sB, sC]
       refine wpTill_z 12 ?_
       try simp only [Act.put, sA, sB, sC]
       refine wpTill_l 13 (.tmp 3) (w.heap.size + 1) 0 c2 H8c2.out HRc2.out ?_
       try simp only [Act.put, sA, sB, sC]
       refine wpTill_l 14 (.tmp 2) w.heap.size 0 c1 H8c1.out HRc1.out ?_
       try simp only [Act.put, sA, sB, sC]
       refine wpTill_l 16 (.tmp 2) w.heap.size 0 c1 H8c1.out HRc1.out ?_
       try simp only [Act.put, sA, sB, sC]
       refine wpTill_l 17 (.tmp 3) (w.heap.size + 1) 0 c2 H8c2.out HRc2.out ?_
       try simp only [Act.put, sA, sB, sC]
       refine wpTill_oG 15 ?_
       intro K1 hK1
       go_simp
       (with_reducible refine ((FE21.out _) hS).mono ?_)
       rintro e1 v1 ⟨rfl, hb⟩
       go_wp2_with fail
       have hS2 := hS.call hb
       clear hS
       have hS := hS2
       clear hS2
       clear hb
       refine hK1.out _ _ (fun _ => hS) ?_
       clear hK1 K1
       try simp only [Act.put, sA, sB, sC]
       refine wpTill_oG 18 ?_
       intro K1 hK1
       go_simp
       (with_reducible refine ((FE12.out _) hS).mono ?_)
       rintro e1 v1 ⟨rfl, hb⟩
       go_wp2_with fail
       have hS2 := hS.call hb
       clear hS
       have hS := hS2
       clear hS2
       clear hb
       refine hK1.out _ _ (fun _ => hS) ?_
       clear hK1 K1
       try simp only [Act.put, sA, sB, sC]
       refine wpTill_z 19 ?_
       try simp only [Act.put, sA, sB, sC]
       refine wpTill_z 20 ?_
       try simp only [Act.put, sA, sB, sC]
       refine wpTill_z 21 ?_
       try simp only [Act.put, sA, sB, sC]
       refine wpTill_l 22 (.tmp 2) w.heap.size 0 c1 H8c1.out HRc1.out ?_
       try simp only [Act.put, sA, sB, sC]
       refine wpTill_l 23 (.tmp 2) w.heap.size 0 c1 H8c1.out HRc1.out ?_
       try simp only [Act.put, sA, sB, sC]
       refine wpTill_l 25 (.tmp 2) w.heap.size 0 c1 H8c1.out HRc1.out ?_
       try simp only [Act.put, sA, sB, sC]
       refine wpTill_oG 24 ?_
       intro K1 hK1
       go_simp
       (with_reducible refine ((FE11.out _) hS).mono ?_)
       rintro e1 v1 ⟨rfl, hb⟩
       go_wp2_with fail
       have hS2 := hS.call hb
       clear hS
       have hS := hS2
       clear hS2
       clear hb
       refine hK1.out _ _ (fun _ => hS) ?_
       clear hK1 K1
       try simp only [Act.put, sA, sB, sC]
       refine wpTill_oG 26 ?_
       intro K1 hK1
       go_simp
       (with_reducible refine ((FCA.out _) hS).mono ?_)
       rintro e1 v1 ⟨rfl, hb⟩
       go_wp2_with fail
       have hS2 := hS.call hb
       clear hS
       have hS := hS2
       clear hS2
       clear hb
       refine hK1.out _ _ (fun _ => hS) ?_
       clear hK1 K1
       try simp only [Act.put, sA, sB, sC]
       refine wpTill_z 27 ?_
       try simp only [Act.put, sA, sB, sC]
       refine wpTill_z 28 ?_
       try simp only [Act.put, sA, sB, sC]
       refine wpTill_z 29 ?_
       try simp only [Act.put, sA, sB, sC]
       refine wpTill_z 30 ?_
       try simp only [Act.put, sA, sB, sC]
       refine wpTill_oG 31 ?_
       intro K1 hK1
       go_simp
       (with_reducible refine ((FW.out _) hS).mono ?_)
       rintro e1 v1 ⟨rfl, hb⟩
       go_wp2_with fail
       have hS2 := hS.call hb
       clear hS
       have hS := hS2
       clear hS2
       clear hb
       refine hK1.out _ _ (fun _ => hS) ?_
       clear hK1 K1
       try simp only [Act.put, sA, sB, sC]
       refine wpTill_z 32 ?_
       try simp only [Act.put, sA, sB, sC]
       refine wpTill_oG 33 ?_
       intro K1 hK1
       go_simp
       refine hK1.out _ _ (fun h => by cases h) ?_
       clear hK1 K1
       try simp only [Act.put, sA, sB, sC]
       refine wpTill_past _ _ _ _ (by kernel_rfl) ?_
       refine wpAny_done (by kernel_rfl) ?_ _
       have HF := hid (HB2.out.call hS)
       clear hS
       go_wp2
       go_ret
       exact ⟨rfl, HF.out⟩
end Go.Proofs.YtmhbkjjkalnggaaGreatDoor
