/- Layer 8: the law of bounds. (Written by wip/genjsbnd.py.) -/
import Derived.Test.YtjckojedafajeaaGreatDoorPt61
import Derived.Test.YtjckojedafajeaaGreatDoorPt46
import Derived.Test.YtjckojedafajeaaGreatDoorPt51
namespace Go.Proofs.YtjckojedafajeaaGreatDoor
open Go.RowKit
set_option maxRecDepth 1000000
theorem bd_deep {W : World} {G : Nat} (h : Row W G 5 (u8s deep65).toArray) (hT : PowTab W) (hU : Lib.Utf8Tabs 0 1 W) : Calls Tryz.prog 8 #[.slice (some ⟨G, 1, none⟩) 128 129] W (ParPost W (nestJ 63) 0) := by
  have h9 := jparse_v (some ⟨G, 1, none⟩) 128 129 deep64 W (holds_mid h 1 128 deep64 (by kernel_rfl) (by kernel_rfl)) (by kernel_rfl) (by decide) (by decide) hT hU
  rw [deep64_valid, deep64_parse] at h9
  exact h9
theorem bd_over {W : World} {G : Nat} (h : Row W G 5 (u8s deep65).toArray) (hT : PowTab W) (hU : Lib.Utf8Tabs 0 1 W) : Calls Tryz.prog 8 #[.slice (some ⟨G, 0, none⟩) 130 130] W (ParPost W JV.null 182) := by
  have h9 := jparse_v (some ⟨G, 0, none⟩) 130 130 deep65 W (holds_row h) (by kernel_rfl) (by decide) (by decide) hT hU
  rw [deep65_valid, deep65_parse] at h9
  exact h9
theorem bd_long {W : World} {L N : Nat} {l T : List UInt8} (hN : N = 1048577) (hl : l = ((List.replicate (1048574 + 3) 97).set 0 34).set (1048574 + 1) 34) (hT1 : T = List.replicate 1048574 97) (h : Row W L 5 (u8s l).toArray) (hT : PowTab W) (hU : Lib.Utf8Tabs 0 1 W) : Calls Tryz.prog 8 #[.slice (some ⟨L, 0, none⟩) 1048576 N] W (ParPost W (.mk 3 false Dec.zero T [] []) 0) := by
  subst hN
  obtain ⟨Q, hQ⟩ : ∃ Q, Q = quoteL (List.replicate 1048574 97) := ⟨_, rfl⟩
  have hq : Q.length = 1048576 := by rw [hQ, quote_97_len]
  have h9 := jparse_v (some ⟨L, 0, none⟩) 1048576 1048577 Q W (holds_mid h 0 1048576 Q (by rw [hQ, hl]; exact (long_cut 1048574).symm) hq) hq (by decide) (by decide) hT hU
  rw [hQ, long_valid, long_parse, txtJ, ← hT1] at h9
  exact h9
theorem bd_far {W : World} {L N : Nat} {l : List UInt8} (hN : N = 1048577) (hl : l.length = N) (h : Row W L 5 (u8s l).toArray) (hT : PowTab W) (hU : Lib.Utf8Tabs 0 1 W) : Calls Tryz.prog 8 #[.slice (some ⟨L, 0, none⟩) N N] W (ParPost W JV.null 3) := by
  subst hN
  have hh := holds_row h
  rw [hl] at hh
  have h9 := jparse_v (some ⟨L, 0, none⟩) 1048577 1048577 l W hh hl (by decide) (by decide) hT hU
  rw [over_parse _ l hl] at h9
  exact h9
theorem bd_quote {W : World} {T : List UInt8} (hT : T = List.replicate 1048575 97) (hU : Lib.Utf8Tabs 0 1 W) : ∃ Q : List UInt8, Q.length = 1048577 ∧ Calls Tryz.prog 12 #[.string (bs T)] W fun e w' => e = .returned (.tuple #[.string (bs Q), .int .i64 0]) ∧ Below W.heap.size W w' := by
  refine ⟨quoteL T, by rw [hT, quote_97_len], ?_⟩
  have h9 := jQuote_ok T W (by rw [hT, List.length_replicate]; omega) hU
  have e : quoteR T = (quoteL T, 0) := by rw [hT]; exact quoteR_fit
  rw [e] at h9
  exact h9
theorem bd_quote2 {W : World} {T : List UInt8} (hT : T = List.replicate 1048577 97) (hU : Lib.Utf8Tabs 0 1 W) : Calls Tryz.prog 12 #[.string (bs T)] W fun e w' => e = .returned (.tuple #[.string (bs []), .int .i64 3]) ∧ Below W.heap.size W w' := by
  have h9 := jQuote_ok T W (by rw [hT, List.length_replicate]; omega) hU
  have e : quoteR T = ([], 3) := by rw [hT]; exact quoteR_over
  rw [e] at h9
  exact h9
theorem bd_one (T : List UInt8) (hT : T = List.replicate 1048575 97) : checkJ (.mk 3 false Dec.zero T [] []) = 3 := by
  subst hT
  have h9 := txt_check 1048575
  rw [if_pos (by omega)] at h9
  exact h9
theorem bd_t (T : List UInt8) (hT : T = List.replicate 1048574 97) : checkJ (.mk 3 false Dec.zero T [] []) = 0 := by
  subst hT
  have h9 := txt_check 1048574
  rw [if_neg (by omega)] at h9
  exact h9
set_option maxRecDepth 1000000 in
set_option maxHeartbeats 8000000 in
theorem bounds_law (w : World) (hT : PowTab w) (hU : Lib.Utf8Tabs 0 1 w) :
    Calls Tryz.prog 5 #[] w fun e w' => e = .returned (.bool true) ∧ Below w.heap.size w w' := by
  have HT := Lib.hid (fun V (hb : Below w.heap.size w V) => hT.below hb)
  have HU := Lib.hid (fun V (hb : Below w.heap.size w V) => Utf8Tabs_below hU hb)
  clear hT hU
  obtain ⟨G, hG⟩ : ∃ G, G = w.heap.size := ⟨_, rfl⟩
  obtain ⟨wa, hwa⟩ : ∃ wa, wa = w.alloc (.cells (u8s (zeroB 130)).toArray 5) := ⟨_, rfl⟩
  have HA : Hid (Row wa G 5 (u8s (zeroB 130)).toArray ∧ Below w.heap.size w wa) := Lib.hid (by subst hwa; subst hG; exact ⟨Row.new _ _ _, (Below.refl _ _).alloc (Nat.le_refl _) _⟩)
  go_enter Tryz.func5, Tryz.ntmps5
  go_upto_region 2 with (
    skip
    refine wpList_make_u8j ?_ 22 5 (.const (.int .i64 130)) ?_ 130 ?_ Tryz.underlying22 infoU8j (by decide) ?_
    · with_reducible rfl
    · with_reducible rfl
    · rfl)
  rw [← hwa]
  clear hwa
  have HGE : Hid (G = w.heap.size) := Lib.hid hG
  rw [← hG]
  clear hG
  go_wp2_with fail
  go_loopw [2] (fun v2 wr => ∃ (i : Nat) (l : List UInt8), i ≤ 65 ∧ v2 = .int .i64 (i : Int) ∧ Hid (Row wr G 5 (u8s l).toArray ∧ DeepL i l ∧ Below w.heap.size w wr)) (fun v2 _ => 65 - (intOf v2).toNat)
  case atStart => exact ⟨0, _, by omega, rfl, Lib.hid ⟨HA.out.1, deep_zero, HA.out.2⟩⟩
  case round =>
    obtain ⟨i, l, hi, rfl, HI⟩ := hrel
    by_cases hlt : i < 65
    · have hm : (129 : Int) - (i : Int) = ((129 - i : Nat) : Int) := by omega
      have HS := Lib.hid (deep_step HI.out.2.1 hlt)
      have hl := HI.out.2.1.1
      have k1 := HI.out.1.cell (i := i) (u8s_getj l (by omega))
      have f1 := HI.out.1.free i
      have r1 := HI.out.1.set_ i (.int .u8 ((91 : UInt8).toNat : Int))
      rw [u8s_setj] at r1
      have hm2 : 129 - i < 130 := by omega
      generalize 129 - i = m at *
      obtain ⟨w2, hw2⟩ : ∃ w2, w2 = wr.setCell ⟨G, i, none⟩ (.int .u8 ((91 : UInt8).toNat : Int)) := ⟨_, rfl⟩
      rw [← hw2] at r1
      have k2 := r1.cell (i := m) (u8s_getj (l.set i 91) (by rw [List.length_set]; omega))
      have f2 := r1.free m
      have r2 := r1.set_ m (.int .u8 ((93 : UInt8).toNat : Int))
      rw [u8s_setj] at r2
      have hbw : Below w.heap.size w ((w2).setCell ⟨G, m, none⟩ (.int .u8 ((93 : UInt8).toNat : Int))) := by
        have hg : w.heap.size ≤ G := Nat.le_of_eq HGE.out.symm
        rw [hw2]
        exact (HI.out.2.2.setCell hg _).setCell hg _
      have HR2 := Lib.hid (And.intro r2 (And.intro HS.out hbw))
      clear r1 r2 hbw HS hl
      generalize (l.getD i 0).toNat = z1 at *
      generalize ((l.set i 91).getD m 0).toNat = z2 at *
      go_upto_region 6 with fail
      rw [show ((91 : UInt8).toNat : Int) = 91 by rfl] at hw2
      rw [← hw2]
      clear hw2 k1 f1
      go_wp2
      go_round
      case rel => exact ⟨i + 1, _, by omega, rfl, Lib.hid HR2.out⟩
      case measure => simp [intOf]; omega
    · obtain rfl : i = 65 := by omega
      have hl := deep_end HI.out.2.1
      subst hl
      have HD := Lib.hid HI.out.1
      have HB := Lib.hid HI.out.2.2
      clear HI HA hlt hi
      go_upto_region 7 with fail
      have hsl : ∀ V : World, (Instr.sliceAt 22 (.slice (some ⟨G, 0, none⟩) 130 130) (some (.int .i64 1)) (some (.int .i64 129)) none).run Tryz.prog V = .ok (.slice (some ⟨G, 1, none⟩) 128 129) V := fun V => run_slice2 V 22 5 Tryz.underlying22 (by kernel_rfl) G 0 130 130 1 129 .i64 .i64 (by decide) (by decide) (by decide)
      go_wp2_with fail
      refine (bd_deep HD.out (HT.out _ HB.out) (HU.out _ HB.out)).mono ?_
      rintro e w1 ⟨cs1, rfl, hj, hb⟩
      have HIN1 := Lib.hid (info_of_size (size_of_jis hj))
      have HON1 := Lib.hid (one_of_jis hj)
      have HTV1 := Lib.hid (varW_ok w1 cs1 (size_of_jis hj)).2.2
      obtain ⟨w2, hw9⟩ : ∃ V9, V9 = varW w1 cs1 := ⟨_, rfl⟩
      have HW1 := Lib.hid hw9
      have HST1 : Hid (Below wr.heap.size wr w2) := Lib.hid (by rw [hw9]; exact hb.call (varW_ok w1 cs1 (size_of_jis hj)).1)
      have HV1 : Hid (VarAt w2 w1.heap.size (nestJ 63) cs1) := Lib.hid (by rw [hw9]; exact VarAt.laid hj)
      have HB1 := Lib.hid (HB.out.call HST1.out)
      clear hj hb hw9
      have HD2 := Lib.hid (HD.out.call HST1.out)
      go_upto_region 8 with (
           skip
           refine wpList_store_mid ?_ 30 (.tmp 3) (.tmp 35) ?_ w1.heap.size 0 cs1 ?_ ?_ ?_ HIN1.out HON1.out ?_
           · with_reducible rfl
           · with_reducible rfl
           · rfl
           · rfl
           · exact HTV1.out
           show wpList _ _ _ _ _ (varW w1 cs1)
           rw [← HW1.out])
      go_wp2_with fail
      refine (bd_over HD2.out (HT.out _ HB1.out) (HU.out _ HB1.out)).mono ?_
      rintro e w3 ⟨cs2, rfl, hj, hb⟩
      have HIN2 := Lib.hid (info_of_size (size_of_jis hj))
      have HON2 := Lib.hid (one_of_jis hj)
      have HTV2 := Lib.hid (varW_ok w3 cs2 (size_of_jis hj)).2.2
      obtain ⟨w4, hw9⟩ : ∃ V9, V9 = varW w3 cs2 := ⟨_, rfl⟩
      have HW2 := Lib.hid hw9
      have HST2 : Hid (Below w2.heap.size w2 w4) := Lib.hid (by rw [hw9]; exact hb.call (varW_ok w3 cs2 (size_of_jis hj)).1)
      have HV2 : Hid (VarAt w4 w3.heap.size JV.null cs2) := Lib.hid (by rw [hw9]; exact VarAt.laid hj)
      have HB2 := Lib.hid (HB1.out.call HST2.out)
      clear hj hb hw9
      have HD4 := Lib.hid (HD2.out.call HST2.out)
      have HV14 := Lib.hid (HV1.out.call HST2.out)
      go_upto_region 9 with (
           skip
           refine wpList_store_mid ?_ 30 (.tmp 5) (.tmp 40) ?_ w3.heap.size 0 cs2 ?_ ?_ ?_ HIN2.out HON2.out ?_
           · with_reducible rfl
           · with_reducible rfl
           · rfl
           · rfl
           · exact HTV2.out
           show wpList _ _ _ _ _ (varW w3 cs2)
           rw [← HW2.out])
      obtain ⟨A1, c1, A1', c1', E1⟩ := form_list HV14.out.is
      have HE1 := Lib.hid E1
      obtain ⟨w5, hw5⟩ : ∃ w5, w5 = w4.alloc (.cells cs1 30) := ⟨_, rfl⟩
      have hb5 : Below w4.heap.size w4 w5 := by rw [hw5]; exact (Below.refl _ _).alloc (Nat.le_refl _) _
      have HE5 : Hid (VarAt w5 w4.heap.size (nestJ 63) cs1) := Lib.hid ⟨by rw [hw5]; exact Row.new _ _ _, HV14.out.is.below hb5, HV14.out.size⟩
      have HB5 := Lib.hid hb5
      clear hb5
      obtain ⟨cs7, hc7⟩ : ∃ cs7, cs7 = jvC 4 false Dec.zero [] (.slice (some ⟨w4.heap.size, 0, none⟩) 1 1) (.slice none 0 0) := ⟨_, rfl⟩
      have hbl : ∀ V : World, (Instr.build 30 #[(0, .int .i64 4), (4, .slice (some ⟨w4.heap.size, 0, none⟩) 1 1)]).run Tryz.prog V = .ok (.agg cs7) V := fun V => by rw [hc7]; exact run_buildL _ _ _ V
      have hj7 : JIs w5 (fun _ => True) (nestJ 64) cs7.toList := by rw [hc7]; exact over_is HE5.out
      have HIN7 := Lib.hid (info_of_size (size_of_jis hj7))
      have HON7 := Lib.hid (one_of_jis hj7)
      have HTV7 := Lib.hid (varW_ok w5 cs7 (size_of_jis hj7)).2.2
      obtain ⟨w6, hw6⟩ : ∃ V9, V9 = varW w5 cs7 := ⟨_, rfl⟩
      have HW7 := Lib.hid hw6
      have HST7 : Hid (Below w4.heap.size w4 w6) := Lib.hid (by rw [hw6]; exact HB5.out.call (varW_ok w5 cs7 (size_of_jis hj7)).1)
      have HV7 : Hid (VarAt w6 w5.heap.size (nestJ 64) cs7) := Lib.hid (by rw [hw6]; exact VarAt.laid hj7)
      have HB7 := Lib.hid (HB2.out.call HST7.out)
      have HD6 := Lib.hid (HD4.out.call HST7.out)
      have HV16 := Lib.hid (HV14.out.call HST7.out)
      have HWE := Lib.hid hw5
      have HC7 := Lib.hid hc7
      clear hj7 hw6 hc7 E1 hw5 hbl
      have HR14 := Lib.hid HV14.out.range
      go_upto_region 10 with (first
        | (
             skip
             refine wpList_load_mid ?_ 30 (.tmp 3) ?_ w1.heap.size 0 ?_ cs1.toList _ HR14.out Tryz.underlying30 rfl (by rw [Array.length_toList]; exact HIN1.out) ?_
             · with_reducible rfl
             · with_reducible rfl
             · rfl)
        | (
           skip
           refine wpList_plain ?_ fun K hK => wp_build1 (.tmp 42) ?_ 4 false Dec.zero [] (.slice A1 1 c1) (.slice A1' 0 c1') ?_ (hK _ _ ?_)
           · with_reducible rfl
           · with_reducible rfl
           · exact congrArg Value.agg HE1.out
           rw [← HE1.out, ← HWE.out])
        | (
             skip
             refine wpList_store_mid ?_ 30 (.tmp 7) (.tmp 44) ?_ w5.heap.size 0 cs7 ?_ ?_ ?_ HIN7.out HON7.out ?_
             · with_reducible rfl
             · with_reducible rfl
             · rfl
             · rw [HC7.out]; rfl
             · exact HTV7.out
             show wpList _ _ _ _ _ (varW w5 cs7)
             rw [← HW7.out]))

      as_aux_lemma =>
        obtain ⟨N, hN⟩ : ∃ N : Nat, N = 1048577 := ⟨_, rfl⟩
        have HNN := Lib.hid hN
        clear hN
        obtain ⟨L, hL⟩ : ∃ L, L = w6.heap.size := ⟨_, rfl⟩
        obtain ⟨w7, hw7⟩ : ∃ w7, w7 = w6.alloc (.cells (u8s (zeroB N)).toArray 5) := ⟨_, rfl⟩
        have HR7 : Hid (Row w7 L 5 (u8s (zeroB N)).toArray ∧ Below w6.heap.size w6 w7) := Lib.hid (by rw [hw7, hL]; exact ⟨Row.new _ _ _, (Below.refl _ _).alloc (Nat.le_refl _) _⟩)
        go_upto_region 11 with (
          skip
          refine wpList_make_u8j ?_ 22 5 (.const (.int .i64 1048577)) ?_ N ?_ Tryz.underlying22 infoU8j (by rw [HNN.out]; decide) ?_
          · with_reducible rfl
          · with_reducible rfl
          · exact congrArg (Value.int .i64) (by rw [HNN.out]; rfl))
        rw [← hw7]
        clear hw7
        have HLE : Hid (L = w6.heap.size) := Lib.hid hL
        rw [← hL]
        clear hL
        go_wp2_with fail
        go_loopw [9] (fun v9 wq => ∃ (i : Nat) (l : List UInt8), i ≤ N ∧ v9 = .int .i64 (i : Int) ∧ Hid (Row wq L 5 (u8s l).toArray ∧ LongL N i l ∧ Below w6.heap.size w6 wq)) (fun v9 _ => N - (intOf v9).toNat)
        case atStart => exact ⟨0, _, by omega, rfl, Lib.hid ⟨HR7.out.1, ⟨by unfold zeroB; rw [List.length_replicate], fun j hj => by omega⟩, HR7.out.2⟩⟩
        case round =>
          obtain ⟨i, l, hi, rfl, HI⟩ := hrel
          by_cases hlt : i < N
          · have hib : i ≤ 2000000 := by have := HNN.out; omega
            have HS := Lib.hid (long_step HI.out.2.1 hlt)
            have hl := HI.out.2.1.1
            have k1 := HI.out.1.cell (i := i) (u8s_getj l (by omega))
            have f1 := HI.out.1.free i
            have r1 := HI.out.1.set_ i (.int .u8 ((97 : UInt8).toNat : Int))
            rw [u8s_setj] at r1
            have hbw : Below w6.heap.size w6 (wr.setCell ⟨L, i, none⟩ (.int .u8 ((97 : UInt8).toNat : Int))) := HI.out.2.2.setCell (Nat.le_of_eq HLE.out.symm) _
            have HR2 := Lib.hid (And.intro r1 (And.intro HS.out hbw))
            clear r1 hbw HS hl
            generalize (l.getD i 0).toNat = z1 at *
            go_wp2
            go_round
            case rel => exact ⟨i + 1, _, by omega, rfl, Lib.hid HR2.out⟩
            case measure => simp [intOf]; omega
          · obtain rfl : i = N := by omega
            have HLL := Lib.hid (long_end HI.out.2.1)
            have HRL := Lib.hid HI.out.1
            have HBL := Lib.hid HI.out.2.2
            have HLN : Hid (l.length = i) := Lib.hid HI.out.2.1.1
            have hN0 : 0 < i := by rw [HNN.out]; omega
            have hN5 : 1048575 < i := by rw [HNN.out]; omega
            clear HI HR7 hlt hi
            have k0 := HRL.out.cell (i := 0) (u8s_getj l (by rw [HLN.out, HNN.out]; omega))
            have f0 := HRL.out.free 0
            have r1 := HRL.out.set_ 0 (.int .u8 ((34 : UInt8).toNat : Int))
            rw [u8s_setj] at r1
            have k2 := r1.cell (i := 1048575) (u8s_getj (l.set 0 34) (by rw [List.length_set, HLN.out, HNN.out]; omega))
            have f2 := r1.free 1048575
            have r2 := r1.set_ 1048575 (.int .u8 ((34 : UInt8).toNat : Int))
            rw [u8s_setj] at r2
            obtain ⟨w8, hw8⟩ : ∃ w8, w8 = (wr.setCell ⟨L, 0, none⟩ (.int .u8 ((34 : UInt8).toNat : Int))).setCell ⟨L, 1048575, none⟩ (.int .u8 ((34 : UInt8).toNat : Int)) := ⟨_, rfl⟩
            have HR8 : Hid (Row w8 L 5 (u8s ((l.set 0 34).set 1048575 34)).toArray) := Lib.hid (by rw [hw8]; exact r2)
            have HST8 : Hid (Below w6.heap.size w6 w8) := Lib.hid (by rw [hw8]; exact (HBL.out.setCell (Nat.le_of_eq HLE.out.symm) _).setCell (Nat.le_of_eq HLE.out.symm) _)
            have HL8 : Hid (((l.set 0 34).set 1048575 34) = ((List.replicate (1048574 + 3) 97).set 0 34).set (1048574 + 1) 34) := Lib.hid (by rw [HLL.out, HNN.out])
            have HN8 : Hid (((l.set 0 34).set 1048575 34).length = i) := Lib.hid (by rw [List.length_set, List.length_set, HLN.out])
            clear r1 r2
            generalize (l.set 0 34).set 1048575 34 = l2 at *
            generalize (l.getD 0 0).toNat = z0 at *
            generalize ((l.set 0 34).getD 1048575 0).toNat = z2 at *
            rw [show ((34 : UInt8).toNat : Int) = 34 by rfl] at hw8 k2 f2
            go_upto_region 16 with fail
            rw [← hw8]
            clear hw8 k0 f0 k2 f2

            as_aux_lemma =>
              obtain ⟨T1, hT1⟩ : ∃ T : List UInt8, T = List.replicate 1048574 97 := ⟨_, rfl⟩
              have HB8 := Lib.hid (HB7.out.call HST8.out)
              have HV18 := Lib.hid (HV16.out.call HST8.out)
              have HV78 := Lib.hid (HV7.out.call HST8.out)
              have HD8 := Lib.hid (HD6.out.call HST8.out)
              have HT1 := Lib.hid hT1
              have hT1n : T1.length = 1048574 := by rw [hT1, List.length_replicate]
              have hT1s : (bs T1).size = 1048574 := by rw [bs_size, hT1n]
              clear hT1
              obtain ⟨T2, hT2⟩ : ∃ T : List UInt8, T = T1 ++ [97] := ⟨_, rfl⟩
              obtain ⟨T3, hT3⟩ : ∃ T : List UInt8, T = T2 ++ [97, 97] := ⟨_, rfl⟩
              have HT2 : Hid (T2 = List.replicate 1048575 97) := Lib.hid (by rw [hT2, HT1.out, ← List.replicate_succ' (n := 1048574)])
              have HT3 : Hid (T3 = List.replicate 1048577 97) := Lib.hid (by rw [hT3, HT2.out]; exact List.replicate_append_replicate (n := 1048575) (m := 2) (a := (97 : UInt8)))
              have ha1 : ∀ V, (Op.stringOp .add (bs T1) ⟨#[97]⟩).run Tryz.prog V = .ok (.string (bs T2)) V := fun V => by rw [hT2]; exact run_add_bs (P := Tryz.prog) (W := V) T1 [97] (by rw [hT1n]; decide)
              have ha2 : ∀ V, (Op.stringOp .add (bs T2) ⟨#[97, 97]⟩).run Tryz.prog V = .ok (.string (bs T3)) V := fun V => by rw [hT3]; exact run_add_bs (P := Tryz.prog) (W := V) T2 [97, 97] (by rw [HT2.out, List.length_replicate]; decide)
              clear hT2 hT3
              have hs2 : ∀ V : World, (Instr.sliceAt 22 (.slice (some ⟨L, 0, none⟩) i i) none (some (.int .i64 1048576)) none).run Tryz.prog V = .ok (.slice (some ⟨L, 0, none⟩) 1048576 i) V := fun V => run_sliceTo V 22 5 Tryz.underlying22 (by kernel_rfl) L 0 i i 1048576 (by rw [HNN.out]; omega)
              go_wp2_with fail
              refine (bd_long HNN.out HL8.out HT1.out HR8.out (HT.out _ HB8.out) (HU.out _ HB8.out)).mono ?_
              rintro e w9 ⟨cs9, rfl, hj, hb⟩
              have HIN9 := Lib.hid (info_of_size (size_of_jis hj))
              have HON9 := Lib.hid (one_of_jis hj)
              have HTV9 := Lib.hid (varW_ok w9 cs9 (size_of_jis hj)).2.2
              obtain ⟨w10, hw9⟩ : ∃ V9, V9 = varW w9 cs9 := ⟨_, rfl⟩
              have HW9 := Lib.hid hw9
              have HST9 : Hid (Below w8.heap.size w8 w10) := Lib.hid (by rw [hw9]; exact hb.call (varW_ok w9 cs9 (size_of_jis hj)).1)
              have HV9 : Hid (VarAt w10 w9.heap.size (.mk 3 false Dec.zero T1 [] []) cs9) := Lib.hid (by rw [hw9]; exact VarAt.laid hj)
              have HB9 := Lib.hid (HB8.out.call HST9.out)
              clear hj hb hw9
              have HR10 := Lib.hid (HR8.out.call HST9.out)
              go_upto_region 17 with (
                   skip
                   refine wpList_store_mid ?_ 30 (.tmp 10) (.tmp 63) ?_ w9.heap.size 0 cs9 ?_ ?_ ?_ HIN9.out HON9.out ?_
                   · with_reducible rfl
                   · with_reducible rfl
                   · rfl
                   · rfl
                   · exact HTV9.out
                   show wpList _ _ _ _ _ (varW w9 cs9)
                   rw [← HW9.out])
              clear hs2
              go_wp2_with fail
              refine (bd_far HNN.out HN8.out HR10.out (HT.out _ HB9.out) (HU.out _ HB9.out)).mono ?_
              rintro e w11 ⟨cs11, rfl, hj, hb⟩
              have HIN11 := Lib.hid (info_of_size (size_of_jis hj))
              have HON11 := Lib.hid (one_of_jis hj)
              have HTV11 := Lib.hid (varW_ok w11 cs11 (size_of_jis hj)).2.2
              obtain ⟨w12, hw9⟩ : ∃ V9, V9 = varW w11 cs11 := ⟨_, rfl⟩
              have HW11 := Lib.hid hw9
              have HST11 : Hid (Below w10.heap.size w10 w12) := Lib.hid (by rw [hw9]; exact hb.call (varW_ok w11 cs11 (size_of_jis hj)).1)
              have HV11 : Hid (VarAt w12 w11.heap.size JV.null cs11) := Lib.hid (by rw [hw9]; exact VarAt.laid hj)
              have HB11 := Lib.hid (HB9.out.call HST11.out)
              clear hj hb hw9
              have HVT := Lib.hid (HV9.out.call HST11.out)
              go_upto_region 18 with (
                   skip
                   refine wpList_store_mid ?_ 30 (.tmp 12) (.tmp 68) ?_ w11.heap.size 0 cs11 ?_ ?_ ?_ HIN11.out HON11.out ?_
                   · with_reducible rfl
                   · with_reducible rfl
                   · rfl
                   · rfl
                   · exact HTV11.out
                   show wpList _ _ _ _ _ (varW w11 cs11)
                   rw [← HW11.out])
              obtain ⟨A9, c9, A9', c9', E9⟩ := form_text HVT.out.is
              have HE9 := Lib.hid E9
              have z9 : w12.cell? ⟨w9.heap.size, 5, none⟩ = some (.string (bs T1)) := HVT.out.row.cell (i := 5) (by rw [HE9.out]; rfl)
              clear E9
              obtain ⟨csO, hcO⟩ : ∃ cs, cs = jvC 3 false Dec.zero T2 (.slice none 0 0) (.slice none 0 0) := ⟨_, rfl⟩
              have HCO := Lib.hid hcO
              have hjO : JIs w12 (fun _ => True) (.mk 3 false Dec.zero T2 [] []) csO.toList := by rw [hcO]; exact one_is _ _
              have HINO := Lib.hid (info_of_size (size_of_jis hjO))
              have HONO := Lib.hid (one_of_jis hjO)
              have HTVO := Lib.hid (varW_ok w12 csO (size_of_jis hjO)).2.2
              obtain ⟨wz, hwz⟩ : ∃ V9, V9 = varW w12 csO := ⟨_, rfl⟩
              have HWO := Lib.hid hwz
              have HSTO : Hid (Below w12.heap.size w12 wz) := Lib.hid (by rw [hwz]; exact (varW_ok w12 csO (size_of_jis hjO)).1)
              have HVO : Hid (VarAt wz w12.heap.size (.mk 3 false Dec.zero T2 [] []) csO) := Lib.hid (by rw [hwz]; exact VarAt.laid hjO)
              have HBZ := Lib.hid (HB11.out.call HSTO.out)
              have HSTZ : Hid (Below w8.heap.size w8 wz) := Lib.hid (HST9.out.call (HST11.out.call HSTO.out))
              have HZ1 := Lib.hid (HV18.out.call HSTZ.out)
              have HZ7 := Lib.hid (HV78.out.call HSTZ.out)
              have HZT := Lib.hid (HVT.out.call HSTO.out)
              have HZD := Lib.hid (HD8.out.call HSTZ.out)
              clear hcO hjO hwz
              go_upto_region 19 with (
                   skip
                   refine wpList_store_mid ?_ 30 (.tmp 14) (.tmp 73) ?_ w12.heap.size 0 csO ?_ ?_ ?_ HINO.out HONO.out ?_
                   · with_reducible rfl
                   · with_reducible rfl
                   · rfl
                   · rw [HCO.out]; rfl
                   · exact HTVO.out
                   show wpList _ _ _ _ _ (varW w12 csO)
                   rw [← HWO.out])
              clear z9
              have zo : wz.cell? ⟨w12.heap.size, 5, none⟩ = some (.string (bs T2)) := HVO.out.row.cell (i := 5) (by rw [HCO.out]; rfl)
              obtain ⟨Q2, hQ2, q2⟩ := bd_quote HT2.out (HU.out _ HBZ.out)
              have hQ2s : (bs Q2).size = 1048577 := by rw [bs_size, hQ2]
              have HQ2 := Lib.hid q2
              clear q2 hQ2
              go_wp2_with fail
              refine HQ2.out.mono ?_
              rintro e y1 ⟨rfl, hb⟩
              have HY1 := Lib.hid hb
              clear hb HQ2
              go_upto_region 20 with fail
              clear zo
              have zo : y1.cell? ⟨w12.heap.size, 5, none⟩ = some (.string (bs T2)) := (HVO.out.call HY1.out).row.cell (i := 5) (by rw [HCO.out]; rfl)
              go_wp2_with fail
              refine (bd_quote2 HT3.out (HU.out _ (HBZ.out.call HY1.out))).mono ?_
              rintro e y2 ⟨rfl, hb⟩
              have HY2 := Lib.hid (HY1.out.call hb)
              clear hb zo
              as_aux_lemma =>
                have eT1 : (JV.mk 3 false Dec.zero T1 [] []) = txtJ 1048574 := by rw [HT1.out]; rfl
                have eT2 : (JV.mk 3 false Dec.zero T2 [] []) = txtJ 1048575 := by rw [HT2.out]; rfl
                have HK1 := Lib.hid (bd_t T1 HT1.out)
                have HK2 := Lib.hid (bd_one T2 HT2.out)
                obtain ⟨D, hD⟩ : ∃ D, D = deep64 := ⟨_, rfl⟩
                have FC1 : Hid (∀ V, Below wz.heap.size wz V → Calls Tryz.prog 15 #[.agg cs1] V (fun e w' => e = .returned (.int .i64 0) ∧ Below V.heap.size V w')) := Lib.hid fun V hb => by
                  have h9 := jcheck_ok (fun _ => True) cs1 (nestJ 63) V (HZ1.out.call hb).is (nest_small 63) (fun _ => (nest_fine 63)) (by rw [nest_depth]; decide) (HT.out _ (HBZ.out.call hb)) (HU.out _ (HBZ.out.call hb))
                  rw [nest_check] at h9
                  exact h9
                have FD1 : Hid (∀ V, Below wz.heap.size wz V → Calls Tryz.prog 16 #[.agg cs1] V (fun e w' => e = .returned (.int .i64 64) ∧ Below V.heap.size V w')) := Lib.hid fun V hb => by
                  have h9 := jDepth_ok (fun _ => True) cs1 (nestJ 63) V (HZ1.out.call hb).is (HZ1.out.call hb).size (nest_small 63) (fun _ => (nest_fine 63)) (by rw [nest_depth]; decide) (HT.out _ (HBZ.out.call hb)) (HU.out _ (HBZ.out.call hb))
                  rw [nest_check, if_pos rfl, nest_depth] at h9
                  exact h9
                have FP1 : Hid (∀ V, Below wz.heap.size wz V → Calls Tryz.prog 17 #[.agg cs1] V (PrtPost V D)) := Lib.hid fun V hb => by
                  have h9 := jprint_ok (fun _ => True) cs1 (nestJ 63) V (HZ1.out.call hb).is (HZ1.out.call hb).size (nest_small 63) (fun _ => (nest_fine 63)) (by rw [nest_depth]; decide) (HT.out _ (HBZ.out.call hb)) (HU.out _ (HBZ.out.call hb))
                  rw [printJ, if_pos nest_check, deep64_tell, ← hD] at h9
                  exact h9
                have FC7 : Hid (∀ V, Below wz.heap.size wz V → Calls Tryz.prog 15 #[.agg cs7] V (fun e w' => e = .returned (.int .i64 182) ∧ Below V.heap.size V w')) := Lib.hid fun V hb => by
                  have h9 := jcheck_ok (fun _ => True) cs7 (nestJ 64) V (HZ7.out.call hb).is (nest_small 64) (fun _ => (nest_fine 64)) (by rw [nest_depth]; decide) (HT.out _ (HBZ.out.call hb)) (HU.out _ (HBZ.out.call hb))
                  rw [nest_check2] at h9
                  exact h9
                have FD7 : Hid (∀ V, Below wz.heap.size wz V → Calls Tryz.prog 16 #[.agg cs7] V (fun e w' => e = .returned (.int .i64 0) ∧ Below V.heap.size V w')) := Lib.hid fun V hb => by
                  have h9 := jDepth_ok (fun _ => True) cs7 (nestJ 64) V (HZ7.out.call hb).is (HZ7.out.call hb).size (nest_small 64) (fun _ => (nest_fine 64)) (by rw [nest_depth]; decide) (HT.out _ (HBZ.out.call hb)) (HU.out _ (HBZ.out.call hb))
                  rw [nest_check2, if_neg (by decide)] at h9
                  exact h9
                have FCT : Hid (∀ V, Below wz.heap.size wz V → Calls Tryz.prog 15 #[.agg cs9] V (fun e w' => e = .returned (.int .i64 0) ∧ Below V.heap.size V w')) := Lib.hid fun V hb => by
                  have h9 := jcheck_ok (fun _ => True) cs9 (.mk 3 false Dec.zero T1 [] []) V (HZT.out.call hb).is (by rw [eT1]; exact txt_small _ (by unfold maxLen; omega)) (fun _ => (by rw [eT1]; exact txt_fine _ (by omega))) (by rw [eT1, txt_depth]; omega) (HT.out _ (HBZ.out.call hb)) (HU.out _ (HBZ.out.call hb))
                  rw [HK1.out] at h9
                  exact h9
                have FCO : Hid (∀ V, Below wz.heap.size wz V → Calls Tryz.prog 15 #[.agg csO] V (fun e w' => e = .returned (.int .i64 3) ∧ Below V.heap.size V w')) := Lib.hid fun V hb => by
                  have h9 := jcheck_ok (fun _ => True) csO (.mk 3 false Dec.zero T2 [] []) V (HVO.out.call hb).is (by rw [eT2]; exact txt_small _ (by unfold maxLen; omega)) (fun _ => (by rw [eT2]; exact txt_fine _ (by omega))) (by rw [eT2, txt_depth]; omega) (HT.out _ (HBZ.out.call hb)) (HU.out _ (HBZ.out.call hb))
                  rw [HK2.out] at h9
                  exact h9
                have FPO : Hid (∀ V, Below wz.heap.size wz V → Calls Tryz.prog 17 #[.agg csO] V (PrtPost V [])) := Lib.hid fun V hb => by
                  have h9 := jprint_ok (fun _ => True) csO (.mk 3 false Dec.zero T2 [] []) V (HVO.out.call hb).is (HVO.out.call hb).size (by rw [eT2]; exact txt_small _ (by unfold maxLen; omega)) (fun _ => (by rw [eT2]; exact txt_fine _ (by omega))) (by rw [eT2, txt_depth]; omega) (HT.out _ (HBZ.out.call hb)) (HU.out _ (HBZ.out.call hb))
                  rw [printJ, if_neg (by rw [HK2.out]; decide)] at h9
                  exact h9
                have FW : Hid (∀ V, Below wz.heap.size wz V → Calls Tryz.prog 7 #[] V fun e w' => e = .returned (.bool true) ∧ Below V.heap.size V w') := Lib.hid fun V hb => jworks_ok V (HT.out _ (HBZ.out.call hb)) (HU.out _ (HBZ.out.call hb))
                have HDD : Hid (∀ V, Below wz.heap.size wz V → (convert 22 9 (.slice (some ⟨G, 1, none⟩) 128 129)).run Tryz.prog V = .ok (.string (bs D)) V) := Lib.hid fun V hb => by
                  have hh : Holds V (some ⟨G, 1, none⟩) D.length 1 (u8s D) := by rw [hD]; exact holds_mid (HZD.out.call hb) 1 128 deep64 (by kernel_rfl) (by kernel_rfl)
                  have h9 := run_text_bs hh 22 9 5 129 Tryz.underlying22 Tryz.underlying5 Tryz.underlying9
                  have hl : D.length = 128 := by rw [hD]; kernel_rfl
                  rw [hl] at h9
                  exact h9
                clear eT1 eT2 HK1 HK2 hD
                go_upto_region 21 with fail
                refine wp_region_any (by kernel_rfl) ?_
                change wpAny _ _ _ _ _ _ _ y2.drew
                have HY3 := Lib.hid HY2.out.drew
                generalize y2.drew = y3 at *
                try simp only [List.append]
                refine wpAny_seg (k := 0) 15 77 _ ?_ ?_ ?_ ?_
                · kernel_rfl
                · kernel_rfl
                · kernel_rfl
                simp only [List.drop_zero, List.take_succ_cons, List.take_zero]
                have HRG := Lib.hid (HZ1.out.call HY3.out).range
                go_wp2_with (first
                  | (
                       skip
                       refine wpList_load_midG ?_ 30 (.tmp 3) ?_ w1.heap.size 0 ?_ cs1.toList _ HRG.out Tryz.underlying30 rfl (by rw [Array.length_toList]; exact HIN1.out) ?_
                       · kernel_rfl
                       · with_reducible rfl
                       · rfl)
                  | (go_at_call 11; go_in))
                refine (FC1.out _ HY3.out).mono ?_
                rintro e y4 ⟨rfl, hb⟩
                have HY4 := Lib.hid (HY3.out.call hb)
                clear hb HRG
                have HRG := Lib.hid (HZ1.out.call HY4.out).range
                go_wp2_with (first
                  | (
                       skip
                       refine wpList_load_midG ?_ 30 (.tmp 3) ?_ w1.heap.size 0 ?_ cs1.toList _ HRG.out Tryz.underlying30 rfl (by rw [Array.length_toList]; exact HIN1.out) ?_
                       · kernel_rfl
                       · with_reducible rfl
                       · rfl)
                  | (go_at_call 11; go_in))
                refine (FD1.out _ HY4.out).mono ?_
                rintro e y5 ⟨rfl, hb⟩
                have HY5 := Lib.hid (HY4.out.call hb)
                clear hb HRG
                go_wp2_with fail
                show wpAny _ _ _ _ _ _ _ _
                refine wpAny_take (i := 18) (oi := ?_) (v := ?_) ?_ (by kernel_rfl) (by kernel_rfl) (by kernel_rfl) ?_ ?_ ?_
                rotate_left 2
                · simp only [List.getElem?_toArray, List.getElem?_cons_succ, List.getElem?_cons_zero]; with_reducible rfl
                · exact fun _ _ _ h => h
                · refine Or.inl ⟨by rfl, ?_⟩; intro W; go_simp; try with_reducible rfl
                try simp only [Act.put, List.setIfInBounds_toArray, List.set_cons_zero, List.set_cons_succ]
                refine wpAny_take (i := 19) (oi := ?_) (v := ?_) ?_ (by kernel_rfl) (by kernel_rfl) (by kernel_rfl) ?_ ?_ ?_
                rotate_left 2
                · simp only [List.getElem?_toArray, List.getElem?_cons_succ, List.getElem?_cons_zero]; with_reducible rfl
                · exact fun _ _ _ h => h
                · refine Or.inl ⟨by rfl, ?_⟩; intro W; go_simp; try with_reducible rfl
                try simp only [Act.put, List.setIfInBounds_toArray, List.set_cons_zero, List.set_cons_succ]
                have hS5 := HY5.out
                refine wpAny_of_till (z := 21) (S := fun W => Below wz.heap.size wz W) _ _ _ _ ?_
                refine wpTill_take (i := 20) (oi := ?_) (v := ?_) ?_ (by kernel_rfl) (by kernel_rfl) (by kernel_rfl) (by kernel_rfl) (by kernel_rfl) ?_ ?_ (by assumption) ?_
                rotate_left 2
                · simp only [List.getElem?_toArray, List.getElem?_cons_succ, List.getElem?_cons_zero]; with_reducible rfl
                · exact fun _ _ _ h => h
                · refine Or.inl ⟨by rfl, ?_⟩; intro W hSw; have hcd := HDD.out _ hSw; go_simp; try with_reducible rfl
                try simp only [Act.put, List.setIfInBounds_toArray, List.set_cons_zero, List.set_cons_succ]
                refine wpTill_oneG (i := 15) (o := ?_) (by kernel_rfl) ?_ ?_ ?_
                rotate_left 1
                · simp only [List.getElem?_toArray, List.getElem?_cons_succ, List.getElem?_cons_zero]; with_reducible rfl
                · rfl
                intro K1 hK1
                replace hK1 := Lib.hid hK1
                refine wp_load_mid 30 (.tmp 3) ?_ w1.heap.size 0 ?_ cs1.toList _ (HZ1.out.call HY5.out).range Tryz.underlying30 rfl (by rw [Array.length_toList]; exact HIN1.out) ?_
                · with_reducible rfl
                · kernel_rfl
                refine hK1.out _ _ (fun _ => hS5) ?_
                clear hK1 K1
                try simp only [Act.put, List.setIfInBounds_toArray, List.set_cons_zero, List.set_cons_succ]
                refine wpTill_oneG (i := 16) (o := ?_) (by kernel_rfl) ?_ ?_ ?_
                rotate_left 1
                · simp only [List.getElem?_toArray, List.getElem?_cons_succ, List.getElem?_cons_zero]; with_reducible rfl
                · rfl
                intro K1 hK1
                replace hK1 := Lib.hid hK1
                go_simp
                (with_reducible refine (FP1.out _ HY5.out).mono ?_)
                rintro e y9 ⟨AP, cP, rfl, _, _, hl, hb⟩
                go_wp2_with fail
                have HY9 := Lib.hid (HY5.out.call hb)
                have hS9 := HY9.out
                have hcs : (convert 22 9 (.slice AP D.length cP)).run Tryz.prog y9 = .ok (.string (bs D)) y9 := by
                  obtain ⟨A9, c9, e9, _, _, h9⟩ := hl.holds
                  obtain ⟨rfl, _, rfl⟩ := Value.slice.inj e9
                  exact run_text_bs h9 22 9 5 cP Tryz.underlying22 Tryz.underlying5 Tryz.underlying9
                refine hK1.out _ _ (fun _ => hS9) ?_
                clear hb hl hS5
                clear hK1 K1
                try simp only [Act.put, List.setIfInBounds_toArray, List.set_cons_zero, List.set_cons_succ]
                refine wpTill_oneG (i := 17) (o := ?_) (by kernel_rfl) ?_ ?_ ?_
                rotate_left 1
                · simp only [List.getElem?_toArray, List.getElem?_cons_succ, List.getElem?_cons_zero]; with_reducible rfl
                · rfl
                intro K1 hK1
                replace hK1 := Lib.hid hK1
                go_simp
                refine hK1.out _ _ (fun _ => hS9) ?_
                clear hcs
                clear hK1 K1
                try simp only [Act.put, List.setIfInBounds_toArray, List.set_cons_zero, List.set_cons_succ]
                refine wpTill_oneG (i := 21) (o := ?_) (by kernel_rfl) ?_ ?_ ?_
                rotate_left 1
                · simp only [List.getElem?_toArray, List.getElem?_cons_succ, List.getElem?_cons_zero]; with_reducible rfl
                · rfl
                intro K1 hK1
                replace hK1 := Lib.hid hK1
                go_simp
                refine hK1.out _ _ (fun h => by cases h) ?_
                clear hK1 K1
                try simp only [Act.put, List.setIfInBounds_toArray, List.set_cons_zero, List.set_cons_succ]
                refine wpTill_past _ _ _ _ (by kernel_rfl) ?_
                as_aux_lemma =>
                  refine wpAny_chain (k := 22) 70 ?_ ?_ ?_ ?_
                  · kernel_rfl
                  · kernel_rfl
                  · kernel_rfl
                  simp only [List.drop_succ_cons, List.drop_zero]
                  have HRG := Lib.hid (HZ7.out.call HY9.out).range
                  go_wp2_with (first
                    | (
                         skip
                         refine wpList_load_midG ?_ 30 (.tmp 7) ?_ w5.heap.size 0 ?_ cs7.toList _ HRG.out Tryz.underlying30 rfl (by rw [Array.length_toList]; exact HIN7.out) ?_
                         · kernel_rfl
                         · with_reducible rfl
                         · rfl)
                    | (go_at_call 11; go_in))
                  refine (FC7.out _ HY9.out).mono ?_
                  rintro e y10 ⟨rfl, hb⟩
                  have HY10 := Lib.hid (HY9.out.call hb)
                  clear hb HRG
                  have HRG := Lib.hid (HZ7.out.call HY10.out).range
                  go_wp2_with (first
                    | (
                         skip
                         refine wpList_load_midG ?_ 30 (.tmp 7) ?_ w5.heap.size 0 ?_ cs7.toList _ HRG.out Tryz.underlying30 rfl (by rw [Array.length_toList]; exact HIN7.out) ?_
                         · kernel_rfl
                         · with_reducible rfl
                         · rfl)
                    | (go_at_call 11; go_in))
                  refine (FD7.out _ HY10.out).mono ?_
                  rintro e y11 ⟨rfl, hb⟩
                  have HY11 := Lib.hid (HY10.out.call hb)
                  clear hb HRG
                  have HRG := Lib.hid (HZT.out.call HY11.out).range
                  have zT := (HZT.out.call HY11.out).row.cell (i := 5) (v := .string (bs T1)) (by rw [HE9.out]; rfl)
                  go_wp2_with (first
                    | (
                         skip
                         refine wpList_load_midG ?_ 30 (.tmp 10) ?_ w9.heap.size 0 ?_ cs9.toList _ HRG.out Tryz.underlying30 rfl (by rw [Array.length_toList]; exact HIN9.out) ?_
                         · kernel_rfl
                         · with_reducible rfl
                         · rfl)
                    | (go_at_call 11; go_in))
                  refine (FCT.out _ HY11.out).mono ?_
                  rintro e y12 ⟨rfl, hb⟩
                  have HY12 := Lib.hid (HY11.out.call hb)
                  clear hb HRG
                  clear zT
                  have HRG := Lib.hid (HVO.out.call HY12.out).range
                  go_wp2_with (first
                    | (
                         skip
                         refine wpList_load_midG ?_ 30 (.tmp 14) ?_ w12.heap.size 0 ?_ csO.toList _ HRG.out Tryz.underlying30 rfl (by rw [Array.length_toList]; exact HINO.out) ?_
                         · kernel_rfl
                         · with_reducible rfl
                         · rfl)
                    | (go_at_call 11; go_in))
                  refine (FCO.out _ HY12.out).mono ?_
                  rintro e y13 ⟨rfl, hb⟩
                  have HY13 := Lib.hid (HY12.out.call hb)
                  clear hb HRG
                  have HRG := Lib.hid (HVO.out.call HY13.out).range
                  go_wp2_with (first
                    | (
                         skip
                         refine wpList_load_midG ?_ 30 (.tmp 14) ?_ w12.heap.size 0 ?_ csO.toList _ HRG.out Tryz.underlying30 rfl (by rw [Array.length_toList]; exact HINO.out) ?_
                         · kernel_rfl
                         · with_reducible rfl
                         · rfl)
                    | (go_at_call 11; go_in))
                  refine (FPO.out _ HY13.out).mono ?_
                  rintro e y14 ⟨AP, cP, rfl, _, _, hl, hb⟩
                  have HY14 := Lib.hid (HY13.out.call hb)
                  clear hb HRG hl
                  go_wp2_with (go_at_call 11; go_in)
                  refine (FW.out _ HY14.out).mono ?_
                  rintro e y15 ⟨rfl, hb⟩
                  have HY15 := Lib.hid (HY14.out.call hb)
                  clear hb
                  go_wp2
                  go_ret
                  exact ⟨rfl, HBZ.out.call HY15.out⟩
end Go.Proofs.YtjckojedafajeaaGreatDoor
