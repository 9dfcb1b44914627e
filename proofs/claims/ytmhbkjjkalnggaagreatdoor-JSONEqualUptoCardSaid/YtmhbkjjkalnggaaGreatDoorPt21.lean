import Derived.Test.YtmhbkjjkalnggaaGreatDoorPt20
namespace Go.Proofs.YtmhbkjjkalnggaaGreatDoor
open Go.RowKit
set_option maxRecDepth 1000000
set_option maxHeartbeats 40000000
theorem lastB_cons (t : Fr) (r : List Fr) : lastB ((t :: r).reverse.map endB) = (endB t).toNat := by
 unfold lastB
 rw [if_neg (by simp)]
 unfold byteAt
 simp [List.getD]
theorem wh_behind (w : World) (p : Nat) (X : Txt) (s0 : List UInt8) (E0 O0 : Value) (f0 : Fl) (h0 : JAt w p X s0 E0 O0 f0) (hX : X.l.length <= 1048576) (R : Option (JV × Fl)) (m : Nat) (h : Nat -> Value) (own : Nat -> Nat) (K : List Fr) (E O : Value) (f : Fl) (s : List UInt8) (W : World)
   (hs : WhS w p X own K E O f s W) (v : JV) (cs : Array Value) (hrow : Row W w.heap.size 28 cs) (hv : JIs W (FB own w.heap.size 0) v cs.toList) (hR : R = runJ (.behind v) K f s) (hw : wtK K + 1 + s.length <= X.l.length) (hm : 2 * s.length < m + 1) :
   Code.wp Tryz.prog (tailOf (restW 3)) (jumps (JWM w p X R m) (QW w p X R)) ⟨(whF w p h).toArray, []⟩ W := by
 have hp := h0.lt
 have h8 : cs.size = 8 := by have := hv.len; simpa using this
 obtain ⟨A, c, hE, _, _, hho⟩ := hs.stk.ends.holds
 subst hE
 have HEN : Hid (Calls Tryz.prog 82 #[.pointer (some ⟨p, 0, none⟩)] W fun e w' => e = .returned (.int .u8 (lastB (K.reverse.map endB) : Nat)) /\ Below W.heap.size W w') := hid (by
   obtain ⟨_, k, hr, _, _⟩ := hs.jat
   exact jend_ok p X k A K.length c (K.reverse.map endB) O f W hr (by simp) (by have := wtK_len K; omega) hho)
 have HRA0 : Hid (∀ V, Below W.heap.size W V -> V.rangeAt w.heap.size 0 cs.toList) := hid fun V hb j u hu => by rw [Nat.zero_add]; exact (hrow.call hb).cell (by simpa using hu)
 have HIN : Hid ((Tryz.prog.info? 28).map (·.size) = some cs.size) := hid (by rw [h8]; exact infoJ)
 have HONE : Hid (cs.all (·.oneCell') = true) := hid (by have := all_oneCell_toArray (jv_one hv); simpa using this)
 have HROW := hid hrow
 have HV := hid hv
 have HS := hid hs
 have H0 := hid h0
 have HW := hid hw
 have HM := hid hm
 have HR := hid hR
 have H8 := hid h8
 clear hs h0 hw hm hR hho hrow hv h8
 cases K with
 | nil =>
   have hlb : ((lastB (([] : List Fr).reverse.map endB) : Nat) : Int) = 0 := rfl
   rw [hlb] at HEN
   clear hlb
   have HRR : Hid (R = if blk s = [] then some (v, f) else none) := hid (by rw [HR.out, runJ_behind0])
   clear HR
   conv => arg 2; whnf
   dsimp only [whF]
   go_wp2_with fail
   refine HEN.out.mono ?_
   rintro e w1 ⟨rfl, hb1⟩
   have HB1 := hid hb1
   have hj1 : JAt w1 p X s (.slice A (([] : List Fr)).length c) O f := H0.out.above HS.out.jat (keptOf_below hb1)
   have HBL := hid (jblanks_ok p X s _ O f w1 hj1)
   clear hb1 hj1 HEN
   go_wp2_with fail
   refine HBL.out.mono ?_
   rintro e w2 ⟨rfl, hj2, hk2⟩
   have HK2 := hid hk2
   have HJ2 := hid hj2
   have hkw : Kept (TxF w p) w w2 := HS.out.kept.trans' ((keptOf_below HB1.out).trans' (kept_p hk2))
   have HKW := hid hkw
   obtain ⟨⟨hxl, hxc⟩, k, hrd, hdr, hkl⟩ := hj2
   have c1 := hrd.row.cell (i := 1) (v := .int .i64 (k : Int)) rfl
   have c0 := hrd.row.cell (i := 0) (v := .slice X.A X.l.length X.c) rfl
   have hrow2 : Row w2 w.heap.size 28 cs := ((HROW.out.call HB1.out).kept hk2 (by show ¬ w.heap.size = p; omega))
   have HROW2 := hid hrow2
   have HRA : Hid (w2.rangeAt w.heap.size 0 cs.toList) := hid (fun j u hu => by rw [Nat.zero_add]; exact hrow2.cell (by simpa using hu))
   have HV2 : Hid (JIs w2 (FB own w.heap.size 0) v cs.toList) := hid ((HV.out.below HB1.out).kept hk2 (fun q hq e => by have := hq.2; omega) _ _)
   have HDR := hid hdr
   clear hk2 hkw hrd hrow2 HBL
   by_cases he : k < X.l.length
   · have hbs : blk s ≠ [] := fun e9 => by
       have h1 := hdr.trans e9
       have h2 : (X.l.drop k).length = 0 := by rw [h1]; rfl
       rw [List.length_drop] at h2
       omega
     obtain rfl : R = none := by rw [HRR.out, if_neg hbs]
     have HKB := hid (kept_cut HKW.out)
     clear hdr hbs hxl hxc hkl HRR
     generalize X.l.length = N at *
     go_wp2_with fail
     go_quiet (fail)
     go_wp2_with fail
     refine ⟨rfl, rfl, (HKB.out.drewN _)⟩
   · have hbs : blk s = [] := by rw [<- hdr]; exact List.drop_of_length_le (by omega)
     obtain rfl : R = some (v, f) := by rw [HRR.out, if_pos hbs]
     clear hdr hbs hxl hxc hkl HRR
     generalize X.l.length = N at *
     go_wp2_with fail
     go_quiet (fail)
     go_upto_region 23 with fail
     have HRA3 : Hid ((w2.drewN nq).rangeAt w.heap.size 0 cs.toList) := hid HRA.out
     have HROW3 : Hid (Row (w2.drewN nq) w.heap.size 28 cs) := hid (HROW2.out.drewN _)
     have HTH3 : Hid ((w2.drewN nq).there w.heap.size 0 cs.size) := hid (row_there HROW3.out (Nat.le_refl _))
     have HK3 : Hid (Kept (TxF w p) w (w2.drewN nq)) := hid (HKW.out.drewN _)
     have HV3 : Hid (JIs (w2.drewN nq) (FB own w.heap.size 0) v cs.toList) := hid (JIs.kept (G := fun _ => False) ((Kept.refl _ _).drewN _) (fun _ _ h => h) _ _ HV2.out)
     have HJ3 : Hid (JAt (w2.drewN nq) p X (blk s) _ O f) := hid (H0.out.above HJ2.out ((Kept.refl _ _).drewN _))
     clear HRA HROW2 HKW HV2 HJ2 c0 c1
     generalize w2.drewN nq = w3 at *
     go_wp2_with (first
       | (refine ldJ (.tmp 2) w.heap.size 0 cs HRA3.out HIN.out ?_)
       | (refine wpList_store_mid ?_ 28 (.tmp 2) (.tmp 58) ?_ w.heap.size 0 cs ?_ ?_ HTH3.out HIN.out HONE.out ?_
          · with_reducible rfl
          · with_reducible rfl
          · rfl
          · rfl))
     simp only [jumps, Act.put]
     unfold QW
     have HWF := row_setCells cs.toList 0 w3 HROW3.out (fun j u hu => by rw [Nat.zero_add]; simpa using hu)
     have hkf : Kept (· = w.heap.size) w3 (w3.setCells w.heap.size 0 cs.toList) := kept_setCells _ _ _ _ _ (Kept.refl _ _)
     have h3 := HS.out.rv3
     refine bodyPost_ret_by (results_oneJ rfl _ _ w.heap.size cs ?_ (load_jv HWF H8.out)) rfl ?_
     · rfl
     · exact ⟨cs.toList, by simp, JIs.mono (fun q hq _ => hq.2) _ _ (JIs.kept hkf (fun q hq e => by have := hq.1; rw [e] at this; omega) _ _ HV3.out), ⟨_, _, _, H0.out.above HJ3.out (kept_mono hkf fun q e => by show w.heap.size <= q; rw [e]; exact Nat.le_refl _)⟩, kept_cut (HK3.out.trans' (kept_mono hkf fun q e => .inr (by rw [e]; exact Nat.le_refl _)))⟩
 | cons t r =>
   obtain ⟨ob, tl, tn⟩ := t
   have hlb := lastB_cons ⟨ob, tl, tn⟩ r
   rw [hlb] at HEN
   clear hlb
   obtain ⟨nn, hnn⟩ : ∃ nn, nn = ((⟨ob, tl, tn⟩ : Fr) :: r).length := ⟨_, rfl⟩
   rw [<- hnn] at HS
   clear hnn
   cases ob with
   | false =>
     have HE2 : Hid (Calls Tryz.prog 82 #[.pointer (some ⟨p, 0, none⟩)] W fun e w' => e = .returned (.int .u8 93) /\ Below W.heap.size W w') := HEN
     have HRR : Hid (R = if tkB [44] (blk s) = true then runJ .value (putK v (⟨false, tl, tn⟩ :: r)) f ((blk s).drop 1) else if tkB [93] (blk s) = true then runJ .leave (putK v (⟨false, tl, tn⟩ :: r)) f ((blk s).drop 1) else none) := hid (by rw [HR.out, runJ_behind]; rfl)
     have HPW := hid (wtK_put v (⟨false, tl, tn⟩ :: r))
     have HPN : Hid (putK v (⟨false, tl, tn⟩ :: r) ≠ []) := hid (putK_ne (by simp))
     have HPUT : Hid (∀ V, Below W.heap.size W V -> Calls Tryz.prog 83 #[.pointer (some ⟨p, 0, none⟩), .agg cs] V fun e w' => e = .returned (.tuple #[]) /\
       ∃ own', Stk w' own' w.heap.size (putK v (⟨false, tl, tn⟩ :: r)) (.slice A nn c) O /\ JAt w' p X s (.slice A nn c) O f /\ Still V w' (StkF own w.heap.size) own own') := hid (by
       intro V hb
       have sB : Still W V (fun _ => False) own own := ⟨keptOf_below hb, fun _ _ => rfl⟩
       have h9 := jput_ok p X s s0 (.slice A nn c) O E0 O0 f f0 w V own ⟨false, tl, tn⟩ r v cs.toList H0.out (H0.out.above HS.out.jat (keptOf_below hb)) (HS.out.stk.still sB (fun _ h => h.elim)) (HV.out.below hb) (Nat.le_trans (Nat.le_of_lt HS.out.lt) hb.size) (by have := HW.out; unfold wtK at this; show tl.length <= 1048576; simp only at this; omega)
       simpa using h9)
     have HBLK := hid (blk_len s)
     have HBB : Hid (blk (blk s) = blk s) := hid (blk_blk s)
     have HSG : Hid (∀ (V : World) (E O : Value), JAt V p X s E O f -> Calls Tryz.prog 76 #[.pointer (some ⟨p, 0, none⟩), .string (bs [44])] V fun e w' => e = .returned (.bool (tkB [44] (blk s))) /\ JTo p X (tkS [44] (blk s)) E O f V w') := hid fun V E O hj => jsign_ok p X [44] s E O f V hj
     have HMU : Hid (∀ (V : World) (E O : Value), JAt V p X (blk s) E O f -> Calls Tryz.prog 80 #[.pointer (some ⟨p, 0, none⟩), .string (bs [93])] V (JEnd p X E O f V (.tuple #[]) (if tkB [93] (blk s) = true then some ((blk s).drop 1) else none))) := hid fun V E O hj => by
       have h9 := jmust_ok p X [93] (blk s) E O f V hj
       have e9 : mustL [93] (blk s) = if tkB [93] (blk s) = true then some ((blk s).drop 1) else none := by
         unfold mustL sgB sgS tkS
         rw [HBB.out]
         cases tkB [93] (blk s) <;> rfl
       rwa [e9] at h9
     clear HEN HR HV
     generalize putK v (⟨false, tl, tn⟩ :: r) = K2 at *
     generalize blk s = t2 at *
     conv => arg 2; whnf
     dsimp only [whF]
     go_wp2_with fail
     refine HE2.out.mono ?_
     rintro e w1 ⟨rfl, hb1⟩
     have HRA1 := hid (HRA0.out w1 hb1)
     have HP1 := hid (HPUT.out w1 hb1)
     have HB1 := hid hb1
     clear hb1 HRA0 HPUT HE2
     go_wp2_with (
       refine wpList_load_mid ?_ 28 (.tmp 2) ?_ w.heap.size 0 ?_ cs.toList _ HRA1.out Tryz.underlying28 rfl (by rw [Array.length_toList]; exact HIN.out) ?_
       · with_reducible rfl
       · with_reducible rfl
       · rfl)
     refine HP1.out.mono ?_
     rintro e w2 ⟨rfl, own2, hst, hj, hsti⟩
     have hs2 := HS.out.stkTo hp hst hj ((keptOf_below HB1.out).trans' (kept_mono hsti.kept fun q hq => .inr hq)) ((hsti.own _ (Nat.lt_of_lt_of_le HS.out.lt HB1.out.size)).trans HS.out.rv3)
     have HG := hid (HSG.out w2 _ _ hj)
     have HS2 := hid hs2
     clear hst hj hsti hs2 HSG HP1 HRA1 HS HB1
     cases hb : tkB [44] t2 with
     | true =>
       have hlt2 := tkB_some hb
       rw [hb] at HG HRR
       rw [tkS_yes hb] at HG
       rw [if_pos rfl] at HRR
       have HLT2 := hid hlt2
       clear hb hlt2
       go_wp2_with fail
       refine HG.out.mono ?_
       rintro e w3 ⟨rfl, hj3, hk3⟩
       have HS3 := hid (HS2.out.to hp hj3 hk3)
       clear hj3 hk3 HG
       go_wp2_with fail
       go_step3
       simp only [Exit.then, Exit.inBlock, jumps]
       refine JWM.of (s := t2.drop 1) ?_ HS3.out ?_ ?_
       · kernel_rfl
       · have a1 := HW.out; have a2 := HPW.out; have a3 := HBLK.out; have a4 := HLT2.out
         refine ⟨HRR.out, ?_⟩
         rw [List.length_drop]
         omega
       · have a1 := HM.out; have a3 := HBLK.out; have a4 := HLT2.out
         rw [if_neg (by omega), List.length_drop]
         omega
     | false =>
       rw [hb] at HG HRR
       rw [tkS_no hb] at HG
       rw [if_neg (by simp)] at HRR
       clear hb
       go_wp2_with fail
       refine HG.out.mono ?_
       rintro e w3 ⟨rfl, hj3, hk3⟩
       have HS3 := hid (HS2.out.to hp hj3 hk3)
       have HQ := hid (HMU.out w3 _ _ hj3)
       clear hj3 hk3 HG HMU
       cases hb : tkB [93] t2 with
       | true =>
         have hlt2 := tkB_some hb
         rw [hb, if_pos rfl] at HQ HRR
         have HLT2 := hid hlt2
         clear hb hlt2
         go_wp2_with fail
         refine HQ.out.mono ?_
         rintro e w4 ⟨rfl, hj4, hk4⟩
         have HS4 := hid (HS3.out.to hp hj4 hk4)
         clear hj4 hk4 HQ
         go_wp2_with fail
         go_step3
         simp only [Exit.then, Exit.inBlock, jumps]
         refine JWM.of (s := t2.drop 1) ?_ HS4.out ?_ ?_
         · kernel_rfl
         · have a1 := HW.out; have a2 := HPW.out; have a3 := HBLK.out; have a4 := HLT2.out
           refine ⟨HRR.out, HPN.out, ?_⟩
           rw [List.length_drop]
           omega
         · have a1 := HM.out; have a3 := HBLK.out; have a4 := HLT2.out
           rw [if_pos rfl, List.length_drop]
           omega
       | false =>
         rw [hb, if_neg (by simp)] at HQ HRR
         obtain rfl : R = none := HRR.out
         clear hb HRR
         go_wp2_with fail
         refine HQ.out.mono ?_
         rintro e w4 ⟨rfl, hk4⟩
         have HB4 := hid (HS3.out.bad (kept_mono hk4 fun q e => .inl e))
         clear hk4 HQ
         go_wp2_with fail
         exact ⟨rfl, rfl, HB4.out⟩
   | true =>
     have HE2 : Hid (Calls Tryz.prog 82 #[.pointer (some ⟨p, 0, none⟩)] W fun e w' => e = .returned (.int .u8 125) /\ Below W.heap.size W w') := HEN
     have HRR : Hid (R = if tkB [44] (blk s) = true then runJ .name (putK v (⟨true, tl, tn⟩ :: r)) f ((blk s).drop 1) else if tkB [125] (blk s) = true then runJ .leave (putK v (⟨true, tl, tn⟩ :: r)) f ((blk s).drop 1) else none) := hid (by rw [HR.out, runJ_behind]; rfl)
     have HPW := hid (wtK_put v (⟨true, tl, tn⟩ :: r))
     have HPN : Hid (putK v (⟨true, tl, tn⟩ :: r) ≠ []) := hid (putK_ne (by simp))
     have HPUT : Hid (∀ V, Below W.heap.size W V -> Calls Tryz.prog 83 #[.pointer (some ⟨p, 0, none⟩), .agg cs] V fun e w' => e = .returned (.tuple #[]) /\
       ∃ own', Stk w' own' w.heap.size (putK v (⟨true, tl, tn⟩ :: r)) (.slice A nn c) O /\ JAt w' p X s (.slice A nn c) O f /\ Still V w' (StkF own w.heap.size) own own') := hid (by
       intro V hb
       have sB : Still W V (fun _ => False) own own := ⟨keptOf_below hb, fun _ _ => rfl⟩
       have h9 := jput_ok p X s s0 (.slice A nn c) O E0 O0 f f0 w V own ⟨true, tl, tn⟩ r v cs.toList H0.out (H0.out.above HS.out.jat (keptOf_below hb)) (HS.out.stk.still sB (fun _ h => h.elim)) (HV.out.below hb) (Nat.le_trans (Nat.le_of_lt HS.out.lt) hb.size) (by have := HW.out; unfold wtK at this; show tl.length <= 1048576; simp only at this; omega)
       simpa using h9)
     have HBLK := hid (blk_len s)
     have HBB : Hid (blk (blk s) = blk s) := hid (blk_blk s)
     have HSG : Hid (∀ (V : World) (E O : Value), JAt V p X s E O f -> Calls Tryz.prog 76 #[.pointer (some ⟨p, 0, none⟩), .string (bs [44])] V fun e w' => e = .returned (.bool (tkB [44] (blk s))) /\ JTo p X (tkS [44] (blk s)) E O f V w') := hid fun V E O hj => jsign_ok p X [44] s E O f V hj
     have HMU : Hid (∀ (V : World) (E O : Value), JAt V p X (blk s) E O f -> Calls Tryz.prog 80 #[.pointer (some ⟨p, 0, none⟩), .string (bs [125])] V (JEnd p X E O f V (.tuple #[]) (if tkB [125] (blk s) = true then some ((blk s).drop 1) else none))) := hid fun V E O hj => by
       have h9 := jmust_ok p X [125] (blk s) E O f V hj
       have e9 : mustL [125] (blk s) = if tkB [125] (blk s) = true then some ((blk s).drop 1) else none := by
         unfold mustL sgB sgS tkS
         rw [HBB.out]
         cases tkB [125] (blk s) <;> rfl
       rwa [e9] at h9
     clear HEN HR HV
     generalize putK v (⟨true, tl, tn⟩ :: r) = K2 at *
     generalize blk s = t2 at *
     conv => arg 2; whnf
     dsimp only [whF]
     go_wp2_with fail
     refine HE2.out.mono ?_
     rintro e w1 ⟨rfl, hb1⟩
     have HRA1 := hid (HRA0.out w1 hb1)
     have HP1 := hid (HPUT.out w1 hb1)
     have HB1 := hid hb1
     clear hb1 HRA0 HPUT HE2
     go_wp2_with (
       refine wpList_load_mid ?_ 28 (.tmp 2) ?_ w.heap.size 0 ?_ cs.toList _ HRA1.out Tryz.underlying28 rfl (by rw [Array.length_toList]; exact HIN.out) ?_
       · with_reducible rfl
       · with_reducible rfl
       · rfl)
     refine HP1.out.mono ?_
     rintro e w2 ⟨rfl, own2, hst, hj, hsti⟩
     have hs2 := HS.out.stkTo hp hst hj ((keptOf_below HB1.out).trans' (kept_mono hsti.kept fun q hq => .inr hq)) ((hsti.own _ (Nat.lt_of_lt_of_le HS.out.lt HB1.out.size)).trans HS.out.rv3)
     have HG := hid (HSG.out w2 _ _ hj)
     have HS2 := hid hs2
     clear hst hj hsti hs2 HSG HP1 HRA1 HS HB1
     cases hb : tkB [44] t2 with
     | true =>
       have hlt2 := tkB_some hb
       rw [hb] at HG HRR
       rw [tkS_yes hb] at HG
       rw [if_pos rfl] at HRR
       have HLT2 := hid hlt2
       clear hb hlt2
       go_wp2_with fail
       refine HG.out.mono ?_
       rintro e w3 ⟨rfl, hj3, hk3⟩
       have HS3 := hid (HS2.out.to hp hj3 hk3)
       clear hj3 hk3 HG
       go_wp2_with fail
       go_step3
       simp only [Exit.then, Exit.inBlock, jumps]
       refine JWM.of (s := t2.drop 1) ?_ HS3.out ?_ ?_
       · kernel_rfl
       · have a1 := HW.out; have a2 := HPW.out; have a3 := HBLK.out; have a4 := HLT2.out
         refine ⟨HRR.out, HPN.out, ?_⟩
         rw [List.length_drop]
         omega
       · have a1 := HM.out; have a3 := HBLK.out; have a4 := HLT2.out
         rw [if_neg (by omega), List.length_drop]
         omega
     | false =>
       rw [hb] at HG HRR
       rw [tkS_no hb] at HG
       rw [if_neg (by simp)] at HRR
       clear hb
       go_wp2_with fail
       refine HG.out.mono ?_
       rintro e w3 ⟨rfl, hj3, hk3⟩
       have HS3 := hid (HS2.out.to hp hj3 hk3)
       have HQ := hid (HMU.out w3 _ _ hj3)
       clear hj3 hk3 HG HMU
       cases hb : tkB [125] t2 with
       | true =>
         have hlt2 := tkB_some hb
         rw [hb, if_pos rfl] at HQ HRR
         have HLT2 := hid hlt2
         clear hb hlt2
         go_wp2_with fail
         refine HQ.out.mono ?_
         rintro e w4 ⟨rfl, hj4, hk4⟩
         have HS4 := hid (HS3.out.to hp hj4 hk4)
         clear hj4 hk4 HQ
         go_wp2_with fail
         go_step3
         simp only [Exit.then, Exit.inBlock, jumps]
         refine JWM.of (s := t2.drop 1) ?_ HS4.out ?_ ?_
         · kernel_rfl
         · have a1 := HW.out; have a2 := HPW.out; have a3 := HBLK.out; have a4 := HLT2.out
           refine ⟨HRR.out, HPN.out, ?_⟩
           rw [List.length_drop]
           omega
         · have a1 := HM.out; have a3 := HBLK.out; have a4 := HLT2.out
           rw [if_pos rfl, List.length_drop]
           omega
       | false =>
         rw [hb, if_neg (by simp)] at HQ HRR
         obtain rfl : R = none := HRR.out
         clear hb HRR
         go_wp2_with fail
         refine HQ.out.mono ?_
         rintro e w4 ⟨rfl, hk4⟩
         have HB4 := hid (HS3.out.bad (kept_mono hk4 fun q e => .inl e))
         clear hk4 HQ
         go_wp2_with fail
         exact ⟨rfl, rfl, HB4.out⟩
theorem wh_leave (w : World) (p : Nat) (X : Txt) (s0 : List UInt8) (E0 O0 : Value) (f0 : Fl) (h0 : JAt w p X s0 E0 O0 f0) (hX : X.l.length <= 1048576) (R : Option (JV × Fl)) (m : Nat) (h : Nat -> Value) (own : Nat -> Nat) (K : List Fr) (E O : Value) (f : Fl) (s : List UInt8) (W : World)
   (hs : WhS w p X own K E O f s W) (hR : R = runJ .leave K f s) (hK : K ≠ []) (hw : wtK K + s.length <= X.l.length) (hm : 2 * s.length + 1 < m + 1) :
   Code.wp Tryz.prog (tailOf (restW 0)) (jumps (JWM w p X R m) (QW w p X R)) ⟨(whF w p h).toArray, []⟩ W := by
 have hp := h0.lt
 obtain ⟨t, r, rfl⟩ : ∃ t r, K = t :: r := by
   cases K with
   | nil => exact absurd rfl hK
   | cons a b => exact ⟨a, b, rfl⟩
 have HL := hid (jleave_ok p X s s0 E O E0 O0 f f0 w W own t r h0 hs.jat hs.stk (Nat.le_of_lt hs.lt))
 have HRR : Hid (R = runJ (.behind (if isDeepK (t :: r) then JV.null else t.val)) r f s) := hid (by rw [hR, runJ_leave])
 have HWT : Hid (wtK r + 1 <= wtK (t :: r)) := hid (by simp only [wtK]; omega)
 have HS := hid hs
 have H0 := hid h0
 have HW := hid hw
 have HM := hid hm
 have HX := hid hX
 clear hs h0 hR hw hm hK hX
 conv => arg 2; whnf
 dsimp only [whF]
 go_wp2_with fail
 refine HL.out.mono ?_
 rintro e w1 ⟨own2, E2, O2, cl, rfl, hv, hst, hj, hk, ho⟩
 have hs1 := HS.out.stkTo hp hst hj hk (ho _ HS.out.lt HS.out.rv3)
 obtain ⟨cs, hcs⟩ : ∃ cs : Array Value, cs = cl.toArray := ⟨_, rfl⟩
 have hcl : cs.toList = cl := by rw [hcs]
 rw [<- hcl] at hv
 rw [<- hcs]
 have h8 : cs.size = 8 := by have := hv.len; simpa using this
 have HONE : Hid (cs.all (·.oneCell') = true) := hid (by have := all_oneCell_toArray (jv_one hv); simpa using this)
 have HIN : Hid ((Tryz.prog.info? 28).map (·.size) = some cs.size) := hid (by rw [h8]; exact infoJ)
 have hth := hs1.there
 rw [<- h8] at hth
 have HTH := hid hth
 have hl3 := hs1.laid H0.out h8
 have HL3 := hid hl3
 have HV3 : Hid (JIs (w1.setCells w.heap.size 0 cs.toList) (FB own2 w.heap.size 0) (if isDeepK (t :: r) then JV.null else t.val) cs.toList) := hid (hv.still hl3.2.2 (fun q e _ => by rw [e, hs1.rv3]; omega))
 clear hv hst hj hk ho hs1 hcs hcl h8 hth hl3 HL
 go_wp2_with (
   refine wpList_store_mid ?_ 28 (.tmp 2) (.tmp 24) ?_ w.heap.size 0 cs ?_ ?_ HTH.out HIN.out HONE.out ?_
   · with_reducible rfl
   · with_reducible rfl
   · rfl
   · rfl)
 simp only [Act.put]
 rename_i K0 hK0
 have HK0 := hid hK0
 clear hK0
 go_step3
 refine HK0.out _ _ ?_
 refine wp_code (tailOf (restW 3)) (by kernel_rfl) ?_
 refine whF_end (K := fun a w => Code.wp _ _ _ a w) w p ?_ ?_
 · kernel_rfl
 · exact wh_behind w p X s0 E0 O0 f0 H0.out HX.out R m _ own2 r E2 O2 f s _ HL3.out.1 _ cs HL3.out.2.1 HV3.out HRR.out (by have := HW.out; have := HWT.out; omega) (by have := HM.out; omega)
theorem jwhole_ok (w : World) (p : Nat) (X : Txt) (s : List UInt8) (f : Fl) (h : JAt w p X s (.slice none 0 0) (.slice none 0 0) f) (hX : X.l.length <= 1048576) (hT : ∀ V, Kept (TxF w p) w V -> PowTab V) :
   Calls Tryz.prog 48 #[.pointer (some ⟨p, 0, none⟩)] w (WPost w p X (runJ .value [] f s)) := by
 have hsl := h.len
 obtain ⟨w1, hw1⟩ : ∃ w1, w1 = w.alloc (.cells zeroJ 28) := ⟨_, rfl⟩
 have hb1 : Below w.heap.size w w1 := by subst hw1; exact (Below.refl _ _).alloc (Nat.le_refl _) _
 have hs1 : WhS w p X (fun _ => 3) [] (.slice none 0 0) (.slice none 0 0) f s w1 := by
   refine ⟨⟨Lies.empty _ _ _ _ _, [], Lies.empty _ _ _ _ _, trivial⟩, h.above h (keptOf_below hb1), keptOf_below hb1, rfl, zeroJ, ?_, rfl⟩
   subst hw1
   exact Row.new _ _ _
 have HS := hid hs1
 have H := hid h
 have HX := hid hX
 have HT := hid hT
 have HSL := hid hsl
 clear h hX hT hsl hb1 hs1
 generalize hR : runJ .value [] f s = R at *
 have HR := hid hR
 clear hR
 unfold zeroJ at hw1
 go_enter Tryz.func48, Tryz.ntmps48
 go_wp2_with fail
 rw [<- hw1]
 clear hw1
 refine wp_code (Code.scope whBody) (by kernel_rfl) ?_
 refine wp_scope_labels restW (JW w p X R) (fun i _ W => measW p X i W) ?hf ?first ?pass
 case hf =>
   rintro i a W ⟨h, own, K, E, O, f, s, e, hs, x⟩
   match i, x with
   | 0, _ => exact (by kernel_rfl : findLabel whBody 0 = some (restW 0))
   | 1, _ => exact (by kernel_rfl : findLabel whBody 1 = some (restW 1))
   | 2, _ => exact (by kernel_rfl : findLabel whBody 2 = some (restW 2))
   | 3, _ => exact (by kernel_rfl : findLabel whBody 3 = some (restW 3))
 case first =>
   refine wp_code ((Code.label 1).seq (tailOf (restW 1))) (by kernel_rfl) (wp_seq ?_)
   go_step3
   simp only [Exit.then]
   refine whF_end (K := fun a w => Code.wp _ _ _ a w) w p ?_ ?_
   · kernel_rfl
   · exact Code.wp_mono (jumpsW w p X R _) (wh_value w p X s _ _ f H.out HX.out HT.out R (2 * s.length) _ _ [] _ _ f s w1 HS.out HR.out.symm (by unfold wtK; rw [Nat.zero_add]; exact HSL.out) (by omega))
 case pass =>
   rintro i a W ⟨h, own, K, E, O, f2, s2, rfl, hs, x⟩
   have hm : 2 * s2.length + (if i = 0 then 1 else 0) = measW p X i W := by unfold measW; rw [hs.jat.left]
   match i, x with
   | 0, x =>
     refine wp_code (Code.seq .skip (tailOf (restW 0))) (by kernel_rfl) (wp_seq (wp_skip ?_))
     exact wh_leave w p X s _ _ f H.out HX.out R (measW p X 0 W) h own K E O f2 s2 W hs x.1 x.2.1 x.2.2 (by rw [if_pos rfl] at hm; omega)
   | 1, x =>
     refine wp_code (Code.seq .skip (tailOf (restW 1))) (by kernel_rfl) (wp_seq (wp_skip ?_))
     exact wh_value w p X s _ _ f H.out HX.out HT.out R (measW p X 1 W) h own K E O f2 s2 W hs x.1 x.2 (by rw [if_neg (by omega)] at hm; omega)
   | 2, x =>
     refine wp_code (Code.seq .skip (tailOf (restW 2))) (by kernel_rfl) (wp_seq (wp_skip ?_))
     exact wh_name w p X s _ _ f H.out HX.out R (measW p X 2 W) h own K E O f2 s2 W hs x.1 x.2.1 x.2.2 (by rw [if_neg (by omega)] at hm; omega)
   | 3, x =>
     obtain ⟨v, cs, x1, x2, x3, x4⟩ := x
     refine wp_code (Code.seq .skip (tailOf (restW 3))) (by kernel_rfl) (wp_seq (wp_skip ?_))
     exact wh_behind w p X s _ _ f H.out HX.out R (measW p X 3 W) h own K E O f2 s2 W hs v cs x1 x2 x3 x4 (by rw [if_neg (by omega)] at hm; omega)
end Go.Proofs.YtmhbkjjkalnggaaGreatDoor
