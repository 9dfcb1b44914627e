/- Layer 8: whole: a member's name, and its value. -/
import Derived.Test.YtjckojedafajeaaGreatDoorPt35
namespace Go.Proofs.YtjckojedafajeaaGreatDoor
open Go.RowKit

set_option maxRecDepth 1000000 in
set_option maxHeartbeats 40000000 in
theorem wh_name (w : World) (p : Nat) (X : Txt) (s0 : List UInt8) (E0 O0 : Value) (f0 : Fl) (h0 : JAt w p X s0 E0 O0 f0) (hX : X.l.length ≤ 1048576) (R : Option (JV × Fl)) (m : Nat) (h : Nat → Value) (own : Nat → Nat) (K : List Fr) (E O : Value) (f : Fl) (s : List UInt8) (W : World)
    (hs : WhS w p X own K E O f s W) (hR : R = runJ .name K f s) (hK : K ≠ []) (hw : wtK K + s.length ≤ X.l.length) (hm : 2 * s.length < m + 1) :
    Code.wp Tryz.prog (tailOf (restW 2)) (jumps (JWM w p X R m) (QW w p X R)) ⟨(whF w p h).toArray, []⟩ W := by
  have hp := h0.lt
  obtain ⟨fr, r, rfl⟩ : ∃ fr r, K = fr :: r := by
    cases K with
    | nil => exact absurd rfl hK
    | cons a b => exact ⟨a, b, rfl⟩
  have hN := jname_ok p X s s0 E O E0 O0 f f0 w W own fr r h0 hs.jat hs.stk (Nat.le_of_lt hs.lt) hX (by unfold wtK at hw; omega)
  have HN := Lib.hid hN
  have HRR : Hid (R = match nameL s with
      | none => none
      | some (l, a, q) => if tkB [58] (blk q) = true then runJ .value (nameK l (fr :: r)) (nameF l (fr :: r) { f with alone := f.alone || a }) ((blk q).drop 1) else none) := Lib.hid (by
    rw [hR, runJ_name]
    unfold nameL
    cases tkB [34] (blk s) <;> rfl)
  have HLN : Hid (∀ l a q, nameL s = some (l, a, q) → q.length < s.length) := Lib.hid (by
    intro l a q e
    unfold nameL at e
    split at e
    · have h1 := letsL_len _ e
      have h2 := blk_len s
      rw [List.length_drop] at h1
      omega
    · cases e)
  have HS := Lib.hid hs
  have H0 := Lib.hid h0
  have HW := Lib.hid hw
  have HM := Lib.hid hm
  clear hs h0 hR hw hm hN hK hX
  generalize nameL s = ns at *
  conv => arg 2; whnf
  dsimp only [whF]
  go_wp2_with fail
  refine HN.out.mono ?_
  intro e w1 hp1
  have HP1 := Lib.hid hp1
  clear hp1 HN
  cases ns with
  | none =>
    obtain rfl : R = none := HRR.out
    obtain ⟨rfl, hk⟩ := HP1.out
    have HB := Lib.hid (HS.out.bad hk)
    clear hk HP1
    go_wp2_with fail
    exact ⟨rfl, rfl, HB.out⟩
  | some y =>
    obtain ⟨l, a, q⟩ := y
    have HR2 : Hid (R = if tkB [58] (blk q) = true then runJ .value (nameK l (fr :: r)) (nameF l (fr :: r) { f with alone := f.alone || a }) ((blk q).drop 1) else none) := Lib.hid HRR.out
    obtain ⟨rfl, own2, hst, hj, hsti⟩ := HP1.out
    have hs2 := HS.out.stkTo hp hst hj hsti.kept ((hsti.own _ HS.out.lt).trans HS.out.rv3)
    have HQ := Lib.hid (jmust_ok p X [58] q E O _ w1 hj)
    have HML : Hid (mustL [58] q = if tkB [58] (blk q) = true then some ((blk q).drop 1) else none) := Lib.hid (by
      unfold mustL sgB sgS tkS
      cases tkB [58] (blk q) <;> rfl)
    have HS2 := Lib.hid hs2
    have HLQ := Lib.hid (HLN.out l a q rfl)
    have HBQ := Lib.hid (blk_len q)
    clear hst hj hsti hs2 HP1 HRR HLN
    generalize mustL [58] q = ms at *
    generalize blk q = bq at *
    go_wp2_with fail
    refine HQ.out.mono ?_
    intro e w2 hp2
    have HP2 := Lib.hid hp2
    clear hp2 HQ
    cases hb : tkB [58] bq with
    | false =>
      rw [hb] at HML HR2
      obtain rfl : ms = none := by rw [HML.out]; rfl
      obtain rfl : R = none := by rw [HR2.out]; rfl
      obtain ⟨rfl, hk⟩ := HP2.out
      have HB := Lib.hid (HS2.out.bad (kept_mono hk fun q e => .inl e))
      clear hk HP2 hb
      go_wp2_with fail
      exact ⟨rfl, rfl, HB.out⟩
    | true =>
      rw [hb, if_pos rfl] at HML HR2
      obtain rfl : ms = some (bq.drop 1) := HML.out
      obtain ⟨rfl, hj, hk⟩ := HP2.out
      have HS3 := Lib.hid (HS2.out.to hp hj hk)
      clear hj hk HP2 hb
      go_wp2_with fail
      go_step3
      simp only [Exit.then, jumps]
      refine JWM.of (s := bq.drop 1) ?_ HS3.out ?_ ?_
      · kernel_rfl
      · refine ⟨HR2.out, ?_⟩
        have a1 := HW.out; have a2 := HLQ.out; have a3 := HBQ.out; have a4 := wtK_name l (fr :: r)
        rw [List.length_drop]
        omega
      · have a1 := HM.out; have a2 := HLQ.out; have a3 := HBQ.out
        rw [if_neg (by omega), List.length_drop]
        omega
end Go.Proofs.YtjckojedafajeaaGreatDoor
/- Layer 8: whole: behind a value. -/
namespace Go.Proofs.YtjckojedafajeaaGreatDoor
open Go.RowKit

theorem lastB_cons (t : Fr) (r : List Fr) : lastB ((t :: r).reverse.map endB) = (endB t).toNat := by
  unfold lastB
  rw [if_neg (by simp)]
  unfold byteAt
  simp [List.getD]
set_option maxRecDepth 1000000 in
set_option maxHeartbeats 40000000 in
theorem wh_behind (w : World) (p : Nat) (X : Txt) (s0 : List UInt8) (E0 O0 : Value) (f0 : Fl) (h0 : JAt w p X s0 E0 O0 f0) (hX : X.l.length ≤ 1048576) (R : Option (JV × Fl)) (m : Nat) (h : Nat → Value) (own : Nat → Nat) (K : List Fr) (E O : Value) (f : Fl) (s : List UInt8) (W : World)
    (hs : WhS w p X own K E O f s W) (v : JV) (cs : Array Value) (hrow : Row W w.heap.size 30 cs) (hv : JIs W (FB own w.heap.size 0) v cs.toList) (hR : R = runJ (.behind v) K f s) (hw : wtK K + 1 + s.length ≤ X.l.length) (hm : 2 * s.length < m + 1) :
    Code.wp Tryz.prog (tailOf (restW 3)) (jumps (JWM w p X R m) (QW w p X R)) ⟨(whF w p h).toArray, []⟩ W := by
  have hp := h0.lt
  have h8 : cs.size = 8 := by have := hv.len; simpa using this
  obtain ⟨A, c, hE, _, _, hho⟩ := hs.stk.ends.holds
  subst hE
  have HEN : Hid (Calls Tryz.prog 63 #[.pointer (some ⟨p, 0, none⟩)] W fun e w' => e = .returned (.int .u8 (lastB (K.reverse.map endB) : Nat)) ∧ Below W.heap.size W w') := Lib.hid (by
    obtain ⟨_, k, hr, _, _⟩ := hs.jat
    exact jend_ok p X k A K.length c (K.reverse.map endB) O f W hr (by simp) (by have := wtK_len K; omega) hho)
  have HRA0 : Hid (∀ V, Below W.heap.size W V → V.rangeAt w.heap.size 0 cs.toList) := Lib.hid fun V hb j u hu => by rw [Nat.zero_add]; exact (hrow.call hb).cell (by simpa using hu)
  have HIN : Hid ((Tryz.prog.info? 30).map (·.size) = some cs.size) := Lib.hid (by rw [h8]; exact infoJ)
  have HONE : Hid (cs.all (·.oneCell') = true) := Lib.hid (by have := all_oneCell_toArray (jv_one hv); simpa using this)
  have HROW := Lib.hid hrow
  have HV := Lib.hid hv
  have HS := Lib.hid hs
  have H0 := Lib.hid h0
  have HW := Lib.hid hw
  have HM := Lib.hid hm
  have HR := Lib.hid hR
  have H8 := Lib.hid h8
  clear hs h0 hw hm hR hho hrow hv h8
  cases K with
  | nil =>
    have hlb : ((lastB (([] : List Fr).reverse.map endB) : Nat) : Int) = 0 := rfl
    rw [hlb] at HEN
    clear hlb
    have HRR : Hid (R = if blk s = [] then some (v, f) else none) := Lib.hid (by rw [HR.out, runJ_behind0])
    clear HR
    conv => arg 2; whnf
    dsimp only [whF]
    go_wp2_with fail
    refine HEN.out.mono ?_
    rintro e w1 ⟨rfl, hb1⟩
    have HB1 := Lib.hid hb1
    have hj1 : JAt w1 p X s (.slice A (([] : List Fr)).length c) O f := H0.out.above HS.out.jat (keptOf_below hb1)
    have HBL := Lib.hid (jblanks_ok p X s _ O f w1 hj1)
    clear hb1 hj1 HEN
    go_wp2_with fail
    refine HBL.out.mono ?_
    rintro e w2 ⟨rfl, hj2, hk2⟩
    have HK2 := Lib.hid hk2
    have HJ2 := Lib.hid hj2
    have hkw : Kept (TxF w p) w w2 := HS.out.kept.trans' ((keptOf_below HB1.out).trans' (kept_p hk2))
    have HKW := Lib.hid hkw
    obtain ⟨⟨hxl, hxc⟩, k, hrd, hdr, hkl⟩ := hj2
    have c1 := hrd.row.cell (i := 1) (v := .int .i64 (k : Int)) rfl
    have c0 := hrd.row.cell (i := 0) (v := .slice X.A X.l.length X.c) rfl
    have hrow2 : Row w2 w.heap.size 30 cs := ((HROW.out.call HB1.out).kept hk2 (by show ¬ w.heap.size = p; omega))
    have HROW2 := Lib.hid hrow2
    have HRA : Hid (w2.rangeAt w.heap.size 0 cs.toList) := Lib.hid (fun j u hu => by rw [Nat.zero_add]; exact hrow2.cell (by simpa using hu))
    have HV2 : Hid (JIs w2 (FB own w.heap.size 0) v cs.toList) := Lib.hid ((HV.out.below HB1.out).kept hk2 (fun q hq e => by have := hq.2; omega) _ _)
    have HDR := Lib.hid hdr
    clear hk2 hkw hrd hrow2 HBL
    by_cases he : k < X.l.length
    · have hbs : blk s ≠ [] := fun e9 => by
        have h1 := hdr.trans e9
        have h2 : (X.l.drop k).length = 0 := by rw [h1]; rfl
        rw [List.length_drop] at h2
        omega
      obtain rfl : R = none := by rw [HRR.out, if_neg hbs]
      have HKB := Lib.hid (kept_cut HKW.out)
      clear hdr hbs hxl hxc hkl HRR
      generalize X.l.length = N at *
      go_wp2_with fail
      go_quiet (fail)
      go_wp2_with fail
      refine ⟨rfl, rfl, (HKB.out.drewN _)⟩
    · have hbs : blk s = [] := by rw [← hdr]; exact List.drop_of_length_le (by omega)
      obtain rfl : R = some (v, f) := by rw [HRR.out, if_pos hbs]
      clear hdr hbs hxl hxc hkl HRR
      generalize X.l.length = N at *
      go_wp2_with fail
      go_quiet (fail)
      go_upto_region 23 with fail
      have HRA3 : Hid ((w2.drewN nq).rangeAt w.heap.size 0 cs.toList) := Lib.hid HRA.out
      have HROW3 : Hid (Row (w2.drewN nq) w.heap.size 30 cs) := Lib.hid (HROW2.out.drewN _)
      have HTH3 : Hid ((w2.drewN nq).there w.heap.size 0 cs.size) := Lib.hid (row_there HROW3.out (Nat.le_refl _))
      have HK3 : Hid (Kept (TxF w p) w (w2.drewN nq)) := Lib.hid (HKW.out.drewN _)
      have HV3 : Hid (JIs (w2.drewN nq) (FB own w.heap.size 0) v cs.toList) := Lib.hid (JIs.kept (G := fun _ => False) ((Kept.refl _ _).drewN _) (fun _ _ h => h) _ _ HV2.out)
      have HJ3 : Hid (JAt (w2.drewN nq) p X (blk s) _ O f) := Lib.hid (H0.out.above HJ2.out ((Kept.refl _ _).drewN _))
      clear HRA HROW2 HKW HV2 HJ2 c0 c1
      generalize w2.drewN nq = w3 at *
      go_wp2_with (first
        | (refine wpList_load_mid ?_ 30 (.tmp 2) ?_ w.heap.size 0 ?_ cs.toList _ HRA3.out Tryz.underlying30 rfl (by rw [Array.length_toList]; exact HIN.out) ?_
           · with_reducible rfl
           · with_reducible rfl
           · rfl)
        | (refine wpList_store_mid ?_ 30 (.tmp 2) (.tmp 58) ?_ w.heap.size 0 cs ?_ ?_ HTH3.out HIN.out HONE.out ?_
           · with_reducible rfl
           · with_reducible rfl
           · rfl
           · rfl))
      simp only [jumps, Act.put]
      unfold QW
      have HWF := row_setCells cs.toList 0 w3 HROW3.out (fun j u hu => by rw [Nat.zero_add]; simpa using hu)
      have hkf : Kept (· = w.heap.size) w3 (w3.setCells w.heap.size 0 cs.toList) := kept_setCells _ _ _ _ _ (Kept.refl _ _)
      have h3 := HS.out.rv3
      refine bodyPost_ret_by (results_oneJ rfl _ _ w.heap.size cs ?_ (load_jv HWF H8.out)) rfl ?_
      · rfl
      · exact ⟨cs.toList, by simp, JIs.mono (fun q hq _ => hq.2) _ _ (JIs.kept hkf (fun q hq e => by have := hq.1; rw [e] at this; omega) _ _ HV3.out), ⟨_, _, _, H0.out.above HJ3.out (kept_mono hkf fun q e => by show w.heap.size ≤ q; rw [e]; exact Nat.le_refl _)⟩, kept_cut (HK3.out.trans' (kept_mono hkf fun q e => .inr (by rw [e]; exact Nat.le_refl _)))⟩
  | cons t r =>
    obtain ⟨ob, tl, tn⟩ := t
    have hlb := lastB_cons ⟨ob, tl, tn⟩ r
    rw [hlb] at HEN
    clear hlb
    obtain ⟨nn, hnn⟩ : ∃ nn, nn = ((⟨ob, tl, tn⟩ : Fr) :: r).length := ⟨_, rfl⟩
    rw [← hnn] at HS
    clear hnn
    cases ob with
    | false =>
      have HE2 : Hid (Calls Tryz.prog 63 #[.pointer (some ⟨p, 0, none⟩)] W fun e w' => e = .returned (.int .u8 93) ∧ Below W.heap.size W w') := HEN
      have HRR : Hid (R = if tkB [44] (blk s) = true then runJ .value (putK v (⟨false, tl, tn⟩ :: r)) f ((blk s).drop 1) else if tkB [93] (blk s) = true then runJ .leave (putK v (⟨false, tl, tn⟩ :: r)) f ((blk s).drop 1) else none) := Lib.hid (by rw [HR.out, runJ_behind]; rfl)
      have HPW := Lib.hid (wtK_put v (⟨false, tl, tn⟩ :: r))
      have HPN : Hid (putK v (⟨false, tl, tn⟩ :: r) ≠ []) := Lib.hid (putK_ne (by simp))
      have HPUT : Hid (∀ V, Below W.heap.size W V → Calls Tryz.prog 64 #[.pointer (some ⟨p, 0, none⟩), .agg cs] V fun e w' => e = .returned (.tuple #[]) ∧
        ∃ own', Stk w' own' w.heap.size (putK v (⟨false, tl, tn⟩ :: r)) (.slice A nn c) O ∧ JAt w' p X s (.slice A nn c) O f ∧ Still V w' (StkF own w.heap.size) own own') := Lib.hid (by
        intro V hb
        have sB : Still W V (fun _ => False) own own := ⟨keptOf_below hb, fun _ _ => rfl⟩
        have h9 := jput_ok p X s s0 (.slice A nn c) O E0 O0 f f0 w V own ⟨false, tl, tn⟩ r v cs.toList H0.out (H0.out.above HS.out.jat (keptOf_below hb)) (HS.out.stk.still sB (fun _ h => h.elim)) (HV.out.below hb) (Nat.le_trans (Nat.le_of_lt HS.out.lt) hb.size) (by have := HW.out; unfold wtK at this; show tl.length ≤ 1048576; simp only at this; omega)
        simpa using h9)
      have HBLK := Lib.hid (blk_len s)
      have HBB : Hid (blk (blk s) = blk s) := Lib.hid (blk_blk s)
      have HSG : Hid (∀ (V : World) (E O : Value), JAt V p X s E O f → Calls Tryz.prog 57 #[.pointer (some ⟨p, 0, none⟩), .string (bs [44])] V fun e w' => e = .returned (.bool (tkB [44] (blk s))) ∧ JTo p X (tkS [44] (blk s)) E O f V w') := Lib.hid fun V E O hj => jsign_ok p X [44] s E O f V hj
      have HMU : Hid (∀ (V : World) (E O : Value), JAt V p X (blk s) E O f → Calls Tryz.prog 61 #[.pointer (some ⟨p, 0, none⟩), .string (bs [93])] V (JEnd p X E O f V (.tuple #[]) (if tkB [93] (blk s) = true then some ((blk s).drop 1) else none))) := Lib.hid fun V E O hj => by
        have h9 := jmust_ok p X [93] (blk s) E O f V hj
        have e9 : mustL [93] (blk s) = if tkB [93] (blk s) = true then some ((blk s).drop 1) else none := by
          unfold mustL sgB sgS tkS
          rw [HBB.out]
          cases tkB [93] (blk s) <;> rfl
        rwa [e9] at h9
      clear HEN HR HV
      generalize putK v (⟨false, tl, tn⟩ :: r) = K2 at *
      generalize blk s = t2 at *
      conv => arg 2; whnf
      dsimp only [whF]
      go_wp2_with fail
      refine HE2.out.mono ?_
      rintro e w1 ⟨rfl, hb1⟩
      have HRA1 := Lib.hid (HRA0.out w1 hb1)
      have HP1 := Lib.hid (HPUT.out w1 hb1)
      have HB1 := Lib.hid hb1
      clear hb1 HRA0 HPUT HE2
      go_wp2_with (
        refine wpList_load_mid ?_ 30 (.tmp 2) ?_ w.heap.size 0 ?_ cs.toList _ HRA1.out Tryz.underlying30 rfl (by rw [Array.length_toList]; exact HIN.out) ?_
        · with_reducible rfl
        · with_reducible rfl
        · rfl)
      refine HP1.out.mono ?_
      rintro e w2 ⟨rfl, own2, hst, hj, hsti⟩
      have hs2 := HS.out.stkTo hp hst hj ((keptOf_below HB1.out).trans' (kept_mono hsti.kept fun q hq => .inr hq)) ((hsti.own _ (Nat.lt_of_lt_of_le HS.out.lt HB1.out.size)).trans HS.out.rv3)
      have HG := Lib.hid (HSG.out w2 _ _ hj)
      have HS2 := Lib.hid hs2
      clear hst hj hsti hs2 HSG HP1 HRA1 HS HB1
      cases hb : tkB [44] t2 with
      | true =>
        have hlt2 := tkB_some hb
        rw [hb] at HG HRR
        rw [tkS_yes hb] at HG
        rw [if_pos rfl] at HRR
        have HLT2 := Lib.hid hlt2
        clear hb hlt2
        go_wp2_with fail
        refine HG.out.mono ?_
        rintro e w3 ⟨rfl, hj3, hk3⟩
        have HS3 := Lib.hid (HS2.out.to hp hj3 hk3)
        clear hj3 hk3 HG
        go_wp2_with fail
        go_step3
        simp only [Exit.then, Exit.inBlock, jumps]
        refine JWM.of (s := t2.drop 1) ?_ HS3.out ?_ ?_
        · kernel_rfl
        · have a1 := HW.out; have a2 := HPW.out; have a3 := HBLK.out; have a4 := HLT2.out
          refine ⟨HRR.out, ?_⟩
          rw [List.length_drop]
          omega
        · have a1 := HM.out; have a3 := HBLK.out; have a4 := HLT2.out
          rw [if_neg (by omega), List.length_drop]
          omega
      | false =>
        rw [hb] at HG HRR
        rw [tkS_no hb] at HG
        rw [if_neg (by simp)] at HRR
        clear hb
        go_wp2_with fail
        refine HG.out.mono ?_
        rintro e w3 ⟨rfl, hj3, hk3⟩
        have HS3 := Lib.hid (HS2.out.to hp hj3 hk3)
        have HQ := Lib.hid (HMU.out w3 _ _ hj3)
        clear hj3 hk3 HG HMU
        cases hb : tkB [93] t2 with
        | true =>
          have hlt2 := tkB_some hb
          rw [hb, if_pos rfl] at HQ HRR
          have HLT2 := Lib.hid hlt2
          clear hb hlt2
          go_wp2_with fail
          refine HQ.out.mono ?_
          rintro e w4 ⟨rfl, hj4, hk4⟩
          have HS4 := Lib.hid (HS3.out.to hp hj4 hk4)
          clear hj4 hk4 HQ
          go_wp2_with fail
          go_step3
          simp only [Exit.then, Exit.inBlock, jumps]
          refine JWM.of (s := t2.drop 1) ?_ HS4.out ?_ ?_
          · kernel_rfl
          · have a1 := HW.out; have a2 := HPW.out; have a3 := HBLK.out; have a4 := HLT2.out
            refine ⟨HRR.out, HPN.out, ?_⟩
            rw [List.length_drop]
            omega
          · have a1 := HM.out; have a3 := HBLK.out; have a4 := HLT2.out
            rw [if_pos rfl, List.length_drop]
            omega
        | false =>
          rw [hb, if_neg (by simp)] at HQ HRR
          obtain rfl : R = none := HRR.out
          clear hb HRR
          go_wp2_with fail
          refine HQ.out.mono ?_
          rintro e w4 ⟨rfl, hk4⟩
          have HB4 := Lib.hid (HS3.out.bad (kept_mono hk4 fun q e => .inl e))
          clear hk4 HQ
          go_wp2_with fail
          exact ⟨rfl, rfl, HB4.out⟩
    | true =>
      have HE2 : Hid (Calls Tryz.prog 63 #[.pointer (some ⟨p, 0, none⟩)] W fun e w' => e = .returned (.int .u8 125) ∧ Below W.heap.size W w') := HEN
      have HRR : Hid (R = if tkB [44] (blk s) = true then runJ .name (putK v (⟨true, tl, tn⟩ :: r)) f ((blk s).drop 1) else if tkB [125] (blk s) = true then runJ .leave (putK v (⟨true, tl, tn⟩ :: r)) f ((blk s).drop 1) else none) := Lib.hid (by rw [HR.out, runJ_behind]; rfl)
      have HPW := Lib.hid (wtK_put v (⟨true, tl, tn⟩ :: r))
      have HPN : Hid (putK v (⟨true, tl, tn⟩ :: r) ≠ []) := Lib.hid (putK_ne (by simp))
      have HPUT : Hid (∀ V, Below W.heap.size W V → Calls Tryz.prog 64 #[.pointer (some ⟨p, 0, none⟩), .agg cs] V fun e w' => e = .returned (.tuple #[]) ∧
        ∃ own', Stk w' own' w.heap.size (putK v (⟨true, tl, tn⟩ :: r)) (.slice A nn c) O ∧ JAt w' p X s (.slice A nn c) O f ∧ Still V w' (StkF own w.heap.size) own own') := Lib.hid (by
        intro V hb
        have sB : Still W V (fun _ => False) own own := ⟨keptOf_below hb, fun _ _ => rfl⟩
        have h9 := jput_ok p X s s0 (.slice A nn c) O E0 O0 f f0 w V own ⟨true, tl, tn⟩ r v cs.toList H0.out (H0.out.above HS.out.jat (keptOf_below hb)) (HS.out.stk.still sB (fun _ h => h.elim)) (HV.out.below hb) (Nat.le_trans (Nat.le_of_lt HS.out.lt) hb.size) (by have := HW.out; unfold wtK at this; show tl.length ≤ 1048576; simp only at this; omega)
        simpa using h9)
      have HBLK := Lib.hid (blk_len s)
      have HBB : Hid (blk (blk s) = blk s) := Lib.hid (blk_blk s)
      have HSG : Hid (∀ (V : World) (E O : Value), JAt V p X s E O f → Calls Tryz.prog 57 #[.pointer (some ⟨p, 0, none⟩), .string (bs [44])] V fun e w' => e = .returned (.bool (tkB [44] (blk s))) ∧ JTo p X (tkS [44] (blk s)) E O f V w') := Lib.hid fun V E O hj => jsign_ok p X [44] s E O f V hj
      have HMU : Hid (∀ (V : World) (E O : Value), JAt V p X (blk s) E O f → Calls Tryz.prog 61 #[.pointer (some ⟨p, 0, none⟩), .string (bs [125])] V (JEnd p X E O f V (.tuple #[]) (if tkB [125] (blk s) = true then some ((blk s).drop 1) else none))) := Lib.hid fun V E O hj => by
        have h9 := jmust_ok p X [125] (blk s) E O f V hj
        have e9 : mustL [125] (blk s) = if tkB [125] (blk s) = true then some ((blk s).drop 1) else none := by
          unfold mustL sgB sgS tkS
          rw [HBB.out]
          cases tkB [125] (blk s) <;> rfl
        rwa [e9] at h9
      clear HEN HR HV
      generalize putK v (⟨true, tl, tn⟩ :: r) = K2 at *
      generalize blk s = t2 at *
      conv => arg 2; whnf
      dsimp only [whF]
      go_wp2_with fail
      refine HE2.out.mono ?_
      rintro e w1 ⟨rfl, hb1⟩
      have HRA1 := Lib.hid (HRA0.out w1 hb1)
      have HP1 := Lib.hid (HPUT.out w1 hb1)
      have HB1 := Lib.hid hb1
      clear hb1 HRA0 HPUT HE2
      go_wp2_with (
        refine wpList_load_mid ?_ 30 (.tmp 2) ?_ w.heap.size 0 ?_ cs.toList _ HRA1.out Tryz.underlying30 rfl (by rw [Array.length_toList]; exact HIN.out) ?_
        · with_reducible rfl
        · with_reducible rfl
        · rfl)
      refine HP1.out.mono ?_
      rintro e w2 ⟨rfl, own2, hst, hj, hsti⟩
      have hs2 := HS.out.stkTo hp hst hj ((keptOf_below HB1.out).trans' (kept_mono hsti.kept fun q hq => .inr hq)) ((hsti.own _ (Nat.lt_of_lt_of_le HS.out.lt HB1.out.size)).trans HS.out.rv3)
      have HG := Lib.hid (HSG.out w2 _ _ hj)
      have HS2 := Lib.hid hs2
      clear hst hj hsti hs2 HSG HP1 HRA1 HS HB1
      cases hb : tkB [44] t2 with
      | true =>
        have hlt2 := tkB_some hb
        rw [hb] at HG HRR
        rw [tkS_yes hb] at HG
        rw [if_pos rfl] at HRR
        have HLT2 := Lib.hid hlt2
        clear hb hlt2
        go_wp2_with fail
        refine HG.out.mono ?_
        rintro e w3 ⟨rfl, hj3, hk3⟩
        have HS3 := Lib.hid (HS2.out.to hp hj3 hk3)
        clear hj3 hk3 HG
        go_wp2_with fail
        go_step3
        simp only [Exit.then, Exit.inBlock, jumps]
        refine JWM.of (s := t2.drop 1) ?_ HS3.out ?_ ?_
        · kernel_rfl
        · have a1 := HW.out; have a2 := HPW.out; have a3 := HBLK.out; have a4 := HLT2.out
          refine ⟨HRR.out, HPN.out, ?_⟩
          rw [List.length_drop]
          omega
        · have a1 := HM.out; have a3 := HBLK.out; have a4 := HLT2.out
          rw [if_neg (by omega), List.length_drop]
          omega
      | false =>
        rw [hb] at HG HRR
        rw [tkS_no hb] at HG
        rw [if_neg (by simp)] at HRR
        clear hb
        go_wp2_with fail
        refine HG.out.mono ?_
        rintro e w3 ⟨rfl, hj3, hk3⟩
        have HS3 := Lib.hid (HS2.out.to hp hj3 hk3)
        have HQ := Lib.hid (HMU.out w3 _ _ hj3)
        clear hj3 hk3 HG HMU
        cases hb : tkB [125] t2 with
        | true =>
          have hlt2 := tkB_some hb
          rw [hb, if_pos rfl] at HQ HRR
          have HLT2 := Lib.hid hlt2
          clear hb hlt2
          go_wp2_with fail
          refine HQ.out.mono ?_
          rintro e w4 ⟨rfl, hj4, hk4⟩
          have HS4 := Lib.hid (HS3.out.to hp hj4 hk4)
          clear hj4 hk4 HQ
          go_wp2_with fail
          go_step3
          simp only [Exit.then, Exit.inBlock, jumps]
          refine JWM.of (s := t2.drop 1) ?_ HS4.out ?_ ?_
          · kernel_rfl
          · have a1 := HW.out; have a2 := HPW.out; have a3 := HBLK.out; have a4 := HLT2.out
            refine ⟨HRR.out, HPN.out, ?_⟩
            rw [List.length_drop]
            omega
          · have a1 := HM.out; have a3 := HBLK.out; have a4 := HLT2.out
            rw [if_pos rfl, List.length_drop]
            omega
        | false =>
          rw [hb, if_neg (by simp)] at HQ HRR
          obtain rfl : R = none := HRR.out
          clear hb HRR
          go_wp2_with fail
          refine HQ.out.mono ?_
          rintro e w4 ⟨rfl, hk4⟩
          have HB4 := Lib.hid (HS3.out.bad (kept_mono hk4 fun q e => .inl e))
          clear hk4 HQ
          go_wp2_with fail
          exact ⟨rfl, rfl, HB4.out⟩
end Go.Proofs.YtjckojedafajeaaGreatDoor
