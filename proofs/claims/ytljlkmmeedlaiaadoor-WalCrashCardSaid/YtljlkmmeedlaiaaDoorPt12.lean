/- Layer 2: Sync. -/
import Derived.Test.YtljlkmmeedlaiaaDoorPt10
namespace Go.Proofs.YtljlkmmeedlaiaaDoor
open Go.RowKit

/-- What lasts when the first k pieces do. -/
def lastTo (f : Int → List Nat) (ps : List (Int × List Nat)) : Nat → Int → List Nat
  | 0 => f
  | k + 1 => upd (lastTo f ps k) (ps.getD k (0, zsec)).1 (ps.getD k (0, zsec)).2
def syD (d : D) (s : Int) (keep : Nat) : D := { d with lasting := lastTo d.lasting d.pieces keep, pieces := d.pieces.drop keep, fates := d.fates.tail, steps := s }
section
variable {w w' : World} {F : Nat → Prop} {p : Nat} {d : D} {t : Parts}
theorem DiskIs.lastPut (h : DiskIs w F p d t) {f : Int → List Nat} (hm : IsMap w' t.bl f) (hk : Kept (· = t.bl) w w') : DiskIs w' F p { d with lasting := f } t :=
  ⟨⟨h.good.pos, h.good.most, h.good.piece⟩, h.row.kept hk (fun e => by obtain ⟨es, clock, hb, _⟩ := h.last; have := h.row; unfold Row at this; rw [e, hb] at this; cases this), h.fp, h.fl, h.fr, h.ne, hm, h.read.kept hk (fun e => h.ne e.symm), h.pieces.map h.last hk, h.fates.map h.last hk⟩
theorem pcs_drop {l : List (Int × List Nat)} (hs : ∀ p ∈ l, Sec p.2) {k : Nat} (hk : k ≤ l.length) : (pcs l).drop (k * 513) = pcs (l.drop k) := by
  have e : pcs l = pcs (l.take k) ++ pcs (l.drop k) := by rw [← pcs_append, List.take_append_drop]
  have h1 : (pcs (l.take k)).length = k * 513 := by
    rw [pcs_length (fun p hp => hs p (List.mem_of_mem_take hp)), List.length_take]; congr 1; omega
  rw [e, List.drop_left' h1]
/-- The first pieces are none any more. -/
theorem DiskIs.cut (h : DiskIs w F p d t) {A : Option Addr} {n c k : Nat} (hv : t.vp = .slice A n c) (hk : k ≤ d.pieces.length) :
    DiskIs (w.setCell ⟨p, 3, none⟩ (cutFrom A n c k 513)) F p { d with pieces := d.pieces.drop k } { t with vp := cutFrom A n c k 513 } ∧ Kept (· = p) w (w.setCell ⟨p, 3, none⟩ (cutFrom A n c k 513)) := by
  have k1 := Kept.cell w p 3 (cutFrom A n c k 513)
  have hl := h.pieces
  obtain ⟨A', c', hv', _, _⟩ := hl.form
  have hn : n = d.pieces.length := by rw [hv] at hv'; injection hv'
  subst hn
  rw [hv] at hl
  have hl2 := cutFrom_lies hl hk
  rw [pcs_drop (fun q hq => (h.good.piece q hq).2.2) hk] at hl2
  refine ⟨⟨⟨h.good.pos, h.good.most, fun q hq => h.good.piece q (List.mem_of_mem_drop hq)⟩, ?_, h.fp, h.fl, h.fr, h.ne, h.last.row h.row k1, h.read.row h.row k1, ?_, h.fates.row h.row (by decide) k1⟩, k1⟩
  · have := h.row.set_ 3 (cutFrom A d.pieces.length c k 513)
    simpa [diskCells] using this
  · have := hl2.row h.row (by decide) k1
    simpa using this
end
def SyncRel (F : Nat → Prop) (p : Nat) (d : D) (t : Parts) (w1 : World) (k : Nat) (wr : World) : Prop :=
  DiskIs wr F p { d with lasting := lastTo d.lasting d.pieces k } t ∧ Kept F w1 wr
def SyncPost (F : Nat → Prop) (p : Nat) (d : D) (w : World) (e : Ending) (w' : World) : Prop :=
  ∃ s, e = .returned (.int .i64 (stepOf d.fates d.pieces.length).2) ∧ DiskAt w' F p (syD d s (stepOf d.fates d.pieces.length).1) ∧ Kept F w w'

set_option maxRecDepth 100000 in
set_option maxHeartbeats 2000000 in
theorem sync_ok (F : Nat → Prop) (p : Nat) (d : D) (t : Parts) (w : World) (h : DiskIs w F p d t) (hp : d.pieces.length ≤ 1000000) :
    Calls Tryd.prog 69 #[.pointer (some ⟨p, 0, none⟩)] w (SyncPost F p d w) := by
  have H := Lib.hid h
  have hsz := h.good.most
  obtain ⟨Av, cv, hv, hv1, hv2, hvh⟩ := h.pieces.holds
  have c3 := h.c3
  rw [hv] at c3
  have HV := Lib.hid hv
  clear h hv hvh
  go_enter Tryd.func69, Tryd.ntmps69
  go_wp2_with (first
    | (go_at_call 41; refine (none_ok p d _ ⟨t, H.out⟩).mono ?_; rintro e w' ⟨rfl, rfl⟩)
    | (go_at_call 68
       refine (step_ok F p d t d.pieces.length _ H.out hp).mono ?_
       rintro e w1 ⟨s1, vf1, rfl, hd1, hk1⟩
       have HD1 := Lib.hid hd1
       have HK1 := Lib.hid hk1
       have c3' := hd1.c3
       simp only [HV.out] at c3'
       have HS := Lib.hid (stepOf_le d.fates d.pieces.length)
       obtain ⟨keep, hkp⟩ : ∃ keep, (stepOf d.fates d.pieces.length).1 = keep := ⟨_, rfl⟩
       obtain ⟨er, hee⟩ : ∃ er, (stepOf d.fates d.pieces.length).2 = er := ⟨_, rfl⟩
       have HKE : Hid ((stepOf d.fates d.pieces.length).1 = keep ∧ (stepOf d.fates d.pieces.length).2 = er) := Lib.hid ⟨hkp, hee⟩
       rw [hkp] at HS
       rw [hkp, hee]
       have hks := HS.out
       clear hkp hee hd1 hk1 HS))
  obtain ⟨d1, hd1e⟩ : ∃ d1 : D, d1 = { d with fates := d.fates.tail, steps := s1 } := ⟨_, rfl⟩
  obtain ⟨t1, ht1e⟩ : ∃ t1 : Parts, t1 = { t with vf := vf1 } := ⟨_, rfl⟩
  rw [← hd1e, ← ht1e] at HD1
  have HDE := Lib.hid hd1e
  have HTE := Lib.hid ht1e
  have HPE : Hid (d1.pieces = d.pieces) := Lib.hid (by rw [hd1e])
  have HVP : Hid (t1.vp = .slice Av d.pieces.length cv) := Lib.hid (by rw [ht1e]; exact HV.out)
  clear hd1e ht1e c3 c3'
  go_loopw [26] (fun v26 wr => ∃ k : Nat, k ≤ keep ∧ v26 = .int .i64 k ∧ SyncRel F p d1 t1 w1 k wr) (fun v26 _ => keep - (intOf v26).toNat)
  case atStart => exact ⟨0, Nat.zero_le _, rfl, HD1.out, Kept.refl _ _⟩
  case round =>
    obtain ⟨k, hk, rfl, hdk, hkk⟩ := hrel
    by_cases hlt : k < keep
    · obtain ⟨b, off, cw, hv', hF0, hc1, hc2, hbl, hrg⟩ := hdk.pieces.cells (by simp only; rw [HPE.out]; omega)
      simp only at hv' hrg
      rw [HVP.out] at hv'
      injection hv' with hv1' hv2' hv3'
      subst hv1'
      clear hv2'
      have hlt2 : k < d1.pieces.length := by rw [HPE.out]; omega
      have hrg2 := pcs_range (fun q hq => (hdk.good.piece q hq).2.2) hrg hlt2
      have hmem : d1.pieces.getD k (0, zsec) ∈ d1.pieces := by rw [List.getD_eq_getElem?_getD, List.getElem?_eq_getElem hlt2]; exact List.getElem_mem hlt2
      obtain ⟨ha0, ha1, hs0⟩ := hdk.good.piece _ hmem
      have HC : Hid (lastTo d1.lasting d1.pieces (k + 1) = upd (lastTo d1.lasting d1.pieces k) (d1.pieces.getD k (0, zsec)).1 (d1.pieces.getD k (0, zsec)).2) := Lib.hid rfl
      generalize (d1.pieces.getD k (0, zsec)).1 = a at *
      generalize (d1.pieces.getD k (0, zsec)).2 = s at *
      have HS := Lib.hid hs0
      have HRG := Lib.hid hrg2
      have HDK := Lib.hid hdk
      have HKK := Lib.hid hkk
      have ha2 : a < 65536 := by have := hdk.good.most; simp only at this ha1; omega
      have hpi : Hid ((Tryd.prog.info? 93).map (·.size) = some (pieceCells a s).length) := Lib.hid (by rw [infoPiece1, pieceCells_length HS.out])
      have hpi2 : Hid ((Tryd.prog.info? 93).map (·.size) = some (pieceCells a s).toArray.size) := Lib.hid (by rw [List.size_toArray]; exact hpi.out)
      have hwf : Hid ((Lit.int .i64 a).wf = true) := Lib.hid (WalkArith.wf_i64 (by omega))
      have hsi : Hid ((Tryd.prog.info? 90).map (·.size) = some (cellsOf s).length) := Lib.hid (by rw [infoSec1, cellsOf_length, HS.out.1])
      clear hrg hrg2 hmem hs0 hdk hkk hv3' hc1 hc2
      go_wp2_with (first
        | (refine wpList_load_mid ?_ 93 (.tmp 28) ?_ b (off + k * 513) ?_ (pieceCells a s) _ HRG.out Tryd.underlying93 rfl hpi.out ?_
           · with_reducible rfl
           · with_reducible rfl
           · rfl)
        | (refine wpList_alloc_store ?_ ?_ 93 (.tmp 6) (.tmp 29) ?_ ?_ (pieceCells 0 zsec).toArray (pieceCells a s).toArray zeroPiece ?_ ?_ ?_ ?_ ?_ ?_
           · with_reducible rfl
           · with_reducible rfl
           · with_reducible rfl
           · with_reducible rfl
           · exact hpi2.out
           · rw [List.size_toArray, List.size_toArray, pieceCells_length Sec.zero, pieceCells_length HS.out]
           · exact all_oneCell_toArray (pieceCells_one _ _)
           · rfl
           · rfl
           intro g w3 hg1 hr1 hb1 hs1))
      try simp only [Act.put, List.setIfInBounds_toArray, List.set_cons_zero, List.set_cons_succ]
      have hd3 := HDK.out.below hb1
      have hS : Hid (w3.drew.cell? ⟨p, 1, none⟩ = some (.map (some t1.bl)) ∧ w3.drew.cell? ⟨g, 0, none⟩ = some (.int .i64 a) ∧ w3.drew.rangeAt g 1 (cellsOf s)) := Lib.hid ⟨hd3.c1, atPiece hr1, secPiece hr1⟩
      have hmap : Hid (IsMap w3.drew t1.bl (lastTo d1.lasting d1.pieces k)) := Lib.hid hd3.last
      have hkeep : Hid (∀ W : World, Kept (· = t1.bl) w3.drew W → W.cell? ⟨p, 1, none⟩ = some (.map (some t1.bl)) ∧ W.cell? ⟨g, 0, none⟩ = some (.int .i64 a) ∧ W.rangeAt g 1 (cellsOf s)) := Lib.hid fun W hW => by
        have e1 : p ≠ t1.bl := fun e => by obtain ⟨es, clock, hb, _⟩ := hd3.last; have := hd3.row; unfold Row at this; rw [e, hb] at this; cases this
        have e2 : g ≠ t1.bl := fun e => by obtain ⟨es, clock, hb, _⟩ := hd3.last; have := hr1; unfold Row at this; rw [e, hb] at this; cases this
        have r1 : Row W p _ _ := (Row.drew hd3.row).kept hW e1
        have r2 : Row W g _ _ := (Row.drew hr1).kept hW e2
        exact ⟨r1.cell (by simp [diskCells]), atPiece r2, secPiece r2⟩
      have HD3 := Lib.hid hd3
      have HK3 : Hid (Kept F w1 w3) := Lib.hid (HKK.out.trans' hb1.kept)
      clear hr1 hb1 hs1 hg1 hd3
      go_wp2_with fail
      refine wp_region_held_drew (S := fun W => W.cell? ⟨p, 1, none⟩ = some (.map (some t1.bl)) ∧ W.cell? ⟨g, 0, none⟩ = some (.int .i64 a) ∧ W.rangeAt g 1 (cellsOf s)) (by kernel_rfl) hS.out (fun hHeld => ?_)
      refine wpAnyH_take (i := 0) (oi := ?_) (v := ?_) ?_ (by kernel_rfl) (by kernel_rfl) (by kernel_rfl) ?_ ?_ (by assumption) ?_
      rotate_left 2
      · simp only [List.getElem?_toArray, List.getElem?_cons_zero]; with_reducible rfl
      · exact fun _ _ _ h => h
      · refine Or.inl ⟨by rfl, ?_⟩; intro W hSw; go_simp; try with_reducible rfl
      try simp only [Act.put, List.setIfInBounds_toArray, List.set_cons_zero, List.set_cons_succ]
      refine wpAnyH_take (i := 1) (oi := ?_) (v := ?_) ?_ (by kernel_rfl) (by kernel_rfl) (by kernel_rfl) ?_ ?_ (by assumption) ?_
      rotate_left 2
      · simp only [List.getElem?_toArray, List.getElem?_cons_succ, List.getElem?_cons_zero]; with_reducible rfl
      · exact fun _ _ _ h => h
      · refine Or.inl ⟨by rfl, ?_⟩; intro W hSw; go_simp; try with_reducible rfl
      try simp only [Act.put, List.setIfInBounds_toArray, List.set_cons_zero, List.set_cons_succ]
      refine wpAnyH_take (i := 2) (oi := ?_) (v := ?_) ?_ (by kernel_rfl) (by kernel_rfl) (by kernel_rfl) ?_ ?_ (by assumption) ?_
      rotate_left 2
      · simp only [List.getElem?_toArray, List.getElem?_cons_succ, List.getElem?_cons_zero]; with_reducible rfl
      · exact fun _ _ _ h => h
      · refine Or.inl ⟨by rfl, ?_⟩; intro W hSw; go_simp; try with_reducible rfl
      try simp only [Act.put, List.setIfInBounds_toArray, List.set_cons_zero, List.set_cons_succ]
      refine wpAnyH_take (i := 4) (oi := ?_) (v := ?_) ?_ (by kernel_rfl) (by kernel_rfl) (by kernel_rfl) ?_ ?_ (by assumption) ?_
      rotate_left 2
      · simp only [List.getElem?_toArray, List.getElem?_cons_succ, List.getElem?_cons_zero]; with_reducible rfl
      · exact fun _ _ _ h => h
      · refine Or.inl ⟨by rfl, ?_⟩; intro W hSw; go_simp; try with_reducible rfl
      try simp only [Act.put, List.setIfInBounds_toArray, List.set_cons_zero, List.set_cons_succ]
      refine wpAnyH_take (i := 6) (oi := ?_) (v := ?_) ?_ (by kernel_rfl) (by kernel_rfl) (by kernel_rfl) ?_ ?_ (by assumption) ?_
      rotate_left 2
      · simp only [List.getElem?_toArray, List.getElem?_cons_succ, List.getElem?_cons_zero]; with_reducible rfl
      · exact fun _ _ _ h => h
      · refine Or.inl ⟨by rfl, ?_⟩; intro W hSw; go_simp; try with_reducible rfl
      try simp only [Act.put, List.setIfInBounds_toArray, List.set_cons_zero, List.set_cons_succ]
      refine wpAnyH_take (i := 3) (oi := ?_) (v := ?_) ?_ (by kernel_rfl) (by kernel_rfl) (by kernel_rfl) ?_ ?_ (by assumption) ?_
      rotate_left 2
      · simp only [List.getElem?_toArray, List.getElem?_cons_succ, List.getElem?_cons_zero]; with_reducible rfl
      · exact fun _ _ _ h => h
      · refine Or.inl ⟨by rfl, ?_⟩; intro W hSw; obtain ⟨hS1, hS2, hS3⟩ := hSw; go_simp; try with_reducible rfl
      try simp only [Act.put, List.setIfInBounds_toArray, List.set_cons_zero, List.set_cons_succ]
      refine wpAnyH_take (i := 5) (oi := ?_) (v := ?_) ?_ (by kernel_rfl) (by kernel_rfl) (by kernel_rfl) ?_ ?_ (by assumption) ?_
      rotate_left 2
      · simp only [List.getElem?_toArray, List.getElem?_cons_succ, List.getElem?_cons_zero]; with_reducible rfl
      · exact fun _ _ _ h => h
      · refine Or.inl ⟨by rfl, ?_⟩; intro W hSw; obtain ⟨hS1, hS2, hS3⟩ := hSw; go_simp; try with_reducible rfl
      try simp only [Act.put, List.setIfInBounds_toArray, List.set_cons_zero, List.set_cons_succ]
      refine wpAnyH_take (i := 7) (oi := ?_) (v := secV s) ?_ (by kernel_rfl) (by kernel_rfl) (by kernel_rfl) ?_ ?_ (by assumption) ?_
      rotate_left 1
      · simp only [List.getElem?_toArray, List.getElem?_cons_succ, List.getElem?_cons_zero]; with_reducible rfl
      · exact fun _ _ _ h => h
      · exact yieldsIf_load_mid (by rfl) 90 (.tmp 36) rfl g 1 rfl (cellsOf s) _ (fun W hW => hW.2.2) Tryd.underlying90 rfl hsi.out
      try simp only [Act.put, List.setIfInBounds_toArray, List.set_cons_zero, List.set_cons_succ]
      refine wpAnyH_ready (rs := [8]) (by kernel_rfl) (by simp) ?_
      refine AllReadyH.cons (o := ?_) ?_ (fun K hK => ?_) AllReadyH.nil
      rotate_left 1
      · simp only [List.getElem?_toArray, List.getElem?_cons_succ, List.getElem?_cons_zero]; with_reducible rfl
      rw [if_pos (by rfl)]
      refine wp_put (.tmp 33) (.tmp 35) (.tmp 37) rfl t1.bl _ hmap.out a s rfl rfl rfl hwf.out HS.out ?_
      intro w6 hm6 hk6
      have HM6 := Lib.hid hm6
      have HK6 := Lib.hid hk6
      refine hK.out _ _ (hkeep.out _ hk6) (fun hHeld2 => ?_)
      clear hK K hm6 hk6
      refine wpAnyH_done (by kernel_rfl) ?_ _
      have hrel : Hid (SyncRel F p d1 t1 w1 (k + 1) w6) := Lib.hid (by
        refine ⟨?_, HK3.out.drew.trans' (HK6.out.mono fun _ _ e => by rw [e]; exact HD3.out.fl)⟩
        rw [HC.out]
        exact (HD3.out.below (Below.refl _ _).drew).lastPut HM6.out HK6.out)
      clear HM6 HK6 HD3 HK3 hHeld hHeld2 hmap hkeep hS
      go_wp2
      exact ⟨⟨k + 1, by omega, by go_num, hrel.out⟩, by simp [intOf]; omega⟩
    · obtain rfl : k = keep := by omega
      have c3 := hdk.c3
      have f3 := hdk.free 3
      simp only [HVP.out] at c3
      have hcut := hdk.cut HVP.out (k := k) (by simp only; rw [HPE.out]; omega)
      have HP : Hid (∀ v, v = cutFrom Av d.pieces.length cv k 513 → SyncPost F p d w (.returned (.int .i64 er)) (wr.setCell ⟨p, 3, none⟩ v)) := Lib.hid fun v hv => by
        subst hv
        refine ⟨s1, by rw [HKE.out.2], ⟨{ t1 with vp := cutFrom Av d.pieces.length cv k 513 }, ?_⟩, ((HK1.out.mono fun _ _ e => by rw [e]; exact H.out.fp).trans' hkk).trans' (hcut.2.mono fun _ _ e => by rw [e]; exact H.out.fp)⟩
        · have := hcut.1
          rw [HKE.out.1]
          have e1 : syD d s1 k = { ({ d1 with lasting := lastTo d1.lasting d1.pieces k } : D) with pieces := d1.pieces.drop k } := by rw [HDE.out]; rfl
          rw [e1]
          exact this
      clear hdk hkk hcut
      by_cases hck : cv = k
      · have E : Hid (Value.slice Av (d.pieces.length - k) 0 = cutFrom Av d.pieces.length cv k 513) := Lib.hid (by simp [cutFrom, hck])
        subst hck
        go_wp2
        go_ret
        exact HP.out _ (by simp [cutFrom]; omega)
      · go_wp2
        go_ret
        exact HP.out _ (by simp [cutFrom, hck])
end Go.Proofs.YtljlkmmeedlaiaaDoor
/- Layer 2: what is read is what lasts and the pieces over it. -/
namespace Go.Proofs.YtljlkmmeedlaiaaDoor
open Go.RowKit

/-- Pieces, one over the other. -/
def applyP (f : Int → List Nat) (ps : List (Int × List Nat)) : Int → List Nat := ps.foldl (fun f q => upd f q.1 q.2) f
theorem applyP_append (f : Int → List Nat) (a b : List (Int × List Nat)) : applyP f (a ++ b) = applyP (applyP f a) b := by unfold applyP; rw [List.foldl_append]
theorem readW_is (f : Int → List Nat) (at_ : Int) (l : List Nat) (k : Nat) : readW f at_ l k = applyP f (piecesW at_ l k) := by
  induction k with
  | zero => rfl
  | succ k ih => rw [piecesW_succ, applyP_append, ← ih]; rfl
theorem lastTo_is (f : Int → List Nat) (ps : List (Int × List Nat)) (k : Nat) (hk : k ≤ ps.length) : lastTo f ps k = applyP f (ps.take k) := by
  induction k with
  | zero => rfl
  | succ k ih =>
    rw [List.take_succ_eq_append_getElem (by omega), applyP_append, ← ih (by omega)]
    simp [lastTo, applyP, List.getD_eq_getElem?_getD, show k < ps.length by omega]
/-- What is read is what lasts, and the pieces over it; and where no sector is, zeros. -/
def D.Inv (d : D) : Prop := d.read = applyP d.lasting d.pieces ∧ ∀ k : Int, (k < 0 ∨ (d.size : Int) ≤ k) → d.read k = zsec
theorem readW_out (f : Int → List Nat) (at_ : Int) (l : List Nat) (m : Nat) (k : Int) (hk : k < at_ ∨ at_ + m ≤ k) : readW f at_ l m k = f k := by
  induction m with
  | zero => rfl
  | succ m ih =>
    show upd (readW f at_ l m) (at_ + m) (secOf l m) k = _
    unfold upd
    rw [if_neg (by omega)]
    exact ih (by omega)
theorem inv_new (n : Nat) (l : List (Int × Int)) : (newD n l).Inv := ⟨rfl, fun _ _ => rfl⟩
theorem inv_write {d : D} (h : d.Inv) (fs : List (Int × Int)) (s : Int) (at_ : Int) (l : List Nat) (k : Nat) (h0 : 0 ≤ at_) (h1 : at_ + k ≤ d.size) : (wrD { d with fates := fs, steps := s } at_ l k).Inv := by
  refine ⟨?_, fun j hj => ?_⟩
  · show readW d.read at_ l k = applyP d.lasting (d.pieces ++ piecesW at_ l k)
    rw [applyP_append, readW_is, ← (show d.read = _ from h.1)]
  · show readW d.read at_ l k j = zsec
    have hj' : j < 0 ∨ (d.size : Int) ≤ j := hj
    rw [readW_out _ _ _ _ _ (by omega)]
    exact h.2 j hj'
theorem inv_sync {d : D} (h : d.Inv) (s : Int) (k : Nat) (hk : k ≤ d.pieces.length) : (syD d s k).Inv := by
  refine ⟨?_, h.2⟩
  show d.read = applyP (lastTo d.lasting d.pieces k) (d.pieces.drop k)
  rw [lastTo_is _ _ _ hk, ← applyP_append, List.take_append_drop]
  exact h.1
end Go.Proofs.YtljlkmmeedlaiaaDoor
/- Layer 2's law: what a crash leaves, as functions. -/
namespace Go.Proofs.YtljlkmmeedlaiaaDoor
open Go.RowKit

theorem tear_one {s old : List Nat} (hs : Sec s) (ho : Sec old) : tear s old 1 = s := by
  unfold tear
  rw [show keptN 1 = 512 from rfl, List.take_of_length_le (by rw [hs.1]; omega), List.drop_of_length_le (by rw [ho.1]; omega), List.append_nil]
theorem tear_none (s old : List Nat) : tear s old 0 = old := by
  unfold tear
  rw [show keptN 0 = 0 from rfl, List.take_zero, List.drop_zero, List.nil_append]
theorem upd_same (f : Int → List Nat) (k : Int) : upd f k (f k) = f := by
  funext j
  unfold upd
  split
  · next h => rw [h]
  · rfl
theorem upd_sec {f : Int → List Nat} (hf : ∀ k, Sec (f k)) (k : Int) {l : List Nat} (hl : Sec l) (j : Int) : Sec (upd f k l j) := by
  unfold upd
  split
  · exact hl
  · exact hf j
theorem getD_sec {ps : List (Int × List Nat)} (hs : ∀ q ∈ ps, Sec q.2) (k : Nat) : Sec (ps.getD k (0, zsec)).2 := by
  rcases Nat.lt_or_ge k ps.length with h | h
  · rw [List.getD_eq_getElem?_getD, List.getElem?_eq_getElem h]; exact hs _ (List.getElem_mem h)
  · rw [List.getD_eq_getElem?_getD, List.getElem?_eq_none h]; exact Sec.zero
theorem crashTo_sec {f : Int → List Nat} {ps : List (Int × List Nat)} (hf : ∀ k, Sec (f k)) (hs : ∀ q ∈ ps, Sec q.2) (picks : List Int) (k : Nat) : ∀ j, Sec (crashTo f ps picks k j) := by
  induction k with
  | zero => exact hf
  | succ k ih => exact upd_sec ih _ (tear_sec (getD_sec hs k) (ih _) _)
theorem crashTo_ones {f : Int → List Nat} {ps : List (Int × List Nat)} (hf : ∀ k, Sec (f k)) (hs : ∀ q ∈ ps, Sec q.2) (k : Nat) (hk : k ≤ ps.length) : crashTo f ps (List.replicate ps.length 1) k = applyP f (ps.take k) := by
  induction k with
  | zero => rfl
  | succ k ih =>
    have e : (List.replicate ps.length (1 : Int)).getD k 0 = 1 := by simp [List.getD_eq_getElem?_getD, show k < ps.length by omega]
    show upd (crashTo f ps _ k) _ (tear _ _ _) = _
    rw [e, tear_one (getD_sec hs k) (crashTo_sec hf hs _ k _), ih (by omega), List.take_succ_eq_append_getElem (by omega), applyP_append]
    simp [applyP, List.getD_eq_getElem?_getD, show k < ps.length by omega]
theorem crashTo_nil (f : Int → List Nat) (ps : List (Int × List Nat)) (k : Nat) : crashTo f ps [] k = f := by
  induction k with
  | zero => rfl
  | succ k ih =>
    show upd (crashTo f ps [] k) _ (tear _ _ _) = _
    rw [show ([] : List Int).getD k 0 = 0 by simp, tear_none, upd_same, ih]
theorem crashTo_out (f : Int → List Nat) (ps : List (Int × List Nat)) (picks : List Int) (j : Int) (hj : j ∉ ps.map (·.1)) (k : Nat) (hk : k ≤ ps.length) : crashTo f ps picks k j = f j := by
  induction k with
  | zero => rfl
  | succ k ih =>
    show upd (crashTo f ps picks k) _ _ j = _
    unfold upd
    rw [if_neg, ih (by omega)]
    intro h
    apply hj
    rw [h]
    refine List.mem_map.2 ⟨ps.getD k (0, zsec), ?_, rfl⟩
    rw [List.getD_eq_getElem?_getD, List.getElem?_eq_getElem (by omega)]
    exact List.getElem_mem _
theorem applyP_out (f : Int → List Nat) (ps : List (Int × List Nat)) (j : Int) (hj : j ∉ ps.map (·.1)) : applyP f ps j = f j := by
  induction ps generalizing f with
  | nil => rfl
  | cons p r ih =>
    show applyP (upd f p.1 p.2) r j = _
    rw [ih _ (fun h => hj (by simp at h ⊢; exact .inr h))]
    unfold upd
    rw [if_neg]
    intro h
    exact hj (by simp [h])
theorem readL_get {f : Int → List Nat} (h : ∀ k, Sec (f k)) (n i : Nat) (hi : i < n * 512) : (readL f 0 n)[i]? = (f ((i / 512 : Nat) : Int))[i % 512]? := by
  induction n with
  | zero => omega
  | succ n ih =>
    rw [readL_succ]
    have hl := readL_length h 0 n
    rcases Nat.lt_or_ge i (n * 512) with h1 | h1
    · rw [List.getElem?_append_left (by omega), ih h1]
    · rw [List.getElem?_append_right (by omega), hl]
      have e1 : i / 512 = n := by omega
      have e2 : i % 512 = i - n * 512 := by omega
      rw [e1, e2, Int.zero_add]
theorem readL_same {f g : Int → List Nat} (hf : ∀ k, Sec (f k)) (hg : ∀ k, Sec (g k)) (n i : Nat) (hi : i < n * 512) (h : f ((i / 512 : Nat) : Int) = g ((i / 512 : Nat) : Int)) : (readL f 0 n)[i]? = (readL g 0 n)[i]? := by
  rw [readL_get hf n i hi, readL_get hg n i hi, h]
theorem secOf_readL {f : Int → List Nat} (h : ∀ k, Sec (f k)) (n i : Nat) (hi : i < n) : secOf (readL f 0 n) i = f (i : Int) := by
  apply List.ext_getElem?
  intro j
  unfold secOf
  rw [List.getElem?_take]
  split
  · next hj =>
    rw [List.getElem?_drop, readL_get h n _ (by omega)]
    have e1 : (i * 512 + j) / 512 = i := by omega
    have e2 : (i * 512 + j) % 512 = j := by omega
    rw [e1, e2]
  · next hj => rw [List.getElem?_eq_none (by rw [(h _).1]; omega)]
theorem readW_in (f : Int → List Nat) (l : List Nat) (m k : Nat) (hk : k < m) : readW f 0 l m (k : Int) = secOf l k := by
  induction m with
  | zero => omega
  | succ m ih =>
    show upd (readW f 0 l m) (0 + (m : Int)) (secOf l m) (k : Int) = _
    unfold upd
    split
    · next h => rw [show k = m by omega]
    · next h => exact ih (by omega)
/-- All of a disk, written whole onto an empty one. -/
theorem readW_all {f : Int → List Nat} (h : ∀ k, Sec (f k)) (n : Nat) (ho : ∀ k : Int, (k < 0 ∨ (n : Int) ≤ k) → f k = zsec) : readW (fun _ => zsec) 0 (readL f 0 n) n = f := by
  funext k
  by_cases hk : k < 0 ∨ (n : Int) ≤ k
  · rw [readW_out _ _ _ _ _ (by omega), ho k hk]
  · obtain ⟨i, rfl⟩ : ∃ i : Nat, k = (i : Int) := ⟨k.toNat, by omega⟩
    rw [readW_in _ _ _ _ (by omega), secOf_readL h n i (by omega)]
end Go.Proofs.YtljlkmmeedlaiaaDoor
