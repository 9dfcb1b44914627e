/- Layer 2: Sync. -/
import Derived.Test.YtielinebhbhegaaDskIter
namespace Go.Proofs.Ytielinebhbhegaa
open Go.RowKit

/-- What lasts when the first k pieces do. -/
def lastTo (f : Int → List Nat) (ps : List (Int × List Nat)) : Nat → Int → List Nat
  | 0 => f
  | k + 1 => upd (lastTo f ps k) (ps.getD k (0, zsec)).1 (ps.getD k (0, zsec)).2
def syD (d : D) (s : Int) (keep : Nat) : D := { d with lasting := lastTo d.lasting d.pieces keep, pieces := d.pieces.drop keep, fates := d.fates.tail, steps := s }
section
variable {w w' : World} {F : Nat → Prop} {p : Nat} {d : D} {t : Parts}
theorem DiskIs.lastPut (h : DiskIs w F p d t) {f : Int → List Nat} (hm : IsMap w' t.bl f) (hk : Kept (· = t.bl) w w') : DiskIs w' F p { d with lasting := f } t :=
  ⟨⟨h.good.pos, h.good.most, h.good.piece⟩, h.row.kept hk (fun e => by obtain ⟨es, clock, hb, _⟩ := h.last; have := h.row; unfold Row at this; rw [e, hb] at this; cases this), h.fp, h.fl, h.fr, h.ne, hm, h.read.kept hk (fun e => h.ne e.symm), h.pieces.map h.last hk, h.fates.map h.last hk⟩
theorem pcs_drop {l : List (Int × List Nat)} (hs : ∀ p ∈ l, Sec p.2) {k : Nat} (hk : k ≤ l.length) : (pcs l).drop (k * 513) = pcs (l.drop k) := by
  have e : pcs l = pcs (l.take k) ++ pcs (l.drop k) := by rw [← pcs_append, List.take_append_drop]
  have h1 : (pcs (l.take k)).length = k * 513 := by
    rw [pcs_length (fun p hp => hs p (List.mem_of_mem_take hp)), List.length_take]; congr 1; omega
  rw [e, List.drop_left' h1]
/-- The first pieces are none any more. -/
theorem DiskIs.cut (h : DiskIs w F p d t) {A : Option Addr} {n c k : Nat} (hv : t.vp = .slice A n c) (hk : k ≤ d.pieces.length) :
    DiskIs (w.setCell ⟨p, 3, none⟩ (cutFrom A n c k 513)) F p { d with pieces := d.pieces.drop k } { t with vp := cutFrom A n c k 513 } ∧ Kept (· = p) w (w.setCell ⟨p, 3, none⟩ (cutFrom A n c k 513)) := by
  have k1 := Kept.cell w p 3 (cutFrom A n c k 513)
  have hl := h.pieces
  obtain ⟨A', c', hv', _, _⟩ := hl.form
  have hn : n = d.pieces.length := by rw [hv] at hv'; injection hv'
  subst hn
  rw [hv] at hl
  have hl2 := cutFrom_lies hl hk
  rw [pcs_drop (fun q hq => (h.good.piece q hq).2.2) hk] at hl2
  refine ⟨⟨⟨h.good.pos, h.good.most, fun q hq => h.good.piece q (List.mem_of_mem_drop hq)⟩, ?_, h.fp, h.fl, h.fr, h.ne, h.last.row h.row k1, h.read.row h.row k1, ?_, h.fates.row h.row (by decide) k1⟩, k1⟩
  · have := h.row.set_ 3 (cutFrom A d.pieces.length c k 513)
    simpa [diskCells] using this
  · have := hl2.row h.row (by decide) k1
    simpa using this
end
def SyncRel (F : Nat → Prop) (p : Nat) (d : D) (t : Parts) (w1 : World) (k : Nat) (wr : World) : Prop :=
  DiskIs wr F p { d with lasting := lastTo d.lasting d.pieces k } t ∧ Kept F w1 wr
def SyncPost (F : Nat → Prop) (p : Nat) (d : D) (w : World) (e : Ending) (w' : World) : Prop :=
  ∃ s, e = .returned (.int .i64 (stepOf d.fates d.pieces.length).2) ∧ DiskAt w' F p (syD d s (stepOf d.fates d.pieces.length).1) ∧ Kept F w w'

set_option maxRecDepth 100000 in
set_option maxHeartbeats 2000000 in
theorem sync_ok (F : Nat → Prop) (p : Nat) (d : D) (t : Parts) (w : World) (h : DiskIs w F p d t) (hp : d.pieces.length ≤ 1000000) :
    Calls Try.prog 15 #[.pointer (some ⟨p, 0, none⟩)] w (SyncPost F p d w) := by
  have H := Lib.hid h
  have hsz := h.good.most
  obtain ⟨Av, cv, hv, hv1, hv2, hvh⟩ := h.pieces.holds
  have c3 := h.c3
  rw [hv] at c3
  have HV := Lib.hid hv
  clear h hv hvh
  go_enter Try.func15, Try.ntmps15
  go_wp2_with (first
    | (go_at_call 20; refine (none_ok p d _ ⟨t, H.out⟩).mono ?_; rintro e w' ⟨rfl, rfl⟩)
    | (go_at_call 32
       refine (step_ok F p d t d.pieces.length _ H.out hp).mono ?_
       rintro e w1 ⟨s1, vf1, rfl, hd1, hk1⟩
       have HD1 := Lib.hid hd1
       have HK1 := Lib.hid hk1
       have c3' := hd1.c3
       simp only [HV.out] at c3'
       have HS := Lib.hid (stepOf_le d.fates d.pieces.length)
       obtain ⟨keep, hkp⟩ : ∃ keep, (stepOf d.fates d.pieces.length).1 = keep := ⟨_, rfl⟩
       obtain ⟨er, hee⟩ : ∃ er, (stepOf d.fates d.pieces.length).2 = er := ⟨_, rfl⟩
       have HKE : Hid ((stepOf d.fates d.pieces.length).1 = keep ∧ (stepOf d.fates d.pieces.length).2 = er) := Lib.hid ⟨hkp, hee⟩
       rw [hkp] at HS
       rw [hkp, hee]
       have hks := HS.out
       clear hkp hee hd1 hk1 HS))
  obtain ⟨d1, hd1e⟩ : ∃ d1 : D, d1 = { d with fates := d.fates.tail, steps := s1 } := ⟨_, rfl⟩
  obtain ⟨t1, ht1e⟩ : ∃ t1 : Parts, t1 = { t with vf := vf1 } := ⟨_, rfl⟩
  rw [← hd1e, ← ht1e] at HD1
  have HDE := Lib.hid hd1e
  have HTE := Lib.hid ht1e
  have HPE : Hid (d1.pieces = d.pieces) := Lib.hid (by rw [hd1e])
  have HVP : Hid (t1.vp = .slice Av d.pieces.length cv) := Lib.hid (by rw [ht1e]; exact HV.out)
  clear hd1e ht1e c3 c3'
  go_loopw [26] (fun v26 wr => ∃ k : Nat, k ≤ keep ∧ v26 = .int .i64 k ∧ SyncRel F p d1 t1 w1 k wr) (fun v26 _ => keep - (intOf v26).toNat)
  case atStart => exact ⟨0, Nat.zero_le _, rfl, HD1.out, Kept.refl _ _⟩
  case round =>
    obtain ⟨k, hk, rfl, hdk, hkk⟩ := hrel
    by_cases hlt : k < keep
    · obtain ⟨b, off, cw, hv', hF0, hc1, hc2, hbl, hrg⟩ := hdk.pieces.cells (by simp only; rw [HPE.out]; omega)
      simp only at hv' hrg
      rw [HVP.out] at hv'
      injection hv' with hv1' hv2' hv3'
      subst hv1'
      clear hv2'
      have hlt2 : k < d1.pieces.length := by rw [HPE.out]; omega
      have hrg2 := pcs_range (fun q hq => (hdk.good.piece q hq).2.2) hrg hlt2
      have hmem : d1.pieces.getD k (0, zsec) ∈ d1.pieces := by rw [List.getD_eq_getElem?_getD, List.getElem?_eq_getElem hlt2]; exact List.getElem_mem hlt2
      obtain ⟨ha0, ha1, hs0⟩ := hdk.good.piece _ hmem
      have HC : Hid (lastTo d1.lasting d1.pieces (k + 1) = upd (lastTo d1.lasting d1.pieces k) (d1.pieces.getD k (0, zsec)).1 (d1.pieces.getD k (0, zsec)).2) := Lib.hid rfl
      generalize (d1.pieces.getD k (0, zsec)).1 = a at *
      generalize (d1.pieces.getD k (0, zsec)).2 = s at *
      have HS := Lib.hid hs0
      have HRG := Lib.hid hrg2
      have HDK := Lib.hid hdk
      have HKK := Lib.hid hkk
      have ha2 : a < 65536 := by have := hdk.good.most; simp only at this ha1; omega
      have hpi : Hid ((Try.prog.info? 64).map (·.size) = some (pieceCells a s).length) := Lib.hid (by rw [infoPiece1, pieceCells_length HS.out])
      have hpi2 : Hid ((Try.prog.info? 64).map (·.size) = some (pieceCells a s).toArray.size) := Lib.hid (by rw [List.size_toArray]; exact hpi.out)
      have hwf : Hid ((Lit.int .i64 a).wf = true) := Lib.hid (WalkArith.wf_i64 (by omega))
      have hsi : Hid ((Try.prog.info? 62).map (·.size) = some (cellsOf s).length) := Lib.hid (by rw [infoSec1, cellsOf_length, HS.out.1])
      clear hrg hrg2 hmem hs0 hdk hkk hv3' hc1 hc2
      go_wp2_with (first
        | (refine wpList_load_mid ?_ 64 (.tmp 28) ?_ b (off + k * 513) ?_ (pieceCells a s) _ HRG.out Try.underlying64 rfl hpi.out ?_
           · with_reducible rfl
           · with_reducible rfl
           · rfl)
        | (refine wpList_alloc_store ?_ ?_ 64 (.tmp 6) (.tmp 29) ?_ ?_ (pieceCells 0 zsec).toArray (pieceCells a s).toArray zeroPiece ?_ ?_ ?_ ?_ ?_ ?_
           · with_reducible rfl
           · with_reducible rfl
           · with_reducible rfl
           · with_reducible rfl
           · exact hpi2.out
           · rw [List.size_toArray, List.size_toArray, pieceCells_length Sec.zero, pieceCells_length HS.out]
           · exact all_oneCell_toArray (pieceCells_one _ _)
           · rfl
           · rfl
           intro g w3 hg1 hr1 hb1 hs1))
      try simp only [Act.put, List.setIfInBounds_toArray, List.set_cons_zero, List.set_cons_succ]
      have hd3 := HDK.out.below hb1
      have hS : Hid (w3.drew.cell? ⟨p, 1, none⟩ = some (.map (some t1.bl)) ∧ w3.drew.cell? ⟨g, 0, none⟩ = some (.int .i64 a) ∧ w3.drew.rangeAt g 1 (cellsOf s)) := Lib.hid ⟨hd3.c1, atPiece hr1, secPiece hr1⟩
      have hmap : Hid (IsMap w3.drew t1.bl (lastTo d1.lasting d1.pieces k)) := Lib.hid hd3.last
      have hkeep : Hid (∀ W : World, Kept (· = t1.bl) w3.drew W → W.cell? ⟨p, 1, none⟩ = some (.map (some t1.bl)) ∧ W.cell? ⟨g, 0, none⟩ = some (.int .i64 a) ∧ W.rangeAt g 1 (cellsOf s)) := Lib.hid fun W hW => by
        have e1 : p ≠ t1.bl := fun e => by obtain ⟨es, clock, hb, _⟩ := hd3.last; have := hd3.row; unfold Row at this; rw [e, hb] at this; cases this
        have e2 : g ≠ t1.bl := fun e => by obtain ⟨es, clock, hb, _⟩ := hd3.last; have := hr1; unfold Row at this; rw [e, hb] at this; cases this
        have r1 : Row W p _ _ := (Row.drew hd3.row).kept hW e1
        have r2 : Row W g _ _ := (Row.drew hr1).kept hW e2
        exact ⟨r1.cell (by simp [diskCells]), atPiece r2, secPiece r2⟩
      have HD3 := Lib.hid hd3
      have HK3 : Hid (Kept F w1 w3) := Lib.hid (HKK.out.trans' hb1.kept)
      clear hr1 hb1 hs1 hg1 hd3
      go_wp2_with fail
      refine wp_region_held_drew (S := fun W => W.cell? ⟨p, 1, none⟩ = some (.map (some t1.bl)) ∧ W.cell? ⟨g, 0, none⟩ = some (.int .i64 a) ∧ W.rangeAt g 1 (cellsOf s)) (by kernel_rfl) hS.out (fun hHeld => ?_)
      refine wpAnyH_take (i := 0) (oi := ?_) (v := ?_) ?_ (by kernel_rfl) (by kernel_rfl) (by kernel_rfl) ?_ ?_ (by assumption) ?_
      rotate_left 2
      · simp only [List.getElem?_toArray, List.getElem?_cons_zero]; with_reducible rfl
      · exact fun _ _ _ h => h
      · refine Or.inl ⟨by rfl, ?_⟩; intro W hSw; go_simp; try with_reducible rfl
      try simp only [Act.put, List.setIfInBounds_toArray, List.set_cons_zero, List.set_cons_succ]
      refine wpAnyH_take (i := 1) (oi := ?_) (v := ?_) ?_ (by kernel_rfl) (by kernel_rfl) (by kernel_rfl) ?_ ?_ (by assumption) ?_
      rotate_left 2
      · simp only [List.getElem?_toArray, List.getElem?_cons_succ, List.getElem?_cons_zero]; with_reducible rfl
      · exact fun _ _ _ h => h
      · refine Or.inl ⟨by rfl, ?_⟩; intro W hSw; go_simp; try with_reducible rfl
      try simp only [Act.put, List.setIfInBounds_toArray, List.set_cons_zero, List.set_cons_succ]
      refine wpAnyH_take (i := 2) (oi := ?_) (v := ?_) ?_ (by kernel_rfl) (by kernel_rfl) (by kernel_rfl) ?_ ?_ (by assumption) ?_
      rotate_left 2
      · simp only [List.getElem?_toArray, List.getElem?_cons_succ, List.getElem?_cons_zero]; with_reducible rfl
      · exact fun _ _ _ h => h
      · refine Or.inl ⟨by rfl, ?_⟩; intro W hSw; go_simp; try with_reducible rfl
      try simp only [Act.put, List.setIfInBounds_toArray, List.set_cons_zero, List.set_cons_succ]
      refine wpAnyH_take (i := 4) (oi := ?_) (v := ?_) ?_ (by kernel_rfl) (by kernel_rfl) (by kernel_rfl) ?_ ?_ (by assumption) ?_
      rotate_left 2
      · simp only [List.getElem?_toArray, List.getElem?_cons_succ, List.getElem?_cons_zero]; with_reducible rfl
      · exact fun _ _ _ h => h
      · refine Or.inl ⟨by rfl, ?_⟩; intro W hSw; go_simp; try with_reducible rfl
      try simp only [Act.put, List.setIfInBounds_toArray, List.set_cons_zero, List.set_cons_succ]
      refine wpAnyH_take (i := 6) (oi := ?_) (v := ?_) ?_ (by kernel_rfl) (by kernel_rfl) (by kernel_rfl) ?_ ?_ (by assumption) ?_
      rotate_left 2
      · simp only [List.getElem?_toArray, List.getElem?_cons_succ, List.getElem?_cons_zero]; with_reducible rfl
      · exact fun _ _ _ h => h
      · refine Or.inl ⟨by rfl, ?_⟩; intro W hSw; go_simp; try with_reducible rfl
      try simp only [Act.put, List.setIfInBounds_toArray, List.set_cons_zero, List.set_cons_succ]
      refine wpAnyH_take (i := 3) (oi := ?_) (v := ?_) ?_ (by kernel_rfl) (by kernel_rfl) (by kernel_rfl) ?_ ?_ (by assumption) ?_
      rotate_left 2
      · simp only [List.getElem?_toArray, List.getElem?_cons_succ, List.getElem?_cons_zero]; with_reducible rfl
      · exact fun _ _ _ h => h
      · refine Or.inl ⟨by rfl, ?_⟩; intro W hSw; obtain ⟨hS1, hS2, hS3⟩ := hSw; go_simp; try with_reducible rfl
      try simp only [Act.put, List.setIfInBounds_toArray, List.set_cons_zero, List.set_cons_succ]
      refine wpAnyH_take (i := 5) (oi := ?_) (v := ?_) ?_ (by kernel_rfl) (by kernel_rfl) (by kernel_rfl) ?_ ?_ (by assumption) ?_
      rotate_left 2
      · simp only [List.getElem?_toArray, List.getElem?_cons_succ, List.getElem?_cons_zero]; with_reducible rfl
      · exact fun _ _ _ h => h
      · refine Or.inl ⟨by rfl, ?_⟩; intro W hSw; obtain ⟨hS1, hS2, hS3⟩ := hSw; go_simp; try with_reducible rfl
      try simp only [Act.put, List.setIfInBounds_toArray, List.set_cons_zero, List.set_cons_succ]
      refine wpAnyH_take (i := 7) (oi := ?_) (v := secV s) ?_ (by kernel_rfl) (by kernel_rfl) (by kernel_rfl) ?_ ?_ (by assumption) ?_
      rotate_left 1
      · simp only [List.getElem?_toArray, List.getElem?_cons_succ, List.getElem?_cons_zero]; with_reducible rfl
      · exact fun _ _ _ h => h
      · exact yieldsIf_load_mid (by rfl) 62 (.tmp 36) rfl g 1 rfl (cellsOf s) _ (fun W hW => hW.2.2) Try.underlying62 rfl hsi.out
      try simp only [Act.put, List.setIfInBounds_toArray, List.set_cons_zero, List.set_cons_succ]
      refine wpAnyH_ready (rs := [8]) (by kernel_rfl) (by simp) ?_
      refine AllReadyH.cons (o := ?_) ?_ (fun K hK => ?_) AllReadyH.nil
      rotate_left 1
      · simp only [List.getElem?_toArray, List.getElem?_cons_succ, List.getElem?_cons_zero]; with_reducible rfl
      rw [if_pos (by rfl)]
      refine wp_put (.tmp 33) (.tmp 35) (.tmp 37) rfl t1.bl _ hmap.out a s rfl rfl rfl hwf.out HS.out ?_
      intro w6 hm6 hk6
      have HM6 := Lib.hid hm6
      have HK6 := Lib.hid hk6
      refine hK.out _ _ (hkeep.out _ hk6) (fun hHeld2 => ?_)
      clear hK K hm6 hk6
      refine wpAnyH_done (by kernel_rfl) ?_ _
      have hrel : Hid (SyncRel F p d1 t1 w1 (k + 1) w6) := Lib.hid (by
        refine ⟨?_, HK3.out.drew.trans' (HK6.out.mono fun _ _ e => by rw [e]; exact HD3.out.fl)⟩
        rw [HC.out]
        exact (HD3.out.below (Below.refl _ _).drew).lastPut HM6.out HK6.out)
      clear HM6 HK6 HD3 HK3 hHeld hHeld2 hmap hkeep hS
      go_wp2
      exact ⟨⟨k + 1, by omega, by go_num, hrel.out⟩, by simp [intOf]; omega⟩
    · obtain rfl : k = keep := by omega
      have c3 := hdk.c3
      have f3 := hdk.free 3
      simp only [HVP.out] at c3
      have hcut := hdk.cut HVP.out (k := k) (by simp only; rw [HPE.out]; omega)
      have HP : Hid (∀ v, v = cutFrom Av d.pieces.length cv k 513 → SyncPost F p d w (.returned (.int .i64 er)) (wr.setCell ⟨p, 3, none⟩ v)) := Lib.hid fun v hv => by
        subst hv
        refine ⟨s1, by rw [HKE.out.2], ⟨{ t1 with vp := cutFrom Av d.pieces.length cv k 513 }, ?_⟩, ((HK1.out.mono fun _ _ e => by rw [e]; exact H.out.fp).trans' hkk).trans' (hcut.2.mono fun _ _ e => by rw [e]; exact H.out.fp)⟩
        · have := hcut.1
          rw [HKE.out.1]
          have e1 : syD d s1 k = { ({ d1 with lasting := lastTo d1.lasting d1.pieces k } : D) with pieces := d1.pieces.drop k } := by rw [HDE.out]; rfl
          rw [e1]
          exact this
      clear hdk hkk hcut
      by_cases hck : cv = k
      · have E : Hid (Value.slice Av (d.pieces.length - k) 0 = cutFrom Av d.pieces.length cv k 513) := Lib.hid (by simp [cutFrom, hck])
        subst hck
        go_wp2
        go_ret
        exact HP.out _ (by simp [cutFrom]; omega)
      · go_wp2
        go_ret
        exact HP.out _ (by simp [cutFrom, hck])
end Go.Proofs.Ytielinebhbhegaa
