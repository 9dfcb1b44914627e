/- Layer 2: Copy. -/
import Derived.Test.YtielinebhbhegaaDskPieces
namespace Go.Proofs.Ytielinebhbhegaa
open Go.RowKit

section
variable {w : World} {F : Nat → Prop} {p : Nat} {d : D} {t : Parts}
theorem DiskIs.setRead (h : DiskIs w F p d t) {m : Nat} {f : Int → List Nat} (hm : IsMap w m f) (hne : t.bl ≠ m) (hF : F m) :
    DiskIs (w.setCell ⟨p, 2, none⟩ (.map (some m))) F p { d with read := f } { t with br := m } := by
  have k1 := Kept.cell w p 2 (.map (some m))
  refine ⟨⟨h.good.pos, h.good.most, h.good.piece⟩, ?_, h.fp, h.fl, hF, hne, h.last.row h.row k1, hm.row h.row k1, h.pieces.row h.row (by decide) k1, h.fates.row h.row (by decide) k1⟩
  have := h.row.set_ 2 (.map (some m))
  simpa [diskCells] using this
theorem DiskIs.setPieces (h : DiskIs w F p d t) {v : Value} {ps : List (Int × List Nat)} (hl : Lies w F 64 513 v ps.length (pcs ps)) (hg : ∀ q ∈ ps, 0 ≤ q.1 ∧ q.1 < d.size ∧ Sec q.2) :
    DiskIs (w.setCell ⟨p, 3, none⟩ v) F p { d with pieces := ps } { t with vp := v } := by
  have k1 := Kept.cell w p 3 v
  refine ⟨⟨h.good.pos, h.good.most, hg⟩, ?_, h.fp, h.fl, h.fr, h.ne, h.last.row h.row k1, h.read.row h.row k1, hl.row h.row (by decide) k1, h.fates.row h.row (by decide) k1⟩
  have := h.row.set_ 3 v
  simpa [diskCells] using this
theorem DiskIs.setFates (h : DiskIs w F p d t) {v : Value} {fs : List (Int × Int)} (hl : Lies w F 58 2 v fs.length (fcs fs)) :
    DiskIs (w.setCell ⟨p, 4, none⟩ v) F p { d with fates := fs } { t with vf := v } := by
  have k1 := Kept.cell w p 4 v
  refine ⟨⟨h.good.pos, h.good.most, h.good.piece⟩, ?_, h.fp, h.fl, h.fr, h.ne, h.last.row h.row k1, h.read.row h.row k1, h.pieces.row h.row (by decide) k1, hl.row h.row (by decide) k1⟩
  have := h.row.set_ 4 v
  simpa [diskCells] using this
end
def CopyPost (w : World) (d : D) (e : Ending) (w' : World) : Prop :=
  ∃ p, e = .returned (.pointer (some ⟨p, 0, none⟩)) ∧ DiskAt w' (grow noBlock w) p d ∧ Below w.heap.size w w'

set_option maxRecDepth 100000 in
set_option maxHeartbeats 2000000 in
theorem copy_ok {F : Nat → Prop} (p : Nat) (d : D) (w : World) (h : DiskAt w F p d) (hpl : d.pieces.length ≤ 1000000) (hfl : d.fates.length ≤ 1000000) :
    Calls Try.prog 12 #[.pointer (some ⟨p, 0, none⟩)] w (CopyPost w d) := by
  have H := Lib.hid h
  obtain ⟨t, ht⟩ := h
  have HA : Hid (∀ W, Below w.heap.size w W → DiskIs W F p d t) := Lib.hid fun W hb => ht.below hb
  have hS : Hid (∀ W, Below w.heap.size w W → W.cell? ⟨p, 0, none⟩ = some (.int .i64 d.size) ∧ W.cell? ⟨p, 1, none⟩ = some (.map (some t.bl))) := Lib.hid fun W hb => ⟨(ht.below hb).c0, (ht.below hb).c1⟩
  have hlast : Hid (∀ W, Below w.heap.size w W → IsMap W t.bl d.lasting) := Lib.hid fun W hb => (ht.below hb).last
  have hsz := ht.good.most
  have hpos := ht.good.pos
  have hps : Hid (∀ q ∈ d.pieces, 0 ≤ q.1 ∧ q.1 < d.size ∧ Sec q.2) := Lib.hid ht.good.piece
  obtain ⟨Av, cv, hv, hv1, hv2, hvh⟩ := ht.pieces.holds
  obtain ⟨Af, cf, hf, hf1, hf2, hfh⟩ := ht.fates.holds
  have HV := Lib.hid hv
  have HF := Lib.hid hf
  have HVH : Hid (∀ W, Below w.heap.size w W → Holds W Av d.pieces.length 513 (pcs d.pieces)) := Lib.hid fun W hb => hvh.below hb
  have HFH : Hid (∀ W, Below w.heap.size w W → Holds W Af d.fates.length 2 (fcs d.fates)) := Lib.hid fun W hb => hfh.below hb
  clear ht hv hf hvh hfh
  go_enter Try.func12, Try.ntmps12
  go_wp2_with (go_at_call 20; refine (none_ok p d _ H.out).mono ?_; rintro e w' ⟨rfl, rfl⟩)
  refine wp_region_held_drew (S := fun W => W.cell? ⟨p, 0, none⟩ = some (.int .i64 d.size) ∧ W.cell? ⟨p, 1, none⟩ = some (.map (some t.bl))) (by kernel_rfl) (hS.out _ (Below.refl _ _).drew) (fun hHeld => ?_)
  refine wpAnyH_take (i := 0) (oi := ?_) (v := ?_) ?_ (by kernel_rfl) (by kernel_rfl) (by kernel_rfl) ?_ ?_ (by assumption) ?_
  rotate_left 2
  · simp only [List.getElem?_toArray, List.getElem?_cons_zero]; with_reducible rfl
  · exact fun _ _ _ h => h
  · refine Or.inl ⟨by rfl, ?_⟩; intro W hSw; go_simp; try with_reducible rfl
  try simp only [Act.put, List.setIfInBounds_toArray, List.set_cons_zero, List.set_cons_succ]
  refine wpAnyH_take (i := 1) (oi := ?_) (v := ?_) ?_ (by kernel_rfl) (by kernel_rfl) (by kernel_rfl) ?_ ?_ (by assumption) ?_
  rotate_left 2
  · simp only [List.getElem?_toArray, List.getElem?_cons_succ, List.getElem?_cons_zero]; with_reducible rfl
  · exact fun _ _ _ h => h
  · refine Or.inl ⟨by rfl, ?_⟩; intro W hSw; go_simp; try with_reducible rfl
  try simp only [Act.put, List.setIfInBounds_toArray, List.set_cons_zero, List.set_cons_succ]
  refine wpAnyH_take (i := 2) (oi := ?_) (v := ?_) ?_ (by kernel_rfl) (by kernel_rfl) (by kernel_rfl) ?_ ?_ (by assumption) ?_
  rotate_left 2
  · simp only [List.getElem?_toArray, List.getElem?_cons_succ, List.getElem?_cons_zero]; with_reducible rfl
  · exact fun _ _ _ h => h
  · refine Or.inl ⟨by rfl, ?_⟩; intro W hSw; go_simp; try with_reducible rfl
  try simp only [Act.put, List.setIfInBounds_toArray, List.set_cons_zero, List.set_cons_succ]
  refine wpAnyH_take (i := 3) (oi := ?_) (v := ?_) ?_ (by kernel_rfl) (by kernel_rfl) (by kernel_rfl) ?_ ?_ (by assumption) ?_
  rotate_left 2
  · simp only [List.getElem?_toArray, List.getElem?_cons_succ, List.getElem?_cons_zero]; with_reducible rfl
  · exact fun _ _ _ h => h
  · refine Or.inl ⟨by rfl, ?_⟩; intro W hSw; obtain ⟨hS1, hS2⟩ := hSw; go_simp; try with_reducible rfl
  try simp only [Act.put, List.setIfInBounds_toArray, List.set_cons_zero, List.set_cons_succ]
  refine wpAnyH_take (i := 4) (oi := ?_) (v := ?_) ?_ (by kernel_rfl) (by kernel_rfl) (by kernel_rfl) ?_ ?_ (by assumption) ?_
  rotate_left 2
  · simp only [List.getElem?_toArray, List.getElem?_cons_succ, List.getElem?_cons_zero]; with_reducible rfl
  · exact fun _ _ _ h => h
  · refine Or.inl ⟨by rfl, ?_⟩; intro W hSw; go_simp; try with_reducible rfl
  try simp only [Act.put, List.setIfInBounds_toArray, List.set_cons_zero, List.set_cons_succ]
  refine wpAnyH_take (i := 5) (oi := ?_) (v := ?_) ?_ (by kernel_rfl) (by kernel_rfl) (by kernel_rfl) ?_ ?_ (by assumption) ?_
  rotate_left 2
  · simp only [List.getElem?_toArray, List.getElem?_cons_succ, List.getElem?_cons_zero]; with_reducible rfl
  · exact fun _ _ _ h => h
  · refine Or.inl ⟨by rfl, ?_⟩; intro W hSw; go_simp; try with_reducible rfl
  try simp only [Act.put, List.setIfInBounds_toArray, List.set_cons_zero, List.set_cons_succ]
  refine wpAnyH_take (i := 6) (oi := ?_) (v := ?_) ?_ (by kernel_rfl) (by kernel_rfl) (by kernel_rfl) ?_ ?_ (by assumption) ?_
  rotate_left 2
  · simp only [List.getElem?_toArray, List.getElem?_cons_succ, List.getElem?_cons_zero]; with_reducible rfl
  · exact fun _ _ _ h => h
  · refine Or.inl ⟨by rfl, ?_⟩; intro W hSw; go_simp; try with_reducible rfl
  try simp only [Act.put, List.setIfInBounds_toArray, List.set_cons_zero, List.set_cons_succ]
  refine wpAnyH_take (i := 7) (oi := ?_) (v := ?_) ?_ (by kernel_rfl) (by kernel_rfl) (by kernel_rfl) ?_ ?_ (by assumption) ?_
  rotate_left 2
  · simp only [List.getElem?_toArray, List.getElem?_cons_succ, List.getElem?_cons_zero]; with_reducible rfl
  · exact fun _ _ _ h => h
  · refine Or.inl ⟨by rfl, ?_⟩; intro W hSw; obtain ⟨hS1, hS2⟩ := hSw; go_simp; try with_reducible rfl
  try simp only [Act.put, List.setIfInBounds_toArray, List.set_cons_zero, List.set_cons_succ]
  refine wpAnyH_ready (rs := [8]) (by kernel_rfl) (by simp) ?_
  refine AllReadyH.cons (o := ?_) ?_ (fun K hK => ?_) AllReadyH.nil
  rotate_left 1
  · simp only [List.getElem?_toArray, List.getElem?_cons_succ, List.getElem?_cons_zero]; with_reducible rfl
  rw [if_pos (by rfl)]
  go_simp
  refine (cloneMap_ok t.bl d.lasting _ (hlast.out _ (Below.refl _ _).drew)).mono ?_
  rintro e w2 ⟨rfl, hm2, hb2, hs2⟩
  have HM2 : Hid (IsMap w2 w.heap.size d.lasting) := Lib.hid hm2
  have HB2 : Hid (Below w.heap.size w w2) := Lib.hid (((Below.refl _ _).drew).call hb2)
  clear hm2 hb2 hs2
  refine hK.out _ _ (hS.out _ HB2.out) (fun hHeld2 => ?_)
  clear hK K
  try simp only [Act.put, List.setIfInBounds_toArray, List.set_cons_zero, List.set_cons_succ]
  refine wpAnyH_ready (rs := [9]) (by kernel_rfl) (by simp) ?_
  refine AllReadyH.cons (o := ?_) ?_ (fun K hK => ?_) AllReadyH.nil
  rotate_left 1
  · simp only [List.getElem?_toArray, List.getElem?_cons_succ, List.getElem?_cons_zero]; with_reducible rfl
  rw [if_pos (by rfl)]
  go_simp
  refine (laid_ok d.size w.heap.size d.lasting _ HM2.out hpos hsz).mono ?_
  rintro e w3 ⟨p3, t3, rfl, hd3, htp, htf, hp3, hb3⟩
  have HD3 := Lib.hid hd3
  have HTP := Lib.hid htp
  have HTF := Lib.hid htf
  have HB3 : Hid (Below w.heap.size w w3) := Lib.hid (HB2.out.call hb3)
  have HP3 : Hid (w.heap.size ≤ p3 ∧ w2.heap.size ≤ p3) := Lib.hid ⟨Nat.le_trans HB2.out.size hp3, hp3⟩
  clear hd3 htp htf hp3 hb3
  refine hK.out _ _ (hS.out _ HB3.out) (fun hHeld3 => ?_)
  clear hK K
  try simp only [Act.put, List.setIfInBounds_toArray, List.set_cons_zero, List.set_cons_succ]
  refine wpAnyH_take (i := 10) (oi := ?_) (v := ?_) ?_ (by kernel_rfl) (by kernel_rfl) (by kernel_rfl) ?_ ?_ (by assumption) ?_
  rotate_left 2
  · simp only [List.getElem?_toArray, List.getElem?_cons_succ, List.getElem?_cons_zero]; with_reducible rfl
  · exact fun _ _ _ h => h
  · refine Or.inl ⟨by rfl, ?_⟩; intro W hSw; go_simp; try with_reducible rfl
  try simp only [Act.put, List.setIfInBounds_toArray, List.set_cons_zero, List.set_cons_succ]
  refine wpAnyH_done (by kernel_rfl) ?_ _
  have c2 := (HA.out _ HB3.out).c2
  go_wp2_with fail
  refine (cloneMap_ok t.br d.read _ (HA.out _ HB3.out).read).mono ?_
  rintro e w4 ⟨rfl, hm4, hb4, hs4⟩
  have hd4 := HD3.out.below hb4
  have e2 := hd4.c2
  have f2 := hd4.free 2
  have hd5 := hd4.setRead hm4 (by have := HD3.out.last.lt; omega) (.inr (by have := HB3.out.size; have := HP3.out; have := HD3.out.row.lt; omega))
  have hB5 : Below w.heap.size w (w4.setCell ⟨p3, 2, none⟩ (.map (some w3.heap.size))) := (HB3.out.call hb4).setCell (p := ⟨p3, 2, none⟩) HP3.out.1 _
  have HD5 := Lib.hid hd5
  have HB5 := Lib.hid hB5
  have c3 := (HA.out _ hB5).c3
  rw [HV.out] at c3
  have HSZ : Hid (w2.heap.size ≤ (w4.setCell ⟨p3, 2, none⟩ (.map (some w3.heap.size))).heap.size) := Lib.hid (by
    have h1 := HP3.out.2
    have h2 := HD3.out.row.lt
    have h3 := hb4.size
    simp
    omega)
  clear hm4 hb4 hs4 hd4 hd5 hB5 c2
  go_wp2_with fail
  clear c3
  generalize w4.setCell ⟨p3, 2, none⟩ (.map (some w3.heap.size)) = W5 at *
  refine (clonePieces Av cv d.pieces _ (HVH.out _ HB5.out) hpl (fun q hq => (hps.out q hq).2.2)).mono ?_
  rintro e w6 ⟨v6, rfl, hl6, hb6⟩
  obtain ⟨A6, c6, rfl, _, _⟩ := hl6.form
  have hd6 := HD5.out.below hb6
  have e3 := hd6.c3
  have f3 := hd6.free 3
  have hd7 := hd6.setPieces (hl6.mono (G := fun k => k = w.heap.size ∨ w2.heap.size ≤ k) fun k hk => .inr (by
    rcases hk with hk | hk
    · exact hk.elim
    · exact Nat.le_trans HSZ.out hk)) hps.out
  have hB7 : Below w.heap.size w (w6.setCell ⟨p3, 3, none⟩ (.slice A6 d.pieces.length c6)) := (HB5.out.call hb6).setCell (p := ⟨p3, 3, none⟩) HP3.out.1 _
  have HD7 := Lib.hid hd7
  have HB7 := Lib.hid hB7
  have c4 := (HA.out _ hB7).c4
  rw [HF.out] at c4
  have HSZ7 : Hid (w2.heap.size ≤ (w6.setCell ⟨p3, 3, none⟩ (.slice A6 d.pieces.length c6)).heap.size) := Lib.hid (by
    have h1 := HSZ.out
    have h3 := hb6.size
    simp
    omega)
  clear hl6 hb6 hd6 hd7 hB7
  go_wp2_with fail
  clear c4
  generalize w6.setCell ⟨p3, 3, none⟩ (.slice A6 d.pieces.length c6) = W7 at *
  refine (cloneFates Af cf d.fates _ (HFH.out _ HB7.out) hfl).mono ?_
  rintro e w8 ⟨v8, rfl, hl8, hb8⟩
  obtain ⟨A8, c8, rfl, _, _⟩ := hl8.form
  have hd8 := HD7.out.below hb8
  have e4 := hd8.c4
  have f4 := hd8.free 4
  have hd9 := hd8.setFates (hl8.mono (G := fun k => k = w.heap.size ∨ w2.heap.size ≤ k) fun k hk => .inr (by
    rcases hk with hk | hk
    · exact hk.elim
    · exact Nat.le_trans HSZ7.out hk))
  have hB9 : Below w.heap.size w (w8.setCell ⟨p3, 4, none⟩ (.slice A8 d.fates.length c8)) := (HB7.out.call hb8).setCell (p := ⟨p3, 4, none⟩) HP3.out.1 _
  have HD9 := Lib.hid hd9
  have HB9 := Lib.hid hB9
  have c5 := (HA.out _ hB9).c5
  have e5 := hd9.c5
  have f5 := hd9.free 5
  clear hl8 hb8 hd8 hd9 hB9
  go_wp2
  go_ret
  have hst := HD9.out.stepped0 d.steps
  exact ⟨p3, rfl, ⟨_, hst.1.mono fun k hk => by
    rcases hk with hk | hk
    · exact .inr (Nat.le_of_eq hk.symm)
    · exact .inr (Nat.le_trans HB2.out.size hk)⟩, HB9.out.setCell (p := ⟨p3, 5, none⟩) HP3.out.1 _⟩
end Go.Proofs.Ytielinebhbhegaa
