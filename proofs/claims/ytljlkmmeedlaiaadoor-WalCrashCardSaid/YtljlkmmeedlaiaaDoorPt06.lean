/- Layer 2: Write. -/
import Derived.Test.YtljlkmmeedlaiaaDoorPt05
namespace Go.Proofs.YtljlkmmeedlaiaaDoor
open Go.RowKit

/-- The i-th sector of some bytes. -/
def secOf (l : List Nat) (i : Nat) : List Nat := (l.drop (i * 512)).take 512
def piecesW (at_ : Int) (l : List Nat) (k : Nat) : List (Int × List Nat) := (List.range k).map fun (i : Nat) => (at_ + (i : Int), secOf l i)
def readW (f : Int → List Nat) (at_ : Int) (l : List Nat) : Nat → Int → List Nat
  | 0 => f
  | k + 1 => upd (readW f at_ l k) (at_ + k) (secOf l k)
def wrD (d : D) (at_ : Int) (l : List Nat) (k : Nat) : D := { d with pieces := d.pieces ++ piecesW at_ l k, read := readW d.read at_ l k }
theorem secOf_sec {l : List Nat} {i n : Nat} (hs : Small l) (hl : l.length = n) (h : i * 512 + 512 ≤ n) : Sec (secOf l i) :=
  ⟨by unfold secOf; rw [List.length_take, List.length_drop]; omega, (hs.drop _).take _⟩
theorem piecesW_succ (at_ : Int) (l : List Nat) (k : Nat) : piecesW at_ l (k + 1) = piecesW at_ l k ++ [(at_ + k, secOf l k)] := by
  unfold piecesW; rw [List.range_succ, List.map_append]; rfl
theorem piecesW_length (at_ : Int) (l : List Nat) (k : Nat) : (piecesW at_ l k).length = k := by simp [piecesW]

theorem wrD_succ (d : D) (at_ : Int) (l : List Nat) (k : Nat) : wrD d at_ l (k + 1) = { wrD d at_ l k with pieces := (wrD d at_ l k).pieces ++ [(at_ + k, secOf l k)], read := upd (wrD d at_ l k).read (at_ + k) (secOf l k) } := by
  simp only [wrD, piecesW_succ, readW, List.append_assoc]
theorem Bytes.range {w : World} {b off n i : Nat} {l : List Nat} (h : Bytes w (some ⟨b, off, none⟩) n l) (hi : i * 512 + 512 ≤ n) : w.rangeAt b (off + i * 512) (cellsOf (secOf l i)) := by
  intro j v hv
  have hj : j < (secOf l i).length := by have := (List.getElem?_eq_some_iff.1 hv).1; rwa [cellsOf_length] at this
  have hj5 : j < 512 := by unfold secOf at hj; rw [List.length_take] at hj; omega
  obtain ⟨b', off', e, _, hc⟩ := h.2.2 (by omega)
  injection e with e
  injection e with e1 e2
  subst e1; subst e2
  have := hc (i * 512 + j) (by omega)
  rw [← Nat.add_assoc] at this
  rw [this, ← hv, cellsOf_get _ hj]
  congr 3
  unfold secOf
  simp [List.getD_eq_getElem?_getD, hj5]
/-- What a round of Write's loop has made. -/
def WriteRel (F : Nat → Prop) (p : Nat) (d : D) (t : Parts) (w : World) (at_ : Int) (l : List Nat) (k : Nat) (wr : World) : Prop :=
  ∃ vp, DiskIs wr (grow F w) p (wrD d at_ l k) { t with vp := vp } ∧ Kept F w wr

/-- Between a round's append and its store into the map. -/
def Mid (F : Nat → Prop) (p : Nat) (d : D) (t : Parts) (w1 : World) (at_ : Int) (l : List Nat) (k g : Nat) (W : World) : Prop :=
  ∃ vp, DiskIs W (grow F w1) p { wrD d at_ l k with pieces := (wrD d at_ l k).pieces ++ [(at_ + k, secOf l k)] } { t with vp := vp } ∧ Kept F w1 W ∧ Row W g 93 (pieceCells (at_ + k) (secOf l k)).toArray
def WritePost (F : Nat → Prop) (p : Nat) (d : D) (w : World) (at_ : Int) (l : List Nat) (m : Nat) (e : Ending) (w' : World) : Prop :=
  ∃ s, e = .returned (.int .i64 (stepOf d.fates m).2) ∧ DiskAt w' (grow F w) p (wrD { d with fates := d.fates.tail, steps := s } at_ l (stepOf d.fates m).1) ∧ Kept F w w'
theorem there_yes {F : Nat → Prop} (p : Nat) (d : D) (at_ : Int) (m : Nat) (w : World) (h : DiskAt w F p d) (h0 : 0 ≤ at_) (h1 : at_ + m ≤ d.size) :
    Calls Tryd.prog 67 #[.pointer (some ⟨p, 0, none⟩), .int .i64 at_, .int .i64 m] w fun e w' => e = .returned (.bool true) ∧ w = w' := by
  have hm : d.size ≤ 65536 := by obtain ⟨t, ht⟩ := h; exact ht.good.most
  refine (there_ok p d at_ m w h (WalkArith.wf_i64 (by omega))).mono fun e w' hh => ⟨?_, hh.2⟩
  rw [hh.1, thereB, decide_eq_true h0, decide_eq_true (by omega)]; rfl

set_option maxRecDepth 100000 in
set_option maxHeartbeats 2000000 in
theorem write_ok (F : Nat → Prop) (p : Nat) (d : D) (t : Parts) (at_ : Int) (A : Option Addr) (n m c : Nat) (l : List Nat) (w : World) (h : DiskIs w F p d t) (hA : Bytes w A n l) (hF : 0 < n → ∀ x, A = some x → ¬ F x.block) (hc : n ≤ c) (hcm : c ≤ 9223372036854775807)
    (hm : n = m * 512) (h0 : 0 ≤ at_) (h1 : at_ + m ≤ d.size) (hp : d.pieces.length ≤ 1000000) :
    Calls Tryd.prog 52 #[.pointer (some ⟨p, 0, none⟩), .int .i64 at_, .slice A n c] w (WritePost F p d w at_ l m) := by
  have hsz := h.good.most
  have H := Lib.hid h
  have HA := Lib.hid hA
  have HF := Lib.hid hF
  have hq : (n : Int) / 512 = m := by omega
  have hr : (n : Int) % 512 = 0 := by omega
  have HM := Lib.hid hm
  clear h hA hF hm
  go_enter Tryd.func52, Tryd.ntmps52
  go_wp2_with (first
    | (go_at_call 41; refine (none_ok p d _ ⟨t, H.out⟩).mono ?_; rintro e w' ⟨rfl, rfl⟩)
    | (go_at_call 67; refine (there_yes p d at_ m _ ⟨t, H.out⟩ h0 h1).mono ?_; rintro e w' ⟨rfl, rfl⟩)
    | (go_at_call 68; refine (step_ok F p d t m _ H.out (by omega)).mono ?_; rintro e w1 ⟨s1, vf1, rfl, hd1, hk1⟩))
  clear hq hr
  have HS := Lib.hid (stepOf_le d.fates m)
  obtain ⟨keep, hkp⟩ : ∃ keep, (stepOf d.fates m).1 = keep := ⟨_, rfl⟩
  obtain ⟨er, hee⟩ : ∃ er, (stepOf d.fates m).2 = er := ⟨_, rfl⟩
  have HKE : Hid ((stepOf d.fates m).1 = keep ∧ (stepOf d.fates m).2 = er) := Lib.hid ⟨hkp, hee⟩
  rw [hkp] at HS
  rw [hkp, hee]
  obtain ⟨d1, hd1e⟩ : ∃ d1 : D, d1 = { d with fates := d.fates.tail, steps := s1 } := ⟨_, rfl⟩
  obtain ⟨t1, ht1e⟩ : ∃ t1 : Parts, t1 = { t with vf := vf1 } := ⟨_, rfl⟩
  rw [← hd1e, ← ht1e] at hd1
  have HD1 := Lib.hid hd1
  have HDE := Lib.hid hd1e
  have HTE := Lib.hid ht1e
  have hA1 : Hid (Bytes w1 A n l) := Lib.hid (HA.out.kept hk1 fun h0 x hx e => HF.out h0 x hx (by rw [e]; exact H.out.fp))
  have HK1 := Lib.hid hk1
  have hkm := HS.out
  clear hd1 hd1e ht1e hk1 HS hkp hee
  go_loopw [36] (fun v36 wr => ∃ k : Nat, k ≤ keep ∧ v36 = .int .i64 k ∧ WriteRel F p d1 t1 w1 at_ l k wr) (fun v36 _ => keep - (intOf v36).toNat)
  case atStart => exact ⟨0, Nat.zero_le _, rfl, t1.vp, by
    have e : wrD d1 at_ l 0 = d1 := by simp [wrD, piecesW, readW]
    rw [e]
    exact HD1.out.mono fun _ => grow.old, Kept.refl _ _⟩
  case round =>
    obtain ⟨k, hk, rfl, vp, hdk, hkk⟩ := hrel
    by_cases hlt : k < keep
    · obtain ⟨b, off, rfl, hbl, hcb⟩ : ∃ b off, A = some ⟨b, off, none⟩ ∧ b < w1.heap.size ∧ ∀ i, i < n → w1.cell? ⟨b, off + i, none⟩ = some (.int .u8 (l.getD i 0 : Int)) := hA1.out.2.2 (by have := HM.out; omega)
      have HDK := Lib.hid hdk
      have HKK := Lib.hid hkk
      have HCB := Lib.hid hcb
      clear hdk hkk hcb
      have hat : at_ + (k : Int) < 65536 := by omega
      have hik : k * 512 + 512 ≤ n := by have := HM.out; omega
      have hck : ¬ c = k * 512 := by omega
      have hsec : Sec (secOf l k) := secOf_sec hA1.out.2.1 hA1.out.1 hik
      have HSEC := Lib.hid hsec
      clear hsec
      go_wp2_with (first
        | (refine wpList_build_piece ?_ (.tmp 41) ?_ (at_ + k) ?_ ?_
           · with_reducible rfl
           · with_reducible rfl
           · rfl)
        | (refine wpList_alloc_store ?_ ?_ 93 (.tmp 11) (.tmp 42) ?_ ?_ (pieceCells 0 zsec).toArray (pieceCells (at_ + k) zsec).toArray zeroPiece ?_ ?_ ?_ ?_ ?_ ?_
           · with_reducible rfl
           · with_reducible rfl
           · with_reducible rfl
           · with_reducible rfl
           · rw [infoPiece1]; simp [pieceCells_length Sec.zero]
           · simp [pieceCells_length Sec.zero]
           · exact all_oneCell_toArray (pieceCells_one _ _)
           · rfl
           · rfl
           intro g w2 hg hr2 hb2 hs2))
      simp only [Act.put, List.setIfInBounds_toArray, List.set_cons_zero, List.set_cons_succ]
      have hw1 : IntKind.i64.wrap ((k : Int) * 512) = (k : Int) * 512 := IntWalk.i64_in _ (by omega)
      have hw2 : (0 : Int) ≤ (k : Int) * 512 := by omega
      have hw3 : (k : Int) * 512 ≤ (n : Int) := by omega
      have hw4 : ((k : Int) * 512).toNat = k * 512 := by omega
      have hl1 : Hid ((cellsOf (secOf l k)).length = Nat.min (n - k * 512) 512) := Lib.hid (by rw [cellsOf_length, HSEC.out.1]; exact (Nat.min_eq_right (by omega)).symm)
      have hsrc : Hid (w2.rangeAt b (off + k * 512) (cellsOf (secOf l k))) := Lib.hid (((hA1.out.kept HKK.out HF.out).below hb2).range hik)
      have hr3 : Hid (w2.drew.heap[g]? = some (.cells (pieceCells (at_ + k) zsec).toArray 93 (0, 0))) := Lib.hid hr2
      have hb3 : Hid (Below wr.heap.size wr w2.drew) := Lib.hid hb2.drew
      have hlp : Hid ((pieceCells (at_ + k) zsec).length = 513) := Lib.hid (pieceCells_length Sec.zero)
      clear hr2 hb2 hs2
      have hft : Hid (1 + (cellsOf (secOf l k)).length ≤ (pieceCells (at_ + k) zsec).length) := Lib.hid (by rw [cellsOf_length, HSEC.out.1, hlp.out]; omega)
      go_region_law ((refine step_copy_splice rfl (.tmp 44) (.tmp 48) 41 41 rfl 5 Tryd.underlying41 sizeU8 (some ⟨g, 1, none⟩) (some ⟨b, off + k * 512, none⟩) 512 512 (n - k * 512) (c - k * 512) (by simp [Act.eval, Act.put]) (by simp [Act.eval, Act.put]) g 1 (pieceCells (at_ + k) zsec) 93 hr3.out (cellsOf (secOf l k)) hl1.out (fun _ => ⟨rfl, _, rfl, fun j v hv => by rw [Addr.add_lit]; exact hsrc.out j v hv⟩) hft.out (cellsOf_one _) wr.heap.size wr hb3.out (Nat.le_of_eq hg.out.symm) ?_); intro w3 hg3 hb4)
      clear hw1 hw2 hw3 hw4 hl1 hsrc hr3 hb3 hlp hft
      have hrow3 : Row w3 g 93 (pieceCells (at_ + k) (secOf l k)).toArray := by
        have := hg3.out
        rw [splice_piece _ _ HSEC.out] at this
        exact this
      have hd3 := HDK.out.below hb4
      obtain ⟨Av, cv, hv, hv1, hv2⟩ := hd3.pieces.form
      simp only at hv
      subst hv
      have hc3 := hd3.c3
      have hf3 := hd3.free 3
      have hp3 := hd3.row.lt
      have hpg : p ≠ g := fun e => by have h1 := hd3.row; have h2 := hrow3; unfold Row at h1 h2; rw [e, h2] at h1; injection h1 with h1; injection h1 with _ h1 _; exact absurd h1 (by decide)
      have HROW := Lib.hid hrow3
      have HD3 := Lib.hid hd3
      have HB4 := Lib.hid hb4
      have hpi : Hid ((Tryd.prog.info? 93).map (·.size) = some (pieceCells (at_ + k) (secOf l k)).length) := Lib.hid (by rw [infoPiece1, pieceCells_length HSEC.out])
      have hpl : Hid ((pieceCells (at_ + k) (secOf l k)).length = 1 * 513) := Lib.hid (by rw [pieceCells_length HSEC.out])
      have hb14 : Below w3.heap.size w3 (w3.drew.alloc (.cells (pieceCells (at_ + k) (secOf l k)).toArray 93)) := (Below.refl _ _).drew.alloc (Nat.le_refl _) _
      have HD14 := Lib.hid (hd3.below hb14)
      have HK14 : Hid (Kept F w1 (w3.drew.alloc (.cells (pieceCells (at_ + k) (secOf l k)).toArray 93))) := Lib.hid ((HKK.out.trans' hb4.kept).trans' hb14.kept)
      have HROW14 : Hid (Row (w3.drew.alloc (.cells (pieceCells (at_ + k) (secOf l k)).toArray 93)) g 93 (pieceCells (at_ + k) (secOf l k)).toArray) := Lib.hid (hrow3.call hb14)
      have hsrc14 : Hid (Source (w3.drew.alloc (.cells (pieceCells (at_ + k) (secOf l k)).toArray 93)) (some ⟨w3.heap.size, 0, none⟩) 1 (pieceCells (at_ + k) (secOf l k))) := Lib.hid (.inr ⟨_, rfl, World.news_of_block (w := w3.drew.alloc (.cells (pieceCells (at_ + k) (secOf l k)).toArray 93)) (heap_alloc_new w3.drew _)⟩)
      have hby : Hid (((wrD d1 at_ l k).pieces.length + 1) * 520 ≤ 140737488355328) := Lib.hid (by
        have : (wrD d1 at_ l k).pieces.length = d1.pieces.length + k := by simp [wrD, piecesW_length]
        have h9 : d1.pieces.length = d.pieces.length := by rw [HDE.out]
        omega)
      have hat0 : 0 ≤ at_ + (k : Int) := by omega
      have hat1 : Hid (at_ + (k : Int) < (wrD d1 at_ l k).size) := Lib.hid (by
        have : (wrD d1 at_ l k).size = d.size := by rw [HDE.out]; rfl
        rw [this]; omega)
      have hsp : Hid (¬ Spare (.slice Av (wrD d1 at_ l k).pieces.length cv) g) := Lib.hid fun hh => by
        have := HDK.out.pieces.spare hh
        have := hg.out
        omega
      have hpd : Hid (d1.size ≤ 65536) := Lib.hid (by rw [HDE.out]; exact hsz)
      clear hrow3 hd3 hb4 hg3 hb14
      go_upto_region 14 with (fail)
      go_cut [] (fun W => Mid F p d1 t1 w1 at_ l k g W)
      case first =>
        refine wp_region_any (by kernel_rfl) ?_
        change wpAny _ _ _ _ _ _ _ (World.drew _)
        refine wpAny_take (i := 0) (oi := ?_) (v := ?_) ?_ (by kernel_rfl) (by kernel_rfl) (by kernel_rfl) ?_ ?_ ?_
        rotate_left 2
        · simp only [List.getElem?_toArray, List.getElem?_cons_zero]; with_reducible rfl
        · exact fun _ _ _ h => h
        · refine Or.inl ⟨by rfl, ?_⟩; intro W; go_simp; try with_reducible rfl
        try simp only [Act.put, List.setIfInBounds_toArray, List.set_cons_zero, List.set_cons_succ]
        refine wpAny_take (i := 1) (oi := ?_) (v := ?_) ?_ (by kernel_rfl) (by kernel_rfl) (by kernel_rfl) ?_ ?_ ?_
        rotate_left 2
        · simp only [List.getElem?_toArray, List.getElem?_cons_succ, List.getElem?_cons_zero]; with_reducible rfl
        · exact fun _ _ _ h => h
        · refine Or.inl ⟨by rfl, ?_⟩; intro W; go_simp; try with_reducible rfl
        try simp only [Act.put, List.setIfInBounds_toArray, List.set_cons_zero, List.set_cons_succ]
        refine wpAny_take (i := 2) (oi := ?_) (v := ?_) ?_ (by kernel_rfl) (by kernel_rfl) (by kernel_rfl) ?_ ?_ ?_
        rotate_left 2
        · simp only [List.getElem?_toArray, List.getElem?_cons_succ, List.getElem?_cons_zero]; with_reducible rfl
        · exact fun _ _ _ h => h
        · refine Or.inl ⟨by rfl, ?_⟩; intro W; go_simp; try with_reducible rfl
        try simp only [Act.put, List.setIfInBounds_toArray, List.set_cons_zero, List.set_cons_succ]
        refine wpAny_take (i := 3) (oi := ?_) (v := ?_) ?_ (by kernel_rfl) (by kernel_rfl) (by kernel_rfl) ?_ ?_ ?_
        rotate_left 2
        · simp only [List.getElem?_toArray, List.getElem?_cons_succ, List.getElem?_cons_zero]; with_reducible rfl
        · exact fun _ _ _ h => h
        · refine Or.inl ⟨by rfl, ?_⟩; intro W; go_simp; try with_reducible rfl
        try simp only [Act.put, List.setIfInBounds_toArray, List.set_cons_zero, List.set_cons_succ]
        refine wpAny_ready (rs := [4, 5]) (by kernel_rfl) (by simp) ?_
        refine AllReady.cons (o := ?_) ?_ (fun K hK => ?_) ?_
        rotate_left 1
        · simp only [List.getElem?_toArray, List.getElem?_cons_succ, List.getElem?_cons_zero]; with_reducible rfl
        · rw [if_pos (by rfl)]
          go_simp
          refine hK _ _ ?_
          clear hK K
          try simp only [Act.put, List.setIfInBounds_toArray, List.set_cons_zero, List.set_cons_succ]
          refine wpAny_ready (rs := [5]) (by kernel_rfl) (by simp) ?_
          refine AllReady.cons (o := ?_) ?_ (fun K hK => ?_) AllReady.nil
          rotate_left 1
          · simp only [List.getElem?_toArray, List.getElem?_cons_succ, List.getElem?_cons_zero]; with_reducible rfl
          rw [if_pos (by rfl)]
          refine wp_load_mid 93 (.tmp 11) rfl g 0 rfl (pieceCells (at_ + k) (secOf l k)) _ (rowPiece HROW.out.drew) Tryd.underlying93 rfl hpi.out ?_
          refine hK _ _ ?_
          clear hK K
          change wpAny _ _ _ _ _ _ (Act.put _ _ (pieceV (at_ + k) (secOf l k))) _
          try simp only [Act.put, List.setIfInBounds_toArray, List.set_cons_zero, List.set_cons_succ]
          refine wpAny_ready (rs := [6]) (by kernel_rfl) (by simp) ?_
          refine AllReady.cons (o := ?_) ?_ (fun K hK => ?_) AllReady.nil
          rotate_left 1
          · simp only [List.getElem?_toArray, List.getElem?_cons_succ, List.getElem?_cons_zero]; with_reducible rfl
          rw [if_pos (by rfl)]
          refine wp_build_pieces (.tmp 55) rfl (at_ + k) (secOf l k) HSEC.out rfl ?_
          refine hK _ _ ?_
          clear hK K
          try simp only [Act.put, List.setIfInBounds_toArray, List.set_cons_zero, List.set_cons_succ]
          refine wpAny_ready (rs := [7]) (by kernel_rfl) (by simp) ?_
          refine AllReady.cons (o := ?_) ?_ (fun K hK => ?_) AllReady.nil
          rotate_left 1
          · simp only [List.getElem?_toArray, List.getElem?_cons_succ, List.getElem?_cons_zero]; with_reducible rfl
          refine step_append_any rfl (grow F w1) (.tmp 54) (.tmp 56) 76 rfl 93 513 520 (pieceV 0 zsec) Tryd.underlying76 infoPiece pieceV_size (by decide) (.slice Av (wrD d1 at_ l k).pieces.length cv) (wrD d1 at_ l k).pieces.length (pcs (wrD d1 at_ l k).pieces) rfl HD14.out.pieces _ 1 1 (pieceCells (at_ + k) (secOf l k)) rfl hpl.out hsrc14.out (pieceCells_one _ _) hby.out (by decide) ?_
          intro v' w4 hl4 hk4
          obtain ⟨A4, c4, rfl, _, _⟩ := hl4.form
          have HM4 := Lib.hid (mid_of HD14.out HK14.out HROW14.out hsp.out hat0 hat1.out HSEC.out hl4 hk4)
          have hc4 := (HD14.out.row_appended hk4).cell (i := 3) (v := .slice Av (wrD d1 at_ l k).pieces.length cv) (by simp [diskCells])
          have hf4 := (HD14.out.row_appended hk4).free 3
          clear hl4 hk4
          refine hK _ _ ?_
          clear hK K
          try simp only [Act.put, List.setIfInBounds_toArray, List.set_cons_zero, List.set_cons_succ]
          refine wpAny_take (i := 8) (oi := ?_) (v := ?_) ?_ (by kernel_rfl) (by kernel_rfl) (by kernel_rfl) ?_ ?_ ?_
          rotate_left 2
          · simp only [List.getElem?_toArray, List.getElem?_cons_succ, List.getElem?_cons_zero]; with_reducible rfl
          · exact fun _ _ _ h => h
          · refine Or.inl ⟨by rfl, ?_⟩; intro W; go_simp; try with_reducible rfl
          try simp only [Act.put, List.setIfInBounds_toArray, List.set_cons_zero, List.set_cons_succ]
          refine wpAny_take (i := 9) (oi := ?_) (v := ?_) ?_ (by kernel_rfl) (by kernel_rfl) (by kernel_rfl) ?_ ?_ ?_
          rotate_left 2
          · simp only [List.getElem?_toArray, List.getElem?_cons_succ, List.getElem?_cons_zero]; with_reducible rfl
          · exact fun _ _ _ h => h
          · refine Or.inl ⟨by rfl, ?_⟩; intro W; go_simp; try with_reducible rfl
          try simp only [Act.put, List.setIfInBounds_toArray, List.set_cons_zero, List.set_cons_succ]
          refine wpAny_ready (rs := [10]) (by kernel_rfl) (by simp) ?_
          refine AllReady.cons (o := ?_) ?_ (fun K hK => ?_) AllReady.nil
          rotate_left 1
          · simp only [List.getElem?_toArray, List.getElem?_cons_succ, List.getElem?_cons_zero]; with_reducible rfl
          rw [if_pos (by rfl)]
          go_simp
          refine hK _ _ ?_
          clear hK K
          refine wpAny_done (by kernel_rfl) ?_ _
          go_wp2_with fail
          go_meet
          exact HM4.out
        refine AllReady.cons (o := ?_) ?_ (fun K hK => ?_) AllReady.nil
        rotate_left 1
        · simp only [List.getElem?_toArray, List.getElem?_cons_succ, List.getElem?_cons_zero]; with_reducible rfl
        rw [if_pos (by rfl)]
        refine wp_load_mid 93 (.tmp 11) rfl g 0 rfl (pieceCells (at_ + k) (secOf l k)) _ (rowPiece HROW.out.drew) Tryd.underlying93 rfl hpi.out ?_
        refine hK _ _ ?_
        clear hK K
        change wpAny _ _ _ _ _ _ (Act.put _ _ (pieceV (at_ + k) (secOf l k))) _
        try simp only [Act.put, List.setIfInBounds_toArray, List.set_cons_zero, List.set_cons_succ]
        refine wpAny_ready (rs := [4, 6]) (by kernel_rfl) (by simp) ?_
        refine AllReady.cons (o := ?_) ?_ (fun K hK => ?_) ?_
        rotate_left 1
        · simp only [List.getElem?_toArray, List.getElem?_cons_succ, List.getElem?_cons_zero]; with_reducible rfl
        · rw [if_pos (by rfl)]
          go_simp
          refine hK _ _ ?_
          clear hK K
          try simp only [Act.put, List.setIfInBounds_toArray, List.set_cons_zero, List.set_cons_succ]
          refine wpAny_ready (rs := [6]) (by kernel_rfl) (by simp) ?_
          refine AllReady.cons (o := ?_) ?_ (fun K hK => ?_) AllReady.nil
          rotate_left 1
          · simp only [List.getElem?_toArray, List.getElem?_cons_succ, List.getElem?_cons_zero]; with_reducible rfl
          rw [if_pos (by rfl)]
          refine wp_build_pieces (.tmp 55) rfl (at_ + k) (secOf l k) HSEC.out rfl ?_
          refine hK _ _ ?_
          clear hK K
          try simp only [Act.put, List.setIfInBounds_toArray, List.set_cons_zero, List.set_cons_succ]
          refine wpAny_ready (rs := [7]) (by kernel_rfl) (by simp) ?_
          refine AllReady.cons (o := ?_) ?_ (fun K hK => ?_) AllReady.nil
          rotate_left 1
          · simp only [List.getElem?_toArray, List.getElem?_cons_succ, List.getElem?_cons_zero]; with_reducible rfl
          refine step_append_any rfl (grow F w1) (.tmp 54) (.tmp 56) 76 rfl 93 513 520 (pieceV 0 zsec) Tryd.underlying76 infoPiece pieceV_size (by decide) (.slice Av (wrD d1 at_ l k).pieces.length cv) (wrD d1 at_ l k).pieces.length (pcs (wrD d1 at_ l k).pieces) rfl HD14.out.pieces _ 1 1 (pieceCells (at_ + k) (secOf l k)) rfl hpl.out hsrc14.out (pieceCells_one _ _) hby.out (by decide) ?_
          intro v' w4 hl4 hk4
          obtain ⟨A4, c4, rfl, _, _⟩ := hl4.form
          have HM4 := Lib.hid (mid_of HD14.out HK14.out HROW14.out hsp.out hat0 hat1.out HSEC.out hl4 hk4)
          have hc4 := (HD14.out.row_appended hk4).cell (i := 3) (v := .slice Av (wrD d1 at_ l k).pieces.length cv) (by simp [diskCells])
          have hf4 := (HD14.out.row_appended hk4).free 3
          clear hl4 hk4
          refine hK _ _ ?_
          clear hK K
          try simp only [Act.put, List.setIfInBounds_toArray, List.set_cons_zero, List.set_cons_succ]
          refine wpAny_take (i := 8) (oi := ?_) (v := ?_) ?_ (by kernel_rfl) (by kernel_rfl) (by kernel_rfl) ?_ ?_ ?_
          rotate_left 2
          · simp only [List.getElem?_toArray, List.getElem?_cons_succ, List.getElem?_cons_zero]; with_reducible rfl
          · exact fun _ _ _ h => h
          · refine Or.inl ⟨by rfl, ?_⟩; intro W; go_simp; try with_reducible rfl
          try simp only [Act.put, List.setIfInBounds_toArray, List.set_cons_zero, List.set_cons_succ]
          refine wpAny_take (i := 9) (oi := ?_) (v := ?_) ?_ (by kernel_rfl) (by kernel_rfl) (by kernel_rfl) ?_ ?_ ?_
          rotate_left 2
          · simp only [List.getElem?_toArray, List.getElem?_cons_succ, List.getElem?_cons_zero]; with_reducible rfl
          · exact fun _ _ _ h => h
          · refine Or.inl ⟨by rfl, ?_⟩; intro W; go_simp; try with_reducible rfl
          try simp only [Act.put, List.setIfInBounds_toArray, List.set_cons_zero, List.set_cons_succ]
          refine wpAny_ready (rs := [10]) (by kernel_rfl) (by simp) ?_
          refine AllReady.cons (o := ?_) ?_ (fun K hK => ?_) AllReady.nil
          rotate_left 1
          · simp only [List.getElem?_toArray, List.getElem?_cons_succ, List.getElem?_cons_zero]; with_reducible rfl
          rw [if_pos (by rfl)]
          go_simp
          refine hK _ _ ?_
          clear hK K
          refine wpAny_done (by kernel_rfl) ?_ _
          go_wp2_with fail
          go_meet
          exact HM4.out
        refine AllReady.cons (o := ?_) ?_ (fun K hK => ?_) AllReady.nil
        rotate_left 1
        · simp only [List.getElem?_toArray, List.getElem?_cons_succ, List.getElem?_cons_zero]; with_reducible rfl
        rw [if_pos (by rfl)]
        refine wp_build_pieces (.tmp 55) rfl (at_ + k) (secOf l k) HSEC.out rfl ?_
        refine hK _ _ ?_
        clear hK K
        try simp only [Act.put, List.setIfInBounds_toArray, List.set_cons_zero, List.set_cons_succ]
        refine wpAny_ready (rs := [4]) (by kernel_rfl) (by simp) ?_
        refine AllReady.cons (o := ?_) ?_ (fun K hK => ?_) AllReady.nil
        rotate_left 1
        · simp only [List.getElem?_toArray, List.getElem?_cons_succ, List.getElem?_cons_zero]; with_reducible rfl
        rw [if_pos (by rfl)]
        go_simp
        refine hK _ _ ?_
        clear hK K
        try simp only [Act.put, List.setIfInBounds_toArray, List.set_cons_zero, List.set_cons_succ]
        refine wpAny_ready (rs := [7]) (by kernel_rfl) (by simp) ?_
        refine AllReady.cons (o := ?_) ?_ (fun K hK => ?_) AllReady.nil
        rotate_left 1
        · simp only [List.getElem?_toArray, List.getElem?_cons_succ, List.getElem?_cons_zero]; with_reducible rfl
        refine step_append_any rfl (grow F w1) (.tmp 54) (.tmp 56) 76 rfl 93 513 520 (pieceV 0 zsec) Tryd.underlying76 infoPiece pieceV_size (by decide) (.slice Av (wrD d1 at_ l k).pieces.length cv) (wrD d1 at_ l k).pieces.length (pcs (wrD d1 at_ l k).pieces) rfl HD14.out.pieces _ 1 1 (pieceCells (at_ + k) (secOf l k)) rfl hpl.out hsrc14.out (pieceCells_one _ _) hby.out (by decide) ?_
        intro v' w4 hl4 hk4
        obtain ⟨A4, c4, rfl, _, _⟩ := hl4.form
        have HM4 := Lib.hid (mid_of HD14.out HK14.out HROW14.out hsp.out hat0 hat1.out HSEC.out hl4 hk4)
        have hc4 := (HD14.out.row_appended hk4).cell (i := 3) (v := .slice Av (wrD d1 at_ l k).pieces.length cv) (by simp [diskCells])
        have hf4 := (HD14.out.row_appended hk4).free 3
        clear hl4 hk4
        refine hK _ _ ?_
        clear hK K
        try simp only [Act.put, List.setIfInBounds_toArray, List.set_cons_zero, List.set_cons_succ]
        refine wpAny_take (i := 8) (oi := ?_) (v := ?_) ?_ (by kernel_rfl) (by kernel_rfl) (by kernel_rfl) ?_ ?_ ?_
        rotate_left 2
        · simp only [List.getElem?_toArray, List.getElem?_cons_succ, List.getElem?_cons_zero]; with_reducible rfl
        · exact fun _ _ _ h => h
        · refine Or.inl ⟨by rfl, ?_⟩; intro W; go_simp; try with_reducible rfl
        try simp only [Act.put, List.setIfInBounds_toArray, List.set_cons_zero, List.set_cons_succ]
        refine wpAny_take (i := 9) (oi := ?_) (v := ?_) ?_ (by kernel_rfl) (by kernel_rfl) (by kernel_rfl) ?_ ?_ ?_
        rotate_left 2
        · simp only [List.getElem?_toArray, List.getElem?_cons_succ, List.getElem?_cons_zero]; with_reducible rfl
        · exact fun _ _ _ h => h
        · refine Or.inl ⟨by rfl, ?_⟩; intro W; go_simp; try with_reducible rfl
        try simp only [Act.put, List.setIfInBounds_toArray, List.set_cons_zero, List.set_cons_succ]
        refine wpAny_ready (rs := [10]) (by kernel_rfl) (by simp) ?_
        refine AllReady.cons (o := ?_) ?_ (fun K hK => ?_) AllReady.nil
        rotate_left 1
        · simp only [List.getElem?_toArray, List.getElem?_cons_succ, List.getElem?_cons_zero]; with_reducible rfl
        rw [if_pos (by rfl)]
        go_simp
        refine hK _ _ ?_
        clear hK K
        refine wpAny_done (by kernel_rfl) ?_ _
        go_wp2_with fail
        go_meet
        exact HM4.out
      case rest =>
        obtain ⟨v5, hd5, hk5, hr5⟩ := hcut
        have hS : Hid (wc.drew.cell? ⟨p, 2, none⟩ = some (.map (some t1.br)) ∧ wc.drew.cell? ⟨g, 0, none⟩ = some (.int .i64 (at_ + k)) ∧ wc.drew.rangeAt g 1 (cellsOf (secOf l k))) := Lib.hid ⟨hd5.c2, atPiece hr5, secPiece hr5⟩
        have hsi : Hid ((Tryd.prog.info? 90).map (·.size) = some (cellsOf (secOf l k)).length) := Lib.hid (by rw [infoSec1, cellsOf_length, HSEC.out.1])
        have hmap : Hid (IsMap wc.drew t1.br (wrD d1 at_ l k).read) := Lib.hid hd5.read
        have hwf : Hid ((Lit.int .i64 (at_ + (k : Int))).wf = true) := Lib.hid (WalkArith.wf_i64 (by omega))
        have hkeep : Hid (∀ W : World, Kept (· = t1.br) wc.drew W → W.cell? ⟨p, 2, none⟩ = some (.map (some t1.br)) ∧ W.cell? ⟨g, 0, none⟩ = some (.int .i64 (at_ + k)) ∧ W.rangeAt g 1 (cellsOf (secOf l k))) := Lib.hid fun W hW => by
          have e1 : p ≠ t1.br := fun e => by obtain ⟨es, clock, hb, _⟩ := hd5.read; have := hd5.row; unfold Row at this; rw [e, hb] at this; cases this
          have e2 : g ≠ t1.br := fun e => by obtain ⟨es, clock, hb, _⟩ := hd5.read; have := hr5; unfold Row at this; rw [e, hb] at this; cases this
          have r1 : Row W p _ _ := (Row.drew hd5.row).kept hW e1
          have r2 : Row W g _ _ := (Row.drew hr5).kept hW e2
          exact ⟨r1.cell (by simp [diskCells]), atPiece r2, secPiece r2⟩
        have HD5 := Lib.hid hd5
        have HK5 := Lib.hid hk5
        clear hd5 hk5 hr5
        go_wp2_with fail
        refine wp_region_held_drew (S := fun W => W.cell? ⟨p, 2, none⟩ = some (.map (some t1.br)) ∧ W.cell? ⟨g, 0, none⟩ = some (.int .i64 (at_ + k)) ∧ W.rangeAt g 1 (cellsOf (secOf l k))) (by kernel_rfl) hS.out (fun hHeld => ?_)
        refine wpAnyH_take (i := 0) (oi := ?_) (v := ?_) ?_ (by kernel_rfl) (by kernel_rfl) (by kernel_rfl) ?_ ?_ (by assumption) ?_
        rotate_left 2
        · simp only [List.getElem?_toArray, List.getElem?_cons_zero]; with_reducible rfl
        · exact fun _ _ _ h => h
        · refine Or.inl ⟨by rfl, ?_⟩; intro W hSw; go_simp; try with_reducible rfl
        try simp only [Act.put, List.setIfInBounds_toArray, List.set_cons_zero, List.set_cons_succ]
        refine wpAnyH_take (i := 1) (oi := ?_) (v := ?_) ?_ (by kernel_rfl) (by kernel_rfl) (by kernel_rfl) ?_ ?_ (by assumption) ?_
        rotate_left 2
        · simp only [List.getElem?_toArray, List.getElem?_cons_succ, List.getElem?_cons_zero]; with_reducible rfl
        · exact fun _ _ _ h => h
        · refine Or.inl ⟨by rfl, ?_⟩; intro W hSw; go_simp; try with_reducible rfl
        try simp only [Act.put, List.setIfInBounds_toArray, List.set_cons_zero, List.set_cons_succ]
        refine wpAnyH_take (i := 2) (oi := ?_) (v := ?_) ?_ (by kernel_rfl) (by kernel_rfl) (by kernel_rfl) ?_ ?_ (by assumption) ?_
        rotate_left 2
        · simp only [List.getElem?_toArray, List.getElem?_cons_succ, List.getElem?_cons_zero]; with_reducible rfl
        · exact fun _ _ _ h => h
        · refine Or.inl ⟨by rfl, ?_⟩; intro W hSw; go_simp; try with_reducible rfl
        try simp only [Act.put, List.setIfInBounds_toArray, List.set_cons_zero, List.set_cons_succ]
        refine wpAnyH_take (i := 4) (oi := ?_) (v := ?_) ?_ (by kernel_rfl) (by kernel_rfl) (by kernel_rfl) ?_ ?_ (by assumption) ?_
        rotate_left 2
        · simp only [List.getElem?_toArray, List.getElem?_cons_succ, List.getElem?_cons_zero]; with_reducible rfl
        · exact fun _ _ _ h => h
        · refine Or.inl ⟨by rfl, ?_⟩; intro W hSw; go_simp; try with_reducible rfl
        try simp only [Act.put, List.setIfInBounds_toArray, List.set_cons_zero, List.set_cons_succ]
        refine wpAnyH_take (i := 6) (oi := ?_) (v := ?_) ?_ (by kernel_rfl) (by kernel_rfl) (by kernel_rfl) ?_ ?_ (by assumption) ?_
        rotate_left 2
        · simp only [List.getElem?_toArray, List.getElem?_cons_succ, List.getElem?_cons_zero]; with_reducible rfl
        · exact fun _ _ _ h => h
        · refine Or.inl ⟨by rfl, ?_⟩; intro W hSw; go_simp; try with_reducible rfl
        try simp only [Act.put, List.setIfInBounds_toArray, List.set_cons_zero, List.set_cons_succ]
        refine wpAnyH_take (i := 3) (oi := ?_) (v := ?_) ?_ (by kernel_rfl) (by kernel_rfl) (by kernel_rfl) ?_ ?_ (by assumption) ?_
        rotate_left 2
        · simp only [List.getElem?_toArray, List.getElem?_cons_succ, List.getElem?_cons_zero]; with_reducible rfl
        · exact fun _ _ _ h => h
        · refine Or.inl ⟨by rfl, ?_⟩; intro W hSw; obtain ⟨hS1, hS2, hS3⟩ := hSw; go_simp; try with_reducible rfl
        try simp only [Act.put, List.setIfInBounds_toArray, List.set_cons_zero, List.set_cons_succ]
        refine wpAnyH_take (i := 5) (oi := ?_) (v := ?_) ?_ (by kernel_rfl) (by kernel_rfl) (by kernel_rfl) ?_ ?_ (by assumption) ?_
        rotate_left 2
        · simp only [List.getElem?_toArray, List.getElem?_cons_succ, List.getElem?_cons_zero]; with_reducible rfl
        · exact fun _ _ _ h => h
        · refine Or.inl ⟨by rfl, ?_⟩; intro W hSw; obtain ⟨hS1, hS2, hS3⟩ := hSw; go_simp; try with_reducible rfl
        try simp only [Act.put, List.setIfInBounds_toArray, List.set_cons_zero, List.set_cons_succ]
        refine wpAnyH_take (i := 7) (oi := ?_) (v := secV (secOf l k)) ?_ (by kernel_rfl) (by kernel_rfl) (by kernel_rfl) ?_ ?_ (by assumption) ?_
        rotate_left 1
        · simp only [List.getElem?_toArray, List.getElem?_cons_succ, List.getElem?_cons_zero]; with_reducible rfl
        · exact fun _ _ _ h => h
        · exact yieldsIf_load_mid (by rfl) 90 (.tmp 66) rfl g 1 rfl (cellsOf (secOf l k)) _ (fun W hW => hW.2.2) Tryd.underlying90 rfl hsi.out
        try simp only [Act.put, List.setIfInBounds_toArray, List.set_cons_zero, List.set_cons_succ]
        refine wpAnyH_ready (rs := [8]) (by kernel_rfl) (by simp) ?_
        refine AllReadyH.cons (o := ?_) ?_ (fun K hK => ?_) AllReadyH.nil
        rotate_left 1
        · simp only [List.getElem?_toArray, List.getElem?_cons_succ, List.getElem?_cons_zero]; with_reducible rfl
        rw [if_pos (by rfl)]
        refine wp_put (.tmp 63) (.tmp 65) (.tmp 67) rfl t1.br _ hmap.out (at_ + k) (secOf l k) rfl rfl rfl hwf.out HSEC.out ?_
        intro w6 hm6 hk6
        have HM6 := Lib.hid hm6
        have HK6 := Lib.hid hk6
        refine hK.out _ _ (hkeep.out _ hk6) (fun hHeld2 => ?_)
        clear hK K hm6 hk6
        refine wpAnyH_done (by kernel_rfl) ?_ _
        have hrel : Hid (WriteRel F p d1 t1 w1 at_ l (k + 1) w6) := Lib.hid (by
          refine ⟨v5, ?_, HK5.out.drew.trans (HK6.out.mono fun _ _ e => by rw [e]; exact HD5.out.fr)⟩
          rw [wrD_succ]
          exact (HD5.out.below (Below.refl _ _).drew).readPut HM6.out HK6.out)
        clear HM6 HK6 HD5 HK5 hHeld hHeld2 hmap hkeep hS
        go_wp2
        exact ⟨⟨k + 1, by omega, by go_num, hrel.out⟩, by simp [intOf]; omega⟩
    · obtain rfl : k = keep := by omega
      have HP : Hid (WritePost F p d w at_ l m (.returned (.int .i64 er)) wr) := Lib.hid (by
        refine ⟨s1, by rw [HKE.out.2], ⟨{ t1 with vp := vp }, ?_⟩, (HK1.out.mono fun _ _ e => by rw [e]; exact H.out.fp).trans (hkk.mono fun _ _ => grow.old)⟩
        · rw [HKE.out.1, ← HDE.out]
          exact hdk.mono fun x hx => by
            rcases hx with hx | hx
            · exact .inl hx
            · exact .inr (Nat.le_trans HK1.out.size hx))
      clear hdk hkk
      go_wp2
      go_ret
      exact HP.out

theorem write_no (v : Value) (at_ : Int) (A : Option Addr) (n c : Nat) (w : World) (h : NoDisk w v) :
    Calls Tryd.prog 52 #[v, .int .i64 at_, .slice A n c] w fun e w' => e = .returned (.int .i64 1) ∧ w = w' := by
  have H := Lib.hid h
  clear h
  go_enter Tryd.func52, Tryd.ntmps52
  go_wp2_with (go_at_call 41; refine (none_no v _ H.out).mono ?_; rintro e w' ⟨rfl, rfl⟩)
  go_ret
  exact ⟨rfl, rfl⟩
theorem write_arg {F : Nat → Prop} (p : Nat) (d : D) (at_ : Int) (A : Option Addr) (n c : Nat) (w : World) (h : DiskAt w F p d) (hn : n % 512 ≠ 0) :
    Calls Tryd.prog 52 #[.pointer (some ⟨p, 0, none⟩), .int .i64 at_, .slice A n c] w fun e w' => e = .returned (.int .i64 2) ∧ w = w' := by
  have H := Lib.hid h
  have hr : ((n : Int) % 512 != 0) = true := by simp; omega
  clear h hn
  go_enter Tryd.func52, Tryd.ntmps52
  go_wp2_with (go_at_call 41; refine (none_ok p d _ H.out).mono ?_; rintro e w' ⟨rfl, rfl⟩)
  go_ret
  exact ⟨rfl, rfl⟩
theorem there_not {F : Nat → Prop} (p : Nat) (d : D) (at_ n : Int) (w : World) (h : DiskAt w F p d) (hw : (Lit.int .i64 at_).wf = true) (ht : thereB d.size at_ n = false) :
    Calls Tryd.prog 67 #[.pointer (some ⟨p, 0, none⟩), .int .i64 at_, .int .i64 n] w fun e w' => e = .returned (.bool false) ∧ w = w' :=
  (there_ok p d at_ n w h hw).mono fun e w' hh => ⟨by rw [hh.1, ht], hh.2⟩
theorem write_range {F : Nat → Prop} (p : Nat) (d : D) (at_ : Int) (A : Option Addr) (n m c : Nat) (w : World) (h : DiskAt w F p d) (hn : n = m * 512) (hb : n ≤ 9223372036854775807) (hw : (Lit.int .i64 at_).wf = true) (ht : thereB d.size at_ m = false) :
    Calls Tryd.prog 52 #[.pointer (some ⟨p, 0, none⟩), .int .i64 at_, .slice A n c] w fun e w' => e = .returned (.int .i64 4) ∧ w = w' := by
  have H := Lib.hid h
  have hq : (n : Int) / 512 = m := by omega
  have hr : (n : Int) % 512 = 0 := by omega
  have hmb : (m : Int) ≤ 9223372036854775807 := by omega
  have HT := Lib.hid ht
  clear h hn ht
  go_enter Tryd.func52, Tryd.ntmps52
  go_wp2_with (first
    | (go_at_call 41; refine (none_ok p d _ H.out).mono ?_; rintro e w' ⟨rfl, rfl⟩)
    | (go_at_call 67; refine (there_not p d at_ m _ H.out hw HT.out).mono ?_; rintro e w' ⟨rfl, rfl⟩))
  go_ret
  exact ⟨rfl, rfl⟩
end Go.Proofs.YtljlkmmeedlaiaaDoor
