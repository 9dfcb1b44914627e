/- Layer 2: Copy. -/
import Derived.Test.YtljlkmmeedlaiaaDoorPt18
import Derived.Stop.BytesEq
import Derived.Maps.Range
namespace Go.Proofs.YtljlkmmeedlaiaaDoor
open Go.RowKit

section
variable {w : World} {F : Nat → Prop} {p : Nat} {d : D} {t : Parts}
theorem DiskIs.setRead (h : DiskIs w F p d t) {m : Nat} {f : Int → List Nat} (hm : IsMap w m f) (hne : t.bl ≠ m) (hF : F m) :
    DiskIs (w.setCell ⟨p, 2, none⟩ (.map (some m))) F p { d with read := f } { t with br := m } := by
  have k1 := Kept.cell w p 2 (.map (some m))
  refine ⟨⟨h.good.pos, h.good.most, h.good.piece⟩, ?_, h.fp, h.fl, hF, hne, h.last.row h.row k1, hm.row h.row k1, h.pieces.row h.row (by decide) k1, h.fates.row h.row (by decide) k1⟩
  have := h.row.set_ 2 (.map (some m))
  simpa [diskCells] using this
theorem DiskIs.setPieces (h : DiskIs w F p d t) {v : Value} {ps : List (Int × List Nat)} (hl : Lies w F 93 513 v ps.length (pcs ps)) (hg : ∀ q ∈ ps, 0 ≤ q.1 ∧ q.1 < d.size ∧ Sec q.2) :
    DiskIs (w.setCell ⟨p, 3, none⟩ v) F p { d with pieces := ps } { t with vp := v } := by
  have k1 := Kept.cell w p 3 v
  refine ⟨⟨h.good.pos, h.good.most, hg⟩, ?_, h.fp, h.fl, h.fr, h.ne, h.last.row h.row k1, h.read.row h.row k1, hl.row h.row (by decide) k1, h.fates.row h.row (by decide) k1⟩
  have := h.row.set_ 3 v
  simpa [diskCells] using this
theorem DiskIs.setFates (h : DiskIs w F p d t) {v : Value} {fs : List (Int × Int)} (hl : Lies w F 75 2 v fs.length (fcs fs)) :
    DiskIs (w.setCell ⟨p, 4, none⟩ v) F p { d with fates := fs } { t with vf := v } := by
  have k1 := Kept.cell w p 4 v
  refine ⟨⟨h.good.pos, h.good.most, h.good.piece⟩, ?_, h.fp, h.fl, h.fr, h.ne, h.last.row h.row k1, h.read.row h.row k1, h.pieces.row h.row (by decide) k1, hl.row h.row (by decide) k1⟩
  have := h.row.set_ 4 v
  simpa [diskCells] using this
end
def CopyPost (w : World) (d : D) (e : Ending) (w' : World) : Prop :=
  ∃ p, e = .returned (.pointer (some ⟨p, 0, none⟩)) ∧ DiskAt w' (grow noBlock w) p d ∧ Below w.heap.size w w'

set_option maxRecDepth 100000 in
set_option maxHeartbeats 2000000 in
theorem copy_ok {F : Nat → Prop} (p : Nat) (d : D) (w : World) (h : DiskAt w F p d) (hpl : d.pieces.length ≤ 1000000) (hfl : d.fates.length ≤ 1000000) :
    Calls Tryd.prog 16 #[.pointer (some ⟨p, 0, none⟩)] w (CopyPost w d) := by
  have H := Lib.hid h
  obtain ⟨t, ht⟩ := h
  have HA : Hid (∀ W, Below w.heap.size w W → DiskIs W F p d t) := Lib.hid fun W hb => ht.below hb
  have hS : Hid (∀ W, Below w.heap.size w W → W.cell? ⟨p, 0, none⟩ = some (.int .i64 d.size) ∧ W.cell? ⟨p, 1, none⟩ = some (.map (some t.bl))) := Lib.hid fun W hb => ⟨(ht.below hb).c0, (ht.below hb).c1⟩
  have hlast : Hid (∀ W, Below w.heap.size w W → IsMap W t.bl d.lasting) := Lib.hid fun W hb => (ht.below hb).last
  have hsz := ht.good.most
  have hpos := ht.good.pos
  have hps : Hid (∀ q ∈ d.pieces, 0 ≤ q.1 ∧ q.1 < d.size ∧ Sec q.2) := Lib.hid ht.good.piece
  obtain ⟨Av, cv, hv, hv1, hv2, hvh⟩ := ht.pieces.holds
  obtain ⟨Af, cf, hf, hf1, hf2, hfh⟩ := ht.fates.holds
  have HV := Lib.hid hv
  have HF := Lib.hid hf
  have HVH : Hid (∀ W, Below w.heap.size w W → Holds W Av d.pieces.length 513 (pcs d.pieces)) := Lib.hid fun W hb => hvh.below hb
  have HFH : Hid (∀ W, Below w.heap.size w W → Holds W Af d.fates.length 2 (fcs d.fates)) := Lib.hid fun W hb => hfh.below hb
  clear ht hv hf hvh hfh
  go_enter Tryd.func16, Tryd.ntmps16
  go_wp2_with (go_at_call 41; refine (none_ok p d _ H.out).mono ?_; rintro e w' ⟨rfl, rfl⟩)
  refine wp_region_held_drew (S := fun W => W.cell? ⟨p, 0, none⟩ = some (.int .i64 d.size) ∧ W.cell? ⟨p, 1, none⟩ = some (.map (some t.bl))) (by kernel_rfl) (hS.out _ (Below.refl _ _).drew) (fun hHeld => ?_)
  refine wpAnyH_take (i := 0) (oi := ?_) (v := ?_) ?_ (by kernel_rfl) (by kernel_rfl) (by kernel_rfl) ?_ ?_ (by assumption) ?_
  rotate_left 2
  · simp only [List.getElem?_toArray, List.getElem?_cons_zero]; with_reducible rfl
  · exact fun _ _ _ h => h
  · refine Or.inl ⟨by rfl, ?_⟩; intro W hSw; go_simp; try with_reducible rfl
  try simp only [Act.put, List.setIfInBounds_toArray, List.set_cons_zero, List.set_cons_succ]
  refine wpAnyH_take (i := 1) (oi := ?_) (v := ?_) ?_ (by kernel_rfl) (by kernel_rfl) (by kernel_rfl) ?_ ?_ (by assumption) ?_
  rotate_left 2
  · simp only [List.getElem?_toArray, List.getElem?_cons_succ, List.getElem?_cons_zero]; with_reducible rfl
  · exact fun _ _ _ h => h
  · refine Or.inl ⟨by rfl, ?_⟩; intro W hSw; go_simp; try with_reducible rfl
  try simp only [Act.put, List.setIfInBounds_toArray, List.set_cons_zero, List.set_cons_succ]
  refine wpAnyH_take (i := 2) (oi := ?_) (v := ?_) ?_ (by kernel_rfl) (by kernel_rfl) (by kernel_rfl) ?_ ?_ (by assumption) ?_
  rotate_left 2
  · simp only [List.getElem?_toArray, List.getElem?_cons_succ, List.getElem?_cons_zero]; with_reducible rfl
  · exact fun _ _ _ h => h
  · refine Or.inl ⟨by rfl, ?_⟩; intro W hSw; go_simp; try with_reducible rfl
  try simp only [Act.put, List.setIfInBounds_toArray, List.set_cons_zero, List.set_cons_succ]
  refine wpAnyH_take (i := 3) (oi := ?_) (v := ?_) ?_ (by kernel_rfl) (by kernel_rfl) (by kernel_rfl) ?_ ?_ (by assumption) ?_
  rotate_left 2
  · simp only [List.getElem?_toArray, List.getElem?_cons_succ, List.getElem?_cons_zero]; with_reducible rfl
  · exact fun _ _ _ h => h
  · refine Or.inl ⟨by rfl, ?_⟩; intro W hSw; obtain ⟨hS1, hS2⟩ := hSw; go_simp; try with_reducible rfl
  try simp only [Act.put, List.setIfInBounds_toArray, List.set_cons_zero, List.set_cons_succ]
  refine wpAnyH_take (i := 4) (oi := ?_) (v := ?_) ?_ (by kernel_rfl) (by kernel_rfl) (by kernel_rfl) ?_ ?_ (by assumption) ?_
  rotate_left 2
  · simp only [List.getElem?_toArray, List.getElem?_cons_succ, List.getElem?_cons_zero]; with_reducible rfl
  · exact fun _ _ _ h => h
  · refine Or.inl ⟨by rfl, ?_⟩; intro W hSw; go_simp; try with_reducible rfl
  try simp only [Act.put, List.setIfInBounds_toArray, List.set_cons_zero, List.set_cons_succ]
  refine wpAnyH_take (i := 5) (oi := ?_) (v := ?_) ?_ (by kernel_rfl) (by kernel_rfl) (by kernel_rfl) ?_ ?_ (by assumption) ?_
  rotate_left 2
  · simp only [List.getElem?_toArray, List.getElem?_cons_succ, List.getElem?_cons_zero]; with_reducible rfl
  · exact fun _ _ _ h => h
  · refine Or.inl ⟨by rfl, ?_⟩; intro W hSw; go_simp; try with_reducible rfl
  try simp only [Act.put, List.setIfInBounds_toArray, List.set_cons_zero, List.set_cons_succ]
  refine wpAnyH_take (i := 6) (oi := ?_) (v := ?_) ?_ (by kernel_rfl) (by kernel_rfl) (by kernel_rfl) ?_ ?_ (by assumption) ?_
  rotate_left 2
  · simp only [List.getElem?_toArray, List.getElem?_cons_succ, List.getElem?_cons_zero]; with_reducible rfl
  · exact fun _ _ _ h => h
  · refine Or.inl ⟨by rfl, ?_⟩; intro W hSw; go_simp; try with_reducible rfl
  try simp only [Act.put, List.setIfInBounds_toArray, List.set_cons_zero, List.set_cons_succ]
  refine wpAnyH_take (i := 7) (oi := ?_) (v := ?_) ?_ (by kernel_rfl) (by kernel_rfl) (by kernel_rfl) ?_ ?_ (by assumption) ?_
  rotate_left 2
  · simp only [List.getElem?_toArray, List.getElem?_cons_succ, List.getElem?_cons_zero]; with_reducible rfl
  · exact fun _ _ _ h => h
  · refine Or.inl ⟨by rfl, ?_⟩; intro W hSw; obtain ⟨hS1, hS2⟩ := hSw; go_simp; try with_reducible rfl
  try simp only [Act.put, List.setIfInBounds_toArray, List.set_cons_zero, List.set_cons_succ]
  refine wpAnyH_ready (rs := [8]) (by kernel_rfl) (by simp) ?_
  refine AllReadyH.cons (o := ?_) ?_ (fun K hK => ?_) AllReadyH.nil
  rotate_left 1
  · simp only [List.getElem?_toArray, List.getElem?_cons_succ, List.getElem?_cons_zero]; with_reducible rfl
  rw [if_pos (by rfl)]
  go_simp
  refine (cloneMap_ok t.bl d.lasting _ (hlast.out _ (Below.refl _ _).drew)).mono ?_
  rintro e w2 ⟨rfl, hm2, hb2, hs2⟩
  have HM2 : Hid (IsMap w2 w.heap.size d.lasting) := Lib.hid hm2
  have HB2 : Hid (Below w.heap.size w w2) := Lib.hid (((Below.refl _ _).drew).call hb2)
  clear hm2 hb2 hs2
  refine hK.out _ _ (hS.out _ HB2.out) (fun hHeld2 => ?_)
  clear hK K
  try simp only [Act.put, List.setIfInBounds_toArray, List.set_cons_zero, List.set_cons_succ]
  refine wpAnyH_ready (rs := [9]) (by kernel_rfl) (by simp) ?_
  refine AllReadyH.cons (o := ?_) ?_ (fun K hK => ?_) AllReadyH.nil
  rotate_left 1
  · simp only [List.getElem?_toArray, List.getElem?_cons_succ, List.getElem?_cons_zero]; with_reducible rfl
  rw [if_pos (by rfl)]
  go_simp
  refine (laid_ok d.size w.heap.size d.lasting _ HM2.out hpos hsz).mono ?_
  rintro e w3 ⟨p3, t3, rfl, hd3, htp, htf, hp3, hb3⟩
  have HD3 := Lib.hid hd3
  have HTP := Lib.hid htp
  have HTF := Lib.hid htf
  have HB3 : Hid (Below w.heap.size w w3) := Lib.hid (HB2.out.call hb3)
  have HP3 : Hid (w.heap.size ≤ p3 ∧ w2.heap.size ≤ p3) := Lib.hid ⟨Nat.le_trans HB2.out.size hp3, hp3⟩
  clear hd3 htp htf hp3 hb3
  refine hK.out _ _ (hS.out _ HB3.out) (fun hHeld3 => ?_)
  clear hK K
  try simp only [Act.put, List.setIfInBounds_toArray, List.set_cons_zero, List.set_cons_succ]
  refine wpAnyH_take (i := 10) (oi := ?_) (v := ?_) ?_ (by kernel_rfl) (by kernel_rfl) (by kernel_rfl) ?_ ?_ (by assumption) ?_
  rotate_left 2
  · simp only [List.getElem?_toArray, List.getElem?_cons_succ, List.getElem?_cons_zero]; with_reducible rfl
  · exact fun _ _ _ h => h
  · refine Or.inl ⟨by rfl, ?_⟩; intro W hSw; go_simp; try with_reducible rfl
  try simp only [Act.put, List.setIfInBounds_toArray, List.set_cons_zero, List.set_cons_succ]
  refine wpAnyH_done (by kernel_rfl) ?_ _
  have c2 := (HA.out _ HB3.out).c2
  go_wp2_with fail
  refine (cloneMap_ok t.br d.read _ (HA.out _ HB3.out).read).mono ?_
  rintro e w4 ⟨rfl, hm4, hb4, hs4⟩
  have hd4 := HD3.out.below hb4
  have e2 := hd4.c2
  have f2 := hd4.free 2
  have hd5 := hd4.setRead hm4 (by have := HD3.out.last.lt; omega) (.inr (by have := HB3.out.size; have := HP3.out; have := HD3.out.row.lt; omega))
  have hB5 : Below w.heap.size w (w4.setCell ⟨p3, 2, none⟩ (.map (some w3.heap.size))) := (HB3.out.call hb4).setCell (p := ⟨p3, 2, none⟩) HP3.out.1 _
  have HD5 := Lib.hid hd5
  have HB5 := Lib.hid hB5
  have c3 := (HA.out _ hB5).c3
  rw [HV.out] at c3
  have HSZ : Hid (w2.heap.size ≤ (w4.setCell ⟨p3, 2, none⟩ (.map (some w3.heap.size))).heap.size) := Lib.hid (by
    have h1 := HP3.out.2
    have h2 := HD3.out.row.lt
    have h3 := hb4.size
    simp
    omega)
  clear hm4 hb4 hs4 hd4 hd5 hB5 c2
  go_wp2_with fail
  clear c3
  generalize w4.setCell ⟨p3, 2, none⟩ (.map (some w3.heap.size)) = W5 at *
  refine (clonePieces Av cv d.pieces _ (HVH.out _ HB5.out) hpl (fun q hq => (hps.out q hq).2.2)).mono ?_
  rintro e w6 ⟨v6, rfl, hl6, hb6⟩
  obtain ⟨A6, c6, rfl, _, _⟩ := hl6.form
  have hd6 := HD5.out.below hb6
  have e3 := hd6.c3
  have f3 := hd6.free 3
  have hd7 := hd6.setPieces (hl6.mono (G := fun k => k = w.heap.size ∨ w2.heap.size ≤ k) fun k hk => .inr (by
    rcases hk with hk | hk
    · exact hk.elim
    · exact Nat.le_trans HSZ.out hk)) hps.out
  have hB7 : Below w.heap.size w (w6.setCell ⟨p3, 3, none⟩ (.slice A6 d.pieces.length c6)) := (HB5.out.call hb6).setCell (p := ⟨p3, 3, none⟩) HP3.out.1 _
  have HD7 := Lib.hid hd7
  have HB7 := Lib.hid hB7
  have c4 := (HA.out _ hB7).c4
  rw [HF.out] at c4
  have HSZ7 : Hid (w2.heap.size ≤ (w6.setCell ⟨p3, 3, none⟩ (.slice A6 d.pieces.length c6)).heap.size) := Lib.hid (by
    have h1 := HSZ.out
    have h3 := hb6.size
    simp
    omega)
  clear hl6 hb6 hd6 hd7 hB7
  go_wp2_with fail
  clear c4
  generalize w6.setCell ⟨p3, 3, none⟩ (.slice A6 d.pieces.length c6) = W7 at *
  refine (cloneFates Af cf d.fates _ (HFH.out _ HB7.out) hfl).mono ?_
  rintro e w8 ⟨v8, rfl, hl8, hb8⟩
  obtain ⟨A8, c8, rfl, _, _⟩ := hl8.form
  have hd8 := HD7.out.below hb8
  have e4 := hd8.c4
  have f4 := hd8.free 4
  have hd9 := hd8.setFates (hl8.mono (G := fun k => k = w.heap.size ∨ w2.heap.size ≤ k) fun k hk => .inr (by
    rcases hk with hk | hk
    · exact hk.elim
    · exact Nat.le_trans HSZ7.out hk))
  have hB9 : Below w.heap.size w (w8.setCell ⟨p3, 4, none⟩ (.slice A8 d.fates.length c8)) := (HB7.out.call hb8).setCell (p := ⟨p3, 4, none⟩) HP3.out.1 _
  have HD9 := Lib.hid hd9
  have HB9 := Lib.hid hB9
  have c5 := (HA.out _ hB9).c5
  have e5 := hd9.c5
  have f5 := hd9.free 5
  clear hl8 hb8 hd8 hd9 hB9
  go_wp2
  go_ret
  have hst := HD9.out.stepped0 d.steps
  exact ⟨p3, rfl, ⟨_, hst.1.mono fun k hk => by
    rcases hk with hk | hk
    · exact .inr (Nat.le_of_eq hk.symm)
    · exact .inr (Nat.le_trans HB2.out.size hk)⟩, HB9.out.setCell (p := ⟨p3, 5, none⟩) HP3.out.1 _⟩
end Go.Proofs.YtljlkmmeedlaiaaDoor
/- Layer 2: Same. -/
namespace Go.Proofs.YtljlkmmeedlaiaaDoor
open Go.RowKit Go.MapKept
open Go.ChangeMaps (setBlock)

theorem cellsOf_cells {l : List Nat} (h : Small l) : cellsOf l = (l.map UInt8.ofNat).map Extern.Stop.cell := by
  unfold cellsOf
  rw [List.map_map]
  refine List.map_congr_left fun x hx => ?_
  have := h x hx
  simp [Extern.Stop.cell, UInt8.toNat_ofNat']
  omega
theorem run_neq_same {l : List Nat} (h : Sec l) (W : World) : (binOp .neq 90 (secV l) (secV l)).run Tryd.prog W = .ok (.bool false) W := by
  unfold secV
  rw [cellsOf_cells h.2, run_neq_struct, run_equalIn_bytes W 9998 90 5 512 Tryd.underlying90 Tryd.underlying5 (fun w => by kernel_rfl) _ _ (by simpa using h.1) (by simpa using h.1)]
  simp [Result.andThen]

theorem guardSec (s : List Nat) (W : World) : (eqGuard .neq 90 (.tmp 16) (.tmp 17) (secV s) (.agg (cellsOf s).toArray)).run Tryd.prog W = .ok () W :=
  run_eqGuard_agg W .neq 90 (.tmp 16) (.tmp 17) _ _ (by kernel_rfl)
/-- A range over a map of sectors, under way: so many entries are still to come. -/
def Going (w : World) (r b : Nat) (f : Int → List Nat) (cnt : Nat) : Prop :=
  ∃ es clock since seen c0, w.heap[b]? = some (.map es clock) ∧ Stamped es clock ∧ (∀ x ∈ es.toList, ∃ k, (Lit.int .i64 k).wf = true ∧ x.key = .int .i64 k ∧ x.val = secV (f k)) ∧
    w.heap[r]? = some (.mapIter (some b) since seen c0) ∧ (∀ x ∈ es.toList, x.born < since) ∧ (leftOf es seen).size = cnt ∧ since ≤ c0 ∧ since ≤ clock
theorem Going.below {w w' : World} {r b : Nat} {f : Int → List Nat} {cnt : Nat} (h : Going w r b f cnt) (hb : Below w.heap.size w w') : Going w' r b f cnt := by
  obtain ⟨es, clock, since, seen, c0, h1, h2, h3, h4, h5⟩ := h
  exact ⟨es, clock, since, seen, c0, (hb.block b (lt_of_heap h1)).trans h1, h2, h3, (hb.block r (lt_of_heap h4)).trans h4, h5⟩
theorem IsMap.range {w : World} {b : Nat} {f : Int → List Nat} (h : IsMap w b f) :
    ∃ o cnt, (Instr.range 71 (.map (some b))).run Tryd.prog w = .ok (.pointer (some ⟨w.heap.size, 0, none⟩)) (w.alloc o) ∧ Going (w.alloc o) w.heap.size b f cnt := by
  obtain ⟨es, clock, hb, hst, hes, _, _⟩ := h
  exact ⟨_, _, run_range_map w 71 _ _ b es clock Tryd.underlying71 hb, es, clock, clock, #[], clock, (Below.heap_alloc w _ b (lt_of_heap hb)).trans hb, hst, hes, Go.heap_alloc_new w _, hst.1, rfl, Nat.le_refl _, Nat.le_refl _⟩
theorem Going.next {w : World} {r b : Nat} {f : Int → List Nat} {cnt : Nat} (h : Going w r b f cnt) (ty : TypeId) :
    (cnt = 0 ∧ (Instr.next (.pointer (some ⟨r, 0, none⟩)) false ty).run Tryd.prog w = .ok (.tuple #[.bool false]) w) ∨
    ∃ k w' cnt', (Lit.int .i64 k).wf = true ∧ (Instr.next (.pointer (some ⟨r, 0, none⟩)) false ty).run Tryd.prog w = .ok (.tuple #[.bool true, .int .i64 k, secV (f k)]) w' ∧
      Going w' r b f cnt' ∧ cnt' < cnt ∧ Kept (· = r) w w' ∧ w'.heap.size = w.heap.size ∧ (Instr.entry (.pointer (some ⟨r, 0, none⟩))).run Tryd.prog w' = .ok (.tuple #[.int .i64 k, secV (f k)]) w' := by
  obtain ⟨es, clock, since, seen, c0, hb, hst, hes, hr, hold, rfl, hsc, hsk⟩ := h
  have hne : r ≠ b := fun e => by rw [e, hb] at hr; cases hr
  rcases run_next_at (P := Tryd.prog) w ty r b since c0 seen es clock hr hb hold hsc with ⟨h0, hrun⟩ | ⟨e, he, w1, hal, hrun⟩
  · exact .inl ⟨h0, hrun⟩
  · obtain ⟨hem, hes2⟩ := mem_left he
    obtain ⟨k, hk, e1, e2⟩ := hes e hem
    have hr1 : w1.heap[r]? = some (.mapIter (some b) since seen c0) := by rcases hal with rfl | rfl <;> exact hr
    have hb1 : w1.heap[b]? = some (.map es clock) := by rcases hal with rfl | rfl <;> exact hb
    have hset := heap_set (o' := .mapIter (some b) since (seen.push e.born) clock) hr1
    have hb' := (hset.2 b (fun e1 => hne e1.symm)).trans hb1
    refine .inr ⟨k, _, _, hk, by rw [hrun, e1, e2], ⟨es, clock, since, seen.push e.born, clock, hb', hst, hes, hset.1, hold, rfl, hsk, hsk⟩, left_shrinks es seen e he, ?_, ?_, ?_⟩
    · rcases hal with rfl | rfl <;> exact ⟨rfl, rfl, rfl, by simp [setBlock], fun i _ hi => hset.2 i hi⟩
    · rcases hal with rfl | rfl <;> simp [setBlock]
    · rw [← e1, ← e2]
      exact run_entry_at _ r b since seen es clock e hset.1 hb' hem ((stamped_iff es clock).1 hst).2.1
theorem Going.kept {F : Nat → Prop} {w w' : World} {r b : Nat} {f : Int → List Nat} {cnt : Nat} (h : Going w r b f cnt) (hk : Kept F w w') (hr : ¬ F r) (hb : ¬ F b) : Going w' r b f cnt := by
  obtain ⟨es, clock, since, seen, c0, h1, h2, h3, h4, h5⟩ := h
  exact ⟨es, clock, since, seen, c0, hk.heap h1 hb, h2, h3, hk.heap h4 hr, h5⟩
theorem Going.lt {w : World} {r b : Nat} {f : Int → List Nat} {cnt : Nat} (h : Going w r b f cnt) : r < w.heap.size ∧ b < w.heap.size := by
  obtain ⟨es, clock, since, seen, c0, h1, h2, h3, h4, h5⟩ := h
  exact ⟨lt_of_heap h4, lt_of_heap h1⟩
theorem Going.left {w : World} {r b : Nat} {f : Int → List Nat} {cnt : Nat} (h : Going w r b f cnt) : w.rangeLeft b r = cnt := by
  obtain ⟨es, clock, since, seen, c0, h1, h2, h3, h4, h5, h6, h7⟩ := h
  simp only [World.rangeLeft, h1, h4, h6]
section
variable {P : Program} {ops : Array Oper} {rest : List Oper} {o : Oper} {a : Act} {w : World} {Q : Exit → Act → World → Prop}
/-- A new variable of a row's type; a store into it: apart. -/
theorem wpList_alloc_abs (hgd : o.guard = none) (ty : TypeId) (ho : o.op = .alloc ty) (zs : Array Value) (hz : ∀ w, (zeroValue ty).run P w = .ok (.agg zs) w)
    (h : ∀ g w', Hid (g = w.heap.size) → Row w' g ty zs → Below w.heap.size w w' → wpList P ops Q rest (a.put o.dst (.pointer (some ⟨g, 0, none⟩))) w') : wpList P ops Q (o :: rest) a w :=
  wpList_alloc_tab hgd ty ho zs hz (h _ _ (Lib.hid rfl) (Row.new _ _ _) ((Below.refl _ _).alloc (Nat.le_refl _) _))
theorem wpList_store_abs (hgd : o.guard = none) (ty : TypeId) (x y : Operand) (ho : o.op = .store ty x y) (g : Nat) (zs cs : Array Value) (hg : Row w g ty zs) (hi : (P.info? ty).map (·.size) = some cs.size) (hs : zs.size = cs.size) (h1 : cs.all (·.oneCell') = true)
    (hx : a.eval x = .pointer (some ⟨g, 0, none⟩)) (hy : a.eval y = .agg cs)
    (h : ∀ w', Row w' g ty cs → Kept (· = g) w w' → wpList P ops Q rest (a.put o.dst undef) w') : wpList P ops Q (o :: rest) a w :=
  wpList_store_row hgd ty x y ho g cs hx hy ty zs hg hi hs h1 (h _ (setRow_heap _ _ _ _ _ _ hg) ((Kept.refl _ _).setRow (grow.old (F := (· = g)) rfl) _))
end

set_option maxRecDepth 100000 in
set_option maxHeartbeats 1000000 in
theorem has_ok (ba bb : Nat) (f : Int → List Nat) (w : World) (ha : IsMap w ba f) (hb : IsMap w bb f) :
    Calls Tryd.prog 45 #[.map (some ba), .map (some bb)] w fun e w' => e = .returned (.bool true) ∧ Below w.heap.size w w' := by
  obtain ⟨o0, c0, hrun, hgo⟩ := hb.range
  have HA := Lib.hid ha
  have HGO := Lib.hid hgo
  have HSEC := Lib.hid ha.sec
  clear ha hb hgo
  go_enter Tryd.func45, Tryd.ntmps45
  go_wp2_with fail
  have hb0 : Below w.heap.size w (w.alloc o0) := (Below.refl _ _).alloc (Nat.le_refl _) _
  have HB0 := Lib.hid hb0
  clear hb0 hrun
  generalize w.alloc o0 = W0 at *
  go_loopw [9] (fun v9 wr => ∃ cnt, Going wr w.heap.size bb f cnt ∧ Below w.heap.size w wr) (fun _ wr => wr.rangeLeft bb w.heap.size)
  case atStart => exact ⟨c0, HGO.out, HB0.out⟩
  case round =>
    obtain ⟨cnt, hg, hbr⟩ := hrel
    have HG := Lib.hid hg
    have HBR := Lib.hid hbr
    rcases hg.next 0 with ⟨h0, hrun⟩ | ⟨k, w1, cnt1, hk, hrun, hg1, hlt, hk1, hs1, hent⟩
    · clear hg hbr
      go_wp2
      go_ret
      exact ⟨rfl, HBR.out⟩
    · have hb1 : Below w.heap.size w w1 := hbr.trans (hk1.below hbr.size fun x hx => by rw [hx]; exact Nat.le_refl _)
      have HG1 := Lib.hid hg1
      have HB1 := Lib.hid hb1
      have hs := HSEC.out k
      obtain ⟨s, hse⟩ : ∃ s, f k = s := ⟨_, rfl⟩
      rw [hse] at hrun hent hs
      have HS := Lib.hid hs
      have HE := Lib.hid hse
      have HLT := Lib.hid hlt
      have HKW := Lib.hid hk
      have hlz : Hid ((cellsOf s).length = 512) := Lib.hid (by rw [cellsOf_length, HS.out.1])
      clear hg hbr hg1 hb1 hs hse hlt hk1 hs1 hk
      go_wp2_with (first
        | (refine wpList_alloc_abs ?_ 90 ?_ (cellsOf zsec).toArray zeroSec ?_
           · with_reducible rfl
           · with_reducible rfl
           intro g w2 hg2 hr2 hb2)
        | (refine wpList_store_abs ?_ 90 (.tmp 6) (.tmp 13) ?_ g (cellsOf zsec).toArray (cellsOf s).toArray hr2 ?_ ?_ ?_ ?_ ?_ ?_
           · with_reducible rfl
           · with_reducible rfl
           · rw [infoSec1, List.size_toArray, hlz.out]
           · rw [List.size_toArray, List.size_toArray, hlz.out, zsec_cells]
           · exact all_oneCell_toArray (cellsOf_one _)
           · rfl
           · rfl
           intro w3 hr3 hk3
           have hb3 : Below w1.heap.size w1 w3 := hb2.trans (hk3.below hb2.size fun x hx => by rw [hx]; exact Nat.le_of_eq hg2.out.symm)
           have HB3 := Lib.hid hb3
           have HR3 := Lib.hid hr3
           have hlk := (HA.out.below (HB1.out.call hb3)).look HKW.out
           rw [HE.out] at hlk
           have hneq : ∀ W : World, (binOp .neq 90 (secV s) (.agg (cellsOf s).toArray)).run Tryd.prog W = .ok (.bool false) W := run_neq_same HS.out
           have heg : ∀ W : World, (eqGuard .neq 90 (.tmp 16) (.tmp 17) (secV s) (.agg (cellsOf s).toArray)).run Tryd.prog W = .ok () W := guardSec s
           have hsi : Hid ((Tryd.prog.info? 90).map (·.size) = some (cellsOf s).toArray.size) := Lib.hid (by rw [infoSec1, List.size_toArray, hlz.out])
           clear hr2 hb2 hr3 hk3 hb3)
        | (refine wpList_load_row ?_ 90 (.tmp 6) ?_ g ?_ 90 (cellsOf s).toArray (0, 0) _ HR3.out Tryd.underlying90 rfl hsi.out ?_
           · with_reducible rfl
           · with_reducible rfl
           · rfl))
      have hrel : Hid (Going w3 w.heap.size bb f cnt1 ∧ Below w.heap.size w w3) := Lib.hid ⟨HG1.out.below HB3.out, HB1.out.call HB3.out⟩
      have hme : Hid (w3.rangeLeft bb w.heap.size < wr.rangeLeft bb w.heap.size) := Lib.hid (by rw [hrel.out.1.left, HG.out.left]; exact HLT.out)
      exact ⟨⟨cnt1, hrel.out.1, hrel.out.2⟩, hme.out⟩
end Go.Proofs.YtljlkmmeedlaiaaDoor
