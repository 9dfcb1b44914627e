/- Layer 2: Feed, and the list that Pieces goes over. -/
import Derived.Test.YtljlkmmeedlaiaaDoorPt12
namespace Go.Proofs.YtljlkmmeedlaiaaDoor
open Go.RowKit

/-- More fates. -/
theorem DiskIs.fed {w w' : World} {F : Nat → Prop} {p : Nat} {d : D} {t : Parts} (h : DiskIs w F p d t) {v : Value} (l : List (Int × Int)) (hl : Lies w' (grow F w) 75 2 v (d.fates.length + l.length) (fcs d.fates ++ fcs l))
    (hk : Kept (fun g => F g ∧ Spare t.vf g ∧ ∃ cur, w.heap[g]? = some (.cells cur 75 (0, 0))) w w') :
    DiskIs (w'.setCell ⟨p, 4, none⟩ v) (grow F w) p { d with fates := d.fates ++ l } { t with vf := v } ∧ Kept F w (w'.setCell ⟨p, 4, none⟩ v) := by
  have hrow : Row w' p 78 (diskCells d t) := h.row.kept hk fun ⟨_, _, cur, hc⟩ => by
    have := h.row; unfold Row at this; rw [this] at hc; injection hc with hc; injection hc with _ hc _; exact absurd hc (by decide)
  have hlast : IsMap w' t.bl d.lasting := h.last.kept hk fun ⟨_, _, cur, hc⟩ => by
    obtain ⟨es, clock, hb, _⟩ := h.last; rw [hb] at hc; cases hc
  have hread : IsMap w' t.br d.read := h.read.kept hk fun ⟨_, _, cur, hc⟩ => by
    obtain ⟨es, clock, hb, _⟩ := h.read; rw [hb] at hc; cases hc
  have hpie : Lies w' F 93 513 t.vp d.pieces.length (pcs d.pieces) := h.pieces.same fun g cur _ hh => hk.heap hh fun ⟨_, _, cur', hc⟩ => by
    rw [hh] at hc; injection hc with hc; injection hc with _ hc _; exact absurd hc (by decide)
  have k1 := Kept.cell w' p 4 v
  refine ⟨⟨⟨h.good.pos, h.good.most, h.good.piece⟩, ?_, .inl h.fp, .inl h.fl, .inl h.fr, h.ne, hlast.row hrow k1, hread.row hrow k1, (hpie.row hrow (by decide) k1).mono fun _ => grow.old, ?_⟩, (hk.mono fun _ _ h => h.1).setCell (grow.old h.fp) _⟩
  · have := hrow.set_ 4 v
    simpa [diskCells] using this
  · have := hl.row hrow (by decide) k1
    simpa [fcs_append] using this
theorem DiskIs.row_fed {w w' : World} {F : Nat → Prop} {p : Nat} {d : D} {t : Parts} (h : DiskIs w F p d t) (hk : Kept (fun g => F g ∧ Spare t.vf g ∧ ∃ cur, w.heap[g]? = some (.cells cur 75 (0, 0))) w w') : Row w' p 78 (diskCells d t) :=
  h.row.kept hk fun ⟨_, _, cur, hc⟩ => by
    have := h.row; unfold Row at this; rw [this] at hc; injection hc with hc; injection hc with _ hc _; exact absurd hc (by decide)
def FeedPost (F : Nat → Prop) (p : Nat) (d : D) (l : List (Int × Int)) (w : World) (e : Ending) (w' : World) : Prop :=
  e = .returned (.int .i64 0) ∧ DiskAt w' (grow F w) p { d with fates := d.fates ++ l } ∧ Kept F w w'
set_option maxHeartbeats 1000000 in
theorem feed_ok (F : Nat → Prop) (p : Nat) (d : D) (t : Parts) (A : Option Addr) (c : Nat) (l : List (Int × Int)) (w : World) (h : DiskIs w F p d t) (hl : Holds w A l.length 2 (fcs l)) (hn : l.length ≤ 1000000) (hf : d.fates.length ≤ 1000000) (hk : kindsB l = true) :
    Calls Tryd.prog 22 #[.pointer (some ⟨p, 0, none⟩), .slice A l.length c] w (FeedPost F p d l w) := by
  have H := Lib.hid h
  have HL := Lib.hid hl
  have HK : Hid (∀ w', Below w.heap.size w w' → DiskIs w' F p d t) := Lib.hid fun w' hb => h.below hb
  have hkind : Hid (∀ w, Holds w A l.length 2 (fcs l) → Calls Tryd.prog 25 #[.slice A l.length c] w fun e w' => e = .returned (.bool true) ∧ Below w.heap.size w w') := Lib.hid fun w hh => (allKinds_ok A c l w hh hn).mono fun e w' hx => ⟨by rw [hx.1, hk], hx.2⟩
  obtain ⟨Av, cv, hv, hv1, hv2⟩ := h.fates.form
  have HV := Lib.hid hv
  clear h hl hk hv
  go_enter Tryd.func22, Tryd.ntmps22
  go_wp2_with (first
    | (go_at_call 41; refine (none_ok p d _ ⟨t, H.out⟩).mono ?_; rintro e w' ⟨rfl, rfl⟩)
    | (go_at_call 25
       refine (hkind.out _ HL.out).mono ?_
       rintro e w1 ⟨rfl, hb1⟩
       have hd1 := HK.out _ hb1
       have c4 := hd1.c4
       simp only [HV.out] at c4
       have HD1 := Lib.hid hd1
       have HB1 := Lib.hid hb1
       have HFL : Hid (Lies w1 F 75 2 (.slice Av d.fates.length cv) d.fates.length (fcs d.fates)) := Lib.hid (by rw [← HV.out]; exact hd1.fates)
       clear hd1 hb1)
    | (at_builtin
       refine wpList_append_any ?_ F (.tmp 16) (.tmp 17) 42 ?_ 75 2 16 (.agg #[.int .i64 0, .int .i64 0]) Tryd.underlying42 infoFate rfl (by decide) (.slice Av d.fates.length cv) d.fates.length (fcs d.fates) ?_ HFL.out A l.length c (fcs l) ?_ (fcs_length l) (HL.out.below HB1.out).source (fcs_one l) (by omega) (by decide) ?_
       · with_reducible rfl
       · with_reducible rfl
       · rfl
       · rfl
       intro v' w2 hl2 hk2
       obtain ⟨A2, c2, rfl, _, _⟩ := hl2.form
       rw [← HV.out] at hk2
       have HFD := Lib.hid (HD1.out.fed l hl2 hk2)
       have c42 := (HD1.out.row_fed hk2).cell (i := 4) (v := t.vf) (by simp [diskCells])
       have f42 := (HD1.out.row_fed hk2).free 4
       clear hl2 hk2))
  go_ret
  exact ⟨rfl, ⟨_, HFD.out.1.mono fun x hx => by
    rcases hx with hx | hx
    · exact .inl hx
    · exact .inr (Nat.le_trans HB1.out.size hx)⟩, (HB1.out.kept).trans' HFD.out.2⟩
theorem feed_arg {F : Nat → Prop} (p : Nat) (d : D) (A : Option Addr) (c : Nat) (l : List (Int × Int)) (w : World) (h : DiskAt w F p d) (hl : Holds w A l.length 2 (fcs l)) (hn : l.length ≤ 1000000) (hk : kindsB l = false) :
    Calls Tryd.prog 22 #[.pointer (some ⟨p, 0, none⟩), .slice A l.length c] w fun e w' => e = .returned (.int .i64 2) ∧ Below w.heap.size w w' := by
  have H := Lib.hid h
  have HL := Lib.hid hl
  have hkind : Hid (∀ w, Holds w A l.length 2 (fcs l) → Calls Tryd.prog 25 #[.slice A l.length c] w fun e w' => e = .returned (.bool false) ∧ Below w.heap.size w w') := Lib.hid fun w hh => (allKinds_ok A c l w hh hn).mono fun e w' hx => ⟨by rw [hx.1, hk], hx.2⟩
  clear h hl hk
  go_enter Tryd.func22, Tryd.ntmps22
  go_wp2_with (first
    | (go_at_call 41; refine (none_ok p d _ H.out).mono ?_; rintro e w' ⟨rfl, rfl⟩)
    | (go_at_call 25; refine (hkind.out _ HL.out).mono ?_; rintro e w1 ⟨rfl, hb1⟩))
  go_ret
  exact ⟨rfl, hb1⟩
end Go.Proofs.YtljlkmmeedlaiaaDoor
/- Layer 2: Pieces of a disk that is one. -/
namespace Go.Proofs.YtljlkmmeedlaiaaDoor
open Go.RowKit

def atsOf (d : D) : List Int := d.pieces.map (·.1)
theorem infoInt : (Tryd.prog.info? 3).map (fun i => (i.zero, i.size, i.bytes)) = some (some (.int .i64 0), 1, 8) := by kernel_rfl
theorem ints_one (l : List Int) : ∀ v ∈ ints l, v.oneCell' = true := by
  intro v hv
  obtain ⟨x, _, rfl⟩ := List.mem_map.1 hv
  rfl
theorem ints_append (a b : List Int) : ints (a ++ b) = ints a ++ ints b := by simp [ints]
def PiecesRel (d : D) (w : World) (k : Nat) (v : Value) (wr : World) : Prop :=
  ∃ A c, v = .slice A k c ∧ Lies wr (grow noBlock w) 3 1 (.slice A k c) k (ints ((atsOf d).take k)) ∧ Below w.heap.size w wr

set_option maxRecDepth 100000 in
set_option maxHeartbeats 2000000 in
theorem pieces_ok {F : Nat → Prop} (p : Nat) (d : D) (w : World) (h : DiskAt w F p d) (hpl : d.pieces.length ≤ 1000000) :
    Calls Tryd.prog 57 #[.pointer (some ⟨p, 0, none⟩)] w (IterPost w (atsOf d)) := by
  have H := Lib.hid h
  obtain ⟨t, ht⟩ := h
  obtain ⟨Av, cv, hv, hv1, hv2, hvh⟩ := ht.pieces.holds
  have c3 := ht.c3
  rw [hv] at c3
  have HVH := Lib.hid hvh
  have hps : Hid (∀ q ∈ d.pieces, 0 ≤ q.1 ∧ q.1 < d.size ∧ Sec q.2) := Lib.hid ht.good.piece
  have hsz := ht.good.most
  clear ht hvh hv
  go_enter Tryd.func57, Tryd.ntmps57
  go_wp2_with (go_at_call 41; refine (none_ok p d _ H.out).mono ?_; rintro e w' ⟨rfl, rfl⟩)
  clear c3
  go_loopw [3, 14] (fun v3 v14 wr => ∃ k : Nat, k ≤ d.pieces.length ∧ v14 = .int .i64 k ∧ PiecesRel d w k v3 wr) (fun _ v14 _ => d.pieces.length - (intOf v14).toNat)
  case atStart => exact ⟨0, Nat.zero_le _, rfl, none, 0, rfl, Lies.empty _ _ _ _ _, Below.refl _ _⟩
  case round =>
    obtain ⟨k, hk, rfl, A3, c3, rfl, hl3, hb3⟩ := hrel
    by_cases hlt : k < d.pieces.length
    · obtain ⟨b, off, rfl, hbl, hrg⟩ := HVH.out.2 (by omega)
      have hrg2 := pcs_range (fun q hq => (hps.out q hq).2.2) hrg hlt
      have hmem : d.pieces.getD k (0, zsec) ∈ d.pieces := by rw [List.getD_eq_getElem?_getD, List.getElem?_eq_getElem hlt]; exact List.getElem_mem hlt
      obtain ⟨ha0, ha1, hs0⟩ := hps.out _ hmem
      have HTK : Hid (ints ((atsOf d).take (k + 1)) = ints ((atsOf d).take k) ++ [.int .i64 (d.pieces.getD k (0, zsec)).1]) := Lib.hid (by
        have hla : k < (atsOf d).length := by simpa [atsOf] using hlt
        rw [List.take_succ_eq_append_getElem hla, ints_append]
        simp [ints, atsOf, List.getD_eq_getElem?_getD, hlt])
      generalize (d.pieces.getD k (0, zsec)).1 = a at *
      generalize (d.pieces.getD k (0, zsec)).2 = s at *
      have HS := Lib.hid hs0
      have HRG := Lib.hid (rangeAt_below hrg2 hbl hb3)
      have HB3 := Lib.hid hb3
      have HL3 := Lib.hid hl3
      have hpi : Hid ((Tryd.prog.info? 93).map (·.size) = some (pieceCells a s).length) := Lib.hid (by rw [infoPiece1, pieceCells_length HS.out])
      have hpi2 : Hid ((Tryd.prog.info? 93).map (·.size) = some (pieceCells a s).toArray.size) := Lib.hid (by rw [List.size_toArray]; exact hpi.out)
      clear hrg hrg2 hmem hs0 hb3 hl3
      go_wp2_with (first
        | (refine wpList_load_mid ?_ 93 (.tmp 16) ?_ b (off + k * 513) ?_ (pieceCells a s) _ HRG.out Tryd.underlying93 rfl hpi.out ?_
           · with_reducible rfl
           · with_reducible rfl
           · rfl)
        | (refine wpList_alloc_store ?_ ?_ 93 (.tmp 5) (.tmp 17) ?_ ?_ (pieceCells 0 zsec).toArray (pieceCells a s).toArray zeroPiece ?_ ?_ ?_ ?_ ?_ ?_
           · with_reducible rfl
           · with_reducible rfl
           · with_reducible rfl
           · with_reducible rfl
           · exact hpi2.out
           · rw [List.size_toArray, List.size_toArray, pieceCells_length Sec.zero, pieceCells_length HS.out]
           · exact all_oneCell_toArray (pieceCells_one _ _)
           · rfl
           · rfl
           intro g1 w4 hg1 hr1 hb1 hs1
           have hca := atPiece hr1
           have hb5 : Below w4.heap.size w4 (w4.alloc (.cells #[.int .i64 a] 3)) := (Below.refl _ _).alloc (Nat.le_refl _) _
           have HL5 := Lib.hid ((HL3.out.below hb1).below hb5)
           have HB5 := Lib.hid ((HB3.out.call hb1).call hb5)
           have hsrc : Hid (Source (w4.alloc (.cells #[.int .i64 a] 3)) (some ⟨w4.heap.size, 0, none⟩) 1 [.int .i64 a]) := Lib.hid (.inr ⟨_, rfl, World.news_of_block (w := w4.alloc (.cells #[.int .i64 a] 3)) (heap_alloc_new w4 _)⟩)
           clear hr1 hb1 hs1 hb5)
        | (at_builtin
           refine wpList_append_any ?_ (grow noBlock w) (.tmp 18) (.tmp 21) 57 ?_ 3 1 8 (.int .i64 0) Tryd.underlying57 infoInt rfl (by decide) (.slice A3 k c3) k (ints ((atsOf d).take k)) ?_ HL5.out _ 1 1 [.int .i64 a] ?_ rfl hsrc.out ?_ (by omega) (by decide) ?_
           · with_reducible rfl
           · with_reducible rfl
           · rfl
           · rfl
           · intro u hu; simp at hu; subst hu; rfl
           intro v' w6 hl6 hk6
           obtain ⟨A6, c6, rfl, _, _⟩ := hl6.form
           have hrel : Hid (PiecesRel d w (k + 1) (.slice A6 (k + 1) c6) w6) := Lib.hid (by
             refine ⟨A6, c6, rfl, ?_, ?_⟩
             · rw [HTK.out]
               exact hl6.mono fun x hx => by
                 rcases hx with hx | hx
                 · exact hx
                 · exact .inr (Nat.le_trans HB5.out.size hx)
             · exact HB5.out.trans (hk6.below HB5.out.size fun x hx => by
                 rcases hx.1 with h1 | h1
                 · exact h1.elim
                 · exact h1))
           clear hl6 hk6))
      exact ⟨⟨k + 1, by omega, by go_num, hrel.out⟩, by simp [intOf]; omega⟩
    · obtain rfl : k = d.pieces.length := by omega
      have hla : (atsOf d).length = d.pieces.length := by simp [atsOf]
      obtain ⟨A9, c9, he9, h91, h92, hh9⟩ := hl3.holds
      injection he9 with e1 e2 e3
      subst e1; subst e3
      rw [← hla, List.take_length] at hh9
      have HH := Lib.hid hh9
      have HB3 := Lib.hid hb3
      have HLA := Lib.hid hla
      clear hl3 hb3 hh9 e2 hla
      go_wp2_with (go_at_call 73; refine (show Calls Tryd.prog 73 #[.slice A3 d.pieces.length c3] wr (IterPost wr (atsOf d)) by rw [← HLA.out]; exact values_ok A3 c3 (atsOf d) wr HH.out).mono ?_; rintro e w' ⟨q, rfl, h1, h2, h3, h4⟩)
      go_ret
      exact ⟨q, rfl, Nat.le_trans HB3.out.size h1, h2, h3, HB3.out.call h4⟩
end Go.Proofs.YtljlkmmeedlaiaaDoor
