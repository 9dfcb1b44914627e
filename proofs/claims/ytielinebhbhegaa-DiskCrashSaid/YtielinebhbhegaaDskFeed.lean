/- Layer 2: Feed, and the list that Pieces goes over. -/
import Derived.Test.YtielinebhbhegaaDskSync
namespace Go.Proofs.Ytielinebhbhegaa
open Go.RowKit

/-- More fates. -/
theorem DiskIs.fed {w w' : World} {F : Nat → Prop} {p : Nat} {d : D} {t : Parts} (h : DiskIs w F p d t) {v : Value} (l : List (Int × Int)) (hl : Lies w' (grow F w) 58 2 v (d.fates.length + l.length) (fcs d.fates ++ fcs l))
    (hk : Kept (fun g => F g ∧ Spare t.vf g ∧ ∃ cur, w.heap[g]? = some (.cells cur 58 (0, 0))) w w') :
    DiskIs (w'.setCell ⟨p, 4, none⟩ v) (grow F w) p { d with fates := d.fates ++ l } { t with vf := v } ∧ Kept F w (w'.setCell ⟨p, 4, none⟩ v) := by
  have hrow : Row w' p 52 (diskCells d t) := h.row.kept hk fun ⟨_, _, cur, hc⟩ => by
    have := h.row; unfold Row at this; rw [this] at hc; injection hc with hc; injection hc with _ hc _; exact absurd hc (by decide)
  have hlast : IsMap w' t.bl d.lasting := h.last.kept hk fun ⟨_, _, cur, hc⟩ => by
    obtain ⟨es, clock, hb, _⟩ := h.last; rw [hb] at hc; cases hc
  have hread : IsMap w' t.br d.read := h.read.kept hk fun ⟨_, _, cur, hc⟩ => by
    obtain ⟨es, clock, hb, _⟩ := h.read; rw [hb] at hc; cases hc
  have hpie : Lies w' F 64 513 t.vp d.pieces.length (pcs d.pieces) := h.pieces.same fun g cur _ hh => hk.heap hh fun ⟨_, _, cur', hc⟩ => by
    rw [hh] at hc; injection hc with hc; injection hc with _ hc _; exact absurd hc (by decide)
  have k1 := Kept.cell w' p 4 v
  refine ⟨⟨⟨h.good.pos, h.good.most, h.good.piece⟩, ?_, .inl h.fp, .inl h.fl, .inl h.fr, h.ne, hlast.row hrow k1, hread.row hrow k1, (hpie.row hrow (by decide) k1).mono fun _ => grow.old, ?_⟩, (hk.mono fun _ _ h => h.1).setCell (grow.old h.fp) _⟩
  · have := hrow.set_ 4 v
    simpa [diskCells] using this
  · have := hl.row hrow (by decide) k1
    simpa [fcs_append] using this
theorem DiskIs.row_fed {w w' : World} {F : Nat → Prop} {p : Nat} {d : D} {t : Parts} (h : DiskIs w F p d t) (hk : Kept (fun g => F g ∧ Spare t.vf g ∧ ∃ cur, w.heap[g]? = some (.cells cur 58 (0, 0))) w w') : Row w' p 52 (diskCells d t) :=
  h.row.kept hk fun ⟨_, _, cur, hc⟩ => by
    have := h.row; unfold Row at this; rw [this] at hc; injection hc with hc; injection hc with _ hc _; exact absurd hc (by decide)
def FeedPost (F : Nat → Prop) (p : Nat) (d : D) (l : List (Int × Int)) (w : World) (e : Ending) (w' : World) : Prop :=
  e = .returned (.int .i64 0) ∧ DiskAt w' (grow F w) p { d with fates := d.fates ++ l } ∧ Kept F w w'
set_option maxHeartbeats 1000000 in
theorem feed_ok (F : Nat → Prop) (p : Nat) (d : D) (t : Parts) (A : Option Addr) (c : Nat) (l : List (Int × Int)) (w : World) (h : DiskIs w F p d t) (hl : Holds w A l.length 2 (fcs l)) (hn : l.length ≤ 1000000) (hf : d.fates.length ≤ 1000000) (hk : kindsB l = true) :
    Calls Try.prog 19 #[.pointer (some ⟨p, 0, none⟩), .slice A l.length c] w (FeedPost F p d l w) := by
  have H := Lib.hid h
  have HL := Lib.hid hl
  have HK : Hid (∀ w', Below w.heap.size w w' → DiskIs w' F p d t) := Lib.hid fun w' hb => h.below hb
  have hkind : Hid (∀ w, Holds w A l.length 2 (fcs l) → Calls Try.prog 31 #[.slice A l.length c] w fun e w' => e = .returned (.bool true) ∧ Below w.heap.size w w') := Lib.hid fun w hh => (allKinds_ok A c l w hh hn).mono fun e w' hx => ⟨by rw [hx.1, hk], hx.2⟩
  obtain ⟨Av, cv, hv, hv1, hv2⟩ := h.fates.form
  have HV := Lib.hid hv
  clear h hl hk hv
  go_enter Try.func19, Try.ntmps19
  go_wp2_with (first
    | (go_at_call 20; refine (none_ok p d _ ⟨t, H.out⟩).mono ?_; rintro e w' ⟨rfl, rfl⟩)
    | (go_at_call 31
       refine (hkind.out _ HL.out).mono ?_
       rintro e w1 ⟨rfl, hb1⟩
       have hd1 := HK.out _ hb1
       have c4 := hd1.c4
       simp only [HV.out] at c4
       have HD1 := Lib.hid hd1
       have HB1 := Lib.hid hb1
       have HFL : Hid (Lies w1 F 58 2 (.slice Av d.fates.length cv) d.fates.length (fcs d.fates)) := Lib.hid (by rw [← HV.out]; exact hd1.fates)
       clear hd1 hb1)
    | (at_builtin
       refine wpList_append_any ?_ F (.tmp 16) (.tmp 17) 22 ?_ 58 2 16 (.agg #[.int .i64 0, .int .i64 0]) Try.underlying22 infoFate rfl (by decide) (.slice Av d.fates.length cv) d.fates.length (fcs d.fates) ?_ HFL.out A l.length c (fcs l) ?_ (fcs_length l) (HL.out.below HB1.out).source (fcs_one l) (by omega) (by decide) ?_
       · with_reducible rfl
       · with_reducible rfl
       · rfl
       · rfl
       intro v' w2 hl2 hk2
       obtain ⟨A2, c2, rfl, _, _⟩ := hl2.form
       rw [← HV.out] at hk2
       have HFD := Lib.hid (HD1.out.fed l hl2 hk2)
       have c42 := (HD1.out.row_fed hk2).cell (i := 4) (v := t.vf) (by simp [diskCells])
       have f42 := (HD1.out.row_fed hk2).free 4
       clear hl2 hk2))
  go_ret
  exact ⟨rfl, ⟨_, HFD.out.1.mono fun x hx => by
    rcases hx with hx | hx
    · exact .inl hx
    · exact .inr (Nat.le_trans HB1.out.size hx)⟩, (HB1.out.kept).trans' HFD.out.2⟩
theorem feed_arg {F : Nat → Prop} (p : Nat) (d : D) (A : Option Addr) (c : Nat) (l : List (Int × Int)) (w : World) (h : DiskAt w F p d) (hl : Holds w A l.length 2 (fcs l)) (hn : l.length ≤ 1000000) (hk : kindsB l = false) :
    Calls Try.prog 19 #[.pointer (some ⟨p, 0, none⟩), .slice A l.length c] w fun e w' => e = .returned (.int .i64 2) ∧ Below w.heap.size w w' := by
  have H := Lib.hid h
  have HL := Lib.hid hl
  have hkind : Hid (∀ w, Holds w A l.length 2 (fcs l) → Calls Try.prog 31 #[.slice A l.length c] w fun e w' => e = .returned (.bool false) ∧ Below w.heap.size w w') := Lib.hid fun w hh => (allKinds_ok A c l w hh hn).mono fun e w' hx => ⟨by rw [hx.1, hk], hx.2⟩
  clear h hl hk
  go_enter Try.func19, Try.ntmps19
  go_wp2_with (first
    | (go_at_call 20; refine (none_ok p d _ H.out).mono ?_; rintro e w' ⟨rfl, rfl⟩)
    | (go_at_call 31; refine (hkind.out _ HL.out).mono ?_; rintro e w1 ⟨rfl, hb1⟩))
  go_ret
  exact ⟨rfl, hb1⟩
end Go.Proofs.Ytielinebhbhegaa
