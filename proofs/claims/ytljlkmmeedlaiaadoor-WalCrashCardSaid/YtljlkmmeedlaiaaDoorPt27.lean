/- Layer 3: a log's head is found. -/
import Derived.Test.YtljlkmmeedlaiaaDoorPt26
import Derived.Test.YtljlkmmeedlaiaaDoorPt21
namespace Go.Proofs.YtljlkmmeedlaiaaDoor
open Go.RowKit

def headSel (f : Int → List Nat) (a : Int) : Nat × Nat :=
  if (headVal (f a) 0).1 < (headVal (f (a + 1)) 1).1 then headVal (f (a + 1)) 1 else headVal (f a) 0
theorem headVal_ok (l : List Nat) (i : Nat) : (headVal l i).1 < 4611686018427387904 ∧ (headVal l i).2 ≤ (headVal l i).1 := by
  unfold headVal
  split
  · exact ⟨by decide, Nat.le_refl _⟩
  · next h => exact ⟨by simp only; omega, by simp only; omega⟩
theorem headSel_ok (f : Int → List Nat) (a : Int) : (headSel f a).1 < 4611686018427387904 ∧ (headSel f a).2 ≤ (headSel f a).1 := by
  unfold headSel
  split
  · exact headVal_ok _ _
  · exact headVal_ok _ _
theorem zeroHeads (w : World) : (zeroValue 122).run Tryd.prog w = .ok (.agg #[.int .u64 0, .int .u64 0, .int .u64 0, .int .u64 0]) w := by kernel_rfl
/-- What readHead leaves. -/
def HeadL (w : World) (FL FD : Nat → Prop) (p : Nat) (l : L) (d : D) (h : Nat × Nat) (e : Ending) (w' : World) : Prop :=
  LeftL w FL FD p { l with run := h.1, base := h.2 } d w' ∧ e = .returned (.int .i64 (if h.1 < 1 then 9 else 0))
set_option maxRecDepth 100000 in
set_option maxHeartbeats 1000000 in
theorem readHead_ok (w : World) (FL FD : Nat → Prop) (p : Nat) (l : L) (d : D) (f : Int → List Nat) (h : LogOn w FL FD p l d) (hf : d.read = f) (hsec : ∀ k, Sec (f k)) :
    Calls Tryd.prog 55 #[.pointer (some ⟨p, 0, none⟩), .func (.func 54) #[.pointer (some ⟨l.dp, 0, none⟩)] #[]] w (HeadL w FL FD p l d (headSel f l.from_)) := by
  obtain ⟨vb, mm, _, h1, _⟩ := h.cells
  have hmost := h.most
  have hsz := h.size
  have hn4 := h.n4
  obtain ⟨r0, hr0⟩ : ∃ r, r = headVal (f l.from_) 0 := ⟨_, rfl⟩
  obtain ⟨r1, hr1⟩ : ∃ r, r = headVal (f ((l.from_ : Int) + 1)) 1 := ⟨_, rfl⟩
  have HH : Hid (headSel f l.from_ = if r0.1 < r1.1 then r1 else r0) := Lib.hid (by rw [hr0, hr1]; rfl)
  have hk0 := headVal_ok (f l.from_) 0
  have hk1 := headVal_ok (f ((l.from_ : Int) + 1)) 1
  rw [← hr0] at hk0
  rw [← hr1] at hk1
  have HLG : Hid (∀ W, Below w.heap.size w W → LogOn W FL FD p l d ∧ W.cell? ⟨p, 1, none⟩ = some (.int .i64 l.from_)) := Lib.hid fun W hb => by
    obtain ⟨vb, mm, _, h1, _⟩ := (h.call hb).cells
    exact ⟨h.call hb, h1⟩
  have HRD0 : Hid (∀ W, Below w.heap.size w W → Calls Tryd.prog 54 #[.pointer (some ⟨l.dp, 0, none⟩), .int .i64 l.from_, .int .i64 1] W (ReadPost W f l.from_ 1)) := Lib.hid fun W hb => by
    rw [← hf]
    exact read_ok l.dp d l.from_ 1 1 W (h.call hb).disk rfl (by omega) (by omega)
  have HRD1 : Hid (∀ W, Below w.heap.size w W → Calls Tryd.prog 54 #[.pointer (some ⟨l.dp, 0, none⟩), .int .i64 ((l.from_ : Int) + 1), .int .i64 1] W (ReadPost W f ((l.from_ : Int) + 1) 1)) := Lib.hid fun W hb => by
    rw [← hf]
    exact read_ok l.dp d ((l.from_ : Int) + 1) 1 1 W (h.call hb).disk rfl (by omega) (by omega)
  have HHD : Hid (∀ W g (i : Nat) (a : Int), Row W g 5 (cellsOf (readL f a 1)).toArray → Calls Tryd.prog 70 #[slc g 0 512 512, .int .i64 i] W (HeadOfPost W (f a) i)) := Lib.hid fun W g i a hg => by
    have h9 : readL f a 1 = f a := by simp [readL]
    rw [h9] at hg
    exact headOf_ok g 0 512 i _ W (Bytes.of_row' hg (hsec _).2 (hsec _).1) (Nat.le_refl _) (by decide)
  have H := Lib.hid h
  have HR0 := Lib.hid hr0
  have HR1 := Lib.hid hr1
  obtain ⟨w0, hw0⟩ : ∃ w0, w0 = w.alloc (.cells #[.int .u64 0, .int .u64 0, .int .u64 0, .int .u64 0] 122) := ⟨_, rfl⟩
  have HB0 : Hid (Below w.heap.size w w0) := Lib.hid (by subst hw0; exact (Below.refl _ _).alloc (Nat.le_refl _) _)
  have HG0 : Hid (Row w0 w.heap.size 122 #[.int .u64 0, .int .u64 0, .int .u64 0, .int .u64 0]) := Lib.hid (by subst hw0; exact Row.new _ _ _)
  clear h hf hsec hr0 hr1 h1
  go_enter Tryd.func55, Tryd.ntmps55
  go_wp2_with fail
  rw [← hw0]
  clear hw0
  go_loopw [9] (fun v9 wr => ∃ k : Nat, k ≤ 2 ∧ v9 = .int .i64 k ∧ Row wr w.heap.size 122 #[.int .u64 (if 0 < k then r0.1 else 0 : Nat), .int .u64 (if 0 < k then r0.2 else 0 : Nat), .int .u64 (if 1 < k then r1.1 else 0 : Nat), .int .u64 (if 1 < k then r1.2 else 0 : Nat)] ∧ Below w.heap.size w wr) (fun v9 _ => 2 - (intOf v9).toNat)
  case atStart => exact ⟨0, by decide, rfl, by simpa using HG0.out, HB0.out⟩
  case round =>
    obtain ⟨k, hk, rfl, hrow, hbw⟩ := hrel
    rcases (by omega : k = 0 ∨ k = 1 ∨ k = 2) with rfl | rfl | rfl
    · have k1 := (HLG.out wr hbw).2
      have HRW := Lib.hid hrow
      have HBW := Lib.hid hbw
      clear hrow hbw
      go_wp2_with fail
      refine (HRD0.out wr HBW.out).mono ?_
      rintro e w1 ⟨g, rfl, hg, hrow1, hb1⟩
      have HRW1 := Lib.hid (HRW.out.call hb1)
      have HBW1 := Lib.hid (HBW.out.call hb1)
      have HG1 := Lib.hid hrow1
      clear k1 hg hrow1 hb1 HRW HBW
      go_wp2_with fail
      refine (HHD.out w1 g 0 _ HG1.out).mono ?_
      rintro e w2 ⟨he, hb2⟩
      rw [← HR0.out] at he
      subst he
      have hrow2 := HRW1.out.call hb2
      have c0 := hrow2.cell (i := 0) (v := .int .u64 0) rfl
      have c1 := hrow2.cell (i := 1) (v := .int .u64 0) rfl
      have f0 := hrow2.free 0
      have f1 := hrow2.free 1
      have HEND : Hid (Row ((w2.setCell ⟨w.heap.size, 0, none⟩ (.int .u64 r0.1)).setCell ⟨w.heap.size, 1, none⟩ (.int .u64 r0.2)) w.heap.size 122 #[.int .u64 (if 0 < 1 then r0.1 else 0 : Nat), .int .u64 (if 0 < 1 then r0.2 else 0 : Nat), .int .u64 (if 1 < 1 then r1.1 else 0 : Nat), .int .u64 (if 1 < 1 then r1.2 else 0 : Nat)] ∧
          Below w.heap.size w ((w2.setCell ⟨w.heap.size, 0, none⟩ (.int .u64 r0.1)).setCell ⟨w.heap.size, 1, none⟩ (.int .u64 r0.2))) := Lib.hid ⟨by
        have := (hrow2.set_ 0 (.int .u64 r0.1)).set_ 1 (.int .u64 r0.2)
        simpa using this, ((HBW1.out.call hb2).setCell (p := ⟨w.heap.size, 0, none⟩) (Nat.le_refl _) _).setCell (p := ⟨w.heap.size, 1, none⟩) (Nat.le_refl _) _⟩
      clear hrow2 hb2 HRW1 HBW1 HG1
      go_wp2_with fail
      go_round
      case rel => exact ⟨1, by decide, by go_num, HEND.out.1, HEND.out.2⟩
      case measure => simp [intOf]
    · have k1 := (HLG.out wr hbw).2
      have HRW := Lib.hid hrow
      have HBW := Lib.hid hbw
      clear hrow hbw
      go_wp2_with fail
      refine (HRD1.out wr HBW.out).mono ?_
      rintro e w1 ⟨g, rfl, hg, hrow1, hb1⟩
      have HRW1 := Lib.hid (HRW.out.call hb1)
      have HBW1 := Lib.hid (HBW.out.call hb1)
      have HG1 := Lib.hid hrow1
      clear k1 hg hrow1 hb1 HRW HBW
      go_wp2_with fail
      refine (HHD.out w1 g 1 _ HG1.out).mono ?_
      rintro e w2 ⟨he, hb2⟩
      rw [← HR1.out] at he
      subst he
      have hrow2 := HRW1.out.call hb2
      have c0 := hrow2.cell (i := 2) (v := .int .u64 0) rfl
      have c1 := hrow2.cell (i := 3) (v := .int .u64 0) rfl
      have f0 := hrow2.free 2
      have f1 := hrow2.free 3
      have HEND : Hid (Row ((w2.setCell ⟨w.heap.size, 2, none⟩ (.int .u64 r1.1)).setCell ⟨w.heap.size, 3, none⟩ (.int .u64 r1.2)) w.heap.size 122 #[.int .u64 (if 0 < 2 then r0.1 else 0 : Nat), .int .u64 (if 0 < 2 then r0.2 else 0 : Nat), .int .u64 (if 1 < 2 then r1.1 else 0 : Nat), .int .u64 (if 1 < 2 then r1.2 else 0 : Nat)] ∧
          Below w.heap.size w ((w2.setCell ⟨w.heap.size, 2, none⟩ (.int .u64 r1.1)).setCell ⟨w.heap.size, 3, none⟩ (.int .u64 r1.2))) := Lib.hid ⟨by
        have := (hrow2.set_ 2 (.int .u64 r1.1)).set_ 3 (.int .u64 r1.2)
        simpa using this, ((HBW1.out.call hb2).setCell (p := ⟨w.heap.size, 2, none⟩) (Nat.le_refl _) _).setCell (p := ⟨w.heap.size, 3, none⟩) (Nat.le_refl _) _⟩
      clear hrow2 hb2 HRW1 HBW1 HG1
      go_wp2_with fail
      go_round
      case rel => exact ⟨2, by decide, by go_num, HEND.out.1, HEND.out.2⟩
      case measure => simp [intOf]
    · have hon := (HLG.out wr hbw).1
      have HON := Lib.hid hon
      have hrow' : Row wr w.heap.size 122 #[.int .u64 r0.1, .int .u64 r0.2, .int .u64 r1.1, .int .u64 r1.2] := by simpa using hrow
      have h0 := hrow'.cell (i := 0) (v := .int .u64 r0.1) rfl
      have h1 := hrow'.cell (i := 1) (v := .int .u64 r0.2) rfl
      have h2 := hrow'.cell (i := 2) (v := .int .u64 r1.1) rfl
      have h3 := hrow'.cell (i := 3) (v := .int .u64 r1.2) rfl
      obtain ⟨vb1, m1, _, _, _, c3, c4, _, _, _, _, _, hfr⟩ := hon.cells
      have f3 := hfr 3
      have f4 := hfr 4
      have hpn : p ≠ w.heap.size := by have := H.out.thereL p H.out.mem; omega
      have two : ∀ (W : World), LogOn W FL FD p { l with run := r0.1, base := r0.2 } d → LogOn ((W.setCell ⟨p, 3, none⟩ (.int .u64 r1.1)).setCell ⟨p, 4, none⟩ (.int .u64 r1.2)) FL FD p { l with run := r1.1, base := r1.2 } d := fun W hW => hW.setHead r1.1 r1.2 hk1.2 hk1.1
      have hone := hon.setHead r0.1 r0.2 hk0.2 hk0.1
      have hkk : ∀ (W : World) (a b : Value), Kept FL W ((W.setCell ⟨p, 3, none⟩ a).setCell ⟨p, 4, none⟩ b) := fun W a b => ((Kept.cell W p 3 a).trans' (Kept.cell _ p 4 b)).mono fun k _ e => by subst e; exact H.out.mem
      have HA : Hid (r0.1 < r1.1 → HeadL w FL FD p l d (headSel f l.from_) (.returned (.int .i64 0)) ((((wr.setCell ⟨p, 3, none⟩ (.int .u64 r0.1)).setCell ⟨p, 4, none⟩ (.int .u64 r0.2)).setCell ⟨p, 3, none⟩ (.int .u64 r1.1)).setCell ⟨p, 4, none⟩ (.int .u64 r1.2))) := Lib.hid fun hlt => by
        have hh := HH.out
        rw [if_pos hlt] at hh
        unfold HeadL
        rw [hh]
        exact ⟨((two _ hone).leftL (fun _ => grow.old) ((hkk _ _ _).trans' (hkk _ _ _))).below hbw, by rw [if_neg (by omega)]⟩
      have HB9 : Hid (¬ r0.1 < r1.1 → ∀ k : Int, k = (if r0.1 < 1 then 9 else 0) → HeadL w FL FD p l d (headSel f l.from_) (.returned (.int .i64 k)) ((wr.setCell ⟨p, 3, none⟩ (.int .u64 r0.1)).setCell ⟨p, 4, none⟩ (.int .u64 r0.2))) := Lib.hid fun hlt k hk => by
        have hh := HH.out
        rw [if_neg hlt] at hh
        unfold HeadL
        rw [hh]
        exact ⟨(hone.leftL (fun _ => grow.old) (hkk _ _ _)).below hbw, by rw [hk]⟩
      clear hrow hrow' hon hfr two hone hkk
      go_wp2_with fail
      all_goals go_ret
      all_goals first
        | exact HA.out (by omega)
        | exact HB9.out (by omega) 9 (by rw [if_pos (by omega)])
        | exact HB9.out (by omega) 0 (by rw [if_neg (by omega)])
end Go.Proofs.YtljlkmmeedlaiaaDoor
