/- Layer 3: load of a place where a log may lie. -/
import Derived.Test.YtdaefhlfalhfnaaDoorPt40
import Derived.Test.YtdaefhlfalhfnaaDoorPt37
import Derived.Test.YtdaefhlfalhfnaaDoorPt41
import Derived.Test.YtdaefhlfalhfnaaDoorPt28
import Derived.Test.YtdaefhlfalhfnaaDoorPt26
import Derived.Test.YtdaefhlfalhfnaaDoorPt21
import Derived.Test.YtdaefhlfalhfnaaDoorPt10
namespace Go.Proofs.YtdaefhlfalhfnaaDoor
open Go.RowKit

/-- Is a log there? -/
def GoodLog (f : Int → List Nat) (from_ n : Nat) : Prop := 1 ≤ (headSel f from_).1 ∧ ∀ j, j < n - 2 → runL (f ((from_ : Int) + 2 + (j : Int))) ≤ (headSel f from_).1
/-- The log that is found. -/
def loadL (dp from_ n : Nat) (f : Int → List Nat) : L :=
  { freshL dp from_ n with run := (headSel f from_).1, base := (headSel f from_).2, used := (scan (headSel f from_).2 sc0 (bodyFrom f ((from_ : Int) + 2) (n - 2) 0)).used, bs := (scan (headSel f from_).2 sc0 (bodyFrom f ((from_ : Int) + 2) (n - 2) 0)).bs }
/-- What load hands back. -/
def LoadL (w : World) (FD : Nat → Prop) (dp : Nat) (d : D) (f : Int → List Nat) (from_ n : Nat) (e : Ending) (w' : World) : Prop :=
  (¬ GoodLog f from_ n ∧ e = .returned (.tuple #[.pointer none, .int .i64 9]) ∧ Below w.heap.size w w') ∨
  (GoodLog f from_ n ∧ ∃ FL p, e = .returned (.tuple #[.pointer (some ⟨p, 0, none⟩), .int .i64 0]) ∧ LogOn w' FL FD p (loadL dp from_ n f) d ∧ (∀ k, FL k → w.heap.size ≤ k) ∧ Below w.heap.size w w')
theorem LeftL.fresh {w w1 w' : World} {FL FD : Nat → Prop} {p : Nat} {l : L} {d : D} (hF : ∀ k, FL k → w.heap.size ≤ k) (hb : Below w.heap.size w w1) (h : LeftL w1 FL FD p l d w') : ∃ FL', LogOn w' FL' FD p l d ∧ (∀ k, FL' k → w.heap.size ≤ k) ∧ Below w.heap.size w w' := by
  obtain ⟨FL', h1, h2, h3⟩ := h
  refine ⟨FL', h1, fun k hk => ?_, hb.trans (h3.below hb.size hF)⟩
  rcases h2 k hk with h9 | h9
  · exact hF k h9
  · exact Nat.le_trans hb.size h9
set_option maxRecDepth 100000 in
set_option maxHeartbeats 1000000 in
theorem load_ok (w : World) (FD : Nat → Prop) (dp : Nat) (d : D) (f : Int → List Nat) (from_ n : Nat) (h : DiskAt w FD dp d) (hD : ∀ k, FD k → k < w.heap.size) (hf : d.read = f) (hsec : ∀ k, Sec (f k)) (hn : 4 ≤ n) (hfit : from_ + n ≤ d.size) :
    Calls Tryd.prog 32 #[.pointer (some ⟨dp, 0, none⟩), .int .i64 from_, .int .i64 n] w (LoadL w FD dp d f from_ n) := by
  have hmost : d.size ≤ 65536 := by obtain ⟨t, ht⟩ := h; exact ht.good.most
  have hplace : placeE d.size from_ n = 0 := by
    unfold placeE
    rw [if_neg (by omega), if_neg (by omega)]
  have HAL : Hid (Calls Tryd.prog 28 #[.pointer (some ⟨dp, 0, none⟩), .int .i64 from_, .int .i64 n] w fun e w' => e = .returned (.int .i64 0) ∧ w = w') := Lib.hid (by
    have := allowed_ok dp d from_ n w h (WalkArith.wf_i64 (by omega))
    rwa [hplace] at this)
  have hon := fresh_on h hD hn hfit (Below.refl w.heap.size w)
  have hb0 : Below w.heap.size w (w.alloc (.cells (logCells (freshL dp from_ n) (.slice none 0 0)) 68)) := (Below.refl _ _).alloc (Nat.le_refl _) _
  have HRH : Hid (Calls Tryd.prog 55 #[.pointer (some ⟨w.heap.size, 0, none⟩), .func (.func 54) #[.pointer (some ⟨dp, 0, none⟩)] #[]] (w.alloc (.cells (logCells (freshL dp from_ n) (.slice none 0 0)) 68)) (fun e w' => ∃ k : Int, e = .returned (.int .i64 k) ∧ (k = if (headSel f from_).1 < 1 then 9 else 0) ∧ (k = 9 ∨ k = 0) ∧ ∃ FL', LogOn w' FL' FD w.heap.size { freshL dp from_ n with run := (headSel f from_).1, base := (headSel f from_).2 } d ∧ (∀ k, FL' k → w.heap.size ≤ k) ∧ Below w.heap.size w w')) := Lib.hid
    ((readHead_ok _ _ FD w.heap.size (freshL dp from_ n) d f hon hf hsec).mono fun e w' ⟨h1, h2⟩ => ⟨_, h2, rfl, by split <;> simp, LeftL.fresh (fun k hk => Nat.le_of_eq hk.symm) hb0 h1⟩)
  have HRB : Hid (∀ W FL', LogOn W FL' FD w.heap.size { freshL dp from_ n with run := (headSel f from_).1, base := (headSel f from_).2 } d → Calls Tryd.prog 56 #[.pointer (some ⟨w.heap.size, 0, none⟩), .func (.func 54) #[.pointer (some ⟨dp, 0, none⟩)] #[]] W (BodyL W FL' FD w.heap.size { freshL dp from_ n with run := (headSel f from_).1, base := (headSel f from_).2 } d f (n - 2))) := Lib.hid fun W FL' hl =>
    readBody_ok W FL' FD w.heap.size _ d f (n - 2) (by show n = n - 2 + 2; omega) hl hf hsec rfl rfl
  clear h hD hf hsec hplace hon hb0
  go_enter Tryd.func32, Tryd.ntmps32
  go_wp2_with (go_at_call 28; refine HAL.out.mono ?_; rintro e w' ⟨rfl, rfl⟩)
  refine HRH.out.mono ?_
  rintro e w1 ⟨k, rfl, hk, hk9, FL1, hon1, hF1, hb1⟩
  rcases hk9 with rfl | rfl
  · have HB : Hid (LoadL w FD dp d f from_ n (.returned (.tuple #[.pointer none, .int .i64 9])) w1) := Lib.hid (.inl ⟨fun hg => (by
      have := hg.1
      rw [if_neg (by omega)] at hk
      cases hk), rfl, hb1⟩)
    clear hon1 hF1 hb1 hk
    go_wp2_with fail
    go_ret2
    exact HB.out
  · have hpos : ¬ (headSel f from_).1 < 1 := fun h9 => by rw [if_pos h9] at hk; cases hk
    have HP := Lib.hid hpos
    have HON := Lib.hid hon1
    have HF1 := Lib.hid hF1
    have HB1 := Lib.hid hb1
    clear hon1 hF1 hb1 hk hpos
    go_wp2_with fail
    refine (HRB.out w1 FL1 HON.out).mono ?_
    rintro e w2 (⟨⟨j, hj, hbad⟩, rfl, hb2⟩ | ⟨hall, rfl, hl⟩)
    · have HB : Hid (LoadL w FD dp d f from_ n (.returned (.tuple #[.pointer none, .int .i64 9])) w2) := Lib.hid (.inl ⟨fun hg => (by
        have := hg.2 j hj
        have hbad : (headSel f from_).1 < runL (f ((from_ : Int) + 2 + (j : Int))) := hbad
        omega), rfl, HB1.out.call hb2⟩)
      clear hb2 hbad
      go_wp2_with fail
      go_ret2
      exact HB.out
    · have HB : Hid (LoadL w FD dp d f from_ n (.returned (.tuple #[.pointer (some ⟨w.heap.size, 0, none⟩), .int .i64 0])) w2) := Lib.hid (by
        obtain ⟨FL2, h1, h2, h3⟩ := LeftL.fresh HF1.out HB1.out hl
        have := HP.out
        exact .inr ⟨⟨by omega, hall⟩, FL2, w.heap.size, rfl, h1, h2, h3⟩)
      clear hall hl
      go_wp2_with fail
      go_ret2
      exact HB.out
end Go.Proofs.YtdaefhlfalhfnaaDoor
/- Layer 3: settle of a log whose disk has no pieces. -/
namespace Go.Proofs.YtdaefhlfalhfnaaDoor
open Go.RowKit Go.Shelf
attribute [local go_sem] Oper.semAt_some

set_option maxRecDepth 100000 in
set_option maxHeartbeats 2000000 in
theorem settle_ok (w : World) (FL FD : Nat → Prop) (p : Nat) (l : L) (d : D) (h : LogOn w FL FD p l d) (hp : d.pieces = []) :
    Calls Tryd.prog 33 #[.pointer (some ⟨p, 0, none⟩)] w fun e w' => e = .returned (.int .i64 0) ∧ Below w.heap.size w w' := by
  obtain ⟨w0, hw0⟩ : ∃ w0, w0 = (w.alloc (.cells #[.pointer (some ⟨p, 0, none⟩)] 33)).alloc (.cells #[.int .i64 0] 26) := ⟨_, rfl⟩
  have hb0 : Below w.heap.size w w0 := by subst hw0; exact ((Below.refl _ _).alloc (Nat.le_refl _) _).alloc (by simp) _
  have hr0 : Row w0 w.heap.size 33 #[.pointer (some ⟨p, 0, none⟩)] := by subst hw0; exact (Row.new _ _ _).alloc _
  have hr4 : Row w0 (w.heap.size + 1) 26 #[.int .i64 0] := by subst hw0; exact Row.new1 _ _ _ _
  have hpc : Calls Tryd.prog 57 #[.pointer (some ⟨l.dp, 0, none⟩)] w0 (IterPost w0 []) := by
    have := pieces_ok l.dp d w0 (h.call hb0).disk (by rw [hp]; decide)
    unfold atsOf at this
    rwa [hp] at this
  obtain ⟨vb, xs, hx⟩ := (h.call hb0).log
  have k0 := hr0.cell (i := 0) (v := .pointer (some ⟨p, 0, none⟩)) rfl
  have k1 := hx.c0
  have HPC := Lib.hid hpc
  have HB0 := Lib.hid hb0
  have HR4 := Lib.hid hr4
  clear h hp hpc hb0 hr0 hr4 hx
  refine (callsIn_wide (n := 3)).1 ?_
  refine callsIn_of_wp_marks Tryd.func33 rfl trivial ?_ rfl
  simp only [Tryd.ntmps33, List.size_toArray, List.length_cons, List.length_nil, Nat.reduceAdd, Nat.reduceSub, Array.replicate_succ, Array.replicate_zero, List.push_toArray, List.append_toArray, List.nil_append, List.cons_append]
  refine wpIn_wide.2 ?_
  rw [hw0] at k0 k1
  go_wp2_with fail
  rw [← hw0]
  clear hw0 k0 k1
  refine HPC.out.mono ?_
  rintro e w4 ⟨q, rfl, hq1, hq2, hL, hb4⟩
  have HB4 := Lib.hid (HB0.out.call hb4)
  have HR44 := Lib.hid (HR4.out.call hb4)
  have HL4 := Lib.hid hL
  clear hb4 hL
  go_wp2_with fail
  refine (wpIn_wide (n := 4)).1 ?_
  refine wpIn_rangeFunc_ownF rfl (by omega) (gf := 78) (lb := #[.pointer (some ⟨q, 0, none⟩)]) rfl trivial (enters_of Tryd.func78 (by kernel_rfl) rfl)
    (values_stops q w4.heap.size [] (by simp) hq2 w4 (Nat.le_refl _) HL4.out) belowK_t (belowK_b (Nat.le_refl _)) (Below.refl _ _) (fun _ => rfl)
    (fun _ W => Below w4.heap.size w4 W) (fun _ _ _ => False) ?hI ?hIx ?h0 ?a1 ?assign ?body ?done ?stop
  case assign =>
    intro l' x W K hK
    simp only [oneInt]
    gi_wp2
    exact hK
  case hI => exact ownFrom_below (Nat.le_refl _) (Nat.le_refl _)
  case hIx => exact fun _ _ _ _ _ h _ _ => h
  case h0 => exact Below.refl _ _
  case body => exact fun _ pre _ _ _ h => absurd h (Nat.not_lt_zero _)
  case stop => exact fun _ _ _ _ _ _ h => h.elim
  case done =>
    rintro D ys W hD rfl hBW hK
    have hBW2 : Below w.heap.size w W := HB4.out.trans (hBW.mono HB4.out.size)
    have hr4 := HR44.out.below hBW HR44.out.lt
    have hDw : w.heap.size + 1 < D := Nat.lt_of_lt_of_le HR44.out.lt hD
    have c4 := hr4.cell (i := 0) (v := .int .i64 0) rfl
    have f4 := hr4.free 0
    obtain ⟨V, hV⟩ : ∃ V, V = W.setCell ⟨w.heap.size + 1, 0, none⟩ (.int .i64 0) := ⟨_, rfl⟩
    have HF : Hid (V.heap[D]? = some (.deferred (some [])) ∧ (V.putObj D (.deferred none)).cell? ⟨w.heap.size + 1, 0, none⟩ = some (.int .i64 0) ∧ Below w.heap.size w (V.putObj D (.deferred none))) := Lib.hid (by
      subst hV
      have hV2 := (KeepsOthers.setCell W ⟨w.heap.size + 1, 0, none⟩ (.int .i64 0)).same D _ hK rfl
      have hbe : Below w.heap.size w (W.setCell ⟨w.heap.size + 1, 0, none⟩ (.int .i64 0)) := hBW2.setCell (p := ⟨w.heap.size + 1, 0, none⟩) (Nat.le_succ _) _
      have hc2 := cell_kept ((hr4.set_ 0 (.int .i64 0)).cell (i := 0) (v := .int .i64 0) rfl) (grownBy_putObj' _ D (.deferred none)) (fun r e => by cases e; exact ⟨_, hV2, rfl⟩)
      exact ⟨hV2, hc2, hbe.trans (belowK_b (w := w) (Nat.le_refl _) _ D _ (.deferred none) (by omega) hV2 rfl rfl)⟩)
    clear hBW hBW2 hK hD hr4
    go_wp2_with fail
    rw [← hV]
    refine ⟨by simp, .inl ⟨_, _, rfl, run_takeDeferred HF.out.1, ?_⟩⟩
    refine ⟨.int .i64 0, ?_, rfl, HF.out.2.2⟩
    have hr2 := HF.out.2.1
    simp [results, Tryd.f33, go_sem, hr2]
end Go.Proofs.YtdaefhlfalhfnaaDoor
