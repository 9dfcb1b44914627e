/- Layer 3: load of a place where a log may lie. -/
import Derived.Test.YtljlkmmeedlaiaaDoorPt32
import Derived.Test.YtljlkmmeedlaiaaDoorPt27
import Derived.Test.YtljlkmmeedlaiaaDoorPt33
namespace Go.Proofs.YtljlkmmeedlaiaaDoor
open Go.RowKit

/-- Is a log there? -/
def GoodLog (f : Int → List Nat) (from_ n : Nat) : Prop := 1 ≤ (headSel f from_).1 ∧ ∀ j, j < n - 2 → runL (f ((from_ : Int) + 2 + (j : Int))) ≤ (headSel f from_).1
/-- The log that is found. -/
def loadL (dp from_ n : Nat) (f : Int → List Nat) : L :=
  { freshL dp from_ n with run := (headSel f from_).1, base := (headSel f from_).2, used := (scan (headSel f from_).2 sc0 (bodyFrom f ((from_ : Int) + 2) (n - 2) 0)).used, bs := (scan (headSel f from_).2 sc0 (bodyFrom f ((from_ : Int) + 2) (n - 2) 0)).bs }
/-- What load hands back. -/
def LoadL (w : World) (FD : Nat → Prop) (dp : Nat) (d : D) (f : Int → List Nat) (from_ n : Nat) (e : Ending) (w' : World) : Prop :=
  (¬ GoodLog f from_ n ∧ e = .returned (.tuple #[.pointer none, .int .i64 9]) ∧ Below w.heap.size w w') ∨
  (GoodLog f from_ n ∧ ∃ FL p, e = .returned (.tuple #[.pointer (some ⟨p, 0, none⟩), .int .i64 0]) ∧ LogOn w' FL FD p (loadL dp from_ n f) d ∧ (∀ k, FL k → w.heap.size ≤ k) ∧ Below w.heap.size w w')
theorem LeftL.fresh {w w1 w' : World} {FL FD : Nat → Prop} {p : Nat} {l : L} {d : D} (hF : ∀ k, FL k → w.heap.size ≤ k) (hb : Below w.heap.size w w1) (h : LeftL w1 FL FD p l d w') : ∃ FL', LogOn w' FL' FD p l d ∧ (∀ k, FL' k → w.heap.size ≤ k) ∧ Below w.heap.size w w' := by
  obtain ⟨FL', h1, h2, h3⟩ := h
  refine ⟨FL', h1, fun k hk => ?_, hb.trans (h3.below hb.size hF)⟩
  rcases h2 k hk with h9 | h9
  · exact hF k h9
  · exact Nat.le_trans hb.size h9
set_option maxRecDepth 100000 in
set_option maxHeartbeats 1000000 in
theorem load_ok (w : World) (FD : Nat → Prop) (dp : Nat) (d : D) (f : Int → List Nat) (from_ n : Nat) (h : DiskAt w FD dp d) (hD : ∀ k, FD k → k < w.heap.size) (hf : d.read = f) (hsec : ∀ k, Sec (f k)) (hn : 4 ≤ n) (hfit : from_ + n ≤ d.size) :
    Calls Tryd.prog 32 #[.pointer (some ⟨dp, 0, none⟩), .int .i64 from_, .int .i64 n] w (LoadL w FD dp d f from_ n) := by
  have hmost : d.size ≤ 65536 := by obtain ⟨t, ht⟩ := h; exact ht.good.most
  have hplace : placeE d.size from_ n = 0 := by
    unfold placeE
    rw [if_neg (by omega), if_neg (by omega)]
  have HAL : Hid (Calls Tryd.prog 28 #[.pointer (some ⟨dp, 0, none⟩), .int .i64 from_, .int .i64 n] w fun e w' => e = .returned (.int .i64 0) ∧ w = w') := Lib.hid (by
    have := allowed_ok dp d from_ n w h (WalkArith.wf_i64 (by omega))
    rwa [hplace] at this)
  have hon := fresh_on h hD hn hfit (Below.refl w.heap.size w)
  have hb0 : Below w.heap.size w (w.alloc (.cells (logCells (freshL dp from_ n) (.slice none 0 0)) 68)) := (Below.refl _ _).alloc (Nat.le_refl _) _
  have HRH : Hid (Calls Tryd.prog 55 #[.pointer (some ⟨w.heap.size, 0, none⟩), .func (.func 54) #[.pointer (some ⟨dp, 0, none⟩)] #[]] (w.alloc (.cells (logCells (freshL dp from_ n) (.slice none 0 0)) 68)) (fun e w' => ∃ k : Int, e = .returned (.int .i64 k) ∧ (k = if (headSel f from_).1 < 1 then 9 else 0) ∧ (k = 9 ∨ k = 0) ∧ ∃ FL', LogOn w' FL' FD w.heap.size { freshL dp from_ n with run := (headSel f from_).1, base := (headSel f from_).2 } d ∧ (∀ k, FL' k → w.heap.size ≤ k) ∧ Below w.heap.size w w')) := Lib.hid
    ((readHead_ok _ _ FD w.heap.size (freshL dp from_ n) d f hon hf hsec).mono fun e w' ⟨h1, h2⟩ => ⟨_, h2, rfl, by split <;> simp, LeftL.fresh (fun k hk => Nat.le_of_eq hk.symm) hb0 h1⟩)
  have HRB : Hid (∀ W FL', LogOn W FL' FD w.heap.size { freshL dp from_ n with run := (headSel f from_).1, base := (headSel f from_).2 } d → Calls Tryd.prog 56 #[.pointer (some ⟨w.heap.size, 0, none⟩), .func (.func 54) #[.pointer (some ⟨dp, 0, none⟩)] #[]] W (BodyL W FL' FD w.heap.size { freshL dp from_ n with run := (headSel f from_).1, base := (headSel f from_).2 } d f (n - 2))) := Lib.hid fun W FL' hl =>
    readBody_ok W FL' FD w.heap.size _ d f (n - 2) (by show n = n - 2 + 2; omega) hl hf hsec rfl rfl
  clear h hD hf hsec hplace hon hb0
  go_enter Tryd.func32, Tryd.ntmps32
  go_wp2_with (go_at_call 28; refine HAL.out.mono ?_; rintro e w' ⟨rfl, rfl⟩)
  refine HRH.out.mono ?_
  rintro e w1 ⟨k, rfl, hk, hk9, FL1, hon1, hF1, hb1⟩
  rcases hk9 with rfl | rfl
  · have HB : Hid (LoadL w FD dp d f from_ n (.returned (.tuple #[.pointer none, .int .i64 9])) w1) := Lib.hid (.inl ⟨fun hg => (by
      have := hg.1
      rw [if_neg (by omega)] at hk
      cases hk), rfl, hb1⟩)
    clear hon1 hF1 hb1 hk
    go_wp2_with fail
    go_ret2
    exact HB.out
  · have hpos : ¬ (headSel f from_).1 < 1 := fun h9 => by rw [if_pos h9] at hk; cases hk
    have HP := Lib.hid hpos
    have HON := Lib.hid hon1
    have HF1 := Lib.hid hF1
    have HB1 := Lib.hid hb1
    clear hon1 hF1 hb1 hk hpos
    go_wp2_with fail
    refine (HRB.out w1 FL1 HON.out).mono ?_
    rintro e w2 (⟨⟨j, hj, hbad⟩, rfl, hb2⟩ | ⟨hall, rfl, hl⟩)
    · have HB : Hid (LoadL w FD dp d f from_ n (.returned (.tuple #[.pointer none, .int .i64 9])) w2) := Lib.hid (.inl ⟨fun hg => (by
        have := hg.2 j hj
        have hbad : (headSel f from_).1 < runL (f ((from_ : Int) + 2 + (j : Int))) := hbad
        omega), rfl, HB1.out.call hb2⟩)
      clear hb2 hbad
      go_wp2_with fail
      go_ret2
      exact HB.out
    · have HB : Hid (LoadL w FD dp d f from_ n (.returned (.tuple #[.pointer (some ⟨w.heap.size, 0, none⟩), .int .i64 0])) w2) := Lib.hid (by
        obtain ⟨FL2, h1, h2, h3⟩ := LeftL.fresh HF1.out HB1.out hl
        have := HP.out
        exact .inr ⟨⟨by omega, hall⟩, FL2, w.heap.size, rfl, h1, h2, h3⟩)
      clear hall hl
      go_wp2_with fail
      go_ret2
      exact HB.out
end Go.Proofs.YtljlkmmeedlaiaaDoor
