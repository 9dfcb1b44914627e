/- Layer 3: Open and Look of a place where a log may lie. -/
import Derived.Test.YtljlkmmeedlaiaaDoorPt34
import Derived.Test.YtljlkmmeedlaiaaDoorPt35
import Derived.Test.YtljlkmmeedlaiaaDoorPt37
import Derived.Test.YtljlkmmeedlaiaaDoorPt25
namespace Go.Proofs.YtljlkmmeedlaiaaDoor
open Go.RowKit

/-- What Open hands back, over a disk without faults to come. -/
def OpenL (w : World) (FD : Nat → Prop) (dp : Nat) (d : D) (f : Int → List Nat) (from_ n r at_ : Nat) (e : Ending) (w' : World) : Prop :=
  (¬ (GoodLog f from_ n ∧ r < 4611686018427387904) ∧ e = .returned (.tuple #[.pointer none, .int .i64 9]) ∧ Below w.heap.size w w') ∨
  (GoodLog f from_ n ∧ r < 4611686018427387904 ∧ ∃ FL FD' p d', e = .returned (.tuple #[.pointer (some ⟨p, 0, none⟩), .int .i64 0]) ∧ LogOn w' FL FD' p { loadL dp from_ n f with run := r } d' ∧ d'.size = d.size ∧ Still d' (readW f ((from_ : Int) + at_) (headL r (headSel f from_).2) 1) ∧ d'.fates = [] ∧
    (∀ k, FL k → w.heap.size ≤ k) ∧ (∀ k, FD' k → grow FD w k) ∧ Kept FD w w')
set_option maxRecDepth 100000 in
set_option maxHeartbeats 1000000 in
theorem open_ok (w : World) (FD : Nat → Prop) (dp : Nat) (d : D) (f : Int → List Nat) (from_ n r at_ : Nat) (h : DiskAt w FD dp d) (hD : ∀ k, FD k → k < w.heap.size) (hs : Still d f) (hft : d.fates = []) (hn : 4 ≤ n) (hfit : from_ + n ≤ d.size) (hr : r = (headSel f from_).1 + 1) (hat : at_ = r % 2) :
    Calls Tryd.prog 11 #[.pointer (some ⟨dp, 0, none⟩), .int .i64 from_, .int .i64 n] w (OpenL w FD dp d f from_ n r at_) := by
  have hh := headSel_ok f from_
  have HLD : Hid (Calls Tryd.prog 32 #[.pointer (some ⟨dp, 0, none⟩), .int .i64 from_, .int .i64 n] w (LoadL w FD dp d f from_ n)) := Lib.hid (load_ok w FD dp d f from_ n h hD hs.read hs.sec hn hfit)
  have HS := Lib.hid hs
  have HFT := Lib.hid hft
  have HAT := Lib.hid hat
  clear h hD hs hft hat
  go_enter Tryd.func11, Tryd.ntmps11
  go_wp2_with fail
  refine HLD.out.mono ?_
  rintro e w1 (⟨hbad, rfl, hb1⟩ | ⟨hgood, FL, p, rfl, hon, hF, hb1⟩)
  · have HF : Hid (OpenL w FD dp d f from_ n r at_ (.returned (.tuple #[.pointer none, .int .i64 9])) w1) := Lib.hid (.inl ⟨fun hg => hbad hg.1, rfl, hb1⟩)
    clear hbad hb1
    go_wp2_with fail
    go_ret2
    exact HF.out
  · obtain ⟨vb, xs, hx⟩ := hon.log
    have c3 := hx.c3
    have c4 := hx.c4
    have hrun : (loadL dp from_ n f).run = (headSel f from_).1 := rfl
    have hbase : (loadL dp from_ n f).base = (headSel f from_).2 := rfl
    have hba : Below w1.heap.size w1 (w1.alloc (.cells #[.int .u64 0, .int .u64 0] 66)) := (Below.refl _ _).alloc (Nat.le_refl _) _
    have c3b := (hx.below hba).c3
    have c4b := (hx.below hba).c4
    rw [hrun] at c3 c3b
    rw [hbase] at c4 c4b
    have HON := Lib.hid hon
    have HB1 := Lib.hid hb1
    have HF1 := Lib.hid hF
    have HG := Lib.hid hgood
    clear hx hrun hbase hon hb1 hF hgood
    have HBB := Lib.hid (show (loadL dp from_ n f).base = (headSel f from_).2 from rfl)
    obtain ⟨R, hR⟩ : ∃ R, R = (headSel f from_).1 := ⟨_, rfl⟩
    obtain ⟨B, hB⟩ : ∃ B, B = (headSel f from_).2 := ⟨_, rfl⟩
    rw [← hR] at c3 c3b hr hh
    rw [← hB] at c4 c4b hh
    have hri : (R : Int) + 1 = (r : Int) := by omega
    have HRB : Hid (B = (headSel f from_).2 ∧ R = (headSel f from_).1) := Lib.hid ⟨hB, hR⟩
    have hr62 : r ≤ 4611686018427387904 := by omega
    have hbr : B ≤ r := by omega
    clear hR hB hr
    have hmix : Tryd.prog.follows .mixedOrders = true := by kernel_rfl
    go_wp2_with fail
    go_region
    clear c3 c4 c3b c4b hba hmix
    obtain ⟨W2, hW2⟩ : ∃ W2, W2 = (w1.alloc (.cells #[.int .u64 r, .int .u64 B] 66)).drew := ⟨_, rfl⟩
    have hb2 : Below w1.heap.size w1 W2 := by subst hW2; exact ((Below.refl _ _).alloc (Nat.le_refl _) _).drew
    have hr2 : Row W2 w1.heap.size 66 #[.int .u64 r, .int .u64 B] := by subst hW2; exact Row.new _ _ _
    rw [← hW2]
    clear hW2
    have HST := Lib.hid (settle_ok W2 FL FD p _ d (HON.out.call hb2) HS.out.pieces)
    have HB2 := Lib.hid hb2
    have HR2 := Lib.hid hr2
    have k0 := hr2.cell (i := 0) (v := .int .u64 r) rfl
    clear hb2 hr2
    by_cases hbig : r < 4611686018427387904
    · have hn1 : ¬ (4611686018427387904 : Int) ≤ (r : Int) := by omega
      go_wp2_with fail
      refine HST.out.mono ?_
      rintro e W3 ⟨rfl, hb3⟩
      have hr3 := HR2.out.call hb3
      have k0 := hr3.cell (i := 0) (v := .int .u64 r) rfl
      have k1 := hr3.cell (i := 1) (v := .int .u64 B) rfl
      have HON3 := Lib.hid (HON.out.call (HB2.out.call hb3))
      have HB3 := Lib.hid (HB1.out.call (HB2.out.call hb3))
      clear hb3 hr3
      go_wp2_with fail
      refine (turn_ok W3 FL FD p _ d f r B at_ HAT.out HON3.out HS.out hbr hbig).mono ?_
      rintro e w' (⟨rfl, d', hl, hsz, hst, hft⟩ | ⟨rfl, hf, _⟩)
      · have HF : Hid (OpenL w FD dp d f from_ n r at_ (.returned (.tuple #[.pointer (some ⟨p, 0, none⟩), .int .i64 0])) w') := Lib.hid (by
          obtain ⟨⟨FL', FD', hon', h1, h2⟩, h3⟩ := hl
          have hs3 := HB3.out.size
          refine .inr ⟨HG.out, hbig, FL', FD', p, d', rfl, ?_, hsz, ?_, hft HFT.out, fun k hk => ?_, fun k hk => ?_, ?_⟩
          · have := hon'
            rw [HRB.out.1] at this
            exact this
          · rw [← HRB.out.1]; exact hst
          · rcases h1 k hk with h9 | h9
            · exact HF1.out k h9
            · exact Nat.le_trans hs3 h9
          · rcases h2 k hk with h9 | h9
            · exact grow.old h9
            · exact grow.fresh (Nat.le_trans hs3 h9)
          · refine (HB3.out.kept).trans (h3.mono fun k _ hx => ?_)
            rcases hx with hx | hx
            · exact grow.fresh (HF1.out k hx)
            · exact grow.old hx)
        clear hl hst hft hsz
        go_wp2_with fail
        go_ret2
        exact HF.out
      · exact absurd HFT.out hf
    · have hn1 : (4611686018427387904 : Int) ≤ (r : Int) := by omega
      have HF : Hid (OpenL w FD dp d f from_ n r at_ (.returned (.tuple #[.pointer none, .int .i64 9])) W2) := Lib.hid (.inl ⟨fun hg => hbig hg.2, rfl, HB1.out.call HB2.out⟩)
      go_wp2_with fail
      go_ret2
      exact HF.out
/-- Look of a log that is there. -/
theorem look_ok (w : World) (FD : Nat → Prop) (dp : Nat) (d : D) (f : Int → List Nat) (from_ n : Nat) (h : DiskAt w FD dp d) (hD : ∀ k, FD k → k < w.heap.size) (hf : d.read = f) (hsec : ∀ k, Sec (f k)) (hn : 4 ≤ n) (hfit : from_ + n ≤ d.size) (hg : GoodLog f from_ n) (hbs : (loadL dp from_ n f).bs.length ≤ 1000000) (hsm : ∀ b ∈ (loadL dp from_ n f).bs, b.length ≤ 140737488355328) :
    Calls Tryd.prog 12 #[.pointer (some ⟨dp, 0, none⟩), .int .i64 from_, .int .i64 n] w (LookPost w (loadL dp from_ n f).bs 0) :=
  look_run _ from_ n 0 w _ ((load_ok w FD dp d f from_ n h hD hf hsec hn hfit).mono fun e w' hl => by
    rcases hl with ⟨hbad, _⟩ | ⟨_, FL, p, he, hon, _, hb⟩
    · exact absurd hg hbad
    · obtain ⟨xs, hx, hld⟩ := loaded_log hon hbs hsm
      exact ⟨_, xs, he, hb, hld, hx⟩)
/-- Look of what is no log. -/
theorem look_bad (w : World) (FD : Nat → Prop) (dp : Nat) (d : D) (f : Int → List Nat) (from_ n : Nat) (h : DiskAt w FD dp d) (hD : ∀ k, FD k → k < w.heap.size) (hf : d.read = f) (hsec : ∀ k, Sec (f k)) (hn : 4 ≤ n) (hfit : from_ + n ≤ d.size) (hg : ¬ GoodLog f from_ n) :
    Calls Tryd.prog 12 #[.pointer (some ⟨dp, 0, none⟩), .int .i64 from_, .int .i64 n] w (LookPost w [] 9) :=
  look_run _ from_ n 9 w _ ((load_ok w FD dp d f from_ n h hD hf hsec hn hfit).mono fun e w' hl => by
    rcases hl with ⟨_, he, hb⟩ | ⟨hgood, _⟩
    · exact ⟨_, [], he, hb, loaded_none w', rfl⟩
    · exact absurd hgood hg)
end Go.Proofs.YtljlkmmeedlaiaaDoor
