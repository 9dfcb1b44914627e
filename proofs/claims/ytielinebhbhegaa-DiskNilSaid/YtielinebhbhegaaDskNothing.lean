/- Layer 2: what a disk that is not there answers (nothing of package lexiconlaw02). -/
import Derived.Test.YtielinebhbhegaaDskNone
namespace Go.Proofs.Ytielinebhbhegaa
open Go.RowKit Go.Shelf
attribute [local go_sem] Oper.semAt_some

theorem listAt_nil {n₀ q : Nat} {W : World} (h : ListAt n₀ q [] W) (n₁ : Nat) : ListAt n₁ q [] W := by
  obtain ⟨A, c, h1, _⟩ := h
  exact ⟨A, c, h1, fun k hk => by simp at hk⟩

set_option maxRecDepth 100000 in
set_option maxHeartbeats 2000000 in
theorem nothing_ok (v : Value) (at_ n : Int) (A : Option Addr) (nb cb : Nat) (w : World) (h : NoDisk w v) :
    Calls Try.prog 17 #[v, .int .i64 at_, .int .i64 n, .slice A nb cb] w fun e w' => e = .returned (.bool true) ∧ Below w.heap.size w w' := by
  have hb0 : Below w.heap.size w (w.alloc (.cells #[.bool false] 4)) := (Below.refl _ _).alloc (Nat.le_refl _) _
  have H : Hid (∀ W, Below w.heap.size w W → NoDisk W v) := Lib.hid fun W hW => h.below hW
  have HR := Lib.hid (Row.new w 4 #[.bool false])
  have HB0 := Lib.hid hb0
  have hfn : ∀ (q : Nat) (W : World), (binOp BinOp.eql 33 (.func (.func 36) #[] #[.pointer (some ⟨q, 0, none⟩)]) .nilFunc).run Try.prog W = .ok (.bool false) W := fun _ _ => rfl
  clear h hb0
  refine (callsIn_wide (n := 3)).1 ?_
  refine callsIn_of_wp_marks Try.func17 rfl trivial ?_ rfl
  simp only [Try.ntmps17, List.size_toArray, List.length_cons, List.length_nil, Nat.reduceAdd, Nat.reduceSub, Array.replicate_succ, Array.replicate_zero, List.push_toArray, List.append_toArray, List.nil_append, List.cons_append]
  refine wpIn_wide.2 ?_
  go_wp2_with (first
    | (go_at_call 11; refine (read_no v at_ n _ (H.out _ HB0.out)).mono ?_; rintro e w1 ⟨rfl, rfl⟩)
    | (go_at_call 10; refine (crash_no v none 0 0 _ (H.out _ HB0.out)).mono ?_; (rintro e w2 ⟨rfl, hb2⟩); (have HB2 := Lib.hid (HB0.out.call hb2)); (have HR2 := Lib.hid (HR.out.call hb2)); clear hb2)
    | (go_at_call 35; refine (steps_no v _ (H.out _ HB2.out)).mono ?_; rintro e w3 ⟨rfl, rfl⟩)
    | (go_at_call 9; refine (pieces_no v _ (H.out _ HB2.out)).mono ?_; (rintro e w4 ⟨q, rfl, hq1, hq2, hL, hb4⟩); (have HB4 := Lib.hid (HB2.out.call hb4)); (have HR4 := Lib.hid (HR2.out.call hb4)); (have HL4 := Lib.hid hL); clear hb4 hL))
  refine (wpIn_wide (n := 4)).1 ?_
  refine wpIn_rangeFunc_ownF rfl (by omega) (gf := 36) (lb := #[.pointer (some ⟨q, 0, none⟩)]) rfl trivial (enters_of Try.func36 (by kernel_rfl) rfl)
    (values_stops q w4.heap.size [] (by simp) hq2 w4 (Nat.le_refl _) HL4.out) belowK_t (belowK_b (Nat.le_refl _)) (Below.refl _ _) (fun _ => rfl)
    (fun _ W => Below w4.heap.size w4 W) (fun _ _ _ => False) ?hI ?hIx ?h0 ?a1 ?assign ?body ?done ?stop
  case assign =>
    intro l' x W K hK
    simp only [oneInt]
    gi_wp2
    exact hK
  case hI => exact ownFrom_below (Nat.le_refl _) (Nat.le_refl _)
  case hIx => exact fun _ _ _ _ _ h _ _ => h
  case h0 => exact Below.refl _ _
  case body => exact fun _ pre _ _ _ h => absurd h (Nat.not_lt_zero _)
  case stop => exact fun _ _ _ _ _ _ h => h.elim
  case done =>
    rintro D ys W hD rfl hBW hK
    have hBW2 : Below w.heap.size w W := HB4.out.trans (hBW.mono HB4.out.size)
    have HB5 := Lib.hid hBW2
    have HR5 := Lib.hid (HR4.out.below hBW HR4.out.lt)
    have HK5 := Lib.hid hK
    have HDD := Lib.hid (show w.heap.size < D from Nat.lt_of_lt_of_le HR4.out.lt hD)
    clear hBW hBW2 hK hD hfn
    go_wp2_with fail
    refine (new_ok none 0 1 [] _ (Holds.nil _ _ _) (by simp) (by omega) (by omega) rfl).mono ?_
    rintro e w6 ⟨p, rfl, hd6, hb6⟩
    have HB6 := Lib.hid (HB5.out.call hb6)
    have hr6 := HR5.out.call hb6
    have HD6 := Lib.hid hd6
    have hK6 : Hid (w6.heap[D]? = some (.deferred (some []))) := Lib.hid ((hb6.block D (lt_of_heap HK5.out)).trans HK5.out)
    have hnd := H.out _ HB6.out
    have HND := Lib.hid hnd
    have HNN : Hid (NoDisk w6 (.pointer none)) := Lib.hid (.inl rfl)
    have hc6 := hr6.cell (i := 0) (v := .bool false) rfl
    have hf6 := hr6.free 0
    have HR6 := Lib.hid hr6
    clear hd6 hb6 hr6 hnd HK5
    go_wp2_with (first
      | (go_at_call 14; refine (write_no v at_ A nb cb _ HND.out).mono ?_; rintro e w7 ⟨rfl, rfl⟩)
      | (go_at_call 15; refine (sync_no v _ HND.out).mono ?_; rintro e w7 ⟨rfl, rfl⟩)
      | (go_at_call 19; refine (feed_no v none 0 0 _ HND.out).mono ?_; rintro e w7 ⟨rfl, rfl⟩)
      | (go_at_call 18; refine (size_no v _ HND.out).mono ?_; rintro e w7 ⟨rfl, rfl⟩)
      | (go_at_call 12; refine (copy_no v _ HND.out).mono ?_; rintro e w7 ⟨rfl, rfl⟩))
    refine (same_nn v (.pointer none) _ HND.out HNN.out).mono ?_
    rintro e w7 ⟨rfl, rfl⟩
    go_wp2_with fail
    refine (same_no v p _ _ HND.out HD6.out).mono ?_
    rintro e w7 ⟨rfl, rfl⟩
    go_wp2_with fail
    refine (same_on p _ v _ HD6.out HND.out).mono ?_
    rintro e w7 ⟨rfl, rfl⟩
    have hs8 := HR6.out.set_ 0 (.bool true)
    have hc9 := hs8.cell (i := 0) (v := .bool true) rfl
    have hDr : D ≠ w.heap.size := by have := HDD.out; omega
    have hD2 : (w6.setCell ⟨w.heap.size, 0, none⟩ (.bool true)).heap[D]? = some (.deferred (some [])) := (heap_setCell_other w6 ⟨w.heap.size, 0, none⟩ D (.bool true) hDr).trans hK6.out
    have hbe : Below w.heap.size w (w6.setCell ⟨w.heap.size, 0, none⟩ (.bool true)) := HB6.out.setCell (p := ⟨w.heap.size, 0, none⟩) (Nat.le_refl _) (.bool true)
    have HD2 := Lib.hid hD2
    have HBE := Lib.hid hbe
    have HC9 := Lib.hid hc9
    clear hs8 hc9 hD2 hbe
    go_wp2
    have hD2 := HD2.out
    have hbe := HBE.out
    have hc9 := HC9.out
    generalize w6.setCell ⟨w.heap.size, 0, none⟩ (.bool true) = V3 at *
    have hr2 := cell_kept hc9 (grownBy_putObj' V3 D (.deferred none)) (fun r e => by cases e; exact ⟨_, hD2, rfl⟩)
    have hDw : w.heap.size ≤ D := by have := HDD.out; omega
    have hbe2 := hbe.trans (belowK_b (w := w) (Nat.le_refl _) V3 D _ (.deferred none) hDw hD2 rfl rfl)
    refine ⟨by simp, .inl ⟨_, _, rfl, run_takeDeferred hD2, ?_⟩⟩
    refine ⟨.bool true, ?_, rfl, hbe2⟩
    simp [results, Try.f17, go_sem, hr2]
end Go.Proofs.Ytielinebhbhegaa
