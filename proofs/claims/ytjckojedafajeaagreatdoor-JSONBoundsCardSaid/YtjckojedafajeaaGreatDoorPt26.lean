/- Layer 8: the path /b/0, as Pointer goes along it; strings.Clone. -/
import Derived.Test.YtjckojedafajeaaGreatDoorPt21
import Derived.Test.YtjckojedafajeaaGreatDoorPt25
namespace Go.Proofs.YtjckojedafajeaaGreatDoor
open Go.RowKit
set_option maxRecDepth 100000 in
set_option maxHeartbeats 4000000 in
theorem clone_ok (l : List UInt8) (w : World) (h : l.length ≤ 100000000000000) : Calls Tryz.prog 54 #[.string (bs l)] w fun e w' => e = .returned (.string (bs l)) ∧ Below w.heap.size w w' := by
  have HC := Lib.hid (Tryz.stringslite_Clone (bs l) w (by rw [bs_size]; omega))
  go_enter Tryz.func54, Tryz.ntmps54
  go_wp2_with fail
  refine HC.out.mono ?_
  rintro e w1 ⟨rfl, hb⟩
  go_wp2_with fail
  go_ret
  exact ⟨rfl, hb⟩
set_option maxRecDepth 100000 in
set_option maxHeartbeats 4000000 in
theorem count_98_49 (w : World) : Calls Tryz.prog 137 #[.string ⟨#[98]⟩, .string ⟨#[126, 49]⟩] w fun e w' => e = .returned (.int .i64 0) ∧ w = w' := by
  go_enter Tryz.func137, Tryz.ntmps137
  go_wp2
  go_loop [0, 5] (fun v0 v5 => v0 = .string ⟨#[98]⟩ ∧ v5 = .int .i64 0) (fun _ _ => 0)
  case atStart => exact ⟨rfl, rfl⟩
  case round =>
    obtain ⟨rfl, rfl⟩ := hrel
    go_wp2
    go_ret
    exact ⟨rfl, rfl⟩
set_option maxRecDepth 100000 in
set_option maxHeartbeats 4000000 in
theorem repl_98_49 (w : World) : Calls Tryz.prog 84 #[.string ⟨#[98]⟩, .string ⟨#[126, 49]⟩, .string ⟨#[47]⟩] w fun e w' => e = .returned (.string ⟨#[98]⟩) ∧ w = w' := by
  have HC := Lib.hid (count_98_49 w)
  go_enter Tryz.func84, Tryz.ntmps84
  go_wp2_with (first
    | (go_at_call 137; refine HC.out.mono ?_; rintro e w' ⟨rfl, rfl⟩)
    | go_in)
  go_ret
  exact ⟨rfl, rfl⟩
set_option maxRecDepth 100000 in
set_option maxHeartbeats 4000000 in
theorem count_98_48 (w : World) : Calls Tryz.prog 137 #[.string ⟨#[98]⟩, .string ⟨#[126, 48]⟩] w fun e w' => e = .returned (.int .i64 0) ∧ w = w' := by
  go_enter Tryz.func137, Tryz.ntmps137
  go_wp2
  go_loop [0, 5] (fun v0 v5 => v0 = .string ⟨#[98]⟩ ∧ v5 = .int .i64 0) (fun _ _ => 0)
  case atStart => exact ⟨rfl, rfl⟩
  case round =>
    obtain ⟨rfl, rfl⟩ := hrel
    go_wp2
    go_ret
    exact ⟨rfl, rfl⟩
set_option maxRecDepth 100000 in
set_option maxHeartbeats 4000000 in
theorem repl_98_48 (w : World) : Calls Tryz.prog 84 #[.string ⟨#[98]⟩, .string ⟨#[126, 48]⟩, .string ⟨#[126]⟩] w fun e w' => e = .returned (.string ⟨#[98]⟩) ∧ w = w' := by
  have HC := Lib.hid (count_98_48 w)
  go_enter Tryz.func84, Tryz.ntmps84
  go_wp2_with (first
    | (go_at_call 137; refine HC.out.mono ?_; rintro e w' ⟨rfl, rfl⟩)
    | go_in)
  go_ret
  exact ⟨rfl, rfl⟩
set_option maxRecDepth 100000 in
set_option maxHeartbeats 4000000 in
theorem count_48_49 (w : World) : Calls Tryz.prog 137 #[.string ⟨#[48]⟩, .string ⟨#[126, 49]⟩] w fun e w' => e = .returned (.int .i64 0) ∧ w = w' := by
  go_enter Tryz.func137, Tryz.ntmps137
  go_wp2
  go_loop [0, 5] (fun v0 v5 => v0 = .string ⟨#[48]⟩ ∧ v5 = .int .i64 0) (fun _ _ => 0)
  case atStart => exact ⟨rfl, rfl⟩
  case round =>
    obtain ⟨rfl, rfl⟩ := hrel
    go_wp2
    go_ret
    exact ⟨rfl, rfl⟩
set_option maxRecDepth 100000 in
set_option maxHeartbeats 4000000 in
theorem repl_48_49 (w : World) : Calls Tryz.prog 84 #[.string ⟨#[48]⟩, .string ⟨#[126, 49]⟩, .string ⟨#[47]⟩] w fun e w' => e = .returned (.string ⟨#[48]⟩) ∧ w = w' := by
  have HC := Lib.hid (count_48_49 w)
  go_enter Tryz.func84, Tryz.ntmps84
  go_wp2_with (first
    | (go_at_call 137; refine HC.out.mono ?_; rintro e w' ⟨rfl, rfl⟩)
    | go_in)
  go_ret
  exact ⟨rfl, rfl⟩
set_option maxRecDepth 100000 in
set_option maxHeartbeats 4000000 in
theorem count_48_48 (w : World) : Calls Tryz.prog 137 #[.string ⟨#[48]⟩, .string ⟨#[126, 48]⟩] w fun e w' => e = .returned (.int .i64 0) ∧ w = w' := by
  go_enter Tryz.func137, Tryz.ntmps137
  go_wp2
  go_loop [0, 5] (fun v0 v5 => v0 = .string ⟨#[48]⟩ ∧ v5 = .int .i64 0) (fun _ _ => 0)
  case atStart => exact ⟨rfl, rfl⟩
  case round =>
    obtain ⟨rfl, rfl⟩ := hrel
    go_wp2
    go_ret
    exact ⟨rfl, rfl⟩
set_option maxRecDepth 100000 in
set_option maxHeartbeats 4000000 in
theorem repl_48_48 (w : World) : Calls Tryz.prog 84 #[.string ⟨#[48]⟩, .string ⟨#[126, 48]⟩, .string ⟨#[126]⟩] w fun e w' => e = .returned (.string ⟨#[48]⟩) ∧ w = w' := by
  have HC := Lib.hid (count_48_48 w)
  go_enter Tryz.func84, Tryz.ntmps84
  go_wp2_with (first
    | (go_at_call 137; refine HC.out.mono ?_; rintro e w' ⟨rfl, rfl⟩)
    | go_in)
  go_ret
  exact ⟨rfl, rfl⟩
set_option maxRecDepth 100000 in
set_option maxHeartbeats 4000000 in
theorem isPath_b0 (w : World) : Calls Tryz.prog 48 #[.string ⟨#[47, 98, 47, 48]⟩] w fun e w' => e = .returned (.bool true) ∧ w = w' := by
  go_enter Tryz.func48, Tryz.ntmps48
  go_wp2
  go_loop [13] (fun v13 => ∃ k : Nat, k ≤ 4 ∧ v13 = .int .i64 (k : Int)) (fun v13 => 4 - (intOf v13).toNat)
  case atStart => exact ⟨0, Nat.zero_le _, rfl⟩
  case round =>
    obtain ⟨k, hk, rfl⟩ := hrel
    rcases (show k = 0 ∨ k = 1 ∨ k = 2 ∨ k = 3 ∨ k = 4 by omega) with rfl | rfl | rfl | rfl | rfl
    · go_wp2
      go_round
      case rel => exact ⟨_, _, _, ⟨1, by omega, rfl⟩, rfl, rfl, rfl⟩
      case measure => simp [intOf]
    · go_wp2
      go_round
      case rel => exact ⟨_, _, _, ⟨2, by omega, rfl⟩, rfl, rfl, rfl⟩
      case measure => simp [intOf]
    · go_wp2
      go_round
      case rel => exact ⟨_, _, _, ⟨3, by omega, rfl⟩, rfl, rfl, rfl⟩
      case measure => simp [intOf]
    · go_wp2
      go_round
      case rel => exact ⟨_, _, _, ⟨4, by omega, rfl⟩, rfl, rfl, rfl⟩
      case measure => simp [intOf]
    · go_wp2
      go_ret
      exact ⟨rfl, rfl⟩
/-- A call that leaves the world as it was, but for what was drawn. -/
def CutPost (w : World) (a b : List UInt8) (e : Ending) (w' : World) : Prop := e = .returned (.tuple #[.string ⟨a.toArray⟩, .string ⟨b.toArray⟩]) ∧ Below w.heap.size w w'
theorem same_q {f : FuncId} {args : Array Value} {w : World} {e0 : Ending} (h : Calls Tryz.prog f args w fun e w' => e = e0 ∧ w = w') : Calls Tryz.prog f args w fun e w' => e = e0 ∧ w' = w := h.mono fun _ _ h => ⟨h.1, h.2.symm⟩
set_option maxRecDepth 100000 in
set_option maxHeartbeats 4000000 in
theorem cut_b (w : World) : Calls Tryz.prog 49 #[.string ⟨#[47, 98, 47, 48]⟩] w (CutPost w [98] [47, 48]) := by
  have HR := Lib.hid (repl_98_49 w)
  have hx : (⟨#[47, 98, 47, 48]⟩ : ByteArray).extract 1 2 = ⟨#[98]⟩ := by decide
  have hy : (⟨#[47, 98, 47, 48]⟩ : ByteArray).extract 2 4 = ⟨#[47, 48]⟩ := by decide
  go_enter Tryz.func49, Tryz.ntmps49
  go_wp2
  go_loop [4] (fun v4 => v4 = .int .i64 1 ∨ v4 = .int .i64 2) (fun v4 => 2 - (intOf v4).toNat)
  case atStart => exact .inl rfl
  case round =>
    rcases hrel with rfl | rfl
    · go_wp2
      go_round
      case rel => exact .inr rfl
      case measure => simp [intOf]
    · go_wp2_with fail
      refine HR.out.mono ?_
      rintro e w1 ⟨rfl, rfl⟩
      go_wp2_with fail
      go_quiet ((go_at_call 84; with_reducible exact Calls.quiet_of_same (same_q (repl_98_48 _))))
      go_wp2_with fail
      go_ret2
      exact ⟨rfl, below_drewN (Below.refl _ _) _⟩
end Go.Proofs.YtjckojedafajeaaGreatDoor
/- Layer 8: put: a value is laid into the innermost one that is open. -/
namespace Go.Proofs.YtjckojedafajeaaGreatDoor
open Go.RowKit

set_option maxRecDepth 1000000 in
set_option maxHeartbeats 40000000 in
theorem jput_ok (p : Nat) (X : Txt) (s s0 : List UInt8) (E O E0 O0 : Value) (f f0 : Fl) (w0 w : World) (own : Nat → Nat) (t : Fr) (r : List Fr) (v : JV) (cs : List Value)
    (h0 : JAt w0 p X s0 E0 O0 f0) (h : JAt w p X s E O f) (hs : Stk w own w0.heap.size (t :: r) E O) (hv : JIs w (FB own w0.heap.size 0) v cs) (hb : w0.heap.size ≤ w.heap.size) (hl : t.list.length ≤ 1048576) :
    Calls Tryz.prog 64 #[.pointer (some ⟨p, 0, none⟩), .agg cs.toArray] w fun e w' => e = .returned (.tuple #[]) ∧
      ∃ own', Stk w' own' w0.heap.size (putK v (t :: r)) E O ∧ JAt w' p X s E O f ∧ Still w w' (StkF own w0.heap.size) own own' := by
  obtain ⟨w1, hw1⟩ : ∃ w1, w1 = w.alloc (.cells cs.toArray 30) := ⟨_, rfl⟩
  have hb1 : Below w.heap.size w w1 := by subst hw1; exact (Below.refl _ _).alloc (Nat.le_refl _) _
  obtain ⟨A, c, hE, hc1, hc2⟩ := hs.ends.form
  subst hE
  obtain ⟨hl2, k, hr, hk, hkl⟩ := h
  have HD := Lib.hid (jisDeep_ok p X k A (t :: r).length c O f w1 (hr.below hb1))
  obtain ⟨K2, hK2⟩ : ∃ K2, K2 = putK v (t :: r) := ⟨_, rfl⟩
  rw [← hK2]
  have HK2 := Lib.hid hK2
  clear hK2
  go_enter Tryz.func64, Tryz.ntmps64
  go_upto_region 1 with fail
  rw [← hw1]
  have hlen : (t :: r).length = r.length + 1 := rfl
  have hcs : cs.length = 8 := hv.len
  have H := Lib.hid (And.intro hl2 (And.intro hr (And.intro hk hkl)))
  have HS := Lib.hid hs
  have HV := Lib.hid hv
  have H0 := Lib.hid h0
  have HB := Lib.hid hb
  have HW := Lib.hid hw1
  have HL := Lib.hid hl
  have HB1 := Lib.hid hb1
  have c3 := (hr.below hb1).row.cell (i := 3) (v := O) rfl
  clear hl2 hr hk hkl hs hv h0 hb hw1 hb1 hl
  by_cases hd : 64 < (t :: r).length
  · obtain rfl : K2 = t :: r := by rw [HK2.out]; unfold putK isDeepK maxDeep; rw [decide_eq_true hd]; rfl
    rw [decide_eq_true hd] at HD
    clear HK2
    go_wp2_with fail
    refine HD.out.mono ?_
    rintro e w2 ⟨rfl, rfl⟩
    go_wp2_with fail
    refine bodyPost_ret (results_none rfl _ _ _) rfl ?_
    refine ⟨rfl, own, ?_, ?_, ?_⟩
    · exact HS.out.still (G := fun _ => False) ⟨keptOf_below HB1.out, fun _ _ => rfl⟩ (fun _ h => h.elim)
    · exact ⟨H.out.1, k, H.out.2.1.below HB1.out, H.out.2.2⟩
    · exact ⟨keptOf_below HB1.out, fun _ _ => rfl⟩
  · have hr64 : r.length < 64 := by rw [hlen] at hd; omega
    rw [decide_eq_false hd] at HD
    obtain ⟨g, off, cap, cs0, L, N, M, css, rfl, ht⟩ := HS.out.top hr64
    have HT := Lib.hid ht
    have h9 : ((r.length + 1 : Nat) : Int) - 1 = (r.length : Int) := by omega
    have hlt : r.length < r.length + 1 := by omega
    clear ht hd
    go_wp2_with fail
    refine HD.out.mono ?_
    rintro e w2 ⟨rfl, rfl⟩
    clear HD
    generalize hn1 : r.length + 1 = n1 at *
    have HN1 := Lib.hid hn1
    have HN2 := Lib.hid hlen
    generalize hm : r.length = m at *
    have HM := Lib.hid hm
    clear hn1 hlen hm hc1 hc2
    go_wp2_with fail
    go_quiet (fail)
    go_upto_region 3 with fail
    obtain ⟨w9, hw9⟩ : ∃ w9, w9 = w1.drewN nq := ⟨_, rfl⟩
    rw [← hw9]
    have HW9 := Lib.hid hw9
    have hb9 : Below w.heap.size w w9 := by rw [hw9]; exact below_drewN HB1.out _
    have HB9 := Lib.hid hb9
    have HT9 : Hid (Top w9 own w0.heap.size t r g off cap cs0 L N M css) := Lib.hid (HT.out.still (G := fun _ => False) ⟨keptOf_below hb9, fun _ _ => rfl⟩ (fun _ h => h.elim))
    have HL9 : Hid (∀ W, Below w9.heap.size w9 W → W.cell? ⟨g, off + m * 9 + 6, none⟩ = some L) := Lib.hid fun W hb => by
      rw [← HM.out]
      exact (hb.cell (p := ⟨g, off + r.length * 9 + 6, none⟩) HT9.out.block.2).trans (HT9.out.cell 6 L rfl)
    have HV9 : Hid (∀ W, Below w9.heap.size w9 W → W.rangeAt w.heap.size 0 cs) := Lib.hid fun W hb => by
      have hrow : Row w9 w.heap.size 30 cs.toArray := by rw [hw9]; refine Row.drewN ?_ _; rw [HW.out]; exact Row.new _ _ _
      intro j u hu
      rw [Nat.zero_add]
      exact (hrow.call hb).cell (by simpa using hu)
    clear hw9 hb9
    refine wp_region_till 7 (fun W => Below w9.heap.size w9 W) (by kernel_rfl) ?_
    have hS0 : Below w9.heap.size w9 w9.drew := (Below.refl _ _).drew
    obtain ⟨A0, c0, hL0, hc1, hc2⟩ := HT9.out.list.form
    subst hL0
    generalize hn : t.list.length = n at *
    have HN := Lib.hid hn
    clear hn
    refine wpTill_take (i := 0) (oi := ?_) (v := ?_) ?_ (by kernel_rfl) (by kernel_rfl) (by kernel_rfl) (by kernel_rfl) (by kernel_rfl) ?_ ?_ (by assumption) ?_
    rotate_left 2
    · simp only [List.getElem?_toArray, List.getElem?_cons_zero]; with_reducible rfl
    · exact fun _ _ _ h => h
    · refine Or.inl ⟨by rfl, ?_⟩; intro W hSw; go_simp; try with_reducible rfl
    try simp only [Act.put, List.setIfInBounds_toArray, List.set_cons_zero, List.set_cons_succ]
    refine wpTill_take (i := 1) (oi := ?_) (v := ?_) ?_ (by kernel_rfl) (by kernel_rfl) (by kernel_rfl) (by kernel_rfl) (by kernel_rfl) ?_ ?_ (by assumption) ?_
    rotate_left 2
    · simp only [List.getElem?_toArray, List.getElem?_cons_succ, List.getElem?_cons_zero]; with_reducible rfl
    · exact fun _ _ _ h => h
    · refine Or.inl ⟨by rfl, ?_⟩; intro W hSw; go_simp; try with_reducible rfl
    try simp only [Act.put, List.setIfInBounds_toArray, List.set_cons_zero, List.set_cons_succ]
    refine wpTill_take (i := 2) (oi := ?_) (v := ?_) ?_ (by kernel_rfl) (by kernel_rfl) (by kernel_rfl) (by kernel_rfl) (by kernel_rfl) ?_ ?_ (by assumption) ?_
    rotate_left 2
    · simp only [List.getElem?_toArray, List.getElem?_cons_succ, List.getElem?_cons_zero]; with_reducible rfl
    · exact fun _ _ _ h => h
    · refine Or.inl ⟨by rfl, ?_⟩; intro W hSw; go_simp; try with_reducible rfl
    try simp only [Act.put, List.setIfInBounds_toArray, List.set_cons_zero, List.set_cons_succ]
    refine wpTill_take (i := 3) (oi := ?_) (v := ?_) ?_ (by kernel_rfl) (by kernel_rfl) (by kernel_rfl) (by kernel_rfl) (by kernel_rfl) ?_ ?_ (by assumption) ?_
    rotate_left 2
    · simp only [List.getElem?_toArray, List.getElem?_cons_succ, List.getElem?_cons_zero]; with_reducible rfl
    · exact fun _ _ _ h => h
    · refine Or.inl ⟨by rfl, ?_⟩; intro W hSw; have q := HL9.out W hSw; go_simp; try with_reducible rfl
    try simp only [Act.put, List.setIfInBounds_toArray, List.set_cons_zero, List.set_cons_succ]
    refine wpTill_take (i := 4) (oi := ?_) (v := ?_) ?_ (by kernel_rfl) (by kernel_rfl) (by kernel_rfl) (by kernel_rfl) (by kernel_rfl) ?_ ?_ (by assumption) ?_
    rotate_left 2
    · simp only [List.getElem?_toArray, List.getElem?_cons_succ, List.getElem?_cons_zero]; with_reducible rfl
    · exact fun _ _ _ h => h
    · refine yieldsIf_load_mid ?_ 30 (.tmp 3) ?_ w.heap.size 0 ?_ cs _ HV9.out Tryz.underlying30 rfl (by rw [hcs]; exact infoJ) <;> rfl
    try simp only [Act.put, List.setIfInBounds_toArray, List.set_cons_zero, List.set_cons_succ]
    refine wpTill_take (i := 5) (oi := ?_) (v := ?_) ?_ (by kernel_rfl) (by kernel_rfl) (by kernel_rfl) (by kernel_rfl) (by kernel_rfl) ?_ ?_ (by assumption) ?_
    rotate_left 2
    · simp only [List.getElem?_toArray, List.getElem?_cons_succ, List.getElem?_cons_zero]; with_reducible rfl
    · exact fun _ _ _ h => h
    · refine Or.inl ⟨by rfl, ?_⟩; intro W hSw; go_simp; try with_reducible rfl
    try simp only [Act.put, List.setIfInBounds_toArray, List.set_cons_zero, List.set_cons_succ]
    refine wpTill_one (i := 6) (o := ?_) (by kernel_rfl) ?_ ?_ ?_
    rotate_left 1
    · simp only [List.getElem?_toArray, List.getElem?_cons_succ, List.getElem?_cons_zero]; with_reducible rfl
    · rfl
    intro K1 hK1
    go_simp
    obtain ⟨w10, hw10⟩ : ∃ w10, w10 = (w9.alloc (.cells zeroJ 30)).drew := ⟨_, rfl⟩
    have HA : Hid (Below w9.heap.size w9 w10) := Lib.hid (by rw [hw10]; exact ((Below.refl w9.heap.size w9).alloc (Nat.le_refl _) (.cells zeroJ 30)).drew)
    have HS10 : Hid (Lies w10 (FB own w0.heap.size (4 + 3 * m)) 30 8 (.slice A0 n c0) n css.flatten) := Lib.hid (by have := HT9.out.list.below HA.out; rw [HM.out, HN.out] at this; exact this)
    have HZ : Hid (Source w10 (some ⟨w9.heap.size, 0, none⟩) 1 zeroJ.toList) := Lib.hid (.inr ⟨_, rfl, fun j u hu => by
      rw [Addr.add_lit, Nat.zero_add, hw10]
      exact (Row.new w9 30 zeroJ).cell (by simpa using hu)⟩)
    unfold zeroJ at hw10
    rw [← hw10]
    clear hw10
    refine hK1 _ _ (fun _ => HA.out) ?_
    clear hK1 K1 hS0
    refine wpTill_one (i := 7) (o := ?_) (by kernel_rfl) ?_ ?_ ?_
    rotate_left 1
    · simp only [List.getElem?_toArray, List.getElem?_cons_succ, List.getElem?_cons_zero]; with_reducible rfl
    · rfl
    intro K1 hK1
    refine wp_append_any (FB own w0.heap.size (4 + 3 * m)) _ _ _ rfl 30 8 112 (.agg zeroJ) Tryz.underlying27 infoJV rfl (by omega) _ n css.flatten rfl HS10.out _ 1 1 zeroJ.toList rfl rfl HZ.out (by decide) ?_ (by omega) ?_
    · have := HL.out; omega
    intro v11 w11 hl11 hk11
    refine hK1 _ _ (fun h => by cases h) ?_
    clear hK1 K1
    refine wpTill_past _ _ _ _ (by kernel_rfl) ?_
    obtain ⟨g2, off2, cap2, rfl, hF2, hnc, hcm, hglt, hrg⟩ := hl11.cells (by omega)
    have hn2 : n < n + 1 := by omega
    have hfl : css.flatten.length = n * 8 := HS10.out.1
    have T10 : Top w10 own w0.heap.size t r g off cap cs0 (.slice A0 n c0) N M css := HT9.out.still (G := fun _ => False) ⟨keptOf_below HA.out, fun _ _ => rfl⟩ (fun _ h => h.elim)
    have hg2 : own g = 2 ∧ w0.heap.size ≤ g := T10.block.1
    have hgl : g < w10.heap.size := T10.block.2
    have hne : ∀ q, grow (FB own w0.heap.size (4 + 3 * m)) w10 q → q ≠ g := fun q hq e => by
      subst e
      rcases hq with hq | hq
      · have := hq.1; omega
      · omega
    obtain ⟨W1, hW1⟩ : ∃ W1, W1 = w11.setCells g2 (off2 + n * 8) cs := ⟨_, rfl⟩
    obtain ⟨Wf, hWf⟩ : ∃ Wf, Wf = W1.setCell ⟨g, off + m * 9 + 6, none⟩ (.slice (some ⟨g2, off2, none⟩) (n + 1) cap2) := ⟨_, rfl⟩
    have FI : Hid (∃ own', Stk Wf own' w0.heap.size K2 (.slice A (t :: r).length c) (.slice (some ⟨g, off, none⟩) n1 cap) ∧ JAt Wf p X s (.slice A (t :: r).length c) (.slice (some ⟨g, off, none⟩) n1 cap) f ∧ Still w Wf (StkF own w0.heap.size) own own') := Lib.hid (by
      obtain ⟨own', ho'⟩ : ∃ own' : Nat → Nat, ∀ q, own' q = if q < w10.heap.size then own q else 4 + 3 * m := ⟨_, fun _ => rfl⟩
      have hbw : Below w.heap.size w w10 := HB9.out.call HA.out
      have k1 : Kept (FB own w0.heap.size (4 + 3 * m)) w10 W1 := by
        rw [hW1]
        exact (kept_mono hk11 fun _ h => h.1).trans (kept_mono (kept_setCells w11 g2 cs _ w11 (Kept.refl _ _)) fun q e => by rw [e]; exact hF2)
      have s1 : Still w10 W1 (FB own w0.heap.size (4 + 3 * r.length)) own own' := ⟨by rw [HM.out]; exact k1, fun q hq => by rw [ho', if_pos hq]⟩
      have hl12 : Lies W1 (FB own' w0.heap.size (4 + 3 * r.length)) 30 8 (.slice (some ⟨g2, off2, none⟩) (n + 1) cap2) (t.list.length + 1) (css.flatten ++ cs) := by
        have h9 := Lies.setCells cs w11 css.flatten zeroJ.toList hl11 (by rw [hcs]; rfl)
        rw [hfl, ← hW1] at h9
        rw [HN.out, HM.out]
        refine h9.mono fun q hq => ⟨?_, ?_⟩
        · rw [ho']
          split
          · rename_i hlt
            rcases hq with hq | hq
            · exact hq.1
            · omega
          · rfl
        · rcases hq with hq | hq
          · exact hq.2
          · exact Nat.le_trans HB.out (Nat.le_trans hbw.size hq)
      have TF := T10.more s1 ((HV.out).below hbw) hl12
      rw [HM.out, ← hWf] at TF
      have hK : K2 = ⟨t.obj, t.list ++ [v], t.names⟩ :: r := by
        rw [HK2.out]
        have : isDeepK (t :: r) = false := by unfold isDeepK maxDeep; simp only [List.length_cons]; rw [decide_eq_false (by have := HM.out; omega)]
        unfold putK
        rw [this]
        rfl
      have kC : Kept (· = g) W1 Wf := by rw [hWf]; exact Kept.cell _ _ _ _
      have kAll : Kept (StkF own w0.heap.size) w Wf :=
        ((keptOf_below hbw).trans' (kept_mono k1 fun q hq => ⟨hq.2, by rw [hq.1]; omega, by rw [hq.1]; omega⟩)).trans' (kept_mono kC fun q e => by rw [e]; exact ⟨hg2.2, by rw [hg2.1]; omega, by rw [hg2.1]; omega⟩)
      refine ⟨own', ?_, ?_, ⟨kAll, fun q hq => by rw [ho', if_pos (Nat.lt_of_lt_of_le hq hbw.size)]⟩⟩
      · rw [hK, ← HN1.out, ← HM.out]
        refine TF.stk (by rw [HM.out]; exact hr64) ?_
        have e1 := HS.out.ends.below hbw
        have e2 := Lies.still (own' := own') e1 ⟨k1, fun q hq => by rw [ho', if_pos hq]⟩ (fun q hq _ => by rw [hq.1]; omega)
        have e3 := Lies.still (own' := own') e2 ⟨kC, fun _ _ => rfl⟩ (fun q hq _ => by rw [hq, ho', if_pos hgl, hg2.1]; omega)
        have e4 : ((⟨t.obj, t.list ++ [v], t.names⟩ : Fr) :: r).reverse.map endB = (t :: r).reverse.map endB := by simp [endB]
        rw [e4]
        exact e3
      · exact H0.out.above ⟨H.out.1, k, H.out.2.1, H.out.2.2⟩ (kept_mono kAll fun q hq => hq.1))
    have hcell : Hid (∀ V, V = w11 ∨ V = W1 → V.cell? ⟨g, off + m * 9 + 6, none⟩ = some (.slice A0 n c0) ∧ V.frozen? ⟨g, off + m * 9 + 6, none⟩ = false) := Lib.hid (fun V hV => by
      have a1 := T10.all.there.kept (hk11) (fun q hq hq2 => by have := hq.1.1; have := hq2.1.1; omega)
      have hlen := T10.len
      rw [HM.out] at hlen a1
      rcases hV with rfl | rfl
      · exact all_cell a1 hlen rfl
      · rw [hW1]
        exact all_cell (a1.kept (kept_setCells w11 g2 cs _ w11 (Kept.refl _ _)) (fun q hq e => by
          subst e
          have := hq.1.1
          rcases hF2 with h9 | h9
          · have := h9.1; omega
          · have := hq.2; omega)) hlen rfl)
    have hthere : Hid (∀ V, V = w11 ∨ V = w11.setCell ⟨g, off + m * 9 + 6, none⟩ (.slice (some ⟨g2, off2, none⟩) (n + 1) cap2) → V.there g2 (off2 + n * 8) cs.toArray.size) := Lib.hid (fun V hV => by
      rw [List.size_toArray, hcs]
      rcases hV with rfl | rfl
      · exact hl11.thereAt (by omega)
      · exact (hl11.kept (Kept.cell _ _ _ _) hne).thereAt (by omega))
    have hone := Lib.hid (all_oneCell_toArray (jv_one HV.out))
    have hswap : Hid ((w11.setCell ⟨g, off + m * 9 + 6, none⟩ (.slice (some ⟨g2, off2, none⟩) (n + 1) cap2)).setCells g2 (off2 + n * 8) cs = Wf) := Lib.hid (by
      rw [hWf, hW1]
      exact setCells_apart _ _ _ (fun e => hne g2 hF2 e.symm) _ _ _)
    have HW1 := Lib.hid hW1
    have HWf := Lib.hid hWf
    clear hl11 hk11 hF2 hnc hcm hrg hfl hW1 hWf
    generalize hN1 : n + 1 = N1 at *
    clear hN1
    refine wpAny_take (i := 8) (oi := ?_) (v := ?_) ?_ (by kernel_rfl) (by kernel_rfl) (by kernel_rfl) ?_ ?_ ?_
    rotate_left 2
    · simp only [List.getElem?_toArray, List.getElem?_cons_succ, List.getElem?_cons_zero]; with_reducible rfl
    · exact fun _ _ _ h => h
    · refine Or.inl ⟨by rfl, ?_⟩; intro W; go_simp; try with_reducible rfl
    try simp only [Act.put, List.setIfInBounds_toArray, List.set_cons_zero, List.set_cons_succ]
    refine wpAny_take (i := 10) (oi := ?_) (v := ?_) ?_ (by kernel_rfl) (by kernel_rfl) (by kernel_rfl) ?_ ?_ ?_
    rotate_left 2
    · simp only [List.getElem?_toArray, List.getElem?_cons_succ, List.getElem?_cons_zero]; with_reducible rfl
    · exact fun _ _ _ h => h
    · refine Or.inl ⟨by rfl, ?_⟩; intro W; go_simp; try with_reducible rfl
    try simp only [Act.put, List.setIfInBounds_toArray, List.set_cons_zero, List.set_cons_succ]
    refine wpAny_take (i := 11) (oi := ?_) (v := ?_) ?_ (by kernel_rfl) (by kernel_rfl) (by kernel_rfl) ?_ ?_ ?_
    rotate_left 2
    · simp only [List.getElem?_toArray, List.getElem?_cons_succ, List.getElem?_cons_zero]; with_reducible rfl
    · exact fun _ _ _ h => h
    · refine Or.inl ⟨by rfl, ?_⟩; intro W; go_simp; try with_reducible rfl
    try simp only [Act.put, List.setIfInBounds_toArray, List.set_cons_zero, List.set_cons_succ]
    have hi8 : (Tryz.prog.info? 30).map (·.size) = some cs.toArray.size := by rw [List.size_toArray, hcs]; exact infoJ
    refine wpAny_ready (rs := [9, 12]) (by kernel_rfl) (by simp) ?_
    refine AllReady.cons (o := ?o9) ?g9 (fun K1 hK1 => ?s9) (AllReady.cons (o := ?o12) ?g12 (fun K3 hK3 => ?s12) AllReady.nil)
    case g9 => simp only [List.getElem?_toArray, List.getElem?_cons_succ, List.getElem?_cons_zero]; with_reducible rfl
    case g12 => simp only [List.getElem?_toArray, List.getElem?_cons_succ, List.getElem?_cons_zero]; with_reducible rfl
    case s9 =>
      rw [if_pos (by rfl)]
      refine wp_store_mid 30 (.tmp 27) (.tmp 23) rfl g2 (off2 + n * 8) cs.toArray rfl rfl (hthere.out _ (.inl rfl)) hi8 hone.out ?_
      rw [← HW1.out]
      refine hK1 _ _ ?_
      clear hK1 K1
      try simp only [Act.put]
      obtain ⟨q1, q2⟩ := hcell.out _ (.inr rfl)
      refine wpAny_ready (rs := [12]) (by kernel_rfl) (by simp) ?_
      refine AllReady.cons (o := ?_) ?_ (fun K1 hK1 => ?_) AllReady.nil
      rotate_left 1
      · simp only [List.getElem?_toArray, List.getElem?_cons_succ, List.getElem?_cons_zero]; with_reducible rfl
      rw [if_pos (by rfl)]
      go_simp
      refine hK1 _ _ ?_
      clear hK1 K1
      try simp only [Act.put]
      refine wpAny_done (by kernel_rfl) ?_ _
      rw [← HWf.out]
      go_end0
      have e9 := FI.out
      rw [← HN1.out, ← HM.out] at e9
      exact ⟨rfl, e9⟩
    case s12 =>
      obtain ⟨q1, q2⟩ := hcell.out _ (.inl rfl)
      rw [if_pos (by rfl)]
      go_simp
      refine hK3 _ _ ?_
      clear hK3 K3
      try simp only [Act.put, List.setIfInBounds_toArray, List.set_cons_zero, List.set_cons_succ]
      refine wpAny_ready (rs := [9]) (by kernel_rfl) (by simp) ?_
      refine AllReady.cons (o := ?_) ?_ (fun K1 hK1 => ?_) AllReady.nil
      rotate_left 1
      · simp only [List.getElem?_toArray, List.getElem?_cons_succ, List.getElem?_cons_zero]; with_reducible rfl
      rw [if_pos (by rfl)]
      refine wp_store_mid 30 (.tmp 27) (.tmp 23) rfl g2 (off2 + n * 8) cs.toArray rfl rfl (hthere.out _ (.inr rfl)) hi8 hone.out ?_
      rw [hswap.out]
      refine hK1 _ _ ?_
      clear hK1 K1
      try simp only [Act.put]
      refine wpAny_done (by kernel_rfl) ?_ _
      go_end0
      have e9 := FI.out
      rw [← HN1.out, ← HM.out] at e9
      exact ⟨rfl, e9⟩
end Go.Proofs.YtjckojedafajeaaGreatDoor
