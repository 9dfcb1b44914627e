/- Layer 3: the head that stands in a sector. -/
import Derived.Test.YtljlkmmeedlaiaaDoorPt14
namespace Go.Proofs.YtljlkmmeedlaiaaDoor
open Go.RowKit

def HeadOfPost (w : World) (l : List Nat) (i : Nat) (e : Ending) (w' : World) : Prop := e = .returned (headV (headVal l i).1 (headVal l i).2) ∧ Below w.heap.size w w'
set_option maxRecDepth 100000 in
set_option maxHeartbeats 1000000 in
theorem headOf_ok (g off c i : Nat) (l : List Nat) (w : World) (hA : Bytes w (some ⟨g, off, none⟩) 512 l) (hc : 512 ≤ c) (hcm : c ≤ maxLen) :
    Calls Tryd.prog 70 #[slc g off 512 c, .int .i64 i] w (HeadOfPost w l i) := by
  have hg : g < w.heap.size := by
    obtain ⟨b, o, e, hb, _⟩ := hA.2.2 (by omega)
    injection e with e; injection e with e; omega
  have HA := Lib.hid hA
  have hsm := hA.lt
  have hr := runL_lt hsm
  have hb := runL_lt (l := l.drop 8) (Small.drop hsm 8)
  have ha := runL_lt (l := l.drop 504) (Small.drop hsm 504)
  unfold maxLen at hcm
  obtain ⟨x, hx⟩ : ∃ x, x = le (l.take 8) := ⟨_, rfl⟩
  obtain ⟨y, hy⟩ : ∃ y, y = le ((l.drop 8).take 8) := ⟨_, rfl⟩
  obtain ⟨z, hz⟩ : ∃ z, z = le ((l.drop 504).take 8) := ⟨_, rfl⟩
  have HV : Hid (headVal l i = if x ≠ z ∨ 4611686018427387904 ≤ x ∨ x < y ∨ x % 2 ≠ i then (0, 0) else (x, y)) := Lib.hid (by rw [hx, hy, hz]; rfl)
  change le (l.take 8) < _ at hr
  change le ((l.drop 8).take 8) < _ at hb
  change le ((l.drop 504).take 8) < _ at ha
  rw [← hx] at hr
  rw [← hy] at hb
  rw [← hz] at ha
  have HX := Lib.hid hx
  have HY := Lib.hid hy
  have HZ := Lib.hid hz
  clear hx hy hz
  clear hA hsm
  go_enter Tryd.func70, Tryd.ntmps70
  go_wp2_with fail
  refine (taker_ok _ 512 c _).mono ?_
  rintro e w1 ⟨rfl, rfl⟩
  have HR1 : Hid (Row ((w.alloc (.cells #[.int .u64 0, .int .u64 0] 66)).alloc (.cells #[slc g off 512 c] 41)) w.heap.size 66 #[.int .u64 0, .int .u64 0]) := Lib.hid ((Row.new _ _ _).alloc _)
  have HQ1 : Hid (Row ((w.alloc (.cells #[.int .u64 0, .int .u64 0] 66)).alloc (.cells #[slc g off 512 c] 41)) (w.heap.size + 1) 41 #[slc g off 512 c]) := Lib.hid (Row.new1 _ _ _ _)
  have HB1 : Hid (Below w.heap.size w ((w.alloc (.cells #[.int .u64 0, .int .u64 0] 66)).alloc (.cells #[slc g off 512 c] 41))) := Lib.hid (((Below.refl _ _).alloc (Nat.le_refl _) _).alloc (by simp) _)
  generalize (w.alloc (.cells #[.int .u64 0, .int .u64 0] 66)).alloc (.cells #[slc g off 512 c] 41) = w1 at *
  go_wp2_with fail
  refine (take_ok (w.heap.size + 1) g off 512 c 8 l _ HQ1.out (HA.out.below HB1.out) (by omega) (by omega) hc (by unfold maxLen; omega)).mono ?_
  rintro e w2 ⟨he, hl2⟩
  rw [← HX.out] at he
  subst he
  have HQ2 := Lib.hid (hl2.row HQ1.out (by omega))
  have HR2 := Lib.hid (HR1.out.kept hl2.kept (by omega))
  have HB2 := Lib.hid (HB1.out.trans (hl2.kept.below HB1.out.size (fun k hk => by omega)))
  clear HQ1 HR1 HB1 hl2
  go_wp2_with fail
  refine (take_ok (w.heap.size + 1) g (off + 8) (512 - 8) (c - 8) 8 (l.drop 8) _ HQ2.out ((HA.out.below HB2.out).drop (by omega)) (by omega) (by omega) (by omega) (by unfold maxLen; omega)).mono ?_
  rintro e w3 ⟨he, hl3⟩
  rw [← HY.out] at he
  subst he
  have HR3 := Lib.hid (HR2.out.kept hl3.kept (by omega))
  have HB3 := Lib.hid (HB2.out.trans (hl3.kept.below HB2.out.size (fun k hk => by omega)))
  clear HQ2 HR2 HB2 hl3
  go_wp2_with fail
  refine (taker_ok _ 8 (c - 504) _).mono ?_
  rintro e w4 ⟨rfl, rfl⟩
  have HR4 : Hid (Row ((w3.alloc (.cells #[.int .u64 x, .int .u64 y] 66)).alloc (.cells #[slc g (off + 504) 8 (c - 504)] 41)) w.heap.size 66 #[.int .u64 0, .int .u64 0]) := Lib.hid ((HR3.out.alloc _).alloc _)
  have HH4 : Hid (Row ((w3.alloc (.cells #[.int .u64 x, .int .u64 y] 66)).alloc (.cells #[slc g (off + 504) 8 (c - 504)] 41)) w3.heap.size 66 #[.int .u64 x, .int .u64 y]) := Lib.hid ((Row.new _ _ _).alloc _)
  have HQ4 : Hid (Row ((w3.alloc (.cells #[.int .u64 x, .int .u64 y] 66)).alloc (.cells #[slc g (off + 504) 8 (c - 504)] 41)) (w3.heap.size + 1) 41 #[slc g (off + 504) 8 (c - 504)]) := Lib.hid (Row.new1 _ _ _ _)
  have HB4 : Hid (Below w.heap.size w ((w3.alloc (.cells #[.int .u64 x, .int .u64 y] 66)).alloc (.cells #[slc g (off + 504) 8 (c - 504)] 41))) := Lib.hid (HB3.out.trans (((Below.refl _ _).alloc HB3.out.size _).alloc (by have := HB3.out.size; simp; omega) _))
  have h3 : w.heap.size < w3.heap.size := HR3.out.lt
  generalize (w3.alloc (.cells #[.int .u64 x, .int .u64 y] 66)).alloc (.cells #[slc g (off + 504) 8 (c - 504)] 41) = w4 at *
  clear HR3 HB3
  go_wp2_with fail
  have hA5 := (HA.out.below HB4.out).drop (k := 504) (by omega)
  have HA5 := Lib.hid hA5
  clear hA5
  have h504 : 8 ≤ c - 504 := by omega
  have hcm5 : c - 504 ≤ maxLen := by unfold maxLen; omega
  refine (take_ok (w3.heap.size + 1) g (off + 504) 8 (c - 504) 8 (l.drop 504) w4 HQ4.out HA5.out (Nat.le_refl _) (Nat.le_refl _) h504 hcm5).mono ?_
  rintro e w5 ⟨he, hl5⟩
  rw [← HZ.out] at he
  subst he
  have HR5 := Lib.hid (HR4.out.kept hl5.kept (by omega))
  have HH5 := Lib.hid (HH4.out.kept hl5.kept (by omega))
  have HB5 := Lib.hid (HB4.out.trans (hl5.kept.below HB4.out.size (fun k hk => by omega)))
  clear HR4 HH4 HQ4 HB4 hl5 HX HY HZ HA
  have h0 := HH5.out.cell (i := 0) (v := .int .u64 x) rfl
  have h1 := HH5.out.cell (i := 1) (v := .int .u64 y) rfl
  have HST : Hid (∀ w6, Below w5.heap.size w5 w6 → Row w6 w.heap.size 66 #[.int .u64 0, .int .u64 0] ∧ w6.cell? ⟨w3.heap.size, 0, none⟩ = some (.int .u64 x) ∧ w6.cell? ⟨w3.heap.size, 1, none⟩ = some (.int .u64 y) ∧ Below w.heap.size w w6) :=
    Lib.hid fun w6 hb6 => ⟨HR5.out.call hb6, (HH5.out.call hb6).cell (i := 0) rfl, (HH5.out.call hb6).cell (i := 1) rfl, HB5.out.trans (hb6.mono HB5.out.size)⟩
  have hrow : ∀ w6, Row w6 w.heap.size 66 #[.int .u64 0, .int .u64 0] → ∀ a b : Nat, Row ((w6.setCell ⟨w.heap.size, 0, none⟩ (.int .u64 a)).setCell ⟨w.heap.size, 1, none⟩ (.int .u64 b)) w.heap.size 66 #[.int .u64 a, .int .u64 b] := fun w6 h6 a b => by
    have := (h6.set_ 0 (.int .u64 a)).set_ 1 (.int .u64 b)
    simpa using this
  have HROW := Lib.hid hrow
  clear hrow
  by_cases c123 : x ≠ z ∨ 4611686018427387904 ≤ x ∨ x < y
  · have HZ0 : Hid (headVal l i = (0, 0)) := Lib.hid (by rw [HV.out, if_pos (by rcases c123 with h | h | h; exact .inl h; exact .inr (.inl h); exact .inr (.inr (.inl h)))])
    have hrow0 := HROW.out w5 HR5.out 0 0
    have r0 := HR5.out.cell (i := 0) (v := .int .u64 0) rfl
    have r1 := HR5.out.cell (i := 1) (v := .int .u64 0) rfl
    have f0 := HR5.out.free 0
    have f1 := HR5.out.free 1
    have HROW0 := Lib.hid hrow0
    clear HR5 HH5 hrow0 HROW HST
    by_cases c1 : x = z
    · subst c1
      by_cases c2 : (4611686018427387904 : Int) ≤ (x : Int)
      · go_wp2_with fail
        refine bodyPost_ret (results_cell_row rfl _ _ w.heap.size 66 #[.int .u64 (0 : Nat), .int .u64 (0 : Nat)] (0, 0) _ rfl HROW0.out Tryd.underlying66 rfl infoHead) rfl ?_
        exact ⟨by rw [HZ0.out], (HB5.out.setCell (p := ⟨w.heap.size, 0, none⟩) (Nat.le_refl _) _).setCell (p := ⟨w.heap.size, 1, none⟩) (Nat.le_refl _) _⟩
      · have c3 : (x : Int) < (y : Int) := by omega
        clear c123
        go_wp2_with fail
        refine bodyPost_ret (results_cell_row rfl _ _ w.heap.size 66 #[.int .u64 (0 : Nat), .int .u64 (0 : Nat)] (0, 0) _ rfl HROW0.out Tryd.underlying66 rfl infoHead) rfl ?_
        exact ⟨by rw [HZ0.out], (HB5.out.setCell (p := ⟨w.heap.size, 0, none⟩) (Nat.le_refl _) _).setCell (p := ⟨w.heap.size, 1, none⟩) (Nat.le_refl _) _⟩
    · clear c123
      go_wp2_with fail
      refine bodyPost_ret (results_cell_row rfl _ _ w.heap.size 66 #[.int .u64 (0 : Nat), .int .u64 (0 : Nat)] (0, 0) _ rfl HROW0.out Tryd.underlying66 rfl infoHead) rfl ?_
      exact ⟨by rw [HZ0.out], (HB5.out.setCell (p := ⟨w.heap.size, 0, none⟩) (Nat.le_refl _) _).setCell (p := ⟨w.heap.size, 1, none⟩) (Nat.le_refl _) _⟩
  · obtain rfl : x = z := by omega
    have d2 : decide ((4611686018427387904 : Int) ≤ (x : Int)) = false := by simp; omega
    have d3 : decide (x < y) = false := by simp; omega
    have HXY : Hid (headVal l i = if x % 2 ≠ i then (0, 0) else (x, y)) := Lib.hid (by
      rw [HV.out]
      by_cases h : x % 2 ≠ i
      · rw [if_pos (.inr (.inr (.inr h))), if_pos h]
      · rw [if_neg h, if_neg (by omega)])
    have HX64 : Hid (x < 9223372036854775808) := Lib.hid (by omega)
    have h05 := (HST.out w5 (Below.refl _ _)).2.1
    have h15 := (HST.out w5 (Below.refl _ _)).2.2.1
    clear c123 HV HR5 HH5 HA5 h504 hcm5 h0 h1 h3 hc hcm hg
    by_cases c4 : x % 2 = i
    · rw [if_neg (by omega)] at HXY
      have d4 : ((x : Int) % 2 != (i : Int)) = false := by simp; omega
      clear c4
      go_wp2_with (go_at_call 29; refine (sector_ok x y _ HX64.out).mono ?_; rintro e w6 ⟨rfl, hb6⟩
                   obtain ⟨hR6, h06, h16, hB6⟩ := HST.out w6 hb6
                   have r0 := hR6.cell (i := 0) (v := .int .u64 0) rfl
                   have r1 := hR6.cell (i := 1) (v := .int .u64 0) rfl
                   have f0 := hR6.free 0
                   have f1 := hR6.free 1
                   have HROW0 := Lib.hid (HROW.out w6 hR6 x y)
                   have HB6 := Lib.hid hB6
                   clear hR6 hB6 hb6)
      refine bodyPost_ret (results_cell_row rfl _ _ w.heap.size 66 #[.int .u64 (x : Nat), .int .u64 (y : Nat)] (0, 0) _ rfl HROW0.out Tryd.underlying66 rfl infoHead) rfl ?_
      exact ⟨by rw [HXY.out], (HB6.out.setCell (p := ⟨w.heap.size, 0, none⟩) (Nat.le_refl _) _).setCell (p := ⟨w.heap.size, 1, none⟩) (Nat.le_refl _) _⟩
    · rw [if_pos c4] at HXY
      have d4 : ((x : Int) % 2 != (i : Int)) = true := by simp; omega
      clear c4
      go_wp2_with (go_at_call 29; refine (sector_ok x y _ HX64.out).mono ?_; rintro e w6 ⟨rfl, hb6⟩
                   obtain ⟨hR6, h06, h16, hB6⟩ := HST.out w6 hb6
                   have r0 := hR6.cell (i := 0) (v := .int .u64 0) rfl
                   have r1 := hR6.cell (i := 1) (v := .int .u64 0) rfl
                   have f0 := hR6.free 0
                   have f1 := hR6.free 1
                   have HROW0 := Lib.hid (HROW.out w6 hR6 0 0)
                   have HB6 := Lib.hid hB6
                   clear hR6 hB6 hb6)
      refine bodyPost_ret (results_cell_row rfl _ _ w.heap.size 66 #[.int .u64 (0 : Nat), .int .u64 (0 : Nat)] (0, 0) _ rfl HROW0.out Tryd.underlying66 rfl infoHead) rfl ?_
      exact ⟨by rw [HXY.out], (HB6.out.setCell (p := ⟨w.heap.size, 0, none⟩) (Nat.le_refl _) _).setCell (p := ⟨w.heap.size, 1, none⟩) (Nat.le_refl _) _⟩
end Go.Proofs.YtljlkmmeedlaiaaDoor
