/- The law WalCrash. -/
import Derived.Test.YtljlkmmeedlaiaaDoorPt50
namespace Go.Proofs.YtljlkmmeedlaiaaDoor
open Go.RowKit

set_option maxRecDepth 1000000 in
set_option maxHeartbeats 20000000 in
theorem crash_law (sz fr n : Int) (A : Option Addr) (c : Nat) (l : List WLife) (w : World) (hT : Tab w) (h : WLivesOk w A l) (_ : l.length ≤ c ∧ c ≤ 9223372036854775807) (w1 : (Lit.int .i64 sz).wf = true) (w2 : (Lit.int .i64 fr).wf = true) (w3 : (Lit.int .i64 n).wf = true) :
    Calls Tryd.prog 4 #[.agg #[.int .i64 sz, .int .i64 fr, .int .i64 n, .slice A l.length c]] w fun e w' => e = .returned (.bool true) ∧ Below w.heap.size w w' := by
  obtain ⟨wb, hwb⟩ : ∃ wb, wb = w.alloc (.cells #[.int .i64 sz, .int .i64 fr, .int .i64 n, .slice A l.length c] 56) := ⟨_, rfl⟩
  have hbox : Row wb w.heap.size 56 #[.int .i64 sz, .int .i64 fr, .int .i64 n, .slice A l.length c] := by subst hwb; exact Row.new _ _ _
  have hbb : Below w.heap.size w wb := by subst hwb; exact (Below.refl _ _).alloc (Nat.le_refl _) _
  have hsb : wb.heap.size = w.heap.size + 1 := by subst hwb; simp
  have HBB := Lib.hid hbb
  have HL := Lib.hid h
  have HT := Lib.hid hT
  have hno : ∀ W, WScriptOk W none [] := fun W => ⟨Holds.nil _ _ _, fun s hs => by simp at hs⟩
  have HNO := Lib.hid hno
  clear h hbb hT hno
  go_enter Tryd.func4, Tryd.ntmps4
  go_upto_region 1 with fail
  change Code.wp _ _ _ _ (w.alloc _)
  rw [← hwb]
  have hc0 := hbox.cell (i := 0) (v := .int .i64 sz) rfl
  have hc1 := hbox.cell (i := 1) (v := .int .i64 fr) rfl
  have hc2 := hbox.cell (i := 2) (v := .int .i64 n) rfl
  have hc3 := hbox.cell (i := 3) (v := .slice A l.length c) rfl
  clear hwb
  by_cases hgood : 1 ≤ sz ∧ sz ≤ 65536
  case neg =>
    go_wp2_with fail
    refine (new_bad sz wb (by omega)).mono ?_
    rintro e w4 ⟨rfl, rfl⟩
    go_wp2_with fail
    refine (wvast_ok sz fr n none 0 [] _ (HNO.out _)).mono ?_
    rintro e w5 ⟨hb5, hv⟩
    have hb5 := HBB.out.trans (hb5.mono HBB.out.size)
    have HB5 := Lib.hid hb5
    clear hc0 hc1 hc2 hc3 hbox hb5
    rcases hv with rfl | ⟨rfl, _⟩
    all_goals
      go_wp2_with fail
      refine (known_ok _).mono ?_
      rintro e w6 ⟨rfl, hb6⟩
      have HF := Lib.hid (HB5.out.trans (hb6.mono HB5.out.size))
      clear hb6
      go_wp2
      go_ret
      exact ⟨rfl, HF.out⟩
  case pos =>
    obtain ⟨size, rfl⟩ : ∃ s : Nat, sz = (s : Int) := ⟨sz.toNat, by omega⟩
    go_wp2_with fail
    refine (new_ok none 0 size [] _ (Holds.nil _ _ _) (by simp) (by omega) (by omega) rfl).mono ?_
    rintro e w4 ⟨dp, rfl, hd4, hb4⟩
    have hbox4 := hbox.call hb4
    have hb04 : Below w.heap.size w w4 := HBB.out.trans (hb4.mono HBB.out.size)
    clear hc0 hc1 hc2 hc3 hbox
    have hc0 := hbox4.cell (i := 0) (v := .int .i64 size) rfl
    have hc1 := hbox4.cell (i := 1) (v := .int .i64 fr) rfl
    have hc2 := hbox4.cell (i := 2) (v := .int .i64 n) rfl
    have HD4 := Lib.hid hd4
    have HB4 := Lib.hid hb4
    have HX4 := Lib.hid hbox4
    have HB04 := Lib.hid hb04
    clear hd4 hb4 hbox4 hb04
    go_wp2_with fail
    refine (wvast_ok size fr n none 0 [] _ (HNO.out _)).mono ?_
    rintro e w5 ⟨hb5, hv⟩
    clear hc0 hc1 hc2
    have hx5 := HX4.out.call hb5
    have HD5 := Lib.hid (HD4.out.below hb5)
    have HX5 := Lib.hid hx5
    have HB5 := Lib.hid (HB04.out.call hb5)
    have HDB := Lib.hid (show ∀ k, k ≤ w.heap.size → k < w5.heap.size ∧ ¬ grow noBlock wb k from fun k hk => ⟨by have := HB4.out.size; have := hb5.size; omega, fun hx => by
      rcases hx with hx | hx
      · exact hx
      · omega⟩)
    have hc0 := hx5.cell (i := 0) (v := .int .i64 size) rfl
    have hc1 := hx5.cell (i := 1) (v := .int .i64 fr) rfl
    have hc2 := hx5.cell (i := 2) (v := .int .i64 n) rfl
    clear HD4 HB4 HX4 HB04 hx5
    rcases hv with rfl | ⟨rfl, hsz60, _, _⟩
    · go_wp2_with fail
      refine (known_ok _).mono ?_
      rintro e w6 ⟨rfl, hb6⟩
      have HF := Lib.hid (HB5.out.trans (hb6.mono HB5.out.size))
      clear hb6
      go_wp2
      go_ret
      exact ⟨rfl, HF.out⟩
    clear hb5
    go_wp2_with fail
    refine (wright_ok size fr n w5 (by omega) (by omega) w2).mono ?_
    rw [Int.toNat_natCast]
    rintro e w6 ⟨rfl, hb6⟩
    clear hc0 hc1 hc2
    have hx6 := HX5.out.call hb6
    have HD6 := Lib.hid (HD5.out.below hb6)
    have HX6 := Lib.hid hx6
    have HB6 := Lib.hid (HB5.out.call hb6)
    have HDB6 : Hid (∀ k, k ≤ w.heap.size → k < w6.heap.size ∧ ¬ grow noBlock wb k) := Lib.hid fun k hk => ⟨Nat.lt_of_lt_of_le (HDB.out k hk).1 hb6.size, (HDB.out k hk).2⟩
    have hc0 := hx6.cell (i := 0) (v := .int .i64 size) rfl
    have hc1 := hx6.cell (i := 1) (v := .int .i64 fr) rfl
    have hc2 := hx6.cell (i := 2) (v := .int .i64 n) rfl
    have hc3 := hx6.cell (i := 3) (v := .slice A l.length c) rfl
    clear hx6 hb6 HX5 HD5 HB5 HDB
    by_cases hp : placeE size fr n = 0
    case neg =>
      obtain ⟨no, hno⟩ : ∃ no, no = placeE size fr n := ⟨_, rfl⟩
      rw [← hno] at hp ⊢
      clear hno
      have hne0 : (no != 0) = true := by simpa using hp
      go_wp2_with fail
      refine (known_ok _).mono ?_
      rintro e w7 ⟨rfl, hb7⟩
      have HF := Lib.hid (HB6.out.trans (hb7.mono HB6.out.size))
      clear hb7
      go_wp2
      go_ret
      exact ⟨rfl, HF.out⟩
    case pos =>
      obtain ⟨a, nn, rfl, rfl, hn4, hfit⟩ : ∃ a nn : Nat, fr = (a : Int) ∧ n = (nn : Int) ∧ 4 ≤ nn ∧ a + nn ≤ size := by
        unfold placeE at hp
        split at hp
        · omega
        · split at hp
          · omega
          · exact ⟨fr.toNat, n.toNat, by omega, by omega, by omega, by omega⟩
      rw [hp]
      clear hp
      by_cases h6 : 6 < l.length
      · go_wp2_with fail
        refine (known_ok _).mono ?_
        rintro e w7 ⟨rfl, hb7⟩
        have HF := Lib.hid (HB6.out.trans (hb7.mono HB6.out.size))
        clear hb7
        go_wp2
        go_ret
        exact ⟨rfl, HF.out⟩
      have HDS : Hid (DiskSt w6 (fun k => k ≤ w.heap.size) dp size (fun _ => zsec)) := Lib.hid ⟨_, _, HD6.out.there, fun k hk => hk.2, rfl, ⟨rfl, rfl, rfl, fun _ => Sec.zero⟩, rfl, fun k hk => ⟨(HDB6.out k hk).1, fun h9 => (HDB6.out k hk).2 h9.1⟩⟩
      have HF0 := Lib.hid (st_format (a := a) (n := nn) HDS.out hn4 hfit)
      clear HDS HD6 HDB6
      go_wp2_with fail
      refine HF0.out.mono ?_
      rintro e w7 ⟨rfl, hd7, hk7⟩
      clear hc0 hc1 hc2 hc3 HF0
      have hx7 := HX6.out.kept hk7 fun hx => hx (Nat.le_refl _)
      have hb7 : Below w.heap.size w w7 := HB6.out.trans (hk7.below HB6.out.size fun k hx => by
        rcases Nat.lt_or_ge k w.heap.size with h9 | h9
        · exact absurd (Nat.le_of_lt h9) hx
        · exact h9)
      have HCD : Hid (CrD w #[.int .i64 size, .int .i64 a, .int .i64 nn, .slice A l.length c] size a nn dp 1 1 0 [] none 0 w7) := Lib.hid ⟨⟨_, _, hd7, Sound.format (fun _ => Sec.zero) hn4 (by omega), fun k hk => hk, Lies.empty _ _ _ _ _⟩, hx7, hb7⟩
      clear hd7 hk7 hx7 hb7 HX6 HB6
      go_upto_region 5 with fail
      rename_i K0 hK0
      have HK0 := Lib.hid hK0
      clear hK0
      go_wp2_with fail
      refine HK0.out _ _ ?_
      clear HK0
      refine wp_code livesCode (by kernel_rfl) ?_
      refine frO_end (K := fun a9 W9 => Code.wp Tryd.prog livesCode _ a9 W9) (.pointer (some ⟨w.heap.size, 0, none⟩)) (.pointer (some ⟨dp, 0, none⟩)) (.slice none 0 0) (.int .i64 0) (by kernel_rfl) ?_
      refine lives_ok w _ size a nn A c l HT.out HL.out (by omega) hfit rfl _ dp w7 HCD.out _ _ ?_ ?_
      · intro h2 dp2 bs2 Aw2 cw2 W2 hb2
        dsimp only [frO]
        go_wp2_with fail
        refine (known_ok _).mono ?_
        rintro e w9 ⟨rfl, hb9⟩
        have HF := Lib.hid (hb2.trans (hb9.mono hb2.size))
        clear hb9 hb2
        go_wp2
        go_ret
        exact ⟨rfl, HF.out⟩
      · intro h2 W2 hb2
        have HF := Lib.hid hb2
        clear hb2
        dsimp only [frR]
        go_wp2
        go_ret
        exact ⟨rfl, HF.out⟩
end Go.Proofs.YtljlkmmeedlaiaaDoor
