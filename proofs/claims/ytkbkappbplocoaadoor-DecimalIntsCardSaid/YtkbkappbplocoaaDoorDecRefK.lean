/- Layer 7: the document's FromInt. -/
import Derived.Test.YtkbkappbplocoaaDoorDecRefJ
import Derived.Test.YtkbkappbplocoaaDoorDecFrom
import Derived.Test.YtkbkappbplocoaaDoorShelfB
namespace Go.Proofs.YtkbkappbplocoaaDoor
open Go.RowKit

theorem fromI_dec (n : Int) (h0 : -9223372036854775808 ≤ n) (h1 : n ≤ 9223372036854775807) : dec (decide (n < 0)) n.natAbs 0 = fromI n ∧ May (fromI n) := by
  have hu : n.natAbs < 18446744073709551616 := by omega
  have hm : mayB (dec (decide (n < 0)) n.natAbs 0) = true := by
    rcases Nat.eq_zero_or_pos n.natAbs with e | e
    · rw [e]; rfl
    · rw [dec_pos _ e, mayB_iff]
      have hl : (Lib.decDigits n.natAbs).length ≤ 20 := decDigits_len (by omega) (by omega)
      have ht := tz_le (decDigits_digs n.natAbs)
      rw [num_decDigits] at ht
      have hc : core n.natAbs ≤ n.natAbs := by unfold core; exact Nat.div_le_self _ _
      have hcl : (dig (core n.natAbs)).length ≤ 20 := by
        rw [dig_pos (core_pos e)]
        exact decDigits_len (by omega) (by omega)
      exact ⟨dig_digs _, by simp only; omega, dig_head _, dig_last (core_mod e), by simp only; omega, by simp only; omega, fun h => by
        have := num_dig (core n.natAbs)
        simp only at h
        rw [h, num_nil] at this
        have := core_pos e
        omega⟩
  have e : dec (decide (n < 0)) n.natAbs 0 = fromI n := by unfold fromI mkD; rw [if_pos hm]
  exact ⟨e, by rw [← e]; exact (mayB_iff _).1 hm⟩
set_option maxHeartbeats 1000000 in
theorem reffrom_ok (n : Int) (w : World) (h0 : -9223372036854775808 ≤ n) (h1 : n ≤ 9223372036854775807) (hT : PowTab w) :
    Calls Tryd.prog 21 #[.int .i64 n] w (OneDec w (fromI n)) := by
  have hu : (Lib.decDigits n.natAbs).length ≤ 20 := decDigits_len (by omega) (by omega)
  have HM := Lib.hid (fun W => made_ok (decide (n < 0)) (Lib.decDigits n.natAbs) 0 W (decDigits_digs _) (by omega) (by omega) (by omega))
  rw [num_decDigits, (fromI_dec n h0 h1).1] at HM
  unfold OneDec
  obtain ⟨w0, hw0⟩ : ∃ w0, w0 = w.alloc (.cells #[.bool false, .string ⟨#[]⟩, .int .i64 0] 23) := ⟨_, rfl⟩
  have HB0 : Hid (Below w.heap.size w w0) := Lib.hid (by subst hw0; exact (Below.refl _ _).alloc (Nat.le_refl _) _)
  have HR0 : Hid (Row w0 w.heap.size 23 #[.bool false, .string ⟨#[]⟩, .int .i64 0]) := Lib.hid (by subst hw0; exact Row.new _ _ _)
  have HF := Lib.hid (fun W h => Tryd.strconv_FormatInt_10 n h0 h1 W h)
  have HT := Lib.hid hT
  obtain ⟨⟨dn, dl, dx⟩, hD⟩ : ∃ D, D = fromI n := ⟨_, rfl⟩
  rw [← hD] at HM ⊢
  clear hD hT
  unfold MadePost decV at HM
  unfold decV
  simp only at HM ⊢
  have HSL : Hid (n < 0 → ∀ W, (Instr.slice 9 (.string ⟨(Lib.itoa n).toArray⟩) (some (.int .i64 1)) none none).run Tryd.prog W = .ok (.string (bs (Lib.decDigits n.natAbs))) W) := Lib.hid fun h W => by
    have e : Lib.itoa n = 45 :: Lib.decDigits n.natAbs := by unfold Lib.itoa; rw [if_pos h]
    rw [e]
    exact run_from_bs W _ Tryd.underlying9 (45 :: Lib.decDigits n.natAbs) 1 (by simp)
  have HSE : Hid (¬ n < 0 → (⟨(Lib.itoa n).toArray⟩ : ByteArray) = bs (Lib.decDigits n.natAbs)) := Lib.hid fun h => by
    have e : Lib.itoa n = Lib.decDigits n.natAbs := by unfold Lib.itoa; rw [if_neg h]; congr 1; omega
    rw [e]; rfl
  go_enter Tryd.func21, Tryd.ntmps21
  go_upto_region 1 with fail
  rw [← hw0]
  clear hw0
  go_wp2_with fail
  refine (HF.out _ (HT.out.below HB0.out)).mono ?_
  rintro e w1 ⟨rfl, hgrow⟩
  have hb1 : Below w0.heap.size w0 w1 := by obtain ⟨k, os, rfl⟩ := hgrow; exact Lib.below_grow _ _ (Nat.le_refl _) _ _
  have HB1 := Lib.hid (HB0.out.call hb1)
  have HR1 := Lib.hid (HR0.out.call hb1)
  clear hgrow hb1 HB0 HR0 HF
  by_cases hn : n < 0
  · have hsl := HSL.out hn
    have hb : decide (n < 0) = true := decide_eq_true hn
    rw [hb] at HM
    generalize (⟨(Lib.itoa n).toArray⟩ : ByteArray) = s1 at *
    clear HSL HSE
    go_wp2_with fail
    refine (HM.out _).mono ?_
    rintro e w2 ⟨rfl, hb2⟩
    obtain ⟨w3, hw3⟩ : ∃ w3, w3 = w2.alloc (.cells #[.bool dn, .string (bs dl), .int .i64 dx] 23) := ⟨_, rfl⟩
    have HB3 : Hid (Below w.heap.size w w3) := Lib.hid (by subst hw3; exact (HB1.out.call hb2).alloc (HB1.out.call hb2).size _)
    have HR3 : Hid (Row w3 w.heap.size 23 #[.bool false, .string ⟨#[]⟩, .int .i64 0]) := Lib.hid (by subst hw3; exact (HR1.out.call hb2).alloc _)
    have HX3 : Hid (Row w3 w2.heap.size 23 #[.bool dn, .string (bs dl), .int .i64 dx]) := Lib.hid (by subst hw3; exact Row.new _ _ _)
    clear hb2 HM
    go_upto_region 5 with fail
    rw [← hw3]
    clear hw3
    have y0 := HR3.out.cell (i := 0) (v := .bool false) rfl
    have y1 := HR3.out.cell (i := 1) (v := .string ⟨#[]⟩) rfl
    have y2 := HR3.out.cell (i := 2) (v := .int .i64 0) rfl
    have g0 := HR3.out.free 0
    have g1 := HR3.out.free 1
    have g2 := HR3.out.free 2
    have x0 := HX3.out.cell (i := 0) (v := .bool dn) rfl
    have x1 := HX3.out.cell (i := 1) (v := .string (bs dl)) rfl
    have x2 := HX3.out.cell (i := 2) (v := .int .i64 dx) rfl
    go_wp2_with fail
    have hrow := ((HR3.out.set_ 0 (.bool dn)).set_ 1 (.string (bs dl))).set_ 2 (.int .i64 dx)
    refine bodyPost_ret_by (results_one rfl _ _ w.heap.size #[.bool dn, .string (bs dl), .int .i64 dx] rfl (load_dec hrow rfl)) rfl ?_
    exact ⟨rfl, ((HB3.out.setCell (p := ⟨w.heap.size, 0, none⟩) (Nat.le_refl _) _).setCell (p := ⟨w.heap.size, 1, none⟩) (Nat.le_refl _) _).setCell (p := ⟨w.heap.size, 2, none⟩) (Nat.le_refl _) _⟩
  · have hb : decide (n < 0) = false := decide_eq_false hn
    rw [hb] at HM
    rw [HSE.out (by omega)]
    clear HSL HSE
    go_wp2_with fail
    refine (HM.out _).mono ?_
    rintro e w2 ⟨rfl, hb2⟩
    obtain ⟨w3, hw3⟩ : ∃ w3, w3 = w2.alloc (.cells #[.bool dn, .string (bs dl), .int .i64 dx] 23) := ⟨_, rfl⟩
    have HB3 : Hid (Below w.heap.size w w3) := Lib.hid (by subst hw3; exact (HB1.out.call hb2).alloc (HB1.out.call hb2).size _)
    have HR3 : Hid (Row w3 w.heap.size 23 #[.bool false, .string ⟨#[]⟩, .int .i64 0]) := Lib.hid (by subst hw3; exact (HR1.out.call hb2).alloc _)
    have HX3 : Hid (Row w3 w2.heap.size 23 #[.bool dn, .string (bs dl), .int .i64 dx]) := Lib.hid (by subst hw3; exact Row.new _ _ _)
    clear hb2 HM
    go_upto_region 5 with fail
    rw [← hw3]
    clear hw3
    have y0 := HR3.out.cell (i := 0) (v := .bool false) rfl
    have y1 := HR3.out.cell (i := 1) (v := .string ⟨#[]⟩) rfl
    have y2 := HR3.out.cell (i := 2) (v := .int .i64 0) rfl
    have g0 := HR3.out.free 0
    have g1 := HR3.out.free 1
    have g2 := HR3.out.free 2
    have x0 := HX3.out.cell (i := 0) (v := .bool dn) rfl
    have x1 := HX3.out.cell (i := 1) (v := .string (bs dl)) rfl
    have x2 := HX3.out.cell (i := 2) (v := .int .i64 dx) rfl
    go_wp2_with fail
    have hrow := ((HR3.out.set_ 0 (.bool dn)).set_ 1 (.string (bs dl))).set_ 2 (.int .i64 dx)
    refine bodyPost_ret_by (results_one rfl _ _ w.heap.size #[.bool dn, .string (bs dl), .int .i64 dx] rfl (load_dec hrow rfl)) rfl ?_
    exact ⟨rfl, ((HB3.out.setCell (p := ⟨w.heap.size, 0, none⟩) (Nat.le_refl _) _).setCell (p := ⟨w.heap.size, 1, none⟩) (Nat.le_refl _) _).setCell (p := ⟨w.heap.size, 2, none⟩) (Nat.le_refl _) _⟩
end Go.Proofs.YtkbkappbplocoaaDoor
