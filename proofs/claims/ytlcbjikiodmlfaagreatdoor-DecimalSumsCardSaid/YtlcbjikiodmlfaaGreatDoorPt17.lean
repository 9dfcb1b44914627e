/- Layer 7: Sum where some decimal may not be. -/
import Derived.Test.YtlcbjikiodmlfaaGreatDoorPt16
namespace Go.Proofs.YtlcbjikiodmlfaaGreatDoor
open Go.RowKit

set_option maxRecDepth 100000 in
set_option maxHeartbeats 4000000 in
theorem sum_bad (A : Option Addr) (n c : Nat) (L : List Dec) (w : World) (hL : L.length = n) (hn : n ≤ 10000) (h : Holds w A n 3 (dcs L)) (hm : ¬ ∀ d ∈ L, May d) (hs : ∀ d ∈ L, d.digits.length ≤ 9223372036854775806) :
    Calls Tryz.prog 6 #[.slice A n c] w (Told w Dec.zero 2) := by
  obtain ⟨w0, hw0⟩ : ∃ w0, w0 = w.alloc (.cells #[.bool false, .string ⟨#[]⟩, .int .i64 0] 24) := ⟨_, rfl⟩
  have hb0 : Below w.heap.size w w0 := by subst hw0; exact (Below.refl _ _).alloc (Nat.le_refl _) _
  have hr0 : Row w0 w.heap.size 24 #[.bool false, .string ⟨#[]⟩, .int .i64 0] := by subst hw0; exact Row.new _ _ _
  have HB0 := Lib.hid hb0
  have HR0 := Lib.hid hr0
  have HH := Lib.hid h
  have HM := Lib.hid hm
  have HL := Lib.hid hL
  have HS := Lib.hid hs
  clear hb0 hr0 h hm hL hs
  go_enter Tryz.func6, Tryz.ntmps6
  go_upto_region 1 with fail
  rw [← hw0]
  clear hw0
  go_wp2_with fail
  go_loopw [4, 15] (fun v4 v15 wr => ∃ (i : Nat) (e0 : Int), i ≤ n ∧ v15 = .int .i64 i ∧ v4 = .int .i64 e0 ∧ -1000 ≤ e0 ∧ e0 ≤ 1000 ∧ Hid (∀ d ∈ L.take i, May d) ∧ Hid (Below w0.heap.size w0 wr)) (fun _ v15 _ => n - (intOf v15).toNat)
  case atStart => exact ⟨0, 1000, Nat.zero_le _, rfl, rfl, by omega, by omega, Lib.hid (fun d hd => by cases hd), Lib.hid (Below.refl _ _)⟩
  case round =>
    obtain ⟨i, e0, hi, rfl, rfl, hm1, hm2, HA, HBR⟩ := hrel
    by_cases hlt : i < n
    · have hd9 := HS.out (L.getD i Dec.zero) (mem_getD (by rw [HL.out]; exact hlt))
      obtain ⟨g, off, rfl, hg, hcell⟩ := HH.out.2 (by omega)
      have hbw := HB0.out.call HBR.out
      obtain ⟨j0, j1, j2⟩ := dcs_get L i (by rw [HL.out]; exact hlt)
      have k0 := (hbw.cell (p := ⟨g, off + i * 3, none⟩) hg).trans (hcell _ _ j0)
      have k1 := (hbw.cell (p := ⟨g, off + (i * 3 + 1), none⟩) hg).trans (hcell _ _ j1)
      have k2 := (hbw.cell (p := ⟨g, off + (i * 3 + 2), none⟩) hg).trans (hcell _ _ j2)
      rw [← Nat.add_assoc] at k1 k2
      have HTK : Hid (L.take (i + 1) = L.take i ++ [L.getD i Dec.zero]) := Lib.hid (getD_take L i (by rw [HL.out]; exact hlt))
      have HC := Lib.hid (fun W => check_ok (L.getD i Dec.zero) W hd9)
      clear j0 j1 j2 hcell hd9 hbw
      generalize L.getD i Dec.zero = d at *
      cases em : mayB d with
      | false =>
        have HCE := Lib.hid (checkE_no em)
        clear em
        obtain ⟨neg, l, x⟩ := d
        simp only at k0 k1 k2
        unfold decV at HC
        simp only at HC
        go_wp2_with fail
        refine (HC.out _).mono ?_
        rintro ez wz ⟨rfl, hbz⟩
        rw [HCE.out]
        have HBZ := Lib.hid ((HBR.out.alloc HBR.out.size (.cells #[.bool neg, .string (bs l), .int .i64 x] 24)).call hbz)
        have HRZ := Lib.hid (HR0.out.call HBZ.out)
        have HBA := Lib.hid (HB0.out.call HBZ.out)
        have y0 := HRZ.out.cell (i := 0) (v := .bool false) rfl
        have y1 := HRZ.out.cell (i := 1) (v := .string ⟨#[]⟩) rfl
        have y2 := HRZ.out.cell (i := 2) (v := .int .i64 0) rfl
        have g0 := HRZ.out.free 0
        have g1 := HRZ.out.free 1
        have g2 := HRZ.out.free 2
        clear hbz HC HCE HBR k0 k1 k2
        go_wp2_with fail
        have hrow := ((HRZ.out.set_ 0 (.bool false)).set_ 1 (.string ⟨#[]⟩)).set_ 2 (.int .i64 0)
        refine bodyPost_ret_by (results_row_tmp rfl _ _ w.heap.size #[.bool false, .string ⟨#[]⟩, .int .i64 0] rfl (load_dec hrow rfl)) rfl ?_
        exact ⟨rfl, ((HBA.out.setCell (p := ⟨w.heap.size, 0, none⟩) (Nat.le_refl _) _).setCell (p := ⟨w.heap.size, 1, none⟩) (Nat.le_refl _) _).setCell (p := ⟨w.heap.size, 2, none⟩) (Nat.le_refl _) _⟩
      | true =>
        have HCE := Lib.hid (checkE_yes em)
        have hmd := (mayB_iff d).1 em
        have hx1 := hmd.lo
        have hx2 := hmd.hi
        have HA2 : Hid (∀ x ∈ L.take (i + 1), May x) := Lib.hid (fun x hx => by
          rw [HTK.out] at hx
          rcases List.mem_append.1 hx with hx | hx
          · exact HA.out x hx
          · rw [List.mem_singleton] at hx; rw [hx]; exact hmd)
        clear em hmd HTK HA
        obtain ⟨neg, l, x⟩ := d
        simp only at k0 k1 k2 hx1 hx2
        unfold decV at HC
        simp only at HC
        go_wp2_with fail
        refine (HC.out _).mono ?_
        rintro ez wz ⟨rfl, hbz⟩
        rw [HCE.out]
        have hrow : Row (wr.alloc (.cells #[.bool neg, .string (bs l), .int .i64 x] 24)) wr.heap.size 24 #[.bool neg, .string (bs l), .int .i64 x] := Row.new _ _ _
        have y2 := (hrow.call hbz).cell (i := 2) (v := .int .i64 x) rfl
        have HBZ := Lib.hid ((HBR.out.alloc HBR.out.size (.cells #[.bool neg, .string (bs l), .int .i64 x] 24)).call hbz)
        clear hbz HC HCE hrow HBR
        go_wp2
        exact ⟨⟨i + 1, min e0 x, by omega, by go_num, rfl, by omega, by omega, HA2, HBZ⟩, by simp [intOf]; omega⟩
    · obtain rfl : i = n := by omega
      exact absurd (fun d hd => HA.out d (by rw [List.take_of_length_le (by rw [HL.out]; exact Nat.le_refl _)]; exact hd)) HM.out
/-- What Sum tells, of any decimals. -/
def sumR (L : List Dec) : Dec := if L.all mayB then sumD L else Dec.zero
def sumRE (L : List Dec) : Nat := if L.all mayB then sumE L else 2
theorem all_may {L : List Dec} : L.all mayB = true ↔ ∀ d ∈ L, May d := by
  rw [List.all_eq_true]
  exact ⟨fun h d hd => (mayB_iff d).1 (h d hd), fun h d hd => (mayB_iff d).2 (h d hd)⟩
theorem sum_any (A : Option Addr) (n c : Nat) (L : List Dec) (w : World) (hL : L.length = n) (hn : n ≤ 10000) (h : Holds w A n 3 (dcs L)) (hs : ∀ d ∈ L, d.digits.length ≤ 9223372036854775806) (hT : PowTab w) :
    Calls Tryz.prog 6 #[.slice A n c] w (Told w (sumR L) (sumRE L)) := by
  unfold sumR sumRE
  cases hb : L.all mayB with
  | true => exact sum_ok A n c L w hL hn h (all_may.1 hb) hT
  | false => exact sum_bad A n c L w hL hn h (fun hm => by rw [all_may.2 hm] at hb; cases hb) hs
end Go.Proofs.YtlcbjikiodmlfaaGreatDoor
