/- Layer 7: the greatest number of which both are whole ones of times. -/
import Derived.Test.YthgjelpmdndceaaGreatDoorPt42
import Derived.Test.YthgjelpmdndceaaGreatDoorPt06
import Derived.Test.YthgjelpmdndceaaGreatDoorPt03
namespace Go.Proofs.YthgjelpmdndceaaGreatDoor
open Go.RowKit

/-- The number that a slice of words holds. -/
def wordsAt (w : World) (v : Value) : Nat := match v with
  | .slice (some ⟨b, off, none⟩) k _ => wval ((List.range k).map fun i => match w.cell? ⟨b, off + i, none⟩ with | some (.int _ z) => z.toNat | _ => 0)
  | _ => 0
theorem Wds.num {w : World} {v : Value} {l : List Nat} (h : Wds w v l) : wordsAt w v = wval l := by
  rcases Nat.eq_zero_or_pos l.length with e | e
  · have hl : l = [] := List.eq_nil_of_length_eq_zero e
    subst hl
    obtain ⟨_, A, c, rfl, _⟩ := h
    unfold wordsAt
    split
    · rename_i h9; injection h9 with _ h9 _; rw [List.length_nil] at h9; subst h9; rfl
    · rfl
  · obtain ⟨b, off, c, rfl, _, _, _, hc⟩ := h.at_ e
    unfold wordsAt
    simp only
    congr 1
    apply List.ext_getElem
    · simp
    · intro i h1 h2
      simp only [List.getElem_map, List.getElem_range, hc i h2]
      simp [wat, List.getD_eq_getElem?_getD, List.getElem?_eq_getElem h2]
theorem wds_len_mono {m n : Nat} (h : m ≤ n) : (wds m).length ≤ (wds n).length := by
  rcases Nat.lt_or_ge (wds n).length (wds m).length with e | e
  · have := wds_len_lt e; omega
  · exact e

set_option maxHeartbeats 1000000 in
theorem divisor_ok (va vb : Value) (A B : Nat) (w : World) (ha : Wds w va (wds A)) (hb : Wds w vb (wds B)) (hla : (wds A).length ≤ 400000) (hlb : (wds B).length ≤ 400000) :
    Calls Tryz.prog 39 #[va, vb] w (NumPost w (Nat.gcd A B)) := by
  have HA := Lib.hid ha
  have HB := Lib.hid hb
  have HLA := Lib.hid hla
  have HLB := Lib.hid hlb
  clear ha hb hla hlb
  go_enter Tryz.func39, Tryz.ntmps39
  go_wp2_with fail
  go_loopw [0, 1] (fun v0 v1 wr => ∃ (X Y : Nat), Hid (Wds wr v0 (wds X)) ∧ Hid (Wds wr v1 (wds Y)) ∧ Hid (Nat.gcd X Y = Nat.gcd A B) ∧ Hid ((wds X).length ≤ 400000) ∧ Hid ((wds Y).length ≤ 400000) ∧ Hid (Below w.heap.size w wr)) (fun _ v1 wr => wordsAt wr v1)
  case atStart => exact ⟨A, B, HA, HB, Lib.hid rfl, HLA, HLB, Lib.hid (Below.refl _ _)⟩
  case round =>
    obtain ⟨X, Y, HX, HY, HG, HLX, HLY, HBW⟩ := hrel
    have hm := HY.out.num
    rw [wval_wds] at hm
    have HM := Lib.hid hm
    clear hm
    obtain ⟨_, A0, c0, rfl, _⟩ := id HX.out
    obtain ⟨_, A1, c1, rfl, hc11, _⟩ := id HY.out
    have hq : 0 < Y → Calls Tryz.prog 38 #[.slice A0 (wds X).length c0, .slice A1 (wds Y).length c1] wr (QuoPost wr X Y) := fun h => quotient_ok _ _ X Y wr HX.out HY.out h HLX.out HLY.out
    have HQ := Lib.hid hq
    have h00 : (wds Y).length = 0 → Y = 0 := fun h => wds_nil (List.eq_nil_of_length_eq_zero h)
    have H00 := Lib.hid h00
    clear hq h00
    obtain ⟨k, hk⟩ : ∃ k, k = (wds Y).length := ⟨_, rfl⟩
    rw [← hk] at HY HM HQ H00 hc11 ⊢
    have HK := Lib.hid hk
    clear hk
    by_cases h0 : k = 0
    · have hy0 : Y = 0 := H00.out h0
      have hg : X = Nat.gcd A B := by rw [← HG.out, hy0, Nat.gcd_zero_right]
      have HGG := Lib.hid hg
      have h1 : ¬ 0 < k := by omega
      clear hy0 hg
      go_wp2_with fail
      go_ret
      exact ⟨_, rfl, by rw [← HGG.out]; exact HX.out, HBW.out⟩
    · have hy0 : 0 < Y := by
        rcases Nat.eq_zero_or_pos Y with e | e
        · have := HK.out; rw [e, wds_zero] at this; exact absurd this h0
        · exact e
      have h1 : 0 < k := by omega
      have HQ2 := Lib.hid (HQ.out hy0)
      have HY0 := Lib.hid hy0
      clear hy0 h0
      go_wp2_with fail
      refine HQ2.out.mono ?_
      rintro e w5 ⟨vq, vr, rfl, hvq, hvr, hb5⟩
      have HB5 := Lib.hid (HBW.out.call hb5)
      have HY5 := Lib.hid (HY.out.below hb5)
      have HR5 := Lib.hid hvr
      have hm5 := hvr.num
      rw [wval_wds] at hm5
      have HM5 := Lib.hid hm5
      clear hvq hvr hb5 hm5
      go_wp2_with fail
      exact ⟨⟨Y, X % Y, HY5, HR5, Lib.hid (by rw [Nat.gcd_comm, ← Nat.gcd_rec, Nat.gcd_comm, HG.out]), HLY, Lib.hid (Nat.le_trans (wds_len_mono (Nat.le_of_lt (Nat.mod_lt _ HY0.out))) HLY.out), HB5⟩, by rw [HM5.out, HM.out]; exact Nat.mod_lt _ HY0.out⟩
end Go.Proofs.YthgjelpmdndceaaGreatDoor
/- Layer 7: isAbove. -/
namespace Go.Proofs.YthgjelpmdndceaaGreatDoor
open Go.RowKit

def aboveB (d : Dec) : Bool := mayB d && (!d.neg && !decide (d.digits = []))
theorem isAbove_ok (d : Dec) (w : World) (hl : d.digits.length ≤ 9223372036854775806) :
    Calls Tryz.prog 37 #[decV d] w fun e w' => e = .returned (.bool (aboveB d)) ∧ Below w.heap.size w w' := by
  have HCK := Lib.hid (fun W => check_ok d W hl)
  have HZK := Lib.hid (fun W => isZero_ok d W)
  have HN : Hid (mayB d = false → aboveB d = false) := Lib.hid fun h => by unfold aboveB; rw [h]; rfl
  have HY : Hid (mayB d = true → aboveB d = (!d.neg && !decide (d.digits = []))) := Lib.hid fun h => by unfold aboveB; rw [h]; rfl
  obtain ⟨neg, l, x⟩ := d
  unfold decV at *
  simp only at HCK HZK HY hl ⊢
  obtain ⟨w1, hw1⟩ : ∃ w1, w1 = w.alloc (.cells #[.bool neg, .string (bs l), .int .i64 x] 24) := ⟨_, rfl⟩
  have HB1 : Hid (Below w.heap.size w w1) := Lib.hid (by subst hw1; exact (Below.refl _ _).alloc (Nat.le_refl _) _)
  have HR1 : Hid (Row w1 w.heap.size 24 #[.bool neg, .string (bs l), .int .i64 x]) := Lib.hid (by subst hw1; exact Row.new _ _ _)
  have c0 := HR1.out.cell (i := 0) (v := .bool neg) rfl
  have c1 := HR1.out.cell (i := 1) (v := .string (bs l)) rfl
  have c2 := HR1.out.cell (i := 2) (v := .int .i64 x) rfl
  go_enter Tryz.func37, Tryz.ntmps37
  go_upto_region 1 with fail
  rw [← hw1]
  clear hw1
  go_wp2_with fail
  refine (HCK.out _).mono ?_
  rintro e w2 ⟨rfl, hb2⟩
  have HB2 := Lib.hid (HB1.out.call hb2)
  have hr2 := HR1.out.call hb2
  have k0 := hr2.cell (i := 0) (v := .bool neg) rfl
  have k1 := hr2.cell (i := 1) (v := .string (bs l)) rfl
  have k2 := hr2.cell (i := 2) (v := .int .i64 x) rfl
  clear c0 c1 c2 HB1 HR1 hb2 HCK hr2
  cases hm : mayB ⟨neg, l, x⟩ with
  | false =>
    have HX := Lib.hid (HN.out hm)
    rw [checkE_no hm]
    clear hm HN HY
    go_wp2
    go_ret
    exact ⟨by rw [HX.out]; rfl, HB2.out⟩
  | true =>
    have HX := Lib.hid (HY.out hm)
    rw [checkE_yes hm]
    clear hm HN HY
    cases neg with
    | true =>
      go_wp2
      go_ret
      exact ⟨by rw [HX.out]; rfl, HB2.out⟩
    | false =>
      go_wp2_with fail
      refine (HZK.out _).mono ?_
      rintro e w3 ⟨rfl, hb3⟩
      have HB3 := Lib.hid (HB2.out.call hb3)
      have HX2 := HX.out
      generalize decide (l = []) = z at *
      clear hb3
      go_wp2
      go_ret
      exact ⟨by rw [HX2]; rfl, HB3.out⟩
end Go.Proofs.YthgjelpmdndceaaGreatDoor
