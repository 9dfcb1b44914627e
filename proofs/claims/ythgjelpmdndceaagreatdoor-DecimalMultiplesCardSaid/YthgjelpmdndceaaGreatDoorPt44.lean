/- Layer 7: Multiple. -/
import Derived.Test.YthgjelpmdndceaaGreatDoorPt43
import Derived.Test.YthgjelpmdndceaaGreatDoorPt31
namespace Go.Proofs.YthgjelpmdndceaaGreatDoor
open Go.RowKit

theorem num_above {d : Dec} (h : mayB d = true) (h2 : d.digits ≠ []) : 0 < num d.digits := by
  have m := (mayB_iff d).1 h
  have := num_last m.digs h2 m.last
  omega
theorem lev_pos {d : Dec} (h : aboveB d = true) (e : Int) : 0 < lev d e := by
  unfold aboveB at h
  simp only [Bool.and_eq_true, Bool.not_eq_true', decide_eq_false_iff_not] at h
  exact Nat.mul_pos (num_above h.1 h.2.2) (Nat.pow_pos (by omega))
theorem above_may {d : Dec} (h : aboveB d = true) : mayB d = true := by
  unfold aboveB at h
  simp only [Bool.and_eq_true] at h
  exact h.1
theorem lev_words {d : Dec} (h : May d) {e : Int} (he : -1000 ≤ e) : (wds (lev d e)).length ≤ 20000 := words_few (k := 1) (by have := lev_lt h he; omega) (by omega)

def mulOk (a b : Dec) : Bool := mayB a && aboveB b
/-- The lower one of both powers. -/
def minX (a b : Dec) : Int := min a.exp b.exp
def multB (a b : Dec) : Bool := mulOk a b && decide (lev a (minX a b) % lev b (minX a b) = 0)
def multE (a b : Dec) : Nat := if mulOk a b = true then 0 else 2
def MultPost (w : World) (r : Bool) (k : Nat) (e : Ending) (w' : World) : Prop := e = .returned (.tuple #[.bool r, .int .i64 (k : Int)]) ∧ Below w.heap.size w w'
set_option maxHeartbeats 2000000 in
theorem multiple_ok (a b : Dec) (w : World) (hla : a.digits.length ≤ 9223372036854775806) (hlb : b.digits.length ≤ 9223372036854775806) :
    Calls Tryz.prog 16 #[decV a, decV b] w (MultPost w (multB a b) (multE a b)) := by
  have HCA := Lib.hid (fun W => check_ok a W hla)
  have HCB := Lib.hid (fun W => isAbove_ok b W hlb)
  have HNO : Hid (mulOk a b = false → multB a b = false ∧ multE a b = 2) := Lib.hid fun h => by unfold multB multE; rw [h]; exact ⟨rfl, rfl⟩
  have HYES : Hid (mulOk a b = true → multB a b = decide (lev a (minX a b) % lev b (minX a b) = 0) ∧ multE a b = 0) := Lib.hid fun h => by unfold multB multE; rw [h]; exact ⟨rfl, rfl⟩
  have HMN : Hid (mayB a = false → mulOk a b = false) := Lib.hid fun h => by unfold mulOk; rw [h]; rfl
  have HMY : Hid (mayB a = true → mulOk a b = aboveB b) := Lib.hid fun h => by unfold mulOk; rw [h]; rfl
  obtain ⟨E, hE⟩ : ∃ E, E = minX a b := ⟨_, rfl⟩
  have HLV : Hid (mayB a = true → aboveB b = true → (∀ W, Calls Tryz.prog 25 #[decV a, .int .i64 E] W (NumPost W (lev a E))) ∧ (∀ W, Calls Tryz.prog 25 #[decV b, .int .i64 E] W (NumPost W (lev b E))) ∧ (wds (lev a E)).length ≤ 20000 ∧ (wds (lev b E)).length ≤ 20000 ∧ 0 < lev b E) := Lib.hid fun h h' => by
    have ma := (mayB_iff a).1 h
    have mb := (mayB_iff b).1 (above_may h')
    have l1 := ma.lo; have l2 := mb.lo; have l3 := ma.hi; have l4 := mb.hi; have l5 := ma.len; have l6 := mb.len
    have e1 : E ≤ a.exp := by rw [hE]; unfold minX; omega
    have e2 : E ≤ b.exp := by rw [hE]; unfold minX; omega
    have e3 : -1000 ≤ E := by rw [hE]; unfold minX; omega
    exact ⟨fun W => level_ok a E W ma.digs (by omega) e1 (by omega) (by omega), fun W => level_ok b E W mb.digs (by omega) e2 (by omega) (by omega), lev_words ma e3, lev_words mb e3, lev_pos h' E⟩
  rw [← hE] at HYES
  have hEE : min a.exp b.exp = E := hE.symm
  clear hE
  obtain ⟨x, hx⟩ : ∃ x, x = lev a E := ⟨_, rfl⟩
  obtain ⟨y, hy⟩ : ∃ y, y = lev b E := ⟨_, rfl⟩
  rw [← hx, ← hy] at HYES HLV
  clear hx hy
  obtain ⟨an, al, ax⟩ := a
  obtain ⟨bn, bl, bx⟩ := b
  unfold decV at *
  simp only at HCA HCB HLV hla hlb hEE ⊢
  obtain ⟨w2, hw2⟩ : ∃ w2, w2 = (w.alloc (.cells #[.bool an, .string (bs al), .int .i64 ax] 24)).alloc (.cells #[.bool bn, .string (bs bl), .int .i64 bx] 24) := ⟨_, rfl⟩
  have HRA : Hid (Row w2 w.heap.size 24 #[.bool an, .string (bs al), .int .i64 ax]) := Lib.hid (by subst hw2; exact (Row.new _ _ _).alloc _)
  have HRB : Hid (Row w2 (w.heap.size + 1) 24 #[.bool bn, .string (bs bl), .int .i64 bx]) := Lib.hid (by
    subst hw2
    have := Row.new (w.alloc (.cells #[.bool an, .string (bs al), .int .i64 ax] 24)) 24 #[.bool bn, .string (bs bl), .int .i64 bx]
    rwa [show (w.alloc (.cells #[.bool an, .string (bs al), .int .i64 ax] 24)).heap.size = w.heap.size + 1 by simp] at this)
  have HB2 : Hid (Below w.heap.size w w2) := Lib.hid (by subst hw2; exact ((Below.refl _ _).alloc (Nat.le_refl _) _).alloc (by simp) _)
  go_enter Tryz.func16, Tryz.ntmps16
  go_upto_region 1 with fail
  rw [← hw2]
  clear hw2
  have x0 := HRA.out.cell (i := 0) (v := .bool an) rfl
  have x1 := HRA.out.cell (i := 1) (v := .string (bs al)) rfl
  have x2 := HRA.out.cell (i := 2) (v := .int .i64 ax) rfl
  go_wp2_with fail
  refine (HCA.out _).mono ?_
  rintro e w3 ⟨rfl, hb3⟩
  have HB3 := Lib.hid (HB2.out.call hb3)
  have HRA3 := Lib.hid (HRA.out.call hb3)
  have HRB3 := Lib.hid (HRB.out.call hb3)
  clear x0 x1 x2 hb3 HCA HRA HRB HB2
  cases ea : mayB ⟨an, al, ax⟩ with
  | false =>
    have HN := Lib.hid (HNO.out (HMN.out ea))
    rw [checkE_no ea]
    clear ea HNO HYES HLV HCB HMN HMY
    go_wp2_with fail
    refine bodyPost_ret_by (results_tmp2 rfl _ _ _) rfl ?_
    exact ⟨by rw [HN.out.1, HN.out.2]; rfl, HB3.out⟩
  | true =>
    rw [checkE_yes ea]
    have x0 := HRB3.out.cell (i := 0) (v := .bool bn) rfl
    have x1 := HRB3.out.cell (i := 1) (v := .string (bs bl)) rfl
    have x2 := HRB3.out.cell (i := 2) (v := .int .i64 bx) rfl
    go_wp2_with fail
    refine (HCB.out _).mono ?_
    rintro e w4 ⟨rfl, hb4⟩
    have HB4 := Lib.hid (HB3.out.call hb4)
    have HRA4 := Lib.hid (HRA3.out.call hb4)
    have HRB4 := Lib.hid (HRB3.out.call hb4)
    clear x0 x1 x2 hb4 HCB HRA3 HRB3 HB3
    cases eb : aboveB ⟨bn, bl, bx⟩ with
    | false =>
      have HN := Lib.hid (HNO.out (by rw [HMY.out ea, eb]))
      clear ea eb HNO HYES HLV HMN HMY
      go_wp2_with fail
      refine bodyPost_ret_by (results_tmp2 rfl _ _ _) rfl ?_
      exact ⟨by rw [HN.out.1, HN.out.2]; rfl, HB4.out⟩
    | true =>
      have HY := Lib.hid (HYES.out (by rw [HMY.out ea, eb]))
      have HL := Lib.hid (HLV.out ea eb)
      clear ea eb HNO HYES HLV HMN HMY
      have y2 := HRA4.out.cell (i := 2) (v := .int .i64 ax) rfl
      have z2 := HRB4.out.cell (i := 2) (v := .int .i64 bx) rfl
      go_upto_region 4 with fail
      clear y2 z2
      refine wp_region_held_drew (S := (fun W => Below w.heap.size w W ∧ Row W w.heap.size 24 #[.bool an, .string (bs al), .int .i64 ax] ∧ Row W (w.heap.size + 1) 24 #[.bool bn, .string (bs bl), .int .i64 bx])) (by kernel_rfl) (⟨HB4.out.drew, HRA4.out.drew, HRB4.out.drew⟩) (fun hHeld => ?_)
      refine wpAnyH_take (i := 0) (oi := ?_) (v := ?_) ?_ (by kernel_rfl) (by kernel_rfl) (by kernel_rfl) ?_ ?_ (by assumption) ?_
      rotate_left 2
      · simp only [List.getElem?_toArray, List.getElem?_cons_zero]; with_reducible rfl
      · exact fun _ _ _ h => h
      · refine Or.inl ⟨by rfl, ?_⟩; intro W hSw; have hSw0 := hSw.2.1.cell (i := 0) (v := .bool an) rfl; have hSw1 := hSw.2.1.cell (i := 1) (v := .string (bs al)) rfl; have hSw2 := hSw.2.1.cell (i := 2) (v := .int .i64 ax) rfl; go_simp; try with_reducible rfl
      try simp only [Act.put, List.setIfInBounds_toArray, List.set_cons_zero, List.set_cons_succ]
      refine wpAnyH_take (i := 1) (oi := ?_) (v := ?_) ?_ (by kernel_rfl) (by kernel_rfl) (by kernel_rfl) ?_ ?_ (by assumption) ?_
      rotate_left 2
      · simp only [List.getElem?_toArray, List.getElem?_cons_succ, List.getElem?_cons_zero]; with_reducible rfl
      · exact fun _ _ _ h => h
      · refine Or.inl ⟨by rfl, ?_⟩; intro W hSw; go_simp; try with_reducible rfl
      try simp only [Act.put, List.setIfInBounds_toArray, List.set_cons_zero, List.set_cons_succ]
      refine wpAnyH_take (i := 3) (oi := ?_) (v := ?_) ?_ (by kernel_rfl) (by kernel_rfl) (by kernel_rfl) ?_ ?_ (by assumption) ?_
      rotate_left 2
      · simp only [List.getElem?_toArray, List.getElem?_cons_succ, List.getElem?_cons_zero]; with_reducible rfl
      · exact fun _ _ _ h => h
      · refine Or.inl ⟨by rfl, ?_⟩; intro W hSw; have hSw0 := hSw.2.2.cell (i := 0) (v := .bool bn) rfl; have hSw1 := hSw.2.2.cell (i := 1) (v := .string (bs bl)) rfl; have hSw2 := hSw.2.2.cell (i := 2) (v := .int .i64 bx) rfl; go_simp; try with_reducible rfl
      try simp only [Act.put, List.setIfInBounds_toArray, List.set_cons_zero, List.set_cons_succ]
      refine wpAnyH_take (i := 4) (oi := ?_) (v := ?_) ?_ (by kernel_rfl) (by kernel_rfl) (by kernel_rfl) ?_ ?_ (by assumption) ?_
      rotate_left 2
      · simp only [List.getElem?_toArray, List.getElem?_cons_succ, List.getElem?_cons_zero]; with_reducible rfl
      · exact fun _ _ _ h => h
      · refine Or.inl ⟨by rfl, ?_⟩; intro W hSw; go_simp; try with_reducible rfl
      try simp only [Act.put, List.setIfInBounds_toArray, List.set_cons_zero, List.set_cons_succ]
      refine wpAnyH_ready (rs := [2]) (by kernel_rfl) (by simp) ?_
      refine AllReadyH.cons (o := ?_) ?_ (fun K1 hK1 => ?_) AllReadyH.nil
      rotate_left 1
      · simp only [List.getElem?_toArray, List.getElem?_cons_succ, List.getElem?_cons_zero]; with_reducible rfl
      rw [if_pos (by rfl)]
      go_simp
      refine (HL.out.1 _).mono ?_
      rintro e5 w5 ⟨va, rfl, hva, hb5⟩
      have HVA := Lib.hid hva
      go_wp2_with fail
      refine hK1.out _ _ (⟨hHeld.1.call hb5, hHeld.2.1.call hb5, hHeld.2.2.call hb5⟩) (fun hHeld1 => ?_)
      clear hK1 K1
      try simp only [Act.put, List.setIfInBounds_toArray, List.set_cons_zero, List.set_cons_succ]
      refine wpAnyH_ready (rs := [5]) (by kernel_rfl) (by simp) ?_
      refine AllReadyH.cons (o := ?_) ?_ (fun K2 hK2 => ?_) AllReadyH.nil
      rotate_left 1
      · simp only [List.getElem?_toArray, List.getElem?_cons_succ, List.getElem?_cons_zero]; with_reducible rfl
      rw [if_pos (by rfl)]
      go_simp
      refine (HL.out.2.1 _).mono ?_
      rintro e6 w6 ⟨vb, rfl, hvb, hb6⟩
      have HVB := Lib.hid hvb
      have HVA6 := Lib.hid (HVA.out.below hb6)
      go_wp2_with fail
      refine hK2.out _ _ (⟨hHeld1.1.call hb6, hHeld1.2.1.call hb6, hHeld1.2.2.call hb6⟩) (fun hHeld2 => ?_)
      clear hK2 K2
      try simp only [Act.put, List.setIfInBounds_toArray, List.set_cons_zero, List.set_cons_succ]
      refine wpAnyH_ready (rs := [6]) (by kernel_rfl) (by simp) ?_
      refine AllReadyH.cons (o := ?_) ?_ (fun K3 hK3 => ?_) AllReadyH.nil
      rotate_left 1
      · simp only [List.getElem?_toArray, List.getElem?_cons_succ, List.getElem?_cons_zero]; with_reducible rfl
      rw [if_pos (by rfl)]
      go_simp
      refine (quotient_ok _ _ x y _ HVA6.out HVB.out HL.out.2.2.2.2 (by have := HL.out.2.2.1; omega) (by have := HL.out.2.2.2.1; omega)).mono ?_
      rintro e7 w7 ⟨vq, vr, rfl, hvq, hvr, hb7⟩
      obtain ⟨_, Ar, cr, rfl, _⟩ := id hvr
      go_wp2_with fail
      refine hK3.out _ _ (⟨hHeld2.1.call hb7, hHeld2.2.1.call hb7, hHeld2.2.2.call hb7⟩) (fun hHeld3 => ?_)
      clear hK3 K3
      try simp only [Act.put, List.setIfInBounds_toArray, List.set_cons_zero, List.set_cons_succ]
      refine wpAnyH_take (i := 7) (oi := ?_) (v := ?_) ?_ (by kernel_rfl) (by kernel_rfl) (by kernel_rfl) ?_ ?_ (by assumption) ?_
      rotate_left 2
      · simp only [List.getElem?_toArray, List.getElem?_cons_succ, List.getElem?_cons_zero]; with_reducible rfl
      · exact fun _ _ _ h => h
      · refine Or.inl ⟨by rfl, ?_⟩; intro W hSw; go_simp; try with_reducible rfl
      try simp only [Act.put, List.setIfInBounds_toArray, List.set_cons_zero, List.set_cons_succ]
      refine wpAnyH_take (i := 8) (oi := ?_) (v := ?_) ?_ (by kernel_rfl) (by kernel_rfl) (by kernel_rfl) ?_ ?_ (by assumption) ?_
      rotate_left 2
      · simp only [List.getElem?_toArray, List.getElem?_cons_succ, List.getElem?_cons_zero]; with_reducible rfl
      · exact fun _ _ _ h => h
      · refine Or.inl ⟨by rfl, ?_⟩; intro W hSw; go_simp; try with_reducible rfl
      try simp only [Act.put, List.setIfInBounds_toArray, List.set_cons_zero, List.set_cons_succ]
      refine wpAnyH_take (i := 9) (oi := ?_) (v := ?_) ?_ (by kernel_rfl) (by kernel_rfl) (by kernel_rfl) ?_ ?_ (by assumption) ?_
      rotate_left 2
      · simp only [List.getElem?_toArray, List.getElem?_cons_succ, List.getElem?_cons_zero]; with_reducible rfl
      · exact fun _ _ _ h => h
      · refine Or.inl ⟨by rfl, ?_⟩; intro W hSw; go_simp; try with_reducible rfl
      try simp only [Act.put, List.setIfInBounds_toArray, List.set_cons_zero, List.set_cons_succ]
      refine wpAnyH_take (i := 10) (oi := ?_) (v := ?_) ?_ (by kernel_rfl) (by kernel_rfl) (by kernel_rfl) ?_ ?_ (by assumption) ?_
      rotate_left 2
      · simp only [List.getElem?_toArray, List.getElem?_cons_succ, List.getElem?_cons_zero]; with_reducible rfl
      · exact fun _ _ _ h => h
      · refine Or.inl ⟨by rfl, ?_⟩; intro W hSw; go_simp; try with_reducible rfl
      try simp only [Act.put, List.setIfInBounds_toArray, List.set_cons_zero, List.set_cons_succ]
      refine wpAnyH_take (i := 11) (oi := ?_) (v := ?_) ?_ (by kernel_rfl) (by kernel_rfl) (by kernel_rfl) ?_ ?_ (by assumption) ?_
      rotate_left 2
      · simp only [List.getElem?_toArray, List.getElem?_cons_succ, List.getElem?_cons_zero]; with_reducible rfl
      · exact fun _ _ _ h => h
      · refine Or.inl ⟨by rfl, ?_⟩; intro W hSw; go_simp; try with_reducible rfl
      try simp only [Act.put, List.setIfInBounds_toArray, List.set_cons_zero, List.set_cons_succ]
      refine wpAnyH_done (by kernel_rfl) ?_ _
      obtain ⟨k, hk⟩ : ∃ k, k = (wds (x % y)).length := ⟨_, rfl⟩
      rw [← hk]
      have HK : Hid (decide (x % y = 0) = ((k : Int) == 0)) := Lib.hid (by
        rw [hk]
        rcases Nat.eq_zero_or_pos (x % y) with e | e
        · rw [e, wds_zero]; rfl
        · have := wds_len_pos e
          rw [decide_eq_false (by omega)]
          symm
          rw [beq_eq_false_iff_ne]
          omega)
      clear hk
      go_wp2_with fail
      refine bodyPost_ret_by (results_tmp2 rfl _ _ _) rfl ?_
      exact ⟨by rw [HY.out.1, HY.out.2, HK.out]; rfl, hHeld3.1⟩
end Go.Proofs.YthgjelpmdndceaaGreatDoor
