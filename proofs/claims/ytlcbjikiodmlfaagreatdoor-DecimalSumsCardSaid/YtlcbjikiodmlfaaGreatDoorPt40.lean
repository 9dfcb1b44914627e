/- Layer 7: the document's Compare. -/
import Derived.Test.YtlcbjikiodmlfaaGreatDoorPt39
import Derived.Test.YtlcbjikiodmlfaaGreatDoorPt37
namespace Go.Proofs.YtlcbjikiodmlfaaGreatDoor
open Go.RowKit

theorem cmp_tf {A B : Nat} (h : 0 < A) : cmpZ (sgZ true A) (sgZ false B) = -1 := by
  unfold cmpZ sgZ
  simp only [if_true, Bool.false_eq_true, if_false]
  rw [if_pos (by omega)]
theorem cmp_ft {A B : Nat} (h : 0 < B) : cmpZ (sgZ false A) (sgZ true B) = 1 := by
  unfold cmpZ sgZ
  simp only [if_true, Bool.false_eq_true, if_false]
  rw [if_neg (by omega), if_pos (by omega)]
theorem mag_lev {d : Dec} {E : Int} (h : E ≤ d.exp) (h2 : -3000 ≤ E) : num d.digits * 10 ^ (d.exp + 3000).toNat = lev d E * 10 ^ (E + 3000).toNat := by
  unfold lev
  rw [Nat.mul_assoc, ← Nat.pow_add]
  congr 2
  omega
/-- Two of one sign. -/
theorem cmp_mag {a b : Dec} (ma : May a) (mb : May b) : cmpZ ((num a.digits * 10 ^ (a.exp + 3000).toNat : Nat) : Int) ((num b.digits * 10 ^ (b.exp + 3000).toNat : Nat) : Int) = cmpZ (lev a (minX a b)) (lev b (minX a b)) := by
  have l1 := ma.lo; have l2 := mb.lo
  rw [mag_lev (E := minX a b) (by unfold minX; omega) (by unfold minX; omega), mag_lev (d := b) (E := minX a b) (by unfold minX; omega) (by unfold minX; omega)]
  exact cmpZ_mul _ _ (Nat.pow_pos (by omega))
theorem cmp_empty {a b : Dec} (ma : May a) (mb : May b) (h : a.digits = [] ∨ b.digits = []) : cmpC a.digits b.digits = cmpZ (lev a (minX a b)) (lev b (minX a b)) := by
  rw [cmpC_num ma.digs mb.digs ma.head mb.head]
  have key : ∀ (d : Dec) (e : Int), (lev d e = 0 ↔ num d.digits = 0) := fun d e => by
    unfold lev
    constructor
    · intro h
      rcases Nat.mul_eq_zero.1 h with h | h
      · exact h
      · have : 0 < 10 ^ (d.exp - e).toNat := Nat.pow_pos (by omega)
        omega
    · intro h; rw [h, Nat.zero_mul]
  have ka := key a (minX a b)
  have kb := key b (minX a b)
  generalize lev a (minX a b) = x at *
  generalize lev b (minX a b) = y at *
  have h0 : num a.digits = 0 ∨ num b.digits = 0 := by
    rcases h with h | h
    · left; rw [h]; rfl
    · right; rw [h]; rfl
  generalize num a.digits = u at *
  generalize num b.digits = v at *
  unfold cmpZ
  rcases h0 with h0 | h0 <;> (subst h0; split <;> split <;> (try split) <;> (try split) <;> omega)
theorem bs_some {l : List UInt8} (h : l ≠ []) : (bs l).toList.isEmpty = false ∧ ¬ (bs l).toList = [] := by
  rw [bs_toList]
  exact ⟨by cases hh : l with | nil => exact absurd hh h | cons x r => rfl, h⟩
theorem sgn_pos {d : Dec} (h : May d) (hn : d.neg = true) : d.digits ≠ [] ∧ 0 < num d.digits * 10 ^ (d.exp + 3000).toNat := by
  have h1 : d.digits ≠ [] := fun e => by have := (h.nil e).1; rw [hn] at this; cases this
  have h2 := num_last h.digs h1 h.last
  exact ⟨h1, Nat.mul_pos (by omega) (Nat.pow_pos (by omega))⟩
set_option maxHeartbeats 4000000 in
theorem rcompare_ok (a b : Dec) (w : World) (ma : May a) (mb : May b) :
    Calls Tryz.prog 14 #[decV a, decV b] w fun e w' => e = .returned (.int .i64 (cmpZ (vl 3000 a) (vl 3000 b))) ∧ Below w.heap.size w w' := by
  have l1 := ma.lo; have l2 := mb.lo; have l3 := ma.hi; have l4 := mb.hi; have l5 := ma.len; have l6 := mb.len
  have HMAG := Lib.hid (cmp_mag ma mb)
  have HEMP := Lib.hid (fun h => cmp_empty ma mb h)
  have HSA := Lib.hid (fun h => sgn_pos ma h)
  have HSB := Lib.hid (fun h => sgn_pos mb h)
  have HVA : Hid (vl 3000 a = sgZ a.neg (num a.digits * 10 ^ (a.exp + 3000).toNat)) := Lib.hid rfl
  have HVB : Hid (vl 3000 b = sgZ b.neg (num b.digits * 10 ^ (b.exp + 3000).toNat)) := Lib.hid rfl
  obtain ⟨E, hE⟩ : ∃ E, E = minX a b := ⟨_, rfl⟩
  have e1 : E ≤ a.exp := by rw [hE]; unfold minX; omega
  have e2 : E ≤ b.exp := by rw [hE]; unfold minX; omega
  have e3 : -1000 ≤ E := by rw [hE]; unfold minX; omega
  have HLA := Lib.hid (fun W => rscaled_ok a E W ma.digs (by omega) e1 (by omega) (by omega) (by omega))
  have HLB := Lib.hid (fun W => rscaled_ok b E W mb.digs (by omega) e2 (by omega) (by omega) (by omega))
  have HCM := Lib.hid (fun W => rcmp_ok (dig (lev a E)) (dig (lev b E)) W)
  rw [dig_cmp] at HCM
  have HC2 := Lib.hid (fun W => rcmp_ok a.digits b.digits W)
  rw [← hE] at HMAG HEMP
  have hEE : min a.exp b.exp = E := hE.symm
  have HRG := Lib.hid (cmpZ_range (lev a E : Int) (lev b E : Int))
  generalize lev a E = x at *
  generalize lev b E = y at *
  generalize hz : cmpZ (x : Int) (y : Int) = z at *
  clear hz hE e1 e2 e3 l1 l2 l3 l4 l5 l6 ma mb
  generalize vl 3000 a = va at *
  generalize vl 3000 b = vb at *
  obtain ⟨an, al, ax⟩ := a
  obtain ⟨bn, bl, bx⟩ := b
  unfold decV at *
  simp only at HLA HLB HC2 HMAG HEMP HSA HSB HVA HVB hEE ⊢
  obtain ⟨w2, hw2⟩ : ∃ w2, w2 = (w.alloc (.cells #[.bool an, .string (bs al), .int .i64 ax] 24)).alloc (.cells #[.bool bn, .string (bs bl), .int .i64 bx] 24) := ⟨_, rfl⟩
  have HRA : Hid (Row w2 w.heap.size 24 #[.bool an, .string (bs al), .int .i64 ax]) := Lib.hid (by subst hw2; exact (Row.new _ _ _).alloc _)
  have HRB : Hid (Row w2 (w.heap.size + 1) 24 #[.bool bn, .string (bs bl), .int .i64 bx]) := Lib.hid (by
    subst hw2
    have := Row.new (w.alloc (.cells #[.bool an, .string (bs al), .int .i64 ax] 24)) 24 #[.bool bn, .string (bs bl), .int .i64 bx]
    rwa [show (w.alloc (.cells #[.bool an, .string (bs al), .int .i64 ax] 24)).heap.size = w.heap.size + 1 by simp] at this)
  have HB2 : Hid (Below w.heap.size w w2) := Lib.hid (by subst hw2; exact ((Below.refl _ _).alloc (Nat.le_refl _) _).alloc (by simp) _)
  have ht0 : (bs []).toList = [] := bs_toList []
  go_enter Tryz.func14, Tryz.ntmps14
  go_upto_region 1 with fail
  rw [← hw2]
  clear hw2
  have y0 := HRA.out.cell (i := 0) (v := .bool an) rfl
  have z0 := HRB.out.cell (i := 0) (v := .bool bn) rfl
  have y2 := HRA.out.cell (i := 2) (v := .int .i64 ax) rfl
  have z2 := HRB.out.cell (i := 2) (v := .int .i64 bx) rfl
  cases an with
  | true =>
    obtain ⟨hal, hap⟩ := HSA.out rfl
    cases bn with
    | false =>
      have HX : Hid (cmpZ va vb = -1) := Lib.hid (by
        rw [HVA.out, HVB.out]
        exact cmp_tf hap)
      clear hap
      go_wp2_with fail
      go_ret
      exact ⟨by rw [HX.out]; rfl, HB2.out⟩
    | true =>
      obtain ⟨hbl, hbp⟩ := HSB.out rfl
      have HX : Hid (cmpZ va vb = -z) := Lib.hid (by
        rw [HVA.out, HVB.out, ← HMAG.out]
        unfold sgZ
        simp only [if_true]
        rw [cmpZ_neg, cmpZ_anti])
      obtain ⟨a1, a2⟩ := bs_some hal
      obtain ⟨b1, b2⟩ := bs_some hbl
      have hzr := HRG.out
      have hzw : IntKind.i64.wrap (-z) = -z := IntWalk.i64_in _ (by omega)
      clear hap hbp hal hbl
      go_upto_region 6 with fail
      clear y0 z0 y2 z2
      refine wp_region_held_drew (S := (fun W => Below w.heap.size w W ∧ Row W w.heap.size 24 #[.bool true, .string (bs al), .int .i64 ax] ∧ Row W (w.heap.size + 1) 24 #[.bool true, .string (bs bl), .int .i64 bx])) (by kernel_rfl) (⟨HB2.out.drew, HRA.out.drew, HRB.out.drew⟩) (fun hHeld => ?_)
      refine wpAnyH_take (i := 0) (oi := ?_) (v := ?_) ?_ (by kernel_rfl) (by kernel_rfl) (by kernel_rfl) ?_ ?_ (by assumption) ?_
      rotate_left 2
      · simp only [List.getElem?_toArray, List.getElem?_cons_zero]; with_reducible rfl
      · exact fun _ _ _ h => h
      · refine Or.inl ⟨by rfl, ?_⟩; intro W hSw; have hSw0 := hSw.2.1.cell (i := 0) (v := .bool true) rfl; have hSw1 := hSw.2.1.cell (i := 1) (v := .string (bs al)) rfl; have hSw2 := hSw.2.1.cell (i := 2) (v := .int .i64 ax) rfl; go_simp; try with_reducible rfl
      try simp only [Act.put, List.setIfInBounds_toArray, List.set_cons_zero, List.set_cons_succ]
      refine wpAnyH_take (i := 1) (oi := ?_) (v := ?_) ?_ (by kernel_rfl) (by kernel_rfl) (by kernel_rfl) ?_ ?_ (by assumption) ?_
      rotate_left 2
      · simp only [List.getElem?_toArray, List.getElem?_cons_succ, List.getElem?_cons_zero]; with_reducible rfl
      · exact fun _ _ _ h => h
      · refine Or.inl ⟨by rfl, ?_⟩; intro W hSw; go_simp; try with_reducible rfl
      try simp only [Act.put, List.setIfInBounds_toArray, List.set_cons_zero, List.set_cons_succ]
      refine wpAnyH_take (i := 3) (oi := ?_) (v := ?_) ?_ (by kernel_rfl) (by kernel_rfl) (by kernel_rfl) ?_ ?_ (by assumption) ?_
      rotate_left 2
      · simp only [List.getElem?_toArray, List.getElem?_cons_succ, List.getElem?_cons_zero]; with_reducible rfl
      · exact fun _ _ _ h => h
      · refine Or.inl ⟨by rfl, ?_⟩; intro W hSw; have hSw0 := hSw.2.2.cell (i := 0) (v := .bool true) rfl; have hSw1 := hSw.2.2.cell (i := 1) (v := .string (bs bl)) rfl; have hSw2 := hSw.2.2.cell (i := 2) (v := .int .i64 bx) rfl; go_simp; try with_reducible rfl
      try simp only [Act.put, List.setIfInBounds_toArray, List.set_cons_zero, List.set_cons_succ]
      refine wpAnyH_take (i := 4) (oi := ?_) (v := ?_) ?_ (by kernel_rfl) (by kernel_rfl) (by kernel_rfl) ?_ ?_ (by assumption) ?_
      rotate_left 2
      · simp only [List.getElem?_toArray, List.getElem?_cons_succ, List.getElem?_cons_zero]; with_reducible rfl
      · exact fun _ _ _ h => h
      · refine Or.inl ⟨by rfl, ?_⟩; intro W hSw; go_simp; try with_reducible rfl
      try simp only [Act.put, List.setIfInBounds_toArray, List.set_cons_zero, List.set_cons_succ]
      refine wpAnyH_ready (rs := [2]) (by kernel_rfl) (by simp) ?_
      refine AllReadyH.cons (o := ?_) ?_ (fun K1 hK1 => ?_) AllReadyH.nil
      rotate_left 1
      · simp only [List.getElem?_toArray, List.getElem?_cons_succ, List.getElem?_cons_zero]; with_reducible rfl
      rw [if_pos (by rfl)]
      go_simp
      refine (HLA.out _).mono ?_
      rintro e5 w5 ⟨rfl, hb5⟩
      go_wp2_with fail
      refine hK1.out _ _ (⟨hHeld.1.call hb5, hHeld.2.1.call hb5, hHeld.2.2.call hb5⟩) (fun hHeld1 => ?_)
      clear hK1 K1
      try simp only [Act.put, List.setIfInBounds_toArray, List.set_cons_zero, List.set_cons_succ]
      refine wpAnyH_ready (rs := [5]) (by kernel_rfl) (by simp) ?_
      refine AllReadyH.cons (o := ?_) ?_ (fun K2 hK2 => ?_) AllReadyH.nil
      rotate_left 1
      · simp only [List.getElem?_toArray, List.getElem?_cons_succ, List.getElem?_cons_zero]; with_reducible rfl
      rw [if_pos (by rfl)]
      go_simp
      refine (HLB.out _).mono ?_
      rintro e6 w6 ⟨rfl, hb6⟩
      go_wp2_with fail
      refine hK2.out _ _ (⟨hHeld1.1.call hb6, hHeld1.2.1.call hb6, hHeld1.2.2.call hb6⟩) (fun hHeld2 => ?_)
      clear hK2 K2
      try simp only [Act.put, List.setIfInBounds_toArray, List.set_cons_zero, List.set_cons_succ]
      refine wpAnyH_ready (rs := [6]) (by kernel_rfl) (by simp) ?_
      refine AllReadyH.cons (o := ?_) ?_ (fun K3 hK3 => ?_) AllReadyH.nil
      rotate_left 1
      · simp only [List.getElem?_toArray, List.getElem?_cons_succ, List.getElem?_cons_zero]; with_reducible rfl
      rw [if_pos (by rfl)]
      go_simp
      refine (HCM.out _).mono ?_
      rintro e7 w7 ⟨rfl, rfl⟩
      go_wp2_with fail
      refine hK3.out _ _ (hHeld2) (fun hHeld3 => ?_)
      clear hK3 K3
      try simp only [Act.put, List.setIfInBounds_toArray, List.set_cons_zero, List.set_cons_succ]
      refine wpAnyH_take (i := 7) (oi := ?_) (v := ?_) ?_ (by kernel_rfl) (by kernel_rfl) (by kernel_rfl) ?_ ?_ (by assumption) ?_
      rotate_left 2
      · simp only [List.getElem?_toArray, List.getElem?_cons_succ, List.getElem?_cons_zero]; with_reducible rfl
      · exact fun _ _ _ h => h
      · refine Or.inl ⟨by rfl, ?_⟩; intro W hSw; go_simp; try with_reducible rfl
      try simp only [Act.put, List.setIfInBounds_toArray, List.set_cons_zero, List.set_cons_succ]
      refine wpAnyH_done (by kernel_rfl) ?_ _
      have HB7 := Lib.hid hHeld3.1
      have y0 := hHeld3.2.1.cell (i := 0) (v := .bool true) rfl
      have y1 := hHeld3.2.1.cell (i := 1) (v := .string (bs al)) rfl
      have z1 := hHeld3.2.2.cell (i := 1) (v := .string (bs bl)) rfl
      clear hHeld hHeld1 hHeld2 hHeld3
      go_wp2_with fail
      go_ret
      exact ⟨by rw [HX.out]; rfl, HB7.out⟩
  | false =>
    cases bn with
    | true =>
      obtain ⟨hbl, hbp⟩ := HSB.out rfl
      have HX : Hid (cmpZ va vb = 1) := Lib.hid (by
        rw [HVA.out, HVB.out]
        exact cmp_ft hbp)
      clear hbp
      go_wp2_with fail
      go_ret
      exact ⟨by rw [HX.out]; rfl, HB2.out⟩
    | false =>
      have HX : Hid (cmpZ va vb = z) := Lib.hid (by
        rw [HVA.out, HVB.out, ← HMAG.out]
        rfl)
      go_upto_region 6 with fail
      clear y0 z0 y2 z2
      refine wp_region_held_drew (S := (fun W => Below w.heap.size w W ∧ Row W w.heap.size 24 #[.bool false, .string (bs al), .int .i64 ax] ∧ Row W (w.heap.size + 1) 24 #[.bool false, .string (bs bl), .int .i64 bx])) (by kernel_rfl) (⟨HB2.out.drew, HRA.out.drew, HRB.out.drew⟩) (fun hHeld => ?_)
      refine wpAnyH_take (i := 0) (oi := ?_) (v := ?_) ?_ (by kernel_rfl) (by kernel_rfl) (by kernel_rfl) ?_ ?_ (by assumption) ?_
      rotate_left 2
      · simp only [List.getElem?_toArray, List.getElem?_cons_zero]; with_reducible rfl
      · exact fun _ _ _ h => h
      · refine Or.inl ⟨by rfl, ?_⟩; intro W hSw; have hSw0 := hSw.2.1.cell (i := 0) (v := .bool false) rfl; have hSw1 := hSw.2.1.cell (i := 1) (v := .string (bs al)) rfl; have hSw2 := hSw.2.1.cell (i := 2) (v := .int .i64 ax) rfl; go_simp; try with_reducible rfl
      try simp only [Act.put, List.setIfInBounds_toArray, List.set_cons_zero, List.set_cons_succ]
      refine wpAnyH_take (i := 1) (oi := ?_) (v := ?_) ?_ (by kernel_rfl) (by kernel_rfl) (by kernel_rfl) ?_ ?_ (by assumption) ?_
      rotate_left 2
      · simp only [List.getElem?_toArray, List.getElem?_cons_succ, List.getElem?_cons_zero]; with_reducible rfl
      · exact fun _ _ _ h => h
      · refine Or.inl ⟨by rfl, ?_⟩; intro W hSw; go_simp; try with_reducible rfl
      try simp only [Act.put, List.setIfInBounds_toArray, List.set_cons_zero, List.set_cons_succ]
      refine wpAnyH_take (i := 3) (oi := ?_) (v := ?_) ?_ (by kernel_rfl) (by kernel_rfl) (by kernel_rfl) ?_ ?_ (by assumption) ?_
      rotate_left 2
      · simp only [List.getElem?_toArray, List.getElem?_cons_succ, List.getElem?_cons_zero]; with_reducible rfl
      · exact fun _ _ _ h => h
      · refine Or.inl ⟨by rfl, ?_⟩; intro W hSw; have hSw0 := hSw.2.2.cell (i := 0) (v := .bool false) rfl; have hSw1 := hSw.2.2.cell (i := 1) (v := .string (bs bl)) rfl; have hSw2 := hSw.2.2.cell (i := 2) (v := .int .i64 bx) rfl; go_simp; try with_reducible rfl
      try simp only [Act.put, List.setIfInBounds_toArray, List.set_cons_zero, List.set_cons_succ]
      refine wpAnyH_take (i := 4) (oi := ?_) (v := ?_) ?_ (by kernel_rfl) (by kernel_rfl) (by kernel_rfl) ?_ ?_ (by assumption) ?_
      rotate_left 2
      · simp only [List.getElem?_toArray, List.getElem?_cons_succ, List.getElem?_cons_zero]; with_reducible rfl
      · exact fun _ _ _ h => h
      · refine Or.inl ⟨by rfl, ?_⟩; intro W hSw; go_simp; try with_reducible rfl
      try simp only [Act.put, List.setIfInBounds_toArray, List.set_cons_zero, List.set_cons_succ]
      refine wpAnyH_ready (rs := [2]) (by kernel_rfl) (by simp) ?_
      refine AllReadyH.cons (o := ?_) ?_ (fun K1 hK1 => ?_) AllReadyH.nil
      rotate_left 1
      · simp only [List.getElem?_toArray, List.getElem?_cons_succ, List.getElem?_cons_zero]; with_reducible rfl
      rw [if_pos (by rfl)]
      go_simp
      refine (HLA.out _).mono ?_
      rintro e5 w5 ⟨rfl, hb5⟩
      go_wp2_with fail
      refine hK1.out _ _ (⟨hHeld.1.call hb5, hHeld.2.1.call hb5, hHeld.2.2.call hb5⟩) (fun hHeld1 => ?_)
      clear hK1 K1
      try simp only [Act.put, List.setIfInBounds_toArray, List.set_cons_zero, List.set_cons_succ]
      refine wpAnyH_ready (rs := [5]) (by kernel_rfl) (by simp) ?_
      refine AllReadyH.cons (o := ?_) ?_ (fun K2 hK2 => ?_) AllReadyH.nil
      rotate_left 1
      · simp only [List.getElem?_toArray, List.getElem?_cons_succ, List.getElem?_cons_zero]; with_reducible rfl
      rw [if_pos (by rfl)]
      go_simp
      refine (HLB.out _).mono ?_
      rintro e6 w6 ⟨rfl, hb6⟩
      go_wp2_with fail
      refine hK2.out _ _ (⟨hHeld1.1.call hb6, hHeld1.2.1.call hb6, hHeld1.2.2.call hb6⟩) (fun hHeld2 => ?_)
      clear hK2 K2
      try simp only [Act.put, List.setIfInBounds_toArray, List.set_cons_zero, List.set_cons_succ]
      refine wpAnyH_ready (rs := [6]) (by kernel_rfl) (by simp) ?_
      refine AllReadyH.cons (o := ?_) ?_ (fun K3 hK3 => ?_) AllReadyH.nil
      rotate_left 1
      · simp only [List.getElem?_toArray, List.getElem?_cons_succ, List.getElem?_cons_zero]; with_reducible rfl
      rw [if_pos (by rfl)]
      go_simp
      refine (HCM.out _).mono ?_
      rintro e7 w7 ⟨rfl, rfl⟩
      go_wp2_with fail
      refine hK3.out _ _ (hHeld2) (fun hHeld3 => ?_)
      clear hK3 K3
      try simp only [Act.put, List.setIfInBounds_toArray, List.set_cons_zero, List.set_cons_succ]
      refine wpAnyH_take (i := 7) (oi := ?_) (v := ?_) ?_ (by kernel_rfl) (by kernel_rfl) (by kernel_rfl) ?_ ?_ (by assumption) ?_
      rotate_left 2
      · simp only [List.getElem?_toArray, List.getElem?_cons_succ, List.getElem?_cons_zero]; with_reducible rfl
      · exact fun _ _ _ h => h
      · refine Or.inl ⟨by rfl, ?_⟩; intro W hSw; go_simp; try with_reducible rfl
      try simp only [Act.put, List.setIfInBounds_toArray, List.set_cons_zero, List.set_cons_succ]
      refine wpAnyH_done (by kernel_rfl) ?_ _
      have HB7 := Lib.hid hHeld3.1
      have HR3 := Lib.hid hHeld3.2.1
      have HR4 := Lib.hid hHeld3.2.2
      clear hHeld hHeld1 hHeld2 hHeld3
      by_cases hal : al = [] ∨ bl = []
      · have HC3 : Hid (∀ W, Calls Tryz.prog 24 #[.string (bs al), .string (bs bl)] W fun e w' => e = .returned (.int .i64 z) ∧ W = w') := Lib.hid (by
          have := HC2.out
          rwa [HEMP.out hal] at this)
        have y0 := HR3.out.cell (i := 0) (v := .bool false) rfl
        have y1 := HR3.out.cell (i := 1) (v := .string (bs al)) rfl
        have z1 := HR4.out.cell (i := 1) (v := .string (bs bl)) rfl
        have hor : al = [] ∨ (al ≠ [] ∧ bl = []) := by
          rcases hal with h | h
          · exact .inl h
          · by_cases h2 : al = []
            · exact .inl h2
            · exact .inr ⟨h2, h⟩
        clear hal HC2 HEMP
        rcases hor with hal | ⟨hal, hbl⟩
        · subst hal
          rcases HRG.out with rfl | rfl | rfl
          all_goals
            go_wp2_with fail
            refine (HC3.out _).mono ?_
            rintro e w9 ⟨rfl, rfl⟩
            go_wp2_with fail
            go_ret
            exact ⟨by rw [HX.out]; first | rfl | exact ret_val (congrArg (Value.int .i64) (by kernel_rfl)), HB7.out⟩
        · subst hbl
          obtain ⟨a1, a2⟩ := bs_some hal
          clear hal
          rcases HRG.out with rfl | rfl | rfl
          all_goals
            go_wp2_with fail
            refine (HC3.out _).mono ?_
            rintro e w9 ⟨rfl, rfl⟩
            go_wp2_with fail
            go_ret
            exact ⟨by rw [HX.out]; first | rfl | exact ret_val (congrArg (Value.int .i64) (by kernel_rfl)), HB7.out⟩
      · obtain ⟨a1, a2⟩ := bs_some (fun h => hal (.inl h))
        obtain ⟨b1, b2⟩ := bs_some (fun h => hal (.inr h))
        have y0 := HR3.out.cell (i := 0) (v := .bool false) rfl
        have y1 := HR3.out.cell (i := 1) (v := .string (bs al)) rfl
        have z1 := HR4.out.cell (i := 1) (v := .string (bs bl)) rfl
        clear hal HC2 HEMP
        go_wp2_with fail
        go_ret
        exact ⟨by rw [HX.out]; rfl, HB7.out⟩
end Go.Proofs.YtlcbjikiodmlfaaGreatDoor
/- Layer 7: the document's Sum (of no program): what is above 0, what is below, and the greater less the other. -/
namespace Go.Proofs.YtlcbjikiodmlfaaGreatDoor

theorem snoc_ind {α : Type} {P : List α → Prop} (h0 : P []) (h1 : ∀ L d, P L → P (L ++ [d])) (L : List α) : P L := by
  have key : ∀ (n : Nat) (L : List α), L.length = n → P L := by
    intro n
    induction n with
    | zero => intro L h; rw [List.eq_nil_of_length_eq_zero h]; exact h0
    | succ n ih =>
      intro L h
      have hne : L ≠ [] := by intro e; rw [e] at h; simp at h
      rw [← List.dropLast_concat_getLast hne]
      exact h1 _ _ (ih _ (by rw [List.length_dropLast, h]; rfl))
  exact key _ L rfl
def upN (e : Int) (L : List Dec) : Nat := L.foldl (fun s d => if d.neg = true then s else s + lev d e) 0
def dnN (e : Int) (L : List Dec) : Nat := L.foldl (fun s d => if d.neg = true then s + lev d e else s) 0
theorem upN_snoc (e : Int) (L : List Dec) (d : Dec) : upN e (L ++ [d]) = if d.neg = true then upN e L else upN e L + lev d e := by simp [upN]
theorem dnN_snoc (e : Int) (L : List Dec) (d : Dec) : dnN e (L ++ [d]) = if d.neg = true then dnN e L + lev d e else dnN e L := by simp [dnN]
theorem tot_ud (e : Int) (he : -3000 ≤ e) (L : List Dec) : (∀ d ∈ L, e ≤ d.exp) → totZ 3000 L = ((upN e L * 10 ^ (e + 3000).toNat : Nat) : Int) - ((dnN e L * 10 ^ (e + 3000).toNat : Nat) : Int) := by
  suffices h : ∀ (L : List Dec), (∀ d ∈ L, e ≤ d.exp) → totZ 3000 L = ((upN e L * 10 ^ (e + 3000).toNat : Nat) : Int) - ((dnN e L * 10 ^ (e + 3000).toNat : Nat) : Int) from h L
  intro L
  refine snoc_ind (P := fun L => (∀ d ∈ L, e ≤ d.exp) → totZ 3000 L = ((upN e L * 10 ^ (e + 3000).toNat : Nat) : Int) - ((dnN e L * 10 ^ (e + 3000).toNat : Nat) : Int)) ?_ ?_ L
  · intro _; simp [totZ, upN, dnN]
  · intro L d ih h
    have hd := h d (by simp)
    rw [totZ_snoc, upN_snoc, dnN_snoc, ih fun x hx => h x (by simp [hx])]
    have hv : vl 3000 d = sgZ d.neg (lev d e * 10 ^ (e + 3000).toNat) := by
      unfold vl
      rw [show (d.exp + (3000 : Nat)).toNat = (d.exp + 3000).toNat by rfl, mag_lev hd he]
    rw [hv]
    cases d.neg with
    | true => simp only [if_true, sgZ, Nat.add_mul]; omega
    | false => simp only [Bool.false_eq_true, if_false, sgZ, Nat.add_mul]; omega
theorem ud_le (e : Int) (he : -1000 ≤ e) (L : List Dec) : (∀ d ∈ L, May d) → upN e L ≤ L.length * bigN ∧ dnN e L ≤ L.length * bigN := by
  refine snoc_ind (P := fun L => (∀ d ∈ L, May d) → upN e L ≤ L.length * bigN ∧ dnN e L ≤ L.length * bigN) ?_ ?_ L
  · intro _; simp [upN, dnN]
  · intro L d ih h
    obtain ⟨h1, h2⟩ := ih fun x hx => h x (by simp [hx])
    have h3 := lev_lt (h d (by simp)) he
    rw [upN_snoc, dnN_snoc, List.length_append, List.length_singleton, Nat.add_mul, Nat.one_mul]
    constructor <;> split <;> omega
/-- The least power of all, or 0. -/
def min0 (L : List Dec) : Int := L.foldl (fun e d => min e d.exp) 0
theorem min0_snoc (L : List Dec) (d : Dec) : min0 (L ++ [d]) = min (min0 L) d.exp := by simp [min0]
theorem min0_ok (L : List Dec) : (∀ d ∈ L, May d) → -1000 ≤ min0 L ∧ min0 L ≤ 0 ∧ ∀ d ∈ L, min0 L ≤ d.exp := by
  refine snoc_ind (P := fun L => (∀ d ∈ L, May d) → -1000 ≤ min0 L ∧ min0 L ≤ 0 ∧ ∀ d ∈ L, min0 L ≤ d.exp) ?_ ?_ L
  · intro _; exact ⟨by decide, by decide, fun d hd => by cases hd⟩
  · intro L d ih h
    obtain ⟨h1, h2, h3⟩ := ih fun x hx => h x (by simp [hx])
    have h4 := (h d (by simp)).lo
    rw [min0_snoc]
    refine ⟨by omega, by omega, fun x hx => ?_⟩
    rcases List.mem_append.1 hx with hx | hx
    · have := h3 x hx; omega
    · rw [List.mem_singleton.1 hx]; omega
/-- The sum, as the greater less the other. -/
theorem sum_ud {L : List Dec} (hm : ∀ d ∈ L, May d) :
    (dnN (min0 L) L ≤ upN (min0 L) L → mkD false (upN (min0 L) L - dnN (min0 L) L) (min0 L) = sumD L ∧ mkE false (upN (min0 L) L - dnN (min0 L) L) (min0 L) = sumE L) ∧
    (upN (min0 L) L < dnN (min0 L) L → mkD true (dnN (min0 L) L - upN (min0 L) L) (min0 L) = sumD L ∧ mkE true (dnN (min0 L) L - upN (min0 L) L) (min0 L) = sumE L) := by
  obtain ⟨h1, _, h3⟩ := min0_ok L hm
  have hl := sum_lift (k := 3000) (by omega) hm
  have ht := tot_ud (min0 L) (by omega) L h3
  rw [hl.1, hl.2, ht]
  generalize upN (min0 L) L = u at *
  generalize dnN (min0 L) L = v at *
  generalize min0 L = e at *
  have hp : (e + (3000 : Nat)).toNat = (e + 3000).toNat := rfl
  constructor
  · intro h
    have := mk_lift 3000 false (u - v) e (by omega)
    rw [this.1, this.2, hp]
    have hv : sgZ false ((u - v) * 10 ^ (e + 3000).toNat) = ((u * 10 ^ (e + 3000).toNat : Nat) : Int) - ((v * 10 ^ (e + 3000).toNat : Nat) : Int) := by
      unfold sgZ
      rw [if_neg (by simp), Nat.sub_mul]
      have : v * 10 ^ (e + 3000).toNat ≤ u * 10 ^ (e + 3000).toNat := Nat.mul_le_mul_right _ h
      omega
    rw [hv]
    exact ⟨rfl, rfl⟩
  · intro h
    have := mk_lift 3000 true (v - u) e (by omega)
    rw [this.1, this.2, hp]
    have hv : sgZ true ((v - u) * 10 ^ (e + 3000).toNat) = ((u * 10 ^ (e + 3000).toNat : Nat) : Int) - ((v * 10 ^ (e + 3000).toNat : Nat) : Int) := by
      unfold sgZ
      rw [if_pos rfl, Nat.sub_mul]
      have : u * 10 ^ (e + 3000).toNat ≤ v * 10 ^ (e + 3000).toNat := Nat.mul_le_mul_right _ (Nat.le_of_lt h)
      omega
    rw [hv]
    exact ⟨rfl, rfl⟩
end Go.Proofs.YtlcbjikiodmlfaaGreatDoor
