/- Layer 7: Common. -/
import Derived.Test.YthgjelpmdndceaaGreatDoorPt44
namespace Go.Proofs.YthgjelpmdndceaaGreatDoor
open Go.RowKit

def comOk (a b : Dec) : Bool := aboveB a && aboveB b
/-- The least number that both go into. -/
def comN (x y : Nat) : Nat := x / Nat.gcd x y * y
def comD (a b : Dec) : Dec := if comOk a b = true then mkD false (comN (lev a (minX a b)) (lev b (minX a b))) (minX a b) else Dec.zero
def comE (a b : Dec) : Nat := if comOk a b = true then mkE false (comN (lev a (minX a b)) (lev b (minX a b))) (minX a b) else 2
theorem comN_words {x y : Nat} (hx : (wds x).length ≤ 20000) (hy : (wds y).length ≤ 20000) : (wds (comN x y)).length ≤ 40000 := by
  have h1 := wval_lt (wds_words x)
  have h2 := wval_lt (wds_words y)
  rw [wval_wds] at h1 h2
  have h3 : comN x y ≤ x * y := Nat.mul_le_mul_right _ (Nat.div_le_self _ _)
  have h4 : x * y < 1000000000 ^ ((wds x).length + (wds y).length) := by
    rw [Nat.pow_add]
    exact Nat.mul_lt_mul_of_lt_of_le h1 (Nat.le_of_lt h2) (Nat.pow_pos (by omega))
  exact Nat.le_trans (wds_length_le (Nat.lt_of_le_of_lt h3 h4)) (by omega)
set_option maxHeartbeats 2000000 in
theorem common_ok (a b : Dec) (w : World) (hT : PowTab w) (hla : a.digits.length ≤ 9223372036854775806) (hlb : b.digits.length ≤ 9223372036854775806) :
    Calls Tryz.prog 17 #[decV a, decV b] w (Told w (comD a b) (comE a b)) := by
  have HT := Lib.hid hT
  have HCA := Lib.hid (fun W => isAbove_ok a W hla)
  have HCB := Lib.hid (fun W => isAbove_ok b W hlb)
  have HNO : Hid (comOk a b = false → comD a b = Dec.zero ∧ comE a b = 2) := Lib.hid fun h => by unfold comD comE; rw [h]; exact ⟨rfl, rfl⟩
  have HYES : Hid (comOk a b = true → comD a b = mkD false (comN (lev a (minX a b)) (lev b (minX a b))) (minX a b) ∧ comE a b = mkE false (comN (lev a (minX a b)) (lev b (minX a b))) (minX a b)) := Lib.hid fun h => by unfold comD comE; rw [h]; exact ⟨rfl, rfl⟩
  have HMN : Hid (aboveB a = false → comOk a b = false) := Lib.hid fun h => by unfold comOk; rw [h]; rfl
  have HMY : Hid (aboveB a = true → comOk a b = aboveB b) := Lib.hid fun h => by unfold comOk; rw [h]; rfl
  obtain ⟨E, hE⟩ : ∃ E, E = minX a b := ⟨_, rfl⟩
  have HLV : Hid (aboveB a = true → aboveB b = true → (∀ W, Calls Tryz.prog 25 #[decV a, .int .i64 E] W (NumPost W (lev a E))) ∧ (∀ W, Calls Tryz.prog 25 #[decV b, .int .i64 E] W (NumPost W (lev b E))) ∧ (wds (lev a E)).length ≤ 20000 ∧ (wds (lev b E)).length ≤ 20000 ∧ 0 < lev a E ∧ -1000 ≤ E ∧ E ≤ 1000) := Lib.hid fun h h' => by
    have ma := (mayB_iff a).1 (above_may h)
    have mb := (mayB_iff b).1 (above_may h')
    have l1 := ma.lo; have l2 := mb.lo; have l3 := ma.hi; have l4 := mb.hi; have l5 := ma.len; have l6 := mb.len
    have e1 : E ≤ a.exp := by rw [hE]; unfold minX; omega
    have e2 : E ≤ b.exp := by rw [hE]; unfold minX; omega
    have e3 : -1000 ≤ E := by rw [hE]; unfold minX; omega
    exact ⟨fun W => level_ok a E W ma.digs (by omega) e1 (by omega) (by omega), fun W => level_ok b E W mb.digs (by omega) e2 (by omega) (by omega), lev_words ma e3, lev_words mb e3, lev_pos h E, e3, by omega⟩
  rw [← hE] at HYES
  have hEE : min a.exp b.exp = E := hE.symm
  clear hE
  obtain ⟨x, hx⟩ : ∃ x, x = lev a E := ⟨_, rfl⟩
  obtain ⟨y, hy⟩ : ∃ y, y = lev b E := ⟨_, rfl⟩
  rw [← hx, ← hy] at HYES HLV
  clear hx hy
  obtain ⟨an, al, ax⟩ := a
  obtain ⟨bn, bl, bx⟩ := b
  unfold decV at *
  simp only at HCA HCB HLV hla hlb hEE ⊢
  obtain ⟨w2, hw2⟩ : ∃ w2, w2 = ((w.alloc (.cells #[.bool an, .string (bs al), .int .i64 ax] 24)).alloc (.cells #[.bool bn, .string (bs bl), .int .i64 bx] 24)).alloc (.cells #[.bool false, .string ⟨#[]⟩, .int .i64 0] 24) := ⟨_, rfl⟩
  have HRA : Hid (Row w2 w.heap.size 24 #[.bool an, .string (bs al), .int .i64 ax]) := Lib.hid (by subst hw2; exact ((Row.new _ _ _).alloc _).alloc _)
  have HRB : Hid (Row w2 (w.heap.size + 1) 24 #[.bool bn, .string (bs bl), .int .i64 bx]) := Lib.hid (by
    subst hw2
    have := Row.new (w.alloc (.cells #[.bool an, .string (bs al), .int .i64 ax] 24)) 24 #[.bool bn, .string (bs bl), .int .i64 bx]
    rw [show (w.alloc (.cells #[.bool an, .string (bs al), .int .i64 ax] 24)).heap.size = w.heap.size + 1 by simp] at this
    exact this.alloc _)
  have HRR : Hid (Row w2 (w.heap.size + 1 + 1) 24 #[.bool false, .string ⟨#[]⟩, .int .i64 0]) := Lib.hid (by
    subst hw2
    have := Row.new ((w.alloc (.cells #[.bool an, .string (bs al), .int .i64 ax] 24)).alloc (.cells #[.bool bn, .string (bs bl), .int .i64 bx] 24)) 24 #[.bool false, .string ⟨#[]⟩, .int .i64 0]
    rwa [show ((w.alloc (.cells #[.bool an, .string (bs al), .int .i64 ax] 24)).alloc (.cells #[.bool bn, .string (bs bl), .int .i64 bx] 24)).heap.size = w.heap.size + 1 + 1 by simp] at this)
  have HB2 : Hid (Below w.heap.size w w2) := Lib.hid (by subst hw2; exact (((Below.refl _ _).alloc (Nat.le_refl _) _).alloc (by simp) _).alloc (by simp; omega) _)
  go_enter Tryz.func17, Tryz.ntmps17
  go_upto_region 1 with fail
  rw [← hw2]
  clear hw2
  have x0 := HRA.out.cell (i := 0) (v := .bool an) rfl
  have x1 := HRA.out.cell (i := 1) (v := .string (bs al)) rfl
  have x2 := HRA.out.cell (i := 2) (v := .int .i64 ax) rfl
  go_wp2_with fail
  refine (HCA.out _).mono ?_
  rintro e w3 ⟨rfl, hb3⟩
  have HB3 := Lib.hid (HB2.out.call hb3)
  have HRA3 := Lib.hid (HRA.out.call hb3)
  have HRB3 := Lib.hid (HRB.out.call hb3)
  have HRR3 := Lib.hid (HRR.out.call hb3)
  clear x0 x1 x2 hb3 HCA HRA HRB HRR
  cases ea : aboveB ⟨an, al, ax⟩ with
  | false =>
    have HN := Lib.hid (HNO.out (HMN.out ea))
    clear ea HNO HYES HLV HCB HMN HMY
    have y0 := HRR3.out.cell (i := 0) (v := .bool false) rfl
    have y1 := HRR3.out.cell (i := 1) (v := .string ⟨#[]⟩) rfl
    have y2 := HRR3.out.cell (i := 2) (v := .int .i64 0) rfl
    have g0 := HRR3.out.free 0
    have g1 := HRR3.out.free 1
    have g2 := HRR3.out.free 2
    go_wp2_with fail
    have hrow := ((HRR3.out.set_ 0 (.bool false)).set_ 1 (.string ⟨#[]⟩)).set_ 2 (.int .i64 0)
    refine bodyPost_ret_by (results_row_tmp rfl _ _ (w.heap.size + 1 + 1) #[.bool false, .string ⟨#[]⟩, .int .i64 0] rfl (load_dec hrow rfl)) rfl ?_
    exact ⟨by rw [HN.out.1, HN.out.2]; rfl, ((HB3.out.setCell (p := ⟨w.heap.size + 1 + 1, 0, none⟩) (by simp only; omega) _).setCell (p := ⟨w.heap.size + 1 + 1, 1, none⟩) (by simp only; omega) _).setCell (p := ⟨w.heap.size + 1 + 1, 2, none⟩) (by simp only; omega) _⟩
  | true =>
    have x0 := HRB3.out.cell (i := 0) (v := .bool bn) rfl
    have x1 := HRB3.out.cell (i := 1) (v := .string (bs bl)) rfl
    have x2 := HRB3.out.cell (i := 2) (v := .int .i64 bx) rfl
    go_wp2_with fail
    refine (HCB.out _).mono ?_
    rintro e w4 ⟨rfl, hb4⟩
    have HB4 := Lib.hid (HB3.out.call hb4)
    have HRA4 := Lib.hid (HRA3.out.call hb4)
    have HRB4 := Lib.hid (HRB3.out.call hb4)
    have HRR4 := Lib.hid (HRR3.out.call hb4)
    clear x0 x1 x2 hb4 HCB HRA3 HRB3 HRR3 HB3
    cases eb : aboveB ⟨bn, bl, bx⟩ with
    | false =>
      have HN := Lib.hid (HNO.out (by rw [HMY.out ea, eb]))
      clear ea eb HNO HYES HLV HMN HMY
      have y0 := HRR4.out.cell (i := 0) (v := .bool false) rfl
      have y1 := HRR4.out.cell (i := 1) (v := .string ⟨#[]⟩) rfl
      have y2 := HRR4.out.cell (i := 2) (v := .int .i64 0) rfl
      have g0 := HRR4.out.free 0
      have g1 := HRR4.out.free 1
      have g2 := HRR4.out.free 2
      go_wp2_with fail
      have hrow := ((HRR4.out.set_ 0 (.bool false)).set_ 1 (.string ⟨#[]⟩)).set_ 2 (.int .i64 0)
      refine bodyPost_ret_by (results_row_tmp rfl _ _ (w.heap.size + 1 + 1) #[.bool false, .string ⟨#[]⟩, .int .i64 0] rfl (load_dec hrow rfl)) rfl ?_
      exact ⟨by rw [HN.out.1, HN.out.2]; rfl, ((HB4.out.setCell (p := ⟨w.heap.size + 1 + 1, 0, none⟩) (by simp only; omega) _).setCell (p := ⟨w.heap.size + 1 + 1, 1, none⟩) (by simp only; omega) _).setCell (p := ⟨w.heap.size + 1 + 1, 2, none⟩) (by simp only; omega) _⟩
    | true =>
      have HY := Lib.hid (HYES.out (by rw [HMY.out ea, eb]))
      have HL := Lib.hid (HLV.out ea eb)
      clear ea eb HNO HYES HLV HMN HMY
      have y2 := HRA4.out.cell (i := 2) (v := .int .i64 ax) rfl
      have z2 := HRB4.out.cell (i := 2) (v := .int .i64 bx) rfl
      go_upto_region 4 with fail
      clear y2 z2
      refine wp_region_held_drew (S := (fun W => Below w.heap.size w W ∧ Row W w.heap.size 24 #[.bool an, .string (bs al), .int .i64 ax] ∧ Row W (w.heap.size + 1) 24 #[.bool bn, .string (bs bl), .int .i64 bx])) (by kernel_rfl) (⟨HB4.out.drew, HRA4.out.drew, HRB4.out.drew⟩) (fun hHeld => ?_)
      refine wpAnyH_take (i := 0) (oi := ?_) (v := ?_) ?_ (by kernel_rfl) (by kernel_rfl) (by kernel_rfl) ?_ ?_ (by assumption) ?_
      rotate_left 2
      · simp only [List.getElem?_toArray, List.getElem?_cons_zero]; with_reducible rfl
      · exact fun _ _ _ h => h
      · refine Or.inl ⟨by rfl, ?_⟩; intro W hSw; have hSw0 := hSw.2.1.cell (i := 0) (v := .bool an) rfl; have hSw1 := hSw.2.1.cell (i := 1) (v := .string (bs al)) rfl; have hSw2 := hSw.2.1.cell (i := 2) (v := .int .i64 ax) rfl; go_simp; try with_reducible rfl
      try simp only [Act.put, List.setIfInBounds_toArray, List.set_cons_zero, List.set_cons_succ]
      refine wpAnyH_take (i := 1) (oi := ?_) (v := ?_) ?_ (by kernel_rfl) (by kernel_rfl) (by kernel_rfl) ?_ ?_ (by assumption) ?_
      rotate_left 2
      · simp only [List.getElem?_toArray, List.getElem?_cons_succ, List.getElem?_cons_zero]; with_reducible rfl
      · exact fun _ _ _ h => h
      · refine Or.inl ⟨by rfl, ?_⟩; intro W hSw; go_simp; try with_reducible rfl
      try simp only [Act.put, List.setIfInBounds_toArray, List.set_cons_zero, List.set_cons_succ]
      refine wpAnyH_take (i := 3) (oi := ?_) (v := ?_) ?_ (by kernel_rfl) (by kernel_rfl) (by kernel_rfl) ?_ ?_ (by assumption) ?_
      rotate_left 2
      · simp only [List.getElem?_toArray, List.getElem?_cons_succ, List.getElem?_cons_zero]; with_reducible rfl
      · exact fun _ _ _ h => h
      · refine Or.inl ⟨by rfl, ?_⟩; intro W hSw; have hSw0 := hSw.2.2.cell (i := 0) (v := .bool bn) rfl; have hSw1 := hSw.2.2.cell (i := 1) (v := .string (bs bl)) rfl; have hSw2 := hSw.2.2.cell (i := 2) (v := .int .i64 bx) rfl; go_simp; try with_reducible rfl
      try simp only [Act.put, List.setIfInBounds_toArray, List.set_cons_zero, List.set_cons_succ]
      refine wpAnyH_take (i := 4) (oi := ?_) (v := ?_) ?_ (by kernel_rfl) (by kernel_rfl) (by kernel_rfl) ?_ ?_ (by assumption) ?_
      rotate_left 2
      · simp only [List.getElem?_toArray, List.getElem?_cons_succ, List.getElem?_cons_zero]; with_reducible rfl
      · exact fun _ _ _ h => h
      · refine Or.inl ⟨by rfl, ?_⟩; intro W hSw; go_simp; try with_reducible rfl
      try simp only [Act.put, List.setIfInBounds_toArray, List.set_cons_zero, List.set_cons_succ]
      refine wpAnyH_ready (rs := [2]) (by kernel_rfl) (by simp) ?_
      refine AllReadyH.cons (o := ?_) ?_ (fun K1 hK1 => ?_) AllReadyH.nil
      rotate_left 1
      · simp only [List.getElem?_toArray, List.getElem?_cons_succ, List.getElem?_cons_zero]; with_reducible rfl
      rw [if_pos (by rfl)]
      go_simp
      refine (HL.out.1 _).mono ?_
      rintro e5 w5 ⟨va, rfl, hva, hb5⟩
      have HVA := Lib.hid hva
      have HR5 := Lib.hid (HRR4.out.drew.call hb5)
      go_wp2_with fail
      refine hK1.out _ _ (⟨hHeld.1.call hb5, hHeld.2.1.call hb5, hHeld.2.2.call hb5⟩) (fun hHeld1 => ?_)
      clear hK1 K1
      try simp only [Act.put, List.setIfInBounds_toArray, List.set_cons_zero, List.set_cons_succ]
      refine wpAnyH_ready (rs := [5]) (by kernel_rfl) (by simp) ?_
      refine AllReadyH.cons (o := ?_) ?_ (fun K2 hK2 => ?_) AllReadyH.nil
      rotate_left 1
      · simp only [List.getElem?_toArray, List.getElem?_cons_succ, List.getElem?_cons_zero]; with_reducible rfl
      rw [if_pos (by rfl)]
      go_simp
      refine (HL.out.2.1 _).mono ?_
      rintro e6 w6 ⟨vb, rfl, hvb, hb6⟩
      have HVB := Lib.hid hvb
      have HVA6 := Lib.hid (HVA.out.below hb6)
      have HR6 := Lib.hid (HR5.out.call hb6)
      go_wp2_with fail
      refine hK2.out _ _ (⟨hHeld1.1.call hb6, hHeld1.2.1.call hb6, hHeld1.2.2.call hb6⟩) (fun hHeld2 => ?_)
      clear hK2 K2
      try simp only [Act.put, List.setIfInBounds_toArray, List.set_cons_zero, List.set_cons_succ]
      refine wpAnyH_take (i := 6) (oi := ?_) (v := ?_) ?_ (by kernel_rfl) (by kernel_rfl) (by kernel_rfl) ?_ ?_ (by assumption) ?_
      rotate_left 2
      · simp only [List.getElem?_toArray, List.getElem?_cons_succ, List.getElem?_cons_zero]; with_reducible rfl
      · exact fun _ _ _ h => h
      · refine Or.inl ⟨by rfl, ?_⟩; intro W hSw; go_simp; try with_reducible rfl
      try simp only [Act.put, List.setIfInBounds_toArray, List.set_cons_zero, List.set_cons_succ]
      refine wpAnyH_take (i := 7) (oi := ?_) (v := ?_) ?_ (by kernel_rfl) (by kernel_rfl) (by kernel_rfl) ?_ ?_ (by assumption) ?_
      rotate_left 2
      · simp only [List.getElem?_toArray, List.getElem?_cons_succ, List.getElem?_cons_zero]; with_reducible rfl
      · exact fun _ _ _ h => h
      · refine Or.inl ⟨by rfl, ?_⟩; intro W hSw; go_simp; try with_reducible rfl
      try simp only [Act.put, List.setIfInBounds_toArray, List.set_cons_zero, List.set_cons_succ]
      refine wpAnyH_done (by kernel_rfl) ?_ _
      have HB6 := Lib.hid hHeld2.1
      clear hHeld hHeld1 hHeld2
      go_wp2_with fail
      refine (divisor_ok _ _ x y _ HVA6.out HVB.out (by have := HL.out.2.2.1; omega) (by have := HL.out.2.2.2.1; omega)).mono ?_
      rintro e7 w7 ⟨vd, rfl, hvd, hb7⟩
      have HVD := Lib.hid hvd
      have HVA7 := Lib.hid (HVA6.out.below hb7)
      have HVB7 := Lib.hid (HVB.out.below hb7)
      have HR7 := Lib.hid (HR6.out.call hb7)
      have HB7 := Lib.hid (HB6.out.call hb7)
      have HG0 : Hid (0 < Nat.gcd x y ∧ Nat.gcd x y ≤ x) := Lib.hid ⟨Nat.gcd_pos_of_pos_left _ HL.out.2.2.2.2.1, Nat.gcd_le_left _ HL.out.2.2.2.2.1⟩
      clear hvd hb7
      go_wp2_with fail
      refine (quotient_ok _ _ x (Nat.gcd x y) _ HVA7.out HVD.out HG0.out.1 (by have := HL.out.2.2.1; omega) (by have := wds_len_mono HG0.out.2; have := HL.out.2.2.1; omega)).mono ?_
      rintro e8 w8 ⟨vq, vr, rfl, hvq, hvr, hb8⟩
      have HVQ := Lib.hid hvq
      have HVB8 := Lib.hid (HVB7.out.below hb8)
      have HR8 := Lib.hid (HR7.out.call hb8)
      have HB8 := Lib.hid (HB7.out.call hb8)
      clear hvq hvr hb8
      have HPR := Lib.hid (product_ok _ _ _ _ w8 HVQ.out HVB8.out (wds_words _) (wds_words _) (by have := wds_len_mono (Nat.div_le_self x (Nat.gcd x y)); have := HL.out.2.2.1; omega) (by have := HL.out.2.2.2.1; omega))
      rw [wval_wds, wval_wds] at HPR
      go_wp2_with fail
      refine HPR.out.mono ?_
      rintro e9 w9 ⟨vp, rfl, hvp, hb9⟩
      have HVP := Lib.hid hvp
      have HR9 := Lib.hid (HR8.out.call hb9)
      have HB9 := Lib.hid (HB8.out.call hb9)
      clear hvp hb9 HPR
      go_wp2_with fail
      refine (told_ok _ _ (comN x y) _ _ HVP.out (by have := comN_words HL.out.2.2.1 HL.out.2.2.2.1; omega) (HT.out.below HB9.out) (by have := HL.out.2.2.2.2.2; omega) (by have := HL.out.2.2.2.2.2; omega)).mono ?_
      rintro e10 w10 ⟨rfl, hb10⟩
      have HR10 := Lib.hid (HR9.out.call hb10)
      have HB10 := Lib.hid (HB9.out.call hb10)
      unfold decV
      have y0 := HR10.out.cell (i := 0) (v := .bool false) rfl
      have y1 := HR10.out.cell (i := 1) (v := .string ⟨#[]⟩) rfl
      have y2 := HR10.out.cell (i := 2) (v := .int .i64 0) rfl
      have g0 := HR10.out.free 0
      have g1 := HR10.out.free 1
      have g2 := HR10.out.free 2
      go_wp2_with fail
      have hrow := ((HR10.out.set_ 0 (.bool (mkD false (comN x y) E).neg)).set_ 1 (.string (bs (mkD false (comN x y) E).digits))).set_ 2 (.int .i64 (mkD false (comN x y) E).exp)
      refine bodyPost_ret_by (results_row_tmp rfl _ _ (w.heap.size + 1 + 1) _ rfl (load_dec hrow rfl)) rfl ?_
      exact ⟨by rw [HY.out.1, HY.out.2]; rfl, ((HB10.out.setCell (p := ⟨w.heap.size + 1 + 1, 0, none⟩) (by simp only; omega) _).setCell (p := ⟨w.heap.size + 1 + 1, 1, none⟩) (by simp only; omega) _).setCell (p := ⟨w.heap.size + 1 + 1, 2, none⟩) (by simp only; omega) _⟩
end Go.Proofs.YthgjelpmdndceaaGreatDoor
