/- Layer 7: Mul. -/
import Derived.Test.YtlcbjikiodmlfaaGreatDoorPt35
import Derived.Test.YtlcbjikiodmlfaaGreatDoorPt16
import Derived.Test.YtlcbjikiodmlfaaGreatDoorPt18
namespace Go.Proofs.YtlcbjikiodmlfaaGreatDoor
open Go.RowKit

/-- What Mul tells. -/
def mulR (a b : Dec) : Dec := if mayB a = true ∧ mayB b = true then mulD a b else Dec.zero
def mulRE (a b : Dec) : Nat := if mayB a = true ∧ mayB b = true then mulE a b else 2
theorem lev_own (d : Dec) : lev d d.exp = num d.digits := by unfold lev; rw [Int.sub_self]; simp
theorem num_words {d : Dec} (h : May d) : (wds (num d.digits)).length ≤ 12 := by
  refine wds_length_le ?_
  have h1 := num_lt h.digs
  have h2 : 10 ^ d.digits.length ≤ 10 ^ 100 := Nat.pow_le_pow_right (by omega) h.len
  have h3 : (10 : Nat) ^ 100 ≤ 1000000000 ^ 12 := by decide
  omega
set_option maxHeartbeats 1000000 in
theorem mul_ok (a b : Dec) (w : World) (hT : PowTab w) (hla : a.digits.length ≤ 9223372036854775806) (hlb : b.digits.length ≤ 9223372036854775806) :
    Calls Tryz.prog 11 #[decV a, decV b] w (Told w (mulR a b) (mulRE a b)) := by
  have HT := Lib.hid hT
  have HCA := Lib.hid (fun W => check_ok a W hla)
  have HCB := Lib.hid (fun W => check_ok b W hlb)
  have HNO : Hid (¬ (mayB a = true ∧ mayB b = true) → mulR a b = Dec.zero ∧ mulRE a b = 2) := Lib.hid fun h => by unfold mulR mulRE; rw [if_neg h, if_neg h]; exact ⟨rfl, rfl⟩
  have HYES : Hid (mayB a = true → mayB b = true → mulR a b = mkD (a.neg != b.neg) (num a.digits * num b.digits) (a.exp + b.exp) ∧ mulRE a b = mkE (a.neg != b.neg) (num a.digits * num b.digits) (a.exp + b.exp)) := Lib.hid fun h h' => by unfold mulR mulRE; rw [if_pos ⟨h, h'⟩, if_pos ⟨h, h'⟩]; exact ⟨rfl, rfl⟩
  have HLA : Hid (mayB a = true → ∀ W, Calls Tryz.prog 20 #[decV a, .int .i64 a.exp] W (NumPost W (num a.digits))) := Lib.hid fun h W => by
    have m := (mayB_iff a).1 h
    have := level_ok a a.exp W m.digs (by have := m.len; omega) (Int.le_refl _) (by omega) (by have := m.hi; omega)
    rwa [lev_own] at this
  have HLB : Hid (mayB b = true → ∀ W, Calls Tryz.prog 20 #[decV b, .int .i64 b.exp] W (NumPost W (num b.digits))) := Lib.hid fun h W => by
    have m := (mayB_iff b).1 h
    have := level_ok b b.exp W m.digs (by have := m.len; omega) (Int.le_refl _) (by omega) (by have := m.hi; omega)
    rwa [lev_own] at this
  have HWA : Hid (mayB a = true → (wds (num a.digits)).length ≤ 12 ∧ -1000 ≤ a.exp ∧ a.exp ≤ 1000) := Lib.hid fun h => ⟨num_words ((mayB_iff a).1 h), ((mayB_iff a).1 h).lo, ((mayB_iff a).1 h).hi⟩
  have HWB : Hid (mayB b = true → (wds (num b.digits)).length ≤ 12 ∧ -1000 ≤ b.exp ∧ b.exp ≤ 1000) := Lib.hid fun h => ⟨num_words ((mayB_iff b).1 h), ((mayB_iff b).1 h).lo, ((mayB_iff b).1 h).hi⟩
  obtain ⟨an, al, ax⟩ := a
  obtain ⟨bn, bl, bx⟩ := b
  unfold decV at *
  simp only at HCA HCB HLA HLB HYES HWA HWB hla hlb ⊢
  obtain ⟨w2, hw2⟩ : ∃ w2, w2 = ((w.alloc (.cells #[.bool an, .string (bs al), .int .i64 ax] 24)).alloc (.cells #[.bool bn, .string (bs bl), .int .i64 bx] 24)).alloc (.cells #[.bool false, .string ⟨#[]⟩, .int .i64 0] 24) := ⟨_, rfl⟩
  have HRA : Hid (Row w2 w.heap.size 24 #[.bool an, .string (bs al), .int .i64 ax]) := Lib.hid (by subst hw2; exact ((Row.new _ _ _).alloc _).alloc _)
  have HRB : Hid (Row w2 (w.heap.size + 1) 24 #[.bool bn, .string (bs bl), .int .i64 bx]) := Lib.hid (by
    subst hw2
    have := Row.new (w.alloc (.cells #[.bool an, .string (bs al), .int .i64 ax] 24)) 24 #[.bool bn, .string (bs bl), .int .i64 bx]
    rw [show (w.alloc (.cells #[.bool an, .string (bs al), .int .i64 ax] 24)).heap.size = w.heap.size + 1 by simp] at this
    exact this.alloc _)
  have HRR : Hid (Row w2 (w.heap.size + 1 + 1) 24 #[.bool false, .string ⟨#[]⟩, .int .i64 0]) := Lib.hid (by
    subst hw2
    have := Row.new ((w.alloc (.cells #[.bool an, .string (bs al), .int .i64 ax] 24)).alloc (.cells #[.bool bn, .string (bs bl), .int .i64 bx] 24)) 24 #[.bool false, .string ⟨#[]⟩, .int .i64 0]
    rwa [show ((w.alloc (.cells #[.bool an, .string (bs al), .int .i64 ax] 24)).alloc (.cells #[.bool bn, .string (bs bl), .int .i64 bx] 24)).heap.size = w.heap.size + 1 + 1 by simp] at this)
  have HB2 : Hid (Below w.heap.size w w2) := Lib.hid (by subst hw2; exact (((Below.refl _ _).alloc (Nat.le_refl _) _).alloc (by simp) _).alloc (by simp; omega) _)
  go_enter Tryz.func11, Tryz.ntmps11
  go_upto_region 1 with fail
  rw [← hw2]
  clear hw2
  have x0 := HRA.out.cell (i := 0) (v := .bool an) rfl
  have x1 := HRA.out.cell (i := 1) (v := .string (bs al)) rfl
  have x2 := HRA.out.cell (i := 2) (v := .int .i64 ax) rfl
  go_wp2_with fail
  refine (HCA.out _).mono ?_
  rintro e w3 ⟨rfl, hb3⟩
  have HB3 := Lib.hid (HB2.out.call hb3)
  have HRA3 := Lib.hid (HRA.out.call hb3)
  have HRB3 := Lib.hid (HRB.out.call hb3)
  have HRR3 := Lib.hid (HRR.out.call hb3)
  clear x0 x1 x2 hb3 HCA HRA HRB HRR HB2
  cases ea : mayB ⟨an, al, ax⟩ with
  | false =>
    have HN := Lib.hid (HNO.out (by rw [ea]; simp))
    rw [checkE_no ea]
    clear ea HNO HYES HLA HLB HWA HWB HCB
    have y0 := HRR3.out.cell (i := 0) (v := .bool false) rfl
    have y1 := HRR3.out.cell (i := 1) (v := .string ⟨#[]⟩) rfl
    have y2 := HRR3.out.cell (i := 2) (v := .int .i64 0) rfl
    have g0 := HRR3.out.free 0
    have g1 := HRR3.out.free 1
    have g2 := HRR3.out.free 2
    go_wp2_with fail
    have hrow := ((HRR3.out.set_ 0 (.bool false)).set_ 1 (.string ⟨#[]⟩)).set_ 2 (.int .i64 0)
    refine bodyPost_ret_by (results_row_tmp rfl _ _ (w.heap.size + 1 + 1) #[.bool false, .string ⟨#[]⟩, .int .i64 0] rfl (load_dec hrow rfl)) rfl ?_
    exact ⟨by rw [HN.out.1, HN.out.2]; rfl, ((HB3.out.setCell (p := ⟨w.heap.size + 1 + 1, 0, none⟩) (by simp only; omega) _).setCell (p := ⟨w.heap.size + 1 + 1, 1, none⟩) (by simp only; omega) _).setCell (p := ⟨w.heap.size + 1 + 1, 2, none⟩) (by simp only; omega) _⟩
  | true =>
    rw [checkE_yes ea]
    have x0 := HRB3.out.cell (i := 0) (v := .bool bn) rfl
    have x1 := HRB3.out.cell (i := 1) (v := .string (bs bl)) rfl
    have x2 := HRB3.out.cell (i := 2) (v := .int .i64 bx) rfl
    go_wp2_with fail
    refine (HCB.out _).mono ?_
    rintro e w4 ⟨rfl, hb4⟩
    have HB4 := Lib.hid (HB3.out.call hb4)
    have HRA4 := Lib.hid (HRA3.out.call hb4)
    have HRB4 := Lib.hid (HRB3.out.call hb4)
    have HRR4 := Lib.hid (HRR3.out.call hb4)
    clear x0 x1 x2 hb4 HCB HRA3 HRB3 HRR3 HB3
    cases eb : mayB ⟨bn, bl, bx⟩ with
    | false =>
      have HN := Lib.hid (HNO.out (by rw [eb]; simp))
      rw [checkE_no eb]
      clear ea eb HNO HYES HLA HLB HWA HWB
      have y0 := HRR4.out.cell (i := 0) (v := .bool false) rfl
      have y1 := HRR4.out.cell (i := 1) (v := .string ⟨#[]⟩) rfl
      have y2 := HRR4.out.cell (i := 2) (v := .int .i64 0) rfl
      have g0 := HRR4.out.free 0
      have g1 := HRR4.out.free 1
      have g2 := HRR4.out.free 2
      go_wp2_with fail
      have hrow := ((HRR4.out.set_ 0 (.bool false)).set_ 1 (.string ⟨#[]⟩)).set_ 2 (.int .i64 0)
      refine bodyPost_ret_by (results_row_tmp rfl _ _ (w.heap.size + 1 + 1) #[.bool false, .string ⟨#[]⟩, .int .i64 0] rfl (load_dec hrow rfl)) rfl ?_
      exact ⟨by rw [HN.out.1, HN.out.2]; rfl, ((HB4.out.setCell (p := ⟨w.heap.size + 1 + 1, 0, none⟩) (by simp only; omega) _).setCell (p := ⟨w.heap.size + 1 + 1, 1, none⟩) (by simp only; omega) _).setCell (p := ⟨w.heap.size + 1 + 1, 2, none⟩) (by simp only; omega) _⟩
    | true =>
      rw [checkE_yes eb]
      have HY := Lib.hid (HYES.out ea eb)
      have HLA2 := Lib.hid (HLA.out ea)
      have HLB2 := Lib.hid (HLB.out eb)
      have HWA2 := Lib.hid (HWA.out ea)
      have HWB2 := Lib.hid (HWB.out eb)
      obtain ⟨hwa, ha1, ha2⟩ := HWA.out ea
      obtain ⟨hwb, hb1, hb2⟩ := HWB.out eb
      have hlP : (wds (num al * num bl)).length ≤ 24 := by
        refine wds_length_le ?_
        have h1 : num al < 1000000000 ^ 12 := by have := wval_lt (wds_words (num al)); rw [wval_wds] at this; exact Nat.lt_of_lt_of_le this (Nat.pow_le_pow_right (by omega) hwa)
        have h2 : num bl < 1000000000 ^ 12 := by have := wval_lt (wds_words (num bl)); rw [wval_wds] at this; exact Nat.lt_of_lt_of_le this (Nat.pow_le_pow_right (by omega) hwb)
        calc num al * num bl < 1000000000 ^ 12 * 1000000000 ^ 12 := Nat.mul_lt_mul'' h1 h2
          _ = 1000000000 ^ 24 := by rw [← Nat.pow_add]
      have HLP := Lib.hid hlP
      have HPR : Hid (∀ (va vb : Value) (W : World), Wds W va (wds (num al)) → Wds W vb (wds (num bl)) → Calls Tryz.prog 28 #[va, vb] W (NumPost W (num al * num bl))) := Lib.hid fun va vb W h1 h2 => by
        have := product_ok va vb _ _ W h1 h2 (wds_words _) (wds_words _) (by omega) (by omega)
        rwa [wval_wds, wval_wds] at this
      have hwx : IntKind.i64.wrap (ax + bx) = ax + bx := by simp [IntKind.wrap, IntKind.bits, IntKind.signed]; omega
      clear ea eb HNO HYES HLA HLB HWA HWB hwa hwb hlP HWA2 HWB2
      go_wp2_with fail
      refine wp_region_held_drew (S := (fun W => Below w.heap.size w W ∧ Row W w.heap.size 24 #[.bool an, .string (bs al), .int .i64 ax] ∧ Row W (w.heap.size + 1) 24 #[.bool bn, .string (bs bl), .int .i64 bx])) (by kernel_rfl) (⟨HB4.out.drew, HRA4.out.drew, HRB4.out.drew⟩) (fun hHeld => ?_)
      refine wpAnyH_take (i := 0) (oi := ?_) (v := ?_) ?_ (by kernel_rfl) (by kernel_rfl) (by kernel_rfl) ?_ ?_ (by assumption) ?_
      rotate_left 2
      · simp only [List.getElem?_toArray, List.getElem?_cons_zero]; with_reducible rfl
      · exact fun _ _ _ h => h
      · refine Or.inl ⟨by rfl, ?_⟩; intro W hSw; go_simp; try with_reducible rfl
      try simp only [Act.put, List.setIfInBounds_toArray, List.set_cons_zero, List.set_cons_succ]
      refine wpAnyH_take (i := 1) (oi := ?_) (v := ?_) ?_ (by kernel_rfl) (by kernel_rfl) (by kernel_rfl) ?_ ?_ (by assumption) ?_
      rotate_left 2
      · simp only [List.getElem?_toArray, List.getElem?_cons_succ, List.getElem?_cons_zero]; with_reducible rfl
      · exact fun _ _ _ h => h
      · refine Or.inl ⟨by rfl, ?_⟩; intro W hSw; have hSw0 := hSw.2.1.cell (i := 0) (v := .bool an) rfl; go_simp; try with_reducible rfl
      try simp only [Act.put, List.setIfInBounds_toArray, List.set_cons_zero, List.set_cons_succ]
      refine wpAnyH_take (i := 2) (oi := ?_) (v := ?_) ?_ (by kernel_rfl) (by kernel_rfl) (by kernel_rfl) ?_ ?_ (by assumption) ?_
      rotate_left 2
      · simp only [List.getElem?_toArray, List.getElem?_cons_succ, List.getElem?_cons_zero]; with_reducible rfl
      · exact fun _ _ _ h => h
      · refine Or.inl ⟨by rfl, ?_⟩; intro W hSw; go_simp; try with_reducible rfl
      try simp only [Act.put, List.setIfInBounds_toArray, List.set_cons_zero, List.set_cons_succ]
      refine wpAnyH_take (i := 3) (oi := ?_) (v := ?_) ?_ (by kernel_rfl) (by kernel_rfl) (by kernel_rfl) ?_ ?_ (by assumption) ?_
      rotate_left 2
      · simp only [List.getElem?_toArray, List.getElem?_cons_succ, List.getElem?_cons_zero]; with_reducible rfl
      · exact fun _ _ _ h => h
      · refine Or.inl ⟨by rfl, ?_⟩; intro W hSw; have hSw0 := hSw.2.2.cell (i := 0) (v := .bool bn) rfl; go_simp; try with_reducible rfl
      try simp only [Act.put, List.setIfInBounds_toArray, List.set_cons_zero, List.set_cons_succ]
      refine wpAnyH_take (i := 4) (oi := ?_) (v := ?_) ?_ (by kernel_rfl) (by kernel_rfl) (by kernel_rfl) ?_ ?_ (by assumption) ?_
      rotate_left 2
      · simp only [List.getElem?_toArray, List.getElem?_cons_succ, List.getElem?_cons_zero]; with_reducible rfl
      · exact fun _ _ _ h => h
      · refine Or.inl ⟨by rfl, ?_⟩; intro W hSw; go_simp; try with_reducible rfl
      try simp only [Act.put, List.setIfInBounds_toArray, List.set_cons_zero, List.set_cons_succ]
      refine wpAnyH_take (i := 5) (oi := ?_) (v := ?_) ?_ (by kernel_rfl) (by kernel_rfl) (by kernel_rfl) ?_ ?_ (by assumption) ?_
      rotate_left 2
      · simp only [List.getElem?_toArray, List.getElem?_cons_succ, List.getElem?_cons_zero]; with_reducible rfl
      · exact fun _ _ _ h => h
      · refine Or.inl ⟨by rfl, ?_⟩; intro W hSw; have hSw0 := hSw.2.1.cell (i := 0) (v := .bool an) rfl; have hSw1 := hSw.2.1.cell (i := 1) (v := .string (bs al)) rfl; have hSw2 := hSw.2.1.cell (i := 2) (v := .int .i64 ax) rfl; go_simp; try with_reducible rfl
      try simp only [Act.put, List.setIfInBounds_toArray, List.set_cons_zero, List.set_cons_succ]
      refine wpAnyH_take (i := 6) (oi := ?_) (v := ?_) ?_ (by kernel_rfl) (by kernel_rfl) (by kernel_rfl) ?_ ?_ (by assumption) ?_
      rotate_left 2
      · simp only [List.getElem?_toArray, List.getElem?_cons_succ, List.getElem?_cons_zero]; with_reducible rfl
      · exact fun _ _ _ h => h
      · refine Or.inl ⟨by rfl, ?_⟩; intro W hSw; go_simp; try with_reducible rfl
      try simp only [Act.put, List.setIfInBounds_toArray, List.set_cons_zero, List.set_cons_succ]
      refine wpAnyH_take (i := 7) (oi := ?_) (v := ?_) ?_ (by kernel_rfl) (by kernel_rfl) (by kernel_rfl) ?_ ?_ (by assumption) ?_
      rotate_left 2
      · simp only [List.getElem?_toArray, List.getElem?_cons_succ, List.getElem?_cons_zero]; with_reducible rfl
      · exact fun _ _ _ h => h
      · refine Or.inl ⟨by rfl, ?_⟩; intro W hSw; have hSw2 := hSw.2.1.cell (i := 2) (v := .int .i64 ax) rfl; go_simp; try with_reducible rfl
      try simp only [Act.put, List.setIfInBounds_toArray, List.set_cons_zero, List.set_cons_succ]
      refine wpAnyH_take (i := 9) (oi := ?_) (v := ?_) ?_ (by kernel_rfl) (by kernel_rfl) (by kernel_rfl) ?_ ?_ (by assumption) ?_
      rotate_left 2
      · simp only [List.getElem?_toArray, List.getElem?_cons_succ, List.getElem?_cons_zero]; with_reducible rfl
      · exact fun _ _ _ h => h
      · refine Or.inl ⟨by rfl, ?_⟩; intro W hSw; have hSw0 := hSw.2.2.cell (i := 0) (v := .bool bn) rfl; have hSw1 := hSw.2.2.cell (i := 1) (v := .string (bs bl)) rfl; have hSw2 := hSw.2.2.cell (i := 2) (v := .int .i64 bx) rfl; go_simp; try with_reducible rfl
      try simp only [Act.put, List.setIfInBounds_toArray, List.set_cons_zero, List.set_cons_succ]
      refine wpAnyH_take (i := 10) (oi := ?_) (v := ?_) ?_ (by kernel_rfl) (by kernel_rfl) (by kernel_rfl) ?_ ?_ (by assumption) ?_
      rotate_left 2
      · simp only [List.getElem?_toArray, List.getElem?_cons_succ, List.getElem?_cons_zero]; with_reducible rfl
      · exact fun _ _ _ h => h
      · refine Or.inl ⟨by rfl, ?_⟩; intro W hSw; go_simp; try with_reducible rfl
      try simp only [Act.put, List.setIfInBounds_toArray, List.set_cons_zero, List.set_cons_succ]
      refine wpAnyH_take (i := 11) (oi := ?_) (v := ?_) ?_ (by kernel_rfl) (by kernel_rfl) (by kernel_rfl) ?_ ?_ (by assumption) ?_
      rotate_left 2
      · simp only [List.getElem?_toArray, List.getElem?_cons_succ, List.getElem?_cons_zero]; with_reducible rfl
      · exact fun _ _ _ h => h
      · refine Or.inl ⟨by rfl, ?_⟩; intro W hSw; have hSw2 := hSw.2.2.cell (i := 2) (v := .int .i64 bx) rfl; go_simp; try with_reducible rfl
      try simp only [Act.put, List.setIfInBounds_toArray, List.set_cons_zero, List.set_cons_succ]
      refine wpAnyH_take (i := 14) (oi := ?_) (v := ?_) ?_ (by kernel_rfl) (by kernel_rfl) (by kernel_rfl) ?_ ?_ (by assumption) ?_
      rotate_left 2
      · simp only [List.getElem?_toArray, List.getElem?_cons_succ, List.getElem?_cons_zero]; with_reducible rfl
      · exact fun _ _ _ h => h
      · refine Or.inl ⟨by rfl, ?_⟩; intro W hSw; go_simp; try with_reducible rfl
      try simp only [Act.put, List.setIfInBounds_toArray, List.set_cons_zero, List.set_cons_succ]
      refine wpAnyH_take (i := 15) (oi := ?_) (v := ?_) ?_ (by kernel_rfl) (by kernel_rfl) (by kernel_rfl) ?_ ?_ (by assumption) ?_
      rotate_left 2
      · simp only [List.getElem?_toArray, List.getElem?_cons_succ, List.getElem?_cons_zero]; with_reducible rfl
      · exact fun _ _ _ h => h
      · refine Or.inl ⟨by rfl, ?_⟩; intro W hSw; have hSw2 := hSw.2.1.cell (i := 2) (v := .int .i64 ax) rfl; go_simp; try with_reducible rfl
      try simp only [Act.put, List.setIfInBounds_toArray, List.set_cons_zero, List.set_cons_succ]
      refine wpAnyH_take (i := 16) (oi := ?_) (v := ?_) ?_ (by kernel_rfl) (by kernel_rfl) (by kernel_rfl) ?_ ?_ (by assumption) ?_
      rotate_left 2
      · simp only [List.getElem?_toArray, List.getElem?_cons_succ, List.getElem?_cons_zero]; with_reducible rfl
      · exact fun _ _ _ h => h
      · refine Or.inl ⟨by rfl, ?_⟩; intro W hSw; go_simp; try with_reducible rfl
      try simp only [Act.put, List.setIfInBounds_toArray, List.set_cons_zero, List.set_cons_succ]
      refine wpAnyH_take (i := 17) (oi := ?_) (v := ?_) ?_ (by kernel_rfl) (by kernel_rfl) (by kernel_rfl) ?_ ?_ (by assumption) ?_
      rotate_left 2
      · simp only [List.getElem?_toArray, List.getElem?_cons_succ, List.getElem?_cons_zero]; with_reducible rfl
      · exact fun _ _ _ h => h
      · refine Or.inl ⟨by rfl, ?_⟩; intro W hSw; have hSw2 := hSw.2.2.cell (i := 2) (v := .int .i64 bx) rfl; go_simp; try with_reducible rfl
      try simp only [Act.put, List.setIfInBounds_toArray, List.set_cons_zero, List.set_cons_succ]
      refine wpAnyH_take (i := 18) (oi := ?_) (v := ?_) ?_ (by kernel_rfl) (by kernel_rfl) (by kernel_rfl) ?_ ?_ (by assumption) ?_
      rotate_left 2
      · simp only [List.getElem?_toArray, List.getElem?_cons_succ, List.getElem?_cons_zero]; with_reducible rfl
      · exact fun _ _ _ h => h
      · refine Or.inl ⟨by rfl, ?_⟩; intro W hSw; go_simp; try with_reducible rfl
      try simp only [Act.put, List.setIfInBounds_toArray, List.set_cons_zero, List.set_cons_succ]
      refine wpAnyH_ready (rs := [8]) (by kernel_rfl) (by simp) ?_
      refine AllReadyH.cons (o := ?_) ?_ (fun K1 hK1 => ?_) AllReadyH.nil
      rotate_left 1
      · simp only [List.getElem?_toArray, List.getElem?_cons_succ, List.getElem?_cons_zero]; with_reducible rfl
      rw [if_pos (by rfl)]
      go_simp
      refine (HLA2.out _).mono ?_
      rintro e5 w5 ⟨va, rfl, hva, hb5⟩
      have HVA := Lib.hid hva
      have HR5 := Lib.hid (HRR4.out.drew.call hb5)
      go_wp2_with fail
      refine hK1.out _ _ (⟨hHeld.1.call hb5, hHeld.2.1.call hb5, hHeld.2.2.call hb5⟩) (fun hHeld1 => ?_)
      clear hK1 K1
      try simp only [Act.put, List.setIfInBounds_toArray, List.set_cons_zero, List.set_cons_succ]
      refine wpAnyH_ready (rs := [12]) (by kernel_rfl) (by simp) ?_
      refine AllReadyH.cons (o := ?_) ?_ (fun K2 hK2 => ?_) AllReadyH.nil
      rotate_left 1
      · simp only [List.getElem?_toArray, List.getElem?_cons_succ, List.getElem?_cons_zero]; with_reducible rfl
      rw [if_pos (by rfl)]
      go_simp
      refine (HLB2.out _).mono ?_
      rintro e6 w6 ⟨vb, rfl, hvb, hb6⟩
      have HVB := Lib.hid hvb
      have HVA6 := Lib.hid (HVA.out.below hb6)
      have HR6 := Lib.hid (HR5.out.call hb6)
      go_wp2_with fail
      refine hK2.out _ _ (⟨hHeld1.1.call hb6, hHeld1.2.1.call hb6, hHeld1.2.2.call hb6⟩) (fun hHeld2 => ?_)
      clear hK2 K2
      try simp only [Act.put, List.setIfInBounds_toArray, List.set_cons_zero, List.set_cons_succ]
      refine wpAnyH_ready (rs := [13]) (by kernel_rfl) (by simp) ?_
      refine AllReadyH.cons (o := ?_) ?_ (fun K3 hK3 => ?_) AllReadyH.nil
      rotate_left 1
      · simp only [List.getElem?_toArray, List.getElem?_cons_succ, List.getElem?_cons_zero]; with_reducible rfl
      rw [if_pos (by rfl)]
      go_simp
      refine (HPR.out _ _ _ HVA6.out HVB.out).mono ?_
      rintro e7 w7 ⟨vp, rfl, hvp, hb7⟩
      have HVP := Lib.hid hvp
      have HR7 := Lib.hid (HR6.out.call hb7)
      go_wp2_with fail
      refine hK3.out _ _ (⟨hHeld2.1.call hb7, hHeld2.2.1.call hb7, hHeld2.2.2.call hb7⟩) (fun hHeld3 => ?_)
      clear hK3 K3
      try simp only [Act.put, List.setIfInBounds_toArray, List.set_cons_zero, List.set_cons_succ]
      refine wpAnyH_ready (rs := [19]) (by kernel_rfl) (by simp) ?_
      refine AllReadyH.cons (o := ?_) ?_ (fun K4 hK4 => ?_) AllReadyH.nil
      rotate_left 1
      · simp only [List.getElem?_toArray, List.getElem?_cons_succ, List.getElem?_cons_zero]; with_reducible rfl
      rw [if_pos (by rfl)]
      go_simp
      refine (told_ok _ _ _ _ _ HVP.out (by have := HLP.out; omega) (HT.out.below hHeld3.1) (by omega) (by omega)).mono ?_
      rintro e8 w8 ⟨rfl, hb8⟩
      have HR8 := Lib.hid (HR7.out.call hb8)
      unfold decV
      have y0 := HR8.out.cell (i := 0) (v := .bool false) rfl
      have y1 := HR8.out.cell (i := 1) (v := .string ⟨#[]⟩) rfl
      have y2 := HR8.out.cell (i := 2) (v := .int .i64 0) rfl
      have g0 := HR8.out.free 0
      have g1 := HR8.out.free 1
      have g2 := HR8.out.free 2
      go_wp2_with fail
      refine hK4.out _ _ (⟨hHeld3.1.call hb8, hHeld3.2.1.call hb8, hHeld3.2.2.call hb8⟩) (fun hHeld4 => ?_)
      clear hK4 K4
      try simp only [Act.put, List.setIfInBounds_toArray, List.set_cons_zero, List.set_cons_succ]
      refine wpAnyH_take (i := 20) (oi := ?_) (v := ?_) ?_ (by kernel_rfl) (by kernel_rfl) (by kernel_rfl) ?_ ?_ (by assumption) ?_
      rotate_left 2
      · simp only [List.getElem?_toArray, List.getElem?_cons_succ, List.getElem?_cons_zero]; with_reducible rfl
      · exact fun _ _ _ h => h
      · refine Or.inl ⟨by rfl, ?_⟩; intro W hSw; go_simp; try with_reducible rfl
      try simp only [Act.put, List.setIfInBounds_toArray, List.set_cons_zero, List.set_cons_succ]
      refine wpAnyH_take (i := 21) (oi := ?_) (v := ?_) ?_ (by kernel_rfl) (by kernel_rfl) (by kernel_rfl) ?_ ?_ (by assumption) ?_
      rotate_left 2
      · simp only [List.getElem?_toArray, List.getElem?_cons_succ, List.getElem?_cons_zero]; with_reducible rfl
      · exact fun _ _ _ h => h
      · refine Or.inl ⟨by rfl, ?_⟩; intro W hSw; go_simp; try with_reducible rfl
      try simp only [Act.put, List.setIfInBounds_toArray, List.set_cons_zero, List.set_cons_succ]
      refine wpAnyH_ready (rs := [22]) (by kernel_rfl) (by simp) ?_
      refine AllReadyH.cons (o := ?_) ?_ (fun K5 hK5 => ?_) AllReadyH.nil
      rotate_left 1
      · simp only [List.getElem?_toArray, List.getElem?_cons_succ, List.getElem?_cons_zero]; with_reducible rfl
      rw [if_pos (by rfl)]
      go_simp
      skip
      go_wp2_with fail
      refine hK5.out _ _ (⟨((hHeld4.1.setCell (p := ⟨w.heap.size + 1 + 1, 0, none⟩) (by simp only; omega) _).setCell (p := ⟨w.heap.size + 1 + 1, 1, none⟩) (by simp only; omega) _).setCell (p := ⟨w.heap.size + 1 + 1, 2, none⟩) (by simp only; omega) _, ((hHeld4.2.1.far (p := ⟨w.heap.size + 1 + 1, 0, none⟩) (by simp only; omega) _).far (p := ⟨w.heap.size + 1 + 1, 1, none⟩) (by simp only; omega) _).far (p := ⟨w.heap.size + 1 + 1, 2, none⟩) (by simp only; omega) _, ((hHeld4.2.2.far (p := ⟨w.heap.size + 1 + 1, 0, none⟩) (by simp only; omega) _).far (p := ⟨w.heap.size + 1 + 1, 1, none⟩) (by simp only; omega) _).far (p := ⟨w.heap.size + 1 + 1, 2, none⟩) (by simp only; omega) _⟩) (fun hHeld5 => ?_)
      clear hK5 K5
      try simp only [Act.put, List.setIfInBounds_toArray, List.set_cons_zero, List.set_cons_succ]
      refine wpAnyH_take (i := 23) (oi := ?_) (v := ?_) ?_ (by kernel_rfl) (by kernel_rfl) (by kernel_rfl) ?_ ?_ (by assumption) ?_
      rotate_left 2
      · simp only [List.getElem?_toArray, List.getElem?_cons_succ, List.getElem?_cons_zero]; with_reducible rfl
      · exact fun _ _ _ h => h
      · refine Or.inl ⟨by rfl, ?_⟩; intro W hSw; go_simp; try with_reducible rfl
      try simp only [Act.put, List.setIfInBounds_toArray, List.set_cons_zero, List.set_cons_succ]
      refine wpAnyH_done (by kernel_rfl) ?_ _
      go_wp2_with fail
      have hrow := ((HR8.out.set_ 0 (.bool (mkD (!an == bn) (num al * num bl) (ax + bx)).neg)).set_ 1 (.string (bs (mkD (!an == bn) (num al * num bl) (ax + bx)).digits))).set_ 2 (.int .i64 (mkD (!an == bn) (num al * num bl) (ax + bx)).exp)
      refine bodyPost_ret_by (results_row_tmp rfl _ _ (w.heap.size + 1 + 1) _ rfl (load_dec hrow rfl)) rfl ?_
      exact ⟨by rw [HY.out.1, HY.out.2]; rfl, hHeld5.1⟩
end Go.Proofs.YtlcbjikiodmlfaaGreatDoor
