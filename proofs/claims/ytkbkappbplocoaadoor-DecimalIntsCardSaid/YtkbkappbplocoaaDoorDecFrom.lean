/- Layer 7: FromInt, Neg. -/
import Derived.Test.YtkbkappbplocoaaDoorDecCmp
namespace Go.Proofs.YtkbkappbplocoaaDoor
open Go.RowKit

theorem results_one {fn : Func} {p : Tmp} {ty : TypeId} {P : Program} (h : fn.results = #[.cell p ty]) (tmps : Array Value) (w : World) (g : Nat) (cs : Array Value)
    (hp : tmps.getD p undef = .pointer (some ⟨g, 0, none⟩)) (hr : (loadVar ty ⟨g, 0, none⟩).run P w = .ok (.agg cs) w) :
    (results fn tmps).run P w = .ok (.agg cs) w := by
  have hp' : tmps[p]?.getD undef = .pointer (some ⟨g, 0, none⟩) := by simpa using hp
  simp [results, h, hp', asAddr, hr]
def fromI (n : Int) : Dec := mkD (decide (n < 0)) n.natAbs 0
def OneDec (w : World) (d : Dec) (e : Ending) (w' : World) : Prop := e = .returned (decV d) ∧ Below w.heap.size w w'

set_option maxHeartbeats 1000000 in
theorem fromInt_ok (n : Int) (w : World) (h0 : -9223372036854775808 ≤ n) (h1 : n ≤ 9223372036854775807) (hT : PowTab w) :
    Calls Tryd.prog 18 #[.int .i64 n] w (OneDec w (fromI n)) := by
  obtain ⟨u, hu⟩ : ∃ u : Nat, n.natAbs = u := ⟨_, rfl⟩
  have hu2 : u < 18446744073709551616 := by omega
  obtain ⟨w0, hw0⟩ : ∃ w0, w0 = w.alloc (.cells #[.bool false, .string ⟨#[]⟩, .int .i64 0] 23) := ⟨_, rfl⟩
  have hb0 : Below w.heap.size w w0 := by subst hw0; exact (Below.refl _ _).alloc (Nat.le_refl _) _
  have hr0 : Row w0 w.heap.size 23 #[.bool false, .string ⟨#[]⟩, .int .i64 0] := by subst hw0; exact Row.new _ _ _
  have HB0 := Lib.hid hb0
  have HR0 := Lib.hid hr0
  have HT := Lib.hid hT
  have HF := Lib.hid (fun W => format_ok u hu2 W)
  have hdl : (Lib.decDigits u).length ≤ 20 := decDigits_len (by omega) (by omega)
  have HLD := Lib.hid (fun W => laid_ok (Lib.decDigits u) 0 W (decDigits_digs u) (by omega) (by omega))
  rw [num_decDigits, Nat.pow_zero, Nat.mul_one] at HLD
  have HLN : Hid ((wds u).length ≤ 3) := Lib.hid (wds_length_le (by omega))
  clear hb0 hr0 hT hdl
  unfold OneDec fromI
  rw [hu]
  have key : ∀ neg : Bool, decide (n < 0) = neg → IntKind.u64.wrap (if neg then -IntKind.u64.wrap n else n) = (u : Int) := by
    intro neg hneg
    cases neg
    · have : ¬ n < 0 := of_decide_eq_false hneg
      simp [IntKind.wrap, IntKind.bits, IntKind.signed]
      omega
    · have : n < 0 := of_decide_eq_true hneg
      simp [IntKind.wrap, IntKind.bits, IntKind.signed]
      omega
  have HMD : ∀ neg : Bool, Hid ((decV (mkD neg u 0)) = .agg #[.bool (mkD neg u 0).neg, .string (bs (mkD neg u 0).digits), .int .i64 (mkD neg u 0).exp]) := fun neg => Lib.hid rfl
  by_cases hn : n < 0
  · have hb : decide (n < 0) = true := by simp; omega
    have hw := key true hb
    rw [if_pos rfl] at hw
    rw [hb]
    clear key HMD hu
    go_enter Tryd.func18, Tryd.ntmps18
    go_wp2_with fail
    rw [← hw0]
    clear hw0
    refine (HF.out _ (HT.out.below HB0.out)).mono ?_
    rintro e w1 ⟨rfl, hb1⟩
    have HB1 := Lib.hid (HB0.out.call hb1)
    have HR1 := Lib.hid (HR0.out.call hb1)
    clear hb1 HB0 HR0 HF
    go_wp2_with fail
    refine (HLD.out _).mono ?_
    rintro e w2 ⟨v, rfl, hv, hb2⟩
    have HB2 := Lib.hid (HB1.out.call hb2)
    have HR2 := Lib.hid (HR1.out.call hb2)
    have HV := Lib.hid hv
    clear hb2 HB1 HR1 HLD hv
    go_wp2_with fail
    refine (told_ok true v u 0 _ HV.out (by have := HLN.out; omega) (HT.out.below HB2.out) (by omega) (by omega)).mono ?_
    rintro e w3 ⟨rfl, hb3⟩
    have HB3 := Lib.hid (HB2.out.call hb3)
    have HR3 := Lib.hid (HR2.out.call hb3)
    clear hb3 HB2 HR2 HV
    unfold decV
    obtain ⟨d, hd⟩ : ∃ d, d = mkD true u 0 := ⟨_, rfl⟩
    have HDE := Lib.hid hd
    rw [← hd]
    clear hd
    obtain ⟨neg, l, x⟩ := d
    simp only
    have HR4 := HR3.out.alloc (.cells #[.bool neg, .string (bs l), .int .i64 x] 23)
    have y0 := HR4.cell (i := 0) (v := .bool false) rfl
    have y1 := HR4.cell (i := 1) (v := .string ⟨#[]⟩) rfl
    have y2 := HR4.cell (i := 2) (v := .int .i64 0) rfl
    have g0 := HR4.free 0
    have g1 := HR4.free 1
    have g2 := HR4.free 2
    have HN4 : Row (w3.alloc (.cells #[.bool neg, .string (bs l), .int .i64 x] 23)) w3.heap.size 23 #[.bool neg, .string (bs l), .int .i64 x] := Row.new _ _ _
    have z0 := HN4.cell (i := 0) (v := .bool neg) rfl
    have z1 := HN4.cell (i := 1) (v := .string (bs l)) rfl
    have z2 := HN4.cell (i := 2) (v := .int .i64 x) rfl
    have HHR4 := Lib.hid HR4
    have HB4 := Lib.hid (HB3.out.alloc HB3.out.size (.cells #[.bool neg, .string (bs l), .int .i64 x] 23))
    clear HR4 HN4
    go_wp2_with fail
    have hrow := ((HHR4.out.set_ 0 (.bool neg)).set_ 1 (.string (bs l))).set_ 2 (.int .i64 x)
    refine bodyPost_ret_by (results_one rfl _ _ w.heap.size #[.bool neg, .string (bs l), .int .i64 x] rfl (load_dec hrow rfl)) rfl ?_
    exact ⟨by unfold decV; rw [← HDE.out], ((HB4.out.setCell (p := ⟨w.heap.size, 0, none⟩) (Nat.le_refl _) _).setCell (p := ⟨w.heap.size, 1, none⟩) (Nat.le_refl _) _).setCell (p := ⟨w.heap.size, 2, none⟩) (Nat.le_refl _) _⟩
  · have hb : decide (n < 0) = false := by simp; omega
    have hw := key false hb
    rw [if_neg (by decide)] at hw
    rw [hb]
    clear key HMD hu
    go_enter Tryd.func18, Tryd.ntmps18
    go_wp2_with fail
    rw [← hw0]
    clear hw0
    refine (HF.out _ (HT.out.below HB0.out)).mono ?_
    rintro e w1 ⟨rfl, hb1⟩
    have HB1 := Lib.hid (HB0.out.call hb1)
    have HR1 := Lib.hid (HR0.out.call hb1)
    clear hb1 HB0 HR0 HF
    go_wp2_with fail
    refine (HLD.out _).mono ?_
    rintro e w2 ⟨v, rfl, hv, hb2⟩
    have HB2 := Lib.hid (HB1.out.call hb2)
    have HR2 := Lib.hid (HR1.out.call hb2)
    have HV := Lib.hid hv
    clear hb2 HB1 HR1 HLD hv
    go_wp2_with fail
    refine (told_ok false v u 0 _ HV.out (by have := HLN.out; omega) (HT.out.below HB2.out) (by omega) (by omega)).mono ?_
    rintro e w3 ⟨rfl, hb3⟩
    have HB3 := Lib.hid (HB2.out.call hb3)
    have HR3 := Lib.hid (HR2.out.call hb3)
    clear hb3 HB2 HR2 HV
    unfold decV
    obtain ⟨d, hd⟩ : ∃ d, d = mkD false u 0 := ⟨_, rfl⟩
    have HDE := Lib.hid hd
    rw [← hd]
    clear hd
    obtain ⟨neg, l, x⟩ := d
    simp only
    have HR4 := HR3.out.alloc (.cells #[.bool neg, .string (bs l), .int .i64 x] 23)
    have y0 := HR4.cell (i := 0) (v := .bool false) rfl
    have y1 := HR4.cell (i := 1) (v := .string ⟨#[]⟩) rfl
    have y2 := HR4.cell (i := 2) (v := .int .i64 0) rfl
    have g0 := HR4.free 0
    have g1 := HR4.free 1
    have g2 := HR4.free 2
    have HN4 : Row (w3.alloc (.cells #[.bool neg, .string (bs l), .int .i64 x] 23)) w3.heap.size 23 #[.bool neg, .string (bs l), .int .i64 x] := Row.new _ _ _
    have z0 := HN4.cell (i := 0) (v := .bool neg) rfl
    have z1 := HN4.cell (i := 1) (v := .string (bs l)) rfl
    have z2 := HN4.cell (i := 2) (v := .int .i64 x) rfl
    have HHR4 := Lib.hid HR4
    have HB4 := Lib.hid (HB3.out.alloc HB3.out.size (.cells #[.bool neg, .string (bs l), .int .i64 x] 23))
    clear HR4 HN4
    go_wp2_with fail
    have hrow := ((HHR4.out.set_ 0 (.bool neg)).set_ 1 (.string (bs l))).set_ 2 (.int .i64 x)
    refine bodyPost_ret_by (results_one rfl _ _ w.heap.size #[.bool neg, .string (bs l), .int .i64 x] rfl (load_dec hrow rfl)) rfl ?_
    exact ⟨by unfold decV; rw [← HDE.out], ((HB4.out.setCell (p := ⟨w.heap.size, 0, none⟩) (Nat.le_refl _) _).setCell (p := ⟨w.heap.size, 1, none⟩) (Nat.le_refl _) _).setCell (p := ⟨w.heap.size, 2, none⟩) (Nat.le_refl _) _⟩
/-- What Neg tells. -/
def ngD (d : Dec) : Dec := if mayB d = true then negD d else Dec.zero
theorem clone_ok (l : List UInt8) (w : World) (hl : l.length ≤ 1000000) :
    Calls Tryd.prog 50 #[.string (bs l)] w fun e w' => e = .returned (.string (bs l)) ∧ Below w.heap.size w w' := by
  have HC := Lib.hid (Tryd.stringslite_Clone (bs l) w (by rw [bs_size]; omega))
  go_enter Tryd.func50, Tryd.ntmps50
  go_wp2_with fail
  refine HC.out.mono ?_
  rintro e w1 ⟨rfl, hb⟩
  have HB := Lib.hid hb
  clear hb HC
  go_wp2
  go_ret
  exact ⟨rfl, HB.out⟩
set_option maxHeartbeats 1000000 in
theorem neg_ok (d : Dec) (w : World) (hd : d.digits.length ≤ 1000000) :
    Calls Tryd.prog 26 #[decV d] w (Told w (ngD d) (checkE d)) := by
  have HCK := Lib.hid (fun W => check_ok d W (by omega))
  have HZ := Lib.hid (fun W => isZero_ok d W)
  have HCL := Lib.hid (fun W => clone_ok d.digits W hd)
  obtain ⟨neg, l, x⟩ := d
  unfold decV at *
  simp only at HCK HZ hd ⊢
  obtain ⟨w2, hw2⟩ : ∃ w2, w2 = (w.alloc (.cells #[.bool neg, .string (bs l), .int .i64 x] 23)).alloc (.cells #[.bool false, .string ⟨#[]⟩, .int .i64 0] 23) := ⟨_, rfl⟩
  have hra : Row w2 w.heap.size 23 #[.bool neg, .string (bs l), .int .i64 x] := by subst hw2; exact (Row.new _ _ _).alloc _
  have hrb : Row w2 (w.heap.size + 1) 23 #[.bool false, .string ⟨#[]⟩, .int .i64 0] := by
    subst hw2
    have := Row.new (w.alloc (.cells #[.bool neg, .string (bs l), .int .i64 x] 23)) 23 #[.bool false, .string ⟨#[]⟩, .int .i64 0]
    rwa [show (w.alloc (.cells #[.bool neg, .string (bs l), .int .i64 x] 23)).heap.size = w.heap.size + 1 by simp] at this
  have hb2 : Below w.heap.size w w2 := by subst hw2; exact ((Below.refl _ _).alloc (Nat.le_refl _) _).alloc (by simp) _
  have HB2 := Lib.hid hb2
  have HRA := Lib.hid hra
  have HRB := Lib.hid hrb
  clear hb2 hra hrb
  have HYES : Hid (mayB ⟨neg, l, x⟩ = true → ngD ⟨neg, l, x⟩ = ⟨!neg && !decide (l = []), l, x⟩) := Lib.hid fun h => by unfold ngD; rw [if_pos h]; rfl
  have HNO : Hid (mayB ⟨neg, l, x⟩ = false → ngD ⟨neg, l, x⟩ = Dec.zero) := Lib.hid fun h => by unfold ngD; rw [h]; rfl
  go_enter Tryd.func26, Tryd.ntmps26
  go_wp2_with fail
  rw [← hw2]
  clear hw2
  have hca0 : ∀ W : World, Below w2.heap.size w2 W → W.cell? ⟨w.heap.size, 0, none⟩ = some (.bool neg) := fun W hb => (HRA.out.call hb).cell rfl
  have hca1 : ∀ W : World, Below w2.heap.size w2 W → W.cell? ⟨w.heap.size, 1, none⟩ = some (.string (bs l)) := fun W hb => (HRA.out.call hb).cell rfl
  have hca2 : ∀ W : World, Below w2.heap.size w2 W → W.cell? ⟨w.heap.size, 2, none⟩ = some (.int .i64 x) := fun W hb => (HRA.out.call hb).cell rfl
  refine (HCK.out _).mono ?_
  rintro e w3 ⟨rfl, hb3⟩
  have HR3 := Lib.hid (HRB.out.call hb3)
  have HB3 := Lib.hid (HB2.out.call hb3)
  cases ea : mayB ⟨neg, l, x⟩ with
  | false =>
    have HN := Lib.hid (HNO.out ea)
    have HE := Lib.hid (checkE_no ea)
    rw [checkE_no ea]
    clear ea HNO HYES hca0 hca1 hca2
    have y0 := HR3.out.cell (i := 0) (v := .bool false) rfl
    have y1 := HR3.out.cell (i := 1) (v := .string ⟨#[]⟩) rfl
    have y2 := HR3.out.cell (i := 2) (v := .int .i64 0) rfl
    have g0 := HR3.out.free 0
    have g1 := HR3.out.free 1
    have g2 := HR3.out.free 2
    go_wp2_with fail
    have hrow := ((HR3.out.set_ 0 (.bool false)).set_ 1 (.string ⟨#[]⟩)).set_ 2 (.int .i64 0)
    refine bodyPost_ret_by (results_row_tmp rfl _ _ (w.heap.size + 1) #[.bool false, .string ⟨#[]⟩, .int .i64 0] rfl (load_dec hrow rfl)) rfl ?_
    exact ⟨by rw [HN.out, HE.out]; rfl, ((HB3.out.setCell (p := ⟨w.heap.size + 1, 0, none⟩) (by simp) _).setCell (p := ⟨w.heap.size + 1, 1, none⟩) (by simp) _).setCell (p := ⟨w.heap.size + 1, 2, none⟩) (by simp) _⟩
  | true =>
    have HN := Lib.hid (HYES.out ea)
    have HE := Lib.hid (checkE_yes ea)
    rw [checkE_yes ea]
    have HRA3 := Lib.hid (HRA.out.call hb3)
    clear ea HNO HYES hca0 hca1 hca2 HCK hb3
    have hca0 : ∀ W : World, Below w.heap.size w W ∧ Row W w.heap.size 23 #[.bool neg, .string (bs l), .int .i64 x] → W.cell? ⟨w.heap.size, 0, none⟩ = some (.bool neg) := fun W hb => hb.2.cell rfl
    have hca1 : ∀ W : World, Below w.heap.size w W ∧ Row W w.heap.size 23 #[.bool neg, .string (bs l), .int .i64 x] → W.cell? ⟨w.heap.size, 1, none⟩ = some (.string (bs l)) := fun W hb => hb.2.cell rfl
    have hca2 : ∀ W : World, Below w.heap.size w W ∧ Row W w.heap.size 23 #[.bool neg, .string (bs l), .int .i64 x] → W.cell? ⟨w.heap.size, 2, none⟩ = some (.int .i64 x) := fun W hb => hb.2.cell rfl
    cases neg
    · go_wp2_with fail
      refine wp_region_held_drew (S := (fun W => Below w.heap.size w W ∧ Row W w.heap.size 23 #[.bool false, .string (bs l), .int .i64 x])) (by kernel_rfl) (⟨HB3.out.drew, HRA3.out.drew⟩) (fun hHeld => ?_)
      refine wpAnyH_take (i := 0) (oi := ?_) (v := ?_) ?_ (by kernel_rfl) (by kernel_rfl) (by kernel_rfl) ?_ ?_ (by assumption) ?_
      rotate_left 2
      · simp only [List.getElem?_toArray, List.getElem?_cons_zero]; with_reducible rfl
      · exact fun _ _ _ h => h
      · refine Or.inl ⟨by rfl, ?_⟩; intro W hSw; go_simp; try with_reducible rfl
      try simp only [Act.put, List.setIfInBounds_toArray, List.set_cons_zero, List.set_cons_succ]
      refine wpAnyH_take (i := 1) (oi := ?_) (v := ?_) ?_ (by kernel_rfl) (by kernel_rfl) (by kernel_rfl) ?_ ?_ (by assumption) ?_
      rotate_left 2
      · simp only [List.getElem?_toArray, List.getElem?_cons_succ, List.getElem?_cons_zero]; with_reducible rfl
      · exact fun _ _ _ h => h
      · refine Or.inl ⟨by rfl, ?_⟩; intro W hSw; have hSw0 := hca0 W hSw; go_simp; try with_reducible rfl
      try simp only [Act.put, List.setIfInBounds_toArray, List.set_cons_zero, List.set_cons_succ]
      refine wpAnyH_take (i := 2) (oi := ?_) (v := ?_) ?_ (by kernel_rfl) (by kernel_rfl) (by kernel_rfl) ?_ ?_ (by assumption) ?_
      rotate_left 2
      · simp only [List.getElem?_toArray, List.getElem?_cons_succ, List.getElem?_cons_zero]; with_reducible rfl
      · exact fun _ _ _ h => h
      · refine Or.inl ⟨by rfl, ?_⟩; intro W hSw; go_simp; try with_reducible rfl
      try simp only [Act.put, List.setIfInBounds_toArray, List.set_cons_zero, List.set_cons_succ]
      refine wpAnyH_take (i := 3) (oi := ?_) (v := ?_) ?_ (by kernel_rfl) (by kernel_rfl) (by kernel_rfl) ?_ ?_ (by assumption) ?_
      rotate_left 2
      · simp only [List.getElem?_toArray, List.getElem?_cons_succ, List.getElem?_cons_zero]; with_reducible rfl
      · exact fun _ _ _ h => h
      · refine Or.inl ⟨by rfl, ?_⟩; intro W hSw; go_simp; try with_reducible rfl
      try simp only [Act.put, List.setIfInBounds_toArray, List.set_cons_zero, List.set_cons_succ]
      refine wpAnyH_take (i := 4) (oi := ?_) (v := ?_) ?_ (by kernel_rfl) (by kernel_rfl) (by kernel_rfl) ?_ ?_ (by assumption) ?_
      rotate_left 2
      · simp only [List.getElem?_toArray, List.getElem?_cons_succ, List.getElem?_cons_zero]; with_reducible rfl
      · exact fun _ _ _ h => h
      · refine Or.inl ⟨by rfl, ?_⟩; intro W hSw; have hSw0 := hca0 W hSw; have hSw1 := hca1 W hSw; have hSw2 := hca2 W hSw; go_simp; try with_reducible rfl
      try simp only [Act.put, List.setIfInBounds_toArray, List.set_cons_zero, List.set_cons_succ]
      refine wpAnyH_take (i := 8) (oi := ?_) (v := ?_) ?_ (by kernel_rfl) (by kernel_rfl) (by kernel_rfl) ?_ ?_ (by assumption) ?_
      rotate_left 2
      · simp only [List.getElem?_toArray, List.getElem?_cons_succ, List.getElem?_cons_zero]; with_reducible rfl
      · exact fun _ _ _ h => h
      · refine Or.inl ⟨by rfl, ?_⟩; intro W hSw; go_simp; try with_reducible rfl
      try simp only [Act.put, List.setIfInBounds_toArray, List.set_cons_zero, List.set_cons_succ]
      refine wpAnyH_take (i := 9) (oi := ?_) (v := ?_) ?_ (by kernel_rfl) (by kernel_rfl) (by kernel_rfl) ?_ ?_ (by assumption) ?_
      rotate_left 2
      · simp only [List.getElem?_toArray, List.getElem?_cons_succ, List.getElem?_cons_zero]; with_reducible rfl
      · exact fun _ _ _ h => h
      · refine Or.inl ⟨by rfl, ?_⟩; intro W hSw; have hSw1 := hca1 W hSw; go_simp; try with_reducible rfl
      try simp only [Act.put, List.setIfInBounds_toArray, List.set_cons_zero, List.set_cons_succ]
      refine wpAnyH_take (i := 11) (oi := ?_) (v := ?_) ?_ (by kernel_rfl) (by kernel_rfl) (by kernel_rfl) ?_ ?_ (by assumption) ?_
      rotate_left 2
      · simp only [List.getElem?_toArray, List.getElem?_cons_succ, List.getElem?_cons_zero]; with_reducible rfl
      · exact fun _ _ _ h => h
      · refine Or.inl ⟨by rfl, ?_⟩; intro W hSw; go_simp; try with_reducible rfl
      try simp only [Act.put, List.setIfInBounds_toArray, List.set_cons_zero, List.set_cons_succ]
      refine wpAnyH_take (i := 12) (oi := ?_) (v := ?_) ?_ (by kernel_rfl) (by kernel_rfl) (by kernel_rfl) ?_ ?_ (by assumption) ?_
      rotate_left 2
      · simp only [List.getElem?_toArray, List.getElem?_cons_succ, List.getElem?_cons_zero]; with_reducible rfl
      · exact fun _ _ _ h => h
      · refine Or.inl ⟨by rfl, ?_⟩; intro W hSw; have hSw2 := hca2 W hSw; go_simp; try with_reducible rfl
      try simp only [Act.put, List.setIfInBounds_toArray, List.set_cons_zero, List.set_cons_succ]
      refine wpAnyH_ready (rs := [5]) (by kernel_rfl) (by simp) ?_
      refine AllReadyH.cons (o := ?_) ?_ (fun K1 hK1 => ?_) AllReadyH.nil
      rotate_left 1
      · simp only [List.getElem?_toArray, List.getElem?_cons_succ, List.getElem?_cons_zero]; with_reducible rfl
      rw [if_pos (by rfl)]
      go_simp
      refine (HZ.out _).mono ?_
      rintro e5 w5 ⟨rfl, hb5⟩
      have HR5 := Lib.hid (HR3.out.drew.call hb5)
      go_wp2_with fail
      refine hK1.out _ _ (⟨Below.call hHeld.1 hb5, hHeld.2.call hb5⟩) (fun hHeld1 => ?_)
      clear hK1 K1
      try simp only [Act.put, List.setIfInBounds_toArray, List.set_cons_zero, List.set_cons_succ]
      refine wpAnyH_take (i := 6) (oi := ?_) (v := ?_) ?_ (by kernel_rfl) (by kernel_rfl) (by kernel_rfl) ?_ ?_ (by assumption) ?_
      rotate_left 2
      · simp only [List.getElem?_toArray, List.getElem?_cons_succ, List.getElem?_cons_zero]; with_reducible rfl
      · exact fun _ _ _ h => h
      · refine Or.inl ⟨by rfl, ?_⟩; intro W hSw; go_simp; try with_reducible rfl
      try simp only [Act.put, List.setIfInBounds_toArray, List.set_cons_zero, List.set_cons_succ]
      refine wpAnyH_take (i := 7) (oi := ?_) (v := ?_) ?_ (by kernel_rfl) (by kernel_rfl) (by kernel_rfl) ?_ ?_ (by assumption) ?_
      rotate_left 2
      · simp only [List.getElem?_toArray, List.getElem?_cons_succ, List.getElem?_cons_zero]; with_reducible rfl
      · exact fun _ _ _ h => h
      · refine Or.inl ⟨by rfl, ?_⟩; intro W hSw; go_simp; try with_reducible rfl
      try simp only [Act.put, List.setIfInBounds_toArray, List.set_cons_zero, List.set_cons_succ]
      refine wpAnyH_ready (rs := [10]) (by kernel_rfl) (by simp) ?_
      refine AllReadyH.cons (o := ?_) ?_ (fun K2 hK2 => ?_) AllReadyH.nil
      rotate_left 1
      · simp only [List.getElem?_toArray, List.getElem?_cons_succ, List.getElem?_cons_zero]; with_reducible rfl
      rw [if_pos (by rfl)]
      go_simp
      refine (HCL.out _).mono ?_
      rintro e10 w10 ⟨rfl, hb10⟩
      have HR10 := Lib.hid (HR5.out.call hb10)
      have y0 := HR10.out.cell (i := 0) (v := .bool false) rfl
      have y1 := HR10.out.cell (i := 1) (v := .string ⟨#[]⟩) rfl
      have y2 := HR10.out.cell (i := 2) (v := .int .i64 0) rfl
      have g0 := HR10.out.free 0
      have g1 := HR10.out.free 1
      have g2 := HR10.out.free 2
      go_wp2_with fail
      refine hK2.out _ _ (⟨Below.call hHeld1.1 hb10, hHeld1.2.call hb10⟩) (fun hHeld2 => ?_)
      clear hK2 K2
      try simp only [Act.put, List.setIfInBounds_toArray, List.set_cons_zero, List.set_cons_succ]
      refine wpAnyH_take (i := 13) (oi := ?_) (v := ?_) ?_ (by kernel_rfl) (by kernel_rfl) (by kernel_rfl) ?_ ?_ (by assumption) ?_
      rotate_left 2
      · simp only [List.getElem?_toArray, List.getElem?_cons_succ, List.getElem?_cons_zero]; with_reducible rfl
      · exact fun _ _ _ h => h
      · refine Or.inl ⟨by rfl, ?_⟩; intro W hSw; go_simp; try with_reducible rfl
      try simp only [Act.put, List.setIfInBounds_toArray, List.set_cons_zero, List.set_cons_succ]
      refine wpAnyH_ready (rs := [14]) (by kernel_rfl) (by simp) ?_
      refine AllReadyH.cons (o := ?_) ?_ (fun K3 hK3 => ?_) AllReadyH.nil
      rotate_left 1
      · simp only [List.getElem?_toArray, List.getElem?_cons_succ, List.getElem?_cons_zero]; with_reducible rfl
      rw [if_pos (by rfl)]
      go_simp
      skip
      go_wp2_with fail
      refine hK3.out _ _ (⟨((hHeld2.1.setCell (p := ⟨w.heap.size + 1, 0, none⟩) (by simp) _).setCell (p := ⟨w.heap.size + 1, 1, none⟩) (by simp) _).setCell (p := ⟨w.heap.size + 1, 2, none⟩) (by simp) _, ((hHeld2.2.far (p := ⟨w.heap.size + 1, 0, none⟩) (by simp) _).far (p := ⟨w.heap.size + 1, 1, none⟩) (by simp) _).far (p := ⟨w.heap.size + 1, 2, none⟩) (by simp) _⟩) (fun hHeld3 => ?_)
      clear hK3 K3
      try simp only [Act.put, List.setIfInBounds_toArray, List.set_cons_zero, List.set_cons_succ]
      refine wpAnyH_take (i := 15) (oi := ?_) (v := ?_) ?_ (by kernel_rfl) (by kernel_rfl) (by kernel_rfl) ?_ ?_ (by assumption) ?_
      rotate_left 2
      · simp only [List.getElem?_toArray, List.getElem?_cons_succ, List.getElem?_cons_zero]; with_reducible rfl
      · exact fun _ _ _ h => h
      · refine Or.inl ⟨by rfl, ?_⟩; intro W hSw; go_simp; try with_reducible rfl
      try simp only [Act.put, List.setIfInBounds_toArray, List.set_cons_zero, List.set_cons_succ]
      refine wpAnyH_done (by kernel_rfl) ?_ _
      go_wp2_with fail
      have hrow := ((HR10.out.set_ 0 (.bool (!decide (l = [])))).set_ 1 (.string (bs l))).set_ 2 (.int .i64 x)
      refine bodyPost_ret_by (results_row_tmp rfl _ _ (w.heap.size + 1) #[.bool (!decide (l = [])), .string (bs l), .int .i64 x] rfl (load_dec hrow rfl)) rfl ?_
      exact ⟨by rw [HN.out, HE.out]; rfl, hHeld3.1⟩
    · go_wp2_with fail
      refine wp_region_held_drew (S := (fun W => Below w.heap.size w W ∧ Row W w.heap.size 23 #[.bool true, .string (bs l), .int .i64 x])) (by kernel_rfl) (⟨HB3.out.drew, HRA3.out.drew⟩) (fun hHeld => ?_)
      refine wpAnyH_take (i := 0) (oi := ?_) (v := ?_) ?_ (by kernel_rfl) (by kernel_rfl) (by kernel_rfl) ?_ ?_ (by assumption) ?_
      rotate_left 2
      · simp only [List.getElem?_toArray, List.getElem?_cons_zero]; with_reducible rfl
      · exact fun _ _ _ h => h
      · refine Or.inl ⟨by rfl, ?_⟩; intro W hSw; go_simp; try with_reducible rfl
      try simp only [Act.put, List.setIfInBounds_toArray, List.set_cons_zero, List.set_cons_succ]
      refine wpAnyH_take (i := 1) (oi := ?_) (v := ?_) ?_ (by kernel_rfl) (by kernel_rfl) (by kernel_rfl) ?_ ?_ (by assumption) ?_
      rotate_left 2
      · simp only [List.getElem?_toArray, List.getElem?_cons_succ, List.getElem?_cons_zero]; with_reducible rfl
      · exact fun _ _ _ h => h
      · refine Or.inl ⟨by rfl, ?_⟩; intro W hSw; have hSw0 := hca0 W hSw; go_simp; try with_reducible rfl
      try simp only [Act.put, List.setIfInBounds_toArray, List.set_cons_zero, List.set_cons_succ]
      refine wpAnyH_take (i := 2) (oi := ?_) (v := ?_) ?_ (by kernel_rfl) (by kernel_rfl) (by kernel_rfl) ?_ ?_ (by assumption) ?_
      rotate_left 2
      · simp only [List.getElem?_toArray, List.getElem?_cons_succ, List.getElem?_cons_zero]; with_reducible rfl
      · exact fun _ _ _ h => h
      · refine Or.inl ⟨by rfl, ?_⟩; intro W hSw; go_simp; try with_reducible rfl
      try simp only [Act.put, List.setIfInBounds_toArray, List.set_cons_zero, List.set_cons_succ]
      refine wpAnyH_take (i := 3) (oi := ?_) (v := ?_) ?_ (by kernel_rfl) (by kernel_rfl) (by kernel_rfl) ?_ ?_ (by assumption) ?_
      rotate_left 2
      · simp only [List.getElem?_toArray, List.getElem?_cons_succ, List.getElem?_cons_zero]; with_reducible rfl
      · exact fun _ _ _ h => h
      · refine Or.inl ⟨by rfl, ?_⟩; intro W hSw; go_simp; try with_reducible rfl
      try simp only [Act.put, List.setIfInBounds_toArray, List.set_cons_zero, List.set_cons_succ]
      refine wpAnyH_take (i := 4) (oi := ?_) (v := ?_) ?_ (by kernel_rfl) (by kernel_rfl) (by kernel_rfl) ?_ ?_ (by assumption) ?_
      rotate_left 2
      · simp only [List.getElem?_toArray, List.getElem?_cons_succ, List.getElem?_cons_zero]; with_reducible rfl
      · exact fun _ _ _ h => h
      · refine Or.inr ⟨by rfl, ?_⟩; with_reducible rfl
      try simp only [Act.put, List.setIfInBounds_toArray, List.set_cons_zero, List.set_cons_succ]
      refine wpAnyH_take (i := 5) (oi := ?_) (v := ?_) ?_ (by kernel_rfl) (by kernel_rfl) (by kernel_rfl) ?_ ?_ (by assumption) ?_
      rotate_left 2
      · simp only [List.getElem?_toArray, List.getElem?_cons_succ, List.getElem?_cons_zero]; with_reducible rfl
      · exact fun _ _ _ h => h
      · refine Or.inr ⟨by rfl, ?_⟩; with_reducible rfl
      try simp only [Act.put, List.setIfInBounds_toArray, List.set_cons_zero, List.set_cons_succ]
      refine wpAnyH_take (i := 6) (oi := ?_) (v := ?_) ?_ (by kernel_rfl) (by kernel_rfl) (by kernel_rfl) ?_ ?_ (by assumption) ?_
      rotate_left 2
      · simp only [List.getElem?_toArray, List.getElem?_cons_succ, List.getElem?_cons_zero]; with_reducible rfl
      · exact fun _ _ _ h => h
      · refine Or.inr ⟨by rfl, ?_⟩; with_reducible rfl
      try simp only [Act.put, List.setIfInBounds_toArray, List.set_cons_zero, List.set_cons_succ]
      refine wpAnyH_take (i := 7) (oi := ?_) (v := ?_) ?_ (by kernel_rfl) (by kernel_rfl) (by kernel_rfl) ?_ ?_ (by assumption) ?_
      rotate_left 2
      · simp only [List.getElem?_toArray, List.getElem?_cons_succ, List.getElem?_cons_zero]; with_reducible rfl
      · exact fun _ _ _ h => h
      · refine Or.inl ⟨by rfl, ?_⟩; intro W hSw; go_simp; try with_reducible rfl
      try simp only [Act.put, List.setIfInBounds_toArray, List.set_cons_zero, List.set_cons_succ]
      refine wpAnyH_take (i := 8) (oi := ?_) (v := ?_) ?_ (by kernel_rfl) (by kernel_rfl) (by kernel_rfl) ?_ ?_ (by assumption) ?_
      rotate_left 2
      · simp only [List.getElem?_toArray, List.getElem?_cons_succ, List.getElem?_cons_zero]; with_reducible rfl
      · exact fun _ _ _ h => h
      · refine Or.inl ⟨by rfl, ?_⟩; intro W hSw; go_simp; try with_reducible rfl
      try simp only [Act.put, List.setIfInBounds_toArray, List.set_cons_zero, List.set_cons_succ]
      refine wpAnyH_take (i := 9) (oi := ?_) (v := ?_) ?_ (by kernel_rfl) (by kernel_rfl) (by kernel_rfl) ?_ ?_ (by assumption) ?_
      rotate_left 2
      · simp only [List.getElem?_toArray, List.getElem?_cons_succ, List.getElem?_cons_zero]; with_reducible rfl
      · exact fun _ _ _ h => h
      · refine Or.inl ⟨by rfl, ?_⟩; intro W hSw; have hSw1 := hca1 W hSw; go_simp; try with_reducible rfl
      try simp only [Act.put, List.setIfInBounds_toArray, List.set_cons_zero, List.set_cons_succ]
      refine wpAnyH_take (i := 11) (oi := ?_) (v := ?_) ?_ (by kernel_rfl) (by kernel_rfl) (by kernel_rfl) ?_ ?_ (by assumption) ?_
      rotate_left 2
      · simp only [List.getElem?_toArray, List.getElem?_cons_succ, List.getElem?_cons_zero]; with_reducible rfl
      · exact fun _ _ _ h => h
      · refine Or.inl ⟨by rfl, ?_⟩; intro W hSw; go_simp; try with_reducible rfl
      try simp only [Act.put, List.setIfInBounds_toArray, List.set_cons_zero, List.set_cons_succ]
      refine wpAnyH_take (i := 12) (oi := ?_) (v := ?_) ?_ (by kernel_rfl) (by kernel_rfl) (by kernel_rfl) ?_ ?_ (by assumption) ?_
      rotate_left 2
      · simp only [List.getElem?_toArray, List.getElem?_cons_succ, List.getElem?_cons_zero]; with_reducible rfl
      · exact fun _ _ _ h => h
      · refine Or.inl ⟨by rfl, ?_⟩; intro W hSw; have hSw2 := hca2 W hSw; go_simp; try with_reducible rfl
      try simp only [Act.put, List.setIfInBounds_toArray, List.set_cons_zero, List.set_cons_succ]
      refine wpAnyH_ready (rs := [10]) (by kernel_rfl) (by simp) ?_
      refine AllReadyH.cons (o := ?_) ?_ (fun K1 hK1 => ?_) AllReadyH.nil
      rotate_left 1
      · simp only [List.getElem?_toArray, List.getElem?_cons_succ, List.getElem?_cons_zero]; with_reducible rfl
      rw [if_pos (by rfl)]
      go_simp
      refine (HCL.out _).mono ?_
      rintro e10 w10 ⟨rfl, hb10⟩
      have HR10 := Lib.hid (HR3.out.drew.call hb10)
      have y0 := HR10.out.cell (i := 0) (v := .bool false) rfl
      have y1 := HR10.out.cell (i := 1) (v := .string ⟨#[]⟩) rfl
      have y2 := HR10.out.cell (i := 2) (v := .int .i64 0) rfl
      have g0 := HR10.out.free 0
      have g1 := HR10.out.free 1
      have g2 := HR10.out.free 2
      go_wp2_with fail
      refine hK1.out _ _ (⟨Below.call hHeld.1 hb10, hHeld.2.call hb10⟩) (fun hHeld1 => ?_)
      clear hK1 K1
      try simp only [Act.put, List.setIfInBounds_toArray, List.set_cons_zero, List.set_cons_succ]
      refine wpAnyH_take (i := 13) (oi := ?_) (v := ?_) ?_ (by kernel_rfl) (by kernel_rfl) (by kernel_rfl) ?_ ?_ (by assumption) ?_
      rotate_left 2
      · simp only [List.getElem?_toArray, List.getElem?_cons_succ, List.getElem?_cons_zero]; with_reducible rfl
      · exact fun _ _ _ h => h
      · refine Or.inl ⟨by rfl, ?_⟩; intro W hSw; go_simp; try with_reducible rfl
      try simp only [Act.put, List.setIfInBounds_toArray, List.set_cons_zero, List.set_cons_succ]
      refine wpAnyH_ready (rs := [14]) (by kernel_rfl) (by simp) ?_
      refine AllReadyH.cons (o := ?_) ?_ (fun K2 hK2 => ?_) AllReadyH.nil
      rotate_left 1
      · simp only [List.getElem?_toArray, List.getElem?_cons_succ, List.getElem?_cons_zero]; with_reducible rfl
      rw [if_pos (by rfl)]
      go_simp
      skip
      go_wp2_with fail
      refine hK2.out _ _ (⟨((hHeld1.1.setCell (p := ⟨w.heap.size + 1, 0, none⟩) (by simp) _).setCell (p := ⟨w.heap.size + 1, 1, none⟩) (by simp) _).setCell (p := ⟨w.heap.size + 1, 2, none⟩) (by simp) _, ((hHeld1.2.far (p := ⟨w.heap.size + 1, 0, none⟩) (by simp) _).far (p := ⟨w.heap.size + 1, 1, none⟩) (by simp) _).far (p := ⟨w.heap.size + 1, 2, none⟩) (by simp) _⟩) (fun hHeld2 => ?_)
      clear hK2 K2
      try simp only [Act.put, List.setIfInBounds_toArray, List.set_cons_zero, List.set_cons_succ]
      refine wpAnyH_take (i := 15) (oi := ?_) (v := ?_) ?_ (by kernel_rfl) (by kernel_rfl) (by kernel_rfl) ?_ ?_ (by assumption) ?_
      rotate_left 2
      · simp only [List.getElem?_toArray, List.getElem?_cons_succ, List.getElem?_cons_zero]; with_reducible rfl
      · exact fun _ _ _ h => h
      · refine Or.inl ⟨by rfl, ?_⟩; intro W hSw; go_simp; try with_reducible rfl
      try simp only [Act.put, List.setIfInBounds_toArray, List.set_cons_zero, List.set_cons_succ]
      refine wpAnyH_done (by kernel_rfl) ?_ _
      go_wp2_with fail
      have hrow := ((HR10.out.set_ 0 (.bool false)).set_ 1 (.string (bs l))).set_ 2 (.int .i64 x)
      refine bodyPost_ret_by (results_row_tmp rfl _ _ (w.heap.size + 1) #[.bool false, .string (bs l), .int .i64 x] rfl (load_dec hrow rfl)) rfl ?_
      exact ⟨by rw [HN.out, HE.out]; rfl, hHeld2.1⟩
end Go.Proofs.YtkbkappbplocoaaDoor
