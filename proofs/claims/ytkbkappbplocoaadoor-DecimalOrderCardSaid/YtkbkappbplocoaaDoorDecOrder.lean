/- Layer 7: the walk of DecimalOrder. -/
import Derived.Test.YtkbkappbplocoaaDoorDecTimes
import Derived.Test.YtkbkappbplocoaaDoorDecOrd7
namespace Go.Proofs.YtkbkappbplocoaaDoor
open Go.RowKit

set_option maxRecDepth 1000000 in
theorem frO_end {K : Act → World → Prop} {a' : Act} {W' : World} (p3 p4 p5 : Value) (x z v : Int) (e : a' = ⟨(frO (fun k => a'.tmps.getD k undef) p3 p4 p5 x z v).toArray, []⟩) (h : K ⟨(frO (fun k => a'.tmps.getD k undef) p3 p4 p5 x z v).toArray, []⟩ W') : K a' W' := by
  rw [← e] at h
  exact h
theorem long3 (a b c : Dec) (ha : a.digits.length ≤ 9223372036854775807) (hb : b.digits.length ≤ 9223372036854775807) (hc : c.digits.length ≤ 9223372036854775807) (W : World) :
    Calls Tryd.prog 9 #[.slice (some ⟨W.heap.size, 0, none⟩) 3 3] (W.alloc (.cells #[.bool a.neg, .string (bs a.digits), .int .i64 a.exp, .bool b.neg, .string (bs b.digits), .int .i64 b.exp, .bool c.neg, .string (bs c.digits), .int .i64 c.exp] 23)) fun e w' => e = .returned (.bool (longB [a, b, c])) ∧ (W.alloc (.cells #[.bool a.neg, .string (bs a.digits), .int .i64 a.exp, .bool b.neg, .string (bs b.digits), .int .i64 b.exp, .bool c.neg, .string (bs c.digits), .int .i64 c.exp] 23)) = w' := by
  have hr := Row.new W 23 #[.bool a.neg, .string (bs a.digits), .int .i64 a.exp, .bool b.neg, .string (bs b.digits), .int .i64 b.exp, .bool c.neg, .string (bs c.digits), .int .i64 c.exp]
  exact long_ok (some ⟨W.heap.size, 0, none⟩) 3 3 [a, b, c] _ rfl (by decide) ⟨rfl, fun _ => ⟨W.heap.size, 0, rfl, hr.lt, fun j v hv => by have := hr.cell (i := j) (v := v) (by simpa [dcs] using hv); simpa using this⟩⟩ (fun d hd => by
    simp only [List.mem_cons, List.not_mem_nil, or_false] at hd
    rcases hd with rfl | rfl | rfl <;> assumption)
theorem ordI {a b c : Dec} (ma : May a) (mb : May b) : OrdI (decide (a.neg = b.neg ∧ a.digits = b.digits ∧ a.exp = b.exp)) (cmpZ (vl 3000 a) (vl 3000 b)) (cmpZ (vl 3000 b) (vl 3000 c)) (cmpZ (vl 3000 a) (vl 3000 c)) := by
  have h1 := cmpZ_range (vl 3000 a) (vl 3000 b)
  have h2 := cmpZ_range (vl 3000 b) (vl 3000 c)
  have h3 := cmpZ_range (vl 3000 a) (vl 3000 c)
  refine ⟨?_, by omega, by omega, by omega, ?_⟩
  · rw [decide_eq_true_iff, cmpZ_eq]
    constructor
    · rintro ⟨e1, e2, e3⟩
      rw [Dec.ext' e1 e2 e3]
    · intro h
      have := vl_inj (by omega) ma mb h
      subst this
      exact ⟨rfl, rfl, rfl⟩
  · unfold cmpZ
    intro h4 h5
    split at h4 <;> split at h5 <;> (try split at h4) <;> (try split at h5) <;> (try split) <;> (try split) <;> omega
theorem err0 {a b c : Dec} (h : ¬ (mayB a = true ∧ mayB b = true ∧ mayB c = true)) : ∃ x y z : Nat, checkE a = x ∧ checkE b = y ∧ checkE c = z ∧ x ≤ 2 ∧ y ≤ 2 ∧ z ≤ 2 ∧ 0 < x + y + z := by
  refine ⟨_, _, _, rfl, rfl, rfl, ?_⟩
  unfold checkE
  cases e1 : mayB a <;> cases e2 : mayB b <;> cases e3 : mayB c <;> simp_all
set_option maxRecDepth 1000000 in
set_option maxHeartbeats 40000000 in
theorem order_law (a b c : Dec) (w : World) (hT : PowTab w) (ha : a.digits.length ≤ 9223372036854775807) (hb : b.digits.length ≤ 9223372036854775807) (hc : c.digits.length ≤ 9223372036854775807) :
    Calls Tryd.prog 7 #[decV a, decV b, decV c] w fun e w' => e = .returned (.bool true) ∧ Below w.heap.size w w' := by
  have HT := Lib.hid hT
  have HWK := Lib.hid (fun W h => works_ok W h)
  have HLG := Lib.hid (fun W => long3 a b c ha hb hc W)
  have HLS : Hid (longB [a, b, c] = false → a.digits.length ≤ 1000 ∧ b.digits.length ≤ 1000 ∧ c.digits.length ≤ 1000) := Lib.hid fun h => ⟨longB_no h a (by simp), longB_no h b (by simp), longB_no h c (by simp)⟩
  have HER : Hid (¬ (mayB a = true ∧ mayB b = true ∧ mayB c = true) → ∃ x y z : Nat, checkE a = x ∧ checkE b = y ∧ checkE c = z ∧ x ≤ 2 ∧ y ≤ 2 ∧ z ≤ 2 ∧ 0 < x + y + z) := Lib.hid err0
  have HCA : Hid (longB [a, b, c] = false → ∀ W, Calls Tryd.prog 16 #[decV a] W fun x w' => x = .returned (.int .i64 (checkE a : Nat)) ∧ Below W.heap.size W w') := Lib.hid fun h W => check_ok a W (by have := longB_no h a (by simp); omega)
  have HCB : Hid (longB [a, b, c] = false → ∀ W, Calls Tryd.prog 16 #[decV b] W fun x w' => x = .returned (.int .i64 (checkE b : Nat)) ∧ Below W.heap.size W w') := Lib.hid fun h W => check_ok b W (by have := longB_no h b (by simp); omega)
  have HCC : Hid (longB [a, b, c] = false → ∀ W, Calls Tryd.prog 16 #[decV c] W fun x w' => x = .returned (.int .i64 (checkE c : Nat)) ∧ Below W.heap.size W w') := Lib.hid fun h W => check_ok c W (by have := longB_no h c (by simp); omega)
  have HYS : Hid (mayB a = true ∧ mayB b = true ∧ mayB c = true → May a ∧ May b ∧ May c ∧ checkE a = 0 ∧ checkE b = 0 ∧ checkE c = 0) := Lib.hid fun h => ⟨(mayB_iff a).1 h.1, (mayB_iff b).1 h.2.1, (mayB_iff c).1 h.2.2, checkE_yes h.1, checkE_yes h.2.1, checkE_yes h.2.2⟩
  obtain ⟨lb, hlb⟩ : ∃ lb, lb = longB [a, b, c] := ⟨_, rfl⟩
  rw [← hlb] at HLG HLS HCA HCB HCC
  clear hT ha hb hc hlb
  obtain ⟨w1, hw1⟩ : ∃ w1, w1 = ((w.alloc (.cells (decC a) 23)).alloc (.cells (decC b) 23)).alloc (.cells (decC c) 23) := ⟨_, rfl⟩
  have HD1 : Hid (Decs w w1 [(w.heap.size + 1 + 1, c), (w.heap.size + 1, b), (w.heap.size, a)]) := Lib.hid (three_vars w a.neg b.neg c.neg a.digits b.digits c.digits a.exp b.exp c.exp hw1)
  unfold decC at hw1
  go_enter Tryd.func7, Tryd.ntmps7
  unfold decV at HCA HCB HCC ⊢
  go_upto_region 1 with fail
  rw [← hw1]
  clear hw1
  cases lb with
  | true =>
    clear HLS HCA HCB HCC HYS HER
    refine wp_region_held_drew (S := (fun W => Decs w W [(w.heap.size + 1 + 1, c), (w.heap.size + 1, b), (w.heap.size, a)])) (by kernel_rfl) (HD1.out.drew) (fun hHeld => ?_)
    refine wpAnyH_take (i := 0) (oi := ?_) (v := ?_) ?_ (by kernel_rfl) (by kernel_rfl) (by kernel_rfl) ?_ ?_ (by assumption) ?_
    rotate_left 2
    · simp only [List.getElem?_toArray, List.getElem?_cons_zero]; with_reducible rfl
    · exact fun _ _ _ h => h
    · refine Or.inl ⟨by rfl, ?_⟩; intro W hSw; have q0 := hSw.c0 (i := 2) rfl; have q1 := hSw.c1 (i := 2) rfl; have q2 := hSw.c2 (i := 2) rfl; go_simp; try with_reducible rfl
    try simp only [Act.put, List.setIfInBounds_toArray, List.set_cons_zero, List.set_cons_succ]
    refine wpAnyH_take (i := 1) (oi := ?_) (v := ?_) ?_ (by kernel_rfl) (by kernel_rfl) (by kernel_rfl) ?_ ?_ (by assumption) ?_
    rotate_left 2
    · simp only [List.getElem?_toArray, List.getElem?_cons_succ, List.getElem?_cons_zero]; with_reducible rfl
    · exact fun _ _ _ h => h
    · refine Or.inl ⟨by rfl, ?_⟩; intro W hSw; have q0 := hSw.c0 (i := 1) rfl; have q1 := hSw.c1 (i := 1) rfl; have q2 := hSw.c2 (i := 1) rfl; go_simp; try with_reducible rfl
    try simp only [Act.put, List.setIfInBounds_toArray, List.set_cons_zero, List.set_cons_succ]
    refine wpAnyH_take (i := 2) (oi := ?_) (v := ?_) ?_ (by kernel_rfl) (by kernel_rfl) (by kernel_rfl) ?_ ?_ (by assumption) ?_
    rotate_left 2
    · simp only [List.getElem?_toArray, List.getElem?_cons_succ, List.getElem?_cons_zero]; with_reducible rfl
    · exact fun _ _ _ h => h
    · refine Or.inl ⟨by rfl, ?_⟩; intro W hSw; have q0 := hSw.c0 (i := 0) rfl; have q1 := hSw.c1 (i := 0) rfl; have q2 := hSw.c2 (i := 0) rfl; go_simp; try with_reducible rfl
    try simp only [Act.put, List.setIfInBounds_toArray, List.set_cons_zero, List.set_cons_succ]
    refine wpAnyH_ready (rs := [3]) (by kernel_rfl) (by simp) ?_
    refine AllReadyH.cons (o := ?_) ?_ (fun K1 hK1 => ?_) AllReadyH.nil
    rotate_left 1
    · simp only [List.getElem?_toArray, List.getElem?_cons_succ, List.getElem?_cons_zero]; with_reducible rfl
    rw [if_pos (by rfl)]
    go_simp
    skip
    go_wp2_with fail
    refine hK1.out _ _ (⟨hHeld.below.alloc hHeld.below.size (.cells #[.bool a.neg, .string (bs a.digits), .int .i64 a.exp, .bool b.neg, .string (bs b.digits), .int .i64 b.exp, .bool c.neg, .string (bs c.digits), .int .i64 c.exp] 23), fun ii bb dd hi => (hHeld.at_ ii bb dd hi).alloc (.cells #[.bool a.neg, .string (bs a.digits), .int .i64 a.exp, .bool b.neg, .string (bs b.digits), .int .i64 b.exp, .bool c.neg, .string (bs c.digits), .int .i64 c.exp] 23)⟩) (fun hHeld1 => ?_)
    clear hK1 K1
    try simp only [Act.put, List.setIfInBounds_toArray, List.set_cons_zero, List.set_cons_succ]
    refine wpAnyH_ready (rs := [4]) (by kernel_rfl) (by simp) ?_
    refine AllReadyH.cons (o := ?_) ?_ (fun K2 hK2 => ?_) AllReadyH.nil
    rotate_left 1
    · simp only [List.getElem?_toArray, List.getElem?_cons_succ, List.getElem?_cons_zero]; with_reducible rfl
    rw [if_pos (by rfl)]
    go_simp
    refine (HLG.out w1.drew).mono ?_
    rintro e4 w4 ⟨rfl, rfl⟩
    go_wp2_with fail
    refine hK2.out _ _ (hHeld1) (fun hHeld2 => ?_)
    clear hK2 K2
    try simp only [Act.put, List.setIfInBounds_toArray, List.set_cons_zero, List.set_cons_succ]
    refine wpAnyH_take (i := 5) (oi := ?_) (v := ?_) ?_ (by kernel_rfl) (by kernel_rfl) (by kernel_rfl) ?_ ?_ (by assumption) ?_
    rotate_left 2
    · simp only [List.getElem?_toArray, List.getElem?_cons_succ, List.getElem?_cons_zero]; with_reducible rfl
    · exact fun _ _ _ h => h
    · refine Or.inl ⟨by rfl, ?_⟩; intro W hSw; go_simp; try with_reducible rfl
    try simp only [Act.put, List.setIfInBounds_toArray, List.set_cons_zero, List.set_cons_succ]
    refine wpAnyH_take (i := 6) (oi := ?_) (v := ?_) ?_ (by kernel_rfl) (by kernel_rfl) (by kernel_rfl) ?_ ?_ (by assumption) ?_
    rotate_left 2
    · simp only [List.getElem?_toArray, List.getElem?_cons_succ, List.getElem?_cons_zero]; with_reducible rfl
    · exact fun _ _ _ h => h
    · refine Or.inr ⟨by rfl, ?_⟩; with_reducible rfl
    try simp only [Act.put, List.setIfInBounds_toArray, List.set_cons_zero, List.set_cons_succ]
    refine wpAnyH_take (i := 7) (oi := ?_) (v := ?_) ?_ (by kernel_rfl) (by kernel_rfl) (by kernel_rfl) ?_ ?_ (by assumption) ?_
    rotate_left 2
    · simp only [List.getElem?_toArray, List.getElem?_cons_succ, List.getElem?_cons_zero]; with_reducible rfl
    · exact fun _ _ _ h => h
    · refine Or.inr ⟨by rfl, ?_⟩; with_reducible rfl
    try simp only [Act.put, List.setIfInBounds_toArray, List.set_cons_zero, List.set_cons_succ]
    refine wpAnyH_take (i := 8) (oi := ?_) (v := ?_) ?_ (by kernel_rfl) (by kernel_rfl) (by kernel_rfl) ?_ ?_ (by assumption) ?_
    rotate_left 2
    · simp only [List.getElem?_toArray, List.getElem?_cons_succ, List.getElem?_cons_zero]; with_reducible rfl
    · exact fun _ _ _ h => h
    · refine Or.inr ⟨by rfl, ?_⟩; with_reducible rfl
    try simp only [Act.put, List.setIfInBounds_toArray, List.set_cons_zero, List.set_cons_succ]
    refine wpAnyH_take (i := 9) (oi := ?_) (v := ?_) ?_ (by kernel_rfl) (by kernel_rfl) (by kernel_rfl) ?_ ?_ (by assumption) ?_
    rotate_left 2
    · simp only [List.getElem?_toArray, List.getElem?_cons_succ, List.getElem?_cons_zero]; with_reducible rfl
    · exact fun _ _ _ h => h
    · refine Or.inr ⟨by rfl, ?_⟩; with_reducible rfl
    try simp only [Act.put, List.setIfInBounds_toArray, List.set_cons_zero, List.set_cons_succ]
    refine wpAnyH_take (i := 10) (oi := ?_) (v := ?_) ?_ (by kernel_rfl) (by kernel_rfl) (by kernel_rfl) ?_ ?_ (by assumption) ?_
    rotate_left 2
    · simp only [List.getElem?_toArray, List.getElem?_cons_succ, List.getElem?_cons_zero]; with_reducible rfl
    · exact fun _ _ _ h => h
    · refine Or.inr ⟨by rfl, ?_⟩; with_reducible rfl
    try simp only [Act.put, List.setIfInBounds_toArray, List.set_cons_zero, List.set_cons_succ]
    refine wpAnyH_take (i := 11) (oi := ?_) (v := ?_) ?_ (by kernel_rfl) (by kernel_rfl) (by kernel_rfl) ?_ ?_ (by assumption) ?_
    rotate_left 2
    · simp only [List.getElem?_toArray, List.getElem?_cons_succ, List.getElem?_cons_zero]; with_reducible rfl
    · exact fun _ _ _ h => h
    · refine Or.inr ⟨by rfl, ?_⟩; with_reducible rfl
    try simp only [Act.put, List.setIfInBounds_toArray, List.set_cons_zero, List.set_cons_succ]
    refine wpAnyH_take (i := 12) (oi := ?_) (v := ?_) ?_ (by kernel_rfl) (by kernel_rfl) (by kernel_rfl) ?_ ?_ (by assumption) ?_
    rotate_left 2
    · simp only [List.getElem?_toArray, List.getElem?_cons_succ, List.getElem?_cons_zero]; with_reducible rfl
    · exact fun _ _ _ h => h
    · refine Or.inr ⟨by rfl, ?_⟩; with_reducible rfl
    try simp only [Act.put, List.setIfInBounds_toArray, List.set_cons_zero, List.set_cons_succ]
    refine wpAnyH_take (i := 13) (oi := ?_) (v := ?_) ?_ (by kernel_rfl) (by kernel_rfl) (by kernel_rfl) ?_ ?_ (by assumption) ?_
    rotate_left 2
    · simp only [List.getElem?_toArray, List.getElem?_cons_succ, List.getElem?_cons_zero]; with_reducible rfl
    · exact fun _ _ _ h => h
    · refine Or.inr ⟨by rfl, ?_⟩; with_reducible rfl
    try simp only [Act.put, List.setIfInBounds_toArray, List.set_cons_zero, List.set_cons_succ]
    refine wpAnyH_take (i := 14) (oi := ?_) (v := ?_) ?_ (by kernel_rfl) (by kernel_rfl) (by kernel_rfl) ?_ ?_ (by assumption) ?_
    rotate_left 2
    · simp only [List.getElem?_toArray, List.getElem?_cons_succ, List.getElem?_cons_zero]; with_reducible rfl
    · exact fun _ _ _ h => h
    · refine Or.inr ⟨by rfl, ?_⟩; with_reducible rfl
    try simp only [Act.put, List.setIfInBounds_toArray, List.set_cons_zero, List.set_cons_succ]
    refine wpAnyH_take (i := 15) (oi := ?_) (v := ?_) ?_ (by kernel_rfl) (by kernel_rfl) (by kernel_rfl) ?_ ?_ (by assumption) ?_
    rotate_left 2
    · simp only [List.getElem?_toArray, List.getElem?_cons_succ, List.getElem?_cons_zero]; with_reducible rfl
    · exact fun _ _ _ h => h
    · refine Or.inr ⟨by rfl, ?_⟩; with_reducible rfl
    try simp only [Act.put, List.setIfInBounds_toArray, List.set_cons_zero, List.set_cons_succ]
    refine wpAnyH_take (i := 16) (oi := ?_) (v := ?_) ?_ (by kernel_rfl) (by kernel_rfl) (by kernel_rfl) ?_ ?_ (by assumption) ?_
    rotate_left 2
    · simp only [List.getElem?_toArray, List.getElem?_cons_succ, List.getElem?_cons_zero]; with_reducible rfl
    · exact fun _ _ _ h => h
    · refine Or.inr ⟨by rfl, ?_⟩; with_reducible rfl
    try simp only [Act.put, List.setIfInBounds_toArray, List.set_cons_zero, List.set_cons_succ]
    refine wpAnyH_take (i := 17) (oi := ?_) (v := ?_) ?_ (by kernel_rfl) (by kernel_rfl) (by kernel_rfl) ?_ ?_ (by assumption) ?_
    rotate_left 2
    · simp only [List.getElem?_toArray, List.getElem?_cons_succ, List.getElem?_cons_zero]; with_reducible rfl
    · exact fun _ _ _ h => h
    · refine Or.inr ⟨by rfl, ?_⟩; with_reducible rfl
    try simp only [Act.put, List.setIfInBounds_toArray, List.set_cons_zero, List.set_cons_succ]
    refine wpAnyH_take (i := 18) (oi := ?_) (v := ?_) ?_ (by kernel_rfl) (by kernel_rfl) (by kernel_rfl) ?_ ?_ (by assumption) ?_
    rotate_left 2
    · simp only [List.getElem?_toArray, List.getElem?_cons_succ, List.getElem?_cons_zero]; with_reducible rfl
    · exact fun _ _ _ h => h
    · refine Or.inl ⟨by rfl, ?_⟩; intro W hSw; go_simp; try with_reducible rfl
    try simp only [Act.put, List.setIfInBounds_toArray, List.set_cons_zero, List.set_cons_succ]
    refine wpAnyH_done (by kernel_rfl) ?_ _
    go_wp2_with fail
    refine (HWK.out _ (HT.out.below hHeld2.below)).mono ?_
    rintro e wz ⟨rfl, hbz⟩
    have HBZ := Lib.hid (Below.call hHeld2.below hbz)
    clear hbz
    go_wp2
    go_ret
    exact ⟨rfl, HBZ.out⟩
  | false =>
    obtain ⟨hla, hlb, hlc⟩ := HLS.out rfl
    by_cases hmm : mayB a = true ∧ mayB b = true ∧ mayB c = true
    rotate_left 1
    · obtain ⟨ka, kb, kc, e1, e2, e3, k1, k2, k3, k4⟩ := HER.out hmm
      have HKA := Lib.hid (HCA.out rfl)
      have HKB := Lib.hid (HCB.out rfl)
      have HKC := Lib.hid (HCC.out rfl)
      rw [e1] at HKA
      rw [e2] at HKB
      rw [e3] at HKC
      clear HLS HCA HCB HCC HYS HER e1 e2 e3 hmm
      obtain ⟨s1, hs1⟩ : ∃ s1 : Nat, (ka : Int) + (kb : Int) = (s1 : Int) := ⟨ka + kb, by omega⟩
      obtain ⟨s2, hs2⟩ : ∃ s2 : Nat, (s1 : Int) + (kc : Int) = (s2 : Int) := ⟨s1 + kc, by omega⟩
      have hk9 : ((s2 : Int) == 0) = false := by rw [beq_eq_false_iff_ne]; omega
      have hr1 : IntKind.i64.wrap (s1 : Int) = s1 := by simp [IntKind.wrap, IntKind.bits, IntKind.signed]; omega
      have hr2 : IntKind.i64.wrap (s2 : Int) = s2 := by simp [IntKind.wrap, IntKind.bits, IntKind.signed]; omega
      refine wp_region_held_drew (S := (fun W => Decs w W [(w.heap.size + 1 + 1, c), (w.heap.size + 1, b), (w.heap.size, a)])) (by kernel_rfl) (HD1.out.drew) (fun hHeld => ?_)
      refine wpAnyH_take (i := 0) (oi := ?_) (v := ?_) ?_ (by kernel_rfl) (by kernel_rfl) (by kernel_rfl) ?_ ?_ (by assumption) ?_
      rotate_left 2
      · simp only [List.getElem?_toArray, List.getElem?_cons_zero]; with_reducible rfl
      · exact fun _ _ _ h => h
      · refine Or.inl ⟨by rfl, ?_⟩; intro W hSw; have q0 := hSw.c0 (i := 2) rfl; have q1 := hSw.c1 (i := 2) rfl; have q2 := hSw.c2 (i := 2) rfl; go_simp; try with_reducible rfl
      try simp only [Act.put, List.setIfInBounds_toArray, List.set_cons_zero, List.set_cons_succ]
      refine wpAnyH_take (i := 1) (oi := ?_) (v := ?_) ?_ (by kernel_rfl) (by kernel_rfl) (by kernel_rfl) ?_ ?_ (by assumption) ?_
      rotate_left 2
      · simp only [List.getElem?_toArray, List.getElem?_cons_succ, List.getElem?_cons_zero]; with_reducible rfl
      · exact fun _ _ _ h => h
      · refine Or.inl ⟨by rfl, ?_⟩; intro W hSw; have q0 := hSw.c0 (i := 1) rfl; have q1 := hSw.c1 (i := 1) rfl; have q2 := hSw.c2 (i := 1) rfl; go_simp; try with_reducible rfl
      try simp only [Act.put, List.setIfInBounds_toArray, List.set_cons_zero, List.set_cons_succ]
      refine wpAnyH_take (i := 2) (oi := ?_) (v := ?_) ?_ (by kernel_rfl) (by kernel_rfl) (by kernel_rfl) ?_ ?_ (by assumption) ?_
      rotate_left 2
      · simp only [List.getElem?_toArray, List.getElem?_cons_succ, List.getElem?_cons_zero]; with_reducible rfl
      · exact fun _ _ _ h => h
      · refine Or.inl ⟨by rfl, ?_⟩; intro W hSw; have q0 := hSw.c0 (i := 0) rfl; have q1 := hSw.c1 (i := 0) rfl; have q2 := hSw.c2 (i := 0) rfl; go_simp; try with_reducible rfl
      try simp only [Act.put, List.setIfInBounds_toArray, List.set_cons_zero, List.set_cons_succ]
      refine wpAnyH_ready (rs := [3]) (by kernel_rfl) (by simp) ?_
      refine AllReadyH.cons (o := ?_) ?_ (fun K1 hK1 => ?_) AllReadyH.nil
      rotate_left 1
      · simp only [List.getElem?_toArray, List.getElem?_cons_succ, List.getElem?_cons_zero]; with_reducible rfl
      rw [if_pos (by rfl)]
      go_simp
      skip
      go_wp2_with fail
      refine hK1.out _ _ (⟨hHeld.below.alloc hHeld.below.size (.cells #[.bool a.neg, .string (bs a.digits), .int .i64 a.exp, .bool b.neg, .string (bs b.digits), .int .i64 b.exp, .bool c.neg, .string (bs c.digits), .int .i64 c.exp] 23), fun ii bb dd hi => (hHeld.at_ ii bb dd hi).alloc (.cells #[.bool a.neg, .string (bs a.digits), .int .i64 a.exp, .bool b.neg, .string (bs b.digits), .int .i64 b.exp, .bool c.neg, .string (bs c.digits), .int .i64 c.exp] 23)⟩) (fun hHeld1 => ?_)
      clear hK1 K1
      try simp only [Act.put, List.setIfInBounds_toArray, List.set_cons_zero, List.set_cons_succ]
      refine wpAnyH_ready (rs := [4]) (by kernel_rfl) (by simp) ?_
      refine AllReadyH.cons (o := ?_) ?_ (fun K2 hK2 => ?_) AllReadyH.nil
      rotate_left 1
      · simp only [List.getElem?_toArray, List.getElem?_cons_succ, List.getElem?_cons_zero]; with_reducible rfl
      rw [if_pos (by rfl)]
      go_simp
      refine (HLG.out w1.drew).mono ?_
      rintro e4 w4 ⟨rfl, rfl⟩
      go_wp2_with fail
      refine hK2.out _ _ (hHeld1) (fun hHeld2 => ?_)
      clear hK2 K2
      try simp only [Act.put, List.setIfInBounds_toArray, List.set_cons_zero, List.set_cons_succ]
      refine wpAnyH_take (i := 5) (oi := ?_) (v := ?_) ?_ (by kernel_rfl) (by kernel_rfl) (by kernel_rfl) ?_ ?_ (by assumption) ?_
      rotate_left 2
      · simp only [List.getElem?_toArray, List.getElem?_cons_succ, List.getElem?_cons_zero]; with_reducible rfl
      · exact fun _ _ _ h => h
      · refine Or.inl ⟨by rfl, ?_⟩; intro W hSw; go_simp; try with_reducible rfl
      try simp only [Act.put, List.setIfInBounds_toArray, List.set_cons_zero, List.set_cons_succ]
      refine wpAnyH_take (i := 6) (oi := ?_) (v := ?_) ?_ (by kernel_rfl) (by kernel_rfl) (by kernel_rfl) ?_ ?_ (by assumption) ?_
      rotate_left 2
      · simp only [List.getElem?_toArray, List.getElem?_cons_succ, List.getElem?_cons_zero]; with_reducible rfl
      · exact fun _ _ _ h => h
      · refine Or.inl ⟨by rfl, ?_⟩; intro W hSw; have q0 := hSw.c0 (i := 2) rfl; have q1 := hSw.c1 (i := 2) rfl; have q2 := hSw.c2 (i := 2) rfl; go_simp; try with_reducible rfl
      try simp only [Act.put, List.setIfInBounds_toArray, List.set_cons_zero, List.set_cons_succ]
      refine wpAnyH_take (i := 9) (oi := ?_) (v := ?_) ?_ (by kernel_rfl) (by kernel_rfl) (by kernel_rfl) ?_ ?_ (by assumption) ?_
      rotate_left 2
      · simp only [List.getElem?_toArray, List.getElem?_cons_succ, List.getElem?_cons_zero]; with_reducible rfl
      · exact fun _ _ _ h => h
      · refine Or.inl ⟨by rfl, ?_⟩; intro W hSw; have q0 := hSw.c0 (i := 1) rfl; have q1 := hSw.c1 (i := 1) rfl; have q2 := hSw.c2 (i := 1) rfl; go_simp; try with_reducible rfl
      try simp only [Act.put, List.setIfInBounds_toArray, List.set_cons_zero, List.set_cons_succ]
      refine wpAnyH_take (i := 13) (oi := ?_) (v := ?_) ?_ (by kernel_rfl) (by kernel_rfl) (by kernel_rfl) ?_ ?_ (by assumption) ?_
      rotate_left 2
      · simp only [List.getElem?_toArray, List.getElem?_cons_succ, List.getElem?_cons_zero]; with_reducible rfl
      · exact fun _ _ _ h => h
      · refine Or.inl ⟨by rfl, ?_⟩; intro W hSw; have q0 := hSw.c0 (i := 0) rfl; have q1 := hSw.c1 (i := 0) rfl; have q2 := hSw.c2 (i := 0) rfl; go_simp; try with_reducible rfl
      try simp only [Act.put, List.setIfInBounds_toArray, List.set_cons_zero, List.set_cons_succ]
      refine wpAnyH_ready (rs := [7]) (by kernel_rfl) (by simp) ?_
      refine AllReadyH.cons (o := ?_) ?_ (fun K3 hK3 => ?_) AllReadyH.nil
      rotate_left 1
      · simp only [List.getElem?_toArray, List.getElem?_cons_succ, List.getElem?_cons_zero]; with_reducible rfl
      rw [if_pos (by rfl)]
      go_simp
      refine (HKA.out _).mono ?_
      rintro e7 w7 ⟨rfl, hb7⟩
      go_wp2_with fail
      refine hK3.out _ _ (hHeld2.call hb7) (fun hHeld3 => ?_)
      clear hK3 K3
      try simp only [Act.put, List.setIfInBounds_toArray, List.set_cons_zero, List.set_cons_succ]
      refine wpAnyH_ready (rs := [8]) (by kernel_rfl) (by simp) ?_
      refine AllReadyH.cons (o := ?_) ?_ (fun K4 hK4 => ?_) AllReadyH.nil
      rotate_left 1
      · simp only [List.getElem?_toArray, List.getElem?_cons_succ, List.getElem?_cons_zero]; with_reducible rfl
      rw [if_pos (by rfl)]
      go_simp
      refine (num_ok _ _).mono ?_
      rintro e8 w8 ⟨rfl, rfl⟩
      go_wp2_with fail
      refine hK4.out _ _ (hHeld3) (fun hHeld4 => ?_)
      clear hK4 K4
      try simp only [Act.put, List.setIfInBounds_toArray, List.set_cons_zero, List.set_cons_succ]
      refine wpAnyH_ready (rs := [10]) (by kernel_rfl) (by simp) ?_
      refine AllReadyH.cons (o := ?_) ?_ (fun K5 hK5 => ?_) AllReadyH.nil
      rotate_left 1
      · simp only [List.getElem?_toArray, List.getElem?_cons_succ, List.getElem?_cons_zero]; with_reducible rfl
      rw [if_pos (by rfl)]
      go_simp
      refine (HKB.out _).mono ?_
      rintro e10 w10 ⟨rfl, hb10⟩
      go_wp2_with fail
      refine hK5.out _ _ (hHeld4.call hb10) (fun hHeld5 => ?_)
      clear hK5 K5
      try simp only [Act.put, List.setIfInBounds_toArray, List.set_cons_zero, List.set_cons_succ]
      refine wpAnyH_ready (rs := [11]) (by kernel_rfl) (by simp) ?_
      refine AllReadyH.cons (o := ?_) ?_ (fun K6 hK6 => ?_) AllReadyH.nil
      rotate_left 1
      · simp only [List.getElem?_toArray, List.getElem?_cons_succ, List.getElem?_cons_zero]; with_reducible rfl
      rw [if_pos (by rfl)]
      go_simp
      refine (num_ok _ _).mono ?_
      rintro e11 w11 ⟨rfl, rfl⟩
      go_wp2_with fail
      refine hK6.out _ _ (hHeld5) (fun hHeld6 => ?_)
      clear hK6 K6
      try simp only [Act.put, List.setIfInBounds_toArray, List.set_cons_zero, List.set_cons_succ]
      refine wpAnyH_take (i := 12) (oi := ?_) (v := ?_) ?_ (by kernel_rfl) (by kernel_rfl) (by kernel_rfl) ?_ ?_ (by assumption) ?_
      rotate_left 2
      · simp only [List.getElem?_toArray, List.getElem?_cons_succ, List.getElem?_cons_zero]; with_reducible rfl
      · exact fun _ _ _ h => h
      · refine Or.inl ⟨by rfl, ?_⟩; intro W hSw; go_simp; try with_reducible rfl
      try simp only [Act.put, List.setIfInBounds_toArray, List.set_cons_zero, List.set_cons_succ]
      refine wpAnyH_ready (rs := [14]) (by kernel_rfl) (by simp) ?_
      refine AllReadyH.cons (o := ?_) ?_ (fun K7 hK7 => ?_) AllReadyH.nil
      rotate_left 1
      · simp only [List.getElem?_toArray, List.getElem?_cons_succ, List.getElem?_cons_zero]; with_reducible rfl
      rw [if_pos (by rfl)]
      go_simp
      refine (HKC.out _).mono ?_
      rintro e14 w14 ⟨rfl, hb14⟩
      go_wp2_with fail
      refine hK7.out _ _ (hHeld6.call hb14) (fun hHeld7 => ?_)
      clear hK7 K7
      try simp only [Act.put, List.setIfInBounds_toArray, List.set_cons_zero, List.set_cons_succ]
      refine wpAnyH_ready (rs := [15]) (by kernel_rfl) (by simp) ?_
      refine AllReadyH.cons (o := ?_) ?_ (fun K8 hK8 => ?_) AllReadyH.nil
      rotate_left 1
      · simp only [List.getElem?_toArray, List.getElem?_cons_succ, List.getElem?_cons_zero]; with_reducible rfl
      rw [if_pos (by rfl)]
      go_simp
      refine (num_ok _ _).mono ?_
      rintro e15 w15 ⟨rfl, rfl⟩
      go_wp2_with fail
      refine hK8.out _ _ (hHeld7) (fun hHeld8 => ?_)
      clear hK8 K8
      try simp only [Act.put, List.setIfInBounds_toArray, List.set_cons_zero, List.set_cons_succ]
      refine wpAnyH_take (i := 16) (oi := ?_) (v := ?_) ?_ (by kernel_rfl) (by kernel_rfl) (by kernel_rfl) ?_ ?_ (by assumption) ?_
      rotate_left 2
      · simp only [List.getElem?_toArray, List.getElem?_cons_succ, List.getElem?_cons_zero]; with_reducible rfl
      · exact fun _ _ _ h => h
      · refine Or.inl ⟨by rfl, ?_⟩; intro W hSw; go_simp; try with_reducible rfl
      try simp only [Act.put, List.setIfInBounds_toArray, List.set_cons_zero, List.set_cons_succ]
      refine wpAnyH_take (i := 17) (oi := ?_) (v := ?_) ?_ (by kernel_rfl) (by kernel_rfl) (by kernel_rfl) ?_ ?_ (by assumption) ?_
      rotate_left 2
      · simp only [List.getElem?_toArray, List.getElem?_cons_succ, List.getElem?_cons_zero]; with_reducible rfl
      · exact fun _ _ _ h => h
      · refine Or.inl ⟨by rfl, ?_⟩; intro W hSw; go_simp; try with_reducible rfl
      try simp only [Act.put, List.setIfInBounds_toArray, List.set_cons_zero, List.set_cons_succ]
      refine wpAnyH_take (i := 18) (oi := ?_) (v := ?_) ?_ (by kernel_rfl) (by kernel_rfl) (by kernel_rfl) ?_ ?_ (by assumption) ?_
      rotate_left 2
      · simp only [List.getElem?_toArray, List.getElem?_cons_succ, List.getElem?_cons_zero]; with_reducible rfl
      · exact fun _ _ _ h => h
      · refine Or.inl ⟨by rfl, ?_⟩; intro W hSw; go_simp; try with_reducible rfl
      try simp only [Act.put, List.setIfInBounds_toArray, List.set_cons_zero, List.set_cons_succ]
      refine wpAnyH_done (by kernel_rfl) ?_ _
      go_wp2_with fail
      refine (HWK.out _ (HT.out.below hHeld8.below)).mono ?_
      rintro e wz ⟨rfl, hbz⟩
      have HBZ := Lib.hid (Below.call hHeld8.below hbz)
      clear hbz
      go_wp2
      go_ret
      exact ⟨rfl, HBZ.out⟩
    · obtain ⟨ma, mb, mc, e1, e2, e3⟩ := HYS.out hmm
      have HKA := Lib.hid (HCA.out rfl)
      have HKB := Lib.hid (HCB.out rfl)
      have HKC := Lib.hid (HCC.out rfl)
      rw [e1] at HKA
      rw [e2] at HKB
      rw [e3] at HKC
      clear HLS HCA HCB HCC HYS HER e1 e2 e3 hmm
      refine wp_region_held_drew (S := (fun W => Decs w W [(w.heap.size + 1 + 1, c), (w.heap.size + 1, b), (w.heap.size, a)])) (by kernel_rfl) (HD1.out.drew) (fun hHeld => ?_)
      refine wpAnyH_take (i := 0) (oi := ?_) (v := ?_) ?_ (by kernel_rfl) (by kernel_rfl) (by kernel_rfl) ?_ ?_ (by assumption) ?_
      rotate_left 2
      · simp only [List.getElem?_toArray, List.getElem?_cons_zero]; with_reducible rfl
      · exact fun _ _ _ h => h
      · refine Or.inl ⟨by rfl, ?_⟩; intro W hSw; have q0 := hSw.c0 (i := 2) rfl; have q1 := hSw.c1 (i := 2) rfl; have q2 := hSw.c2 (i := 2) rfl; go_simp; try with_reducible rfl
      try simp only [Act.put, List.setIfInBounds_toArray, List.set_cons_zero, List.set_cons_succ]
      refine wpAnyH_take (i := 1) (oi := ?_) (v := ?_) ?_ (by kernel_rfl) (by kernel_rfl) (by kernel_rfl) ?_ ?_ (by assumption) ?_
      rotate_left 2
      · simp only [List.getElem?_toArray, List.getElem?_cons_succ, List.getElem?_cons_zero]; with_reducible rfl
      · exact fun _ _ _ h => h
      · refine Or.inl ⟨by rfl, ?_⟩; intro W hSw; have q0 := hSw.c0 (i := 1) rfl; have q1 := hSw.c1 (i := 1) rfl; have q2 := hSw.c2 (i := 1) rfl; go_simp; try with_reducible rfl
      try simp only [Act.put, List.setIfInBounds_toArray, List.set_cons_zero, List.set_cons_succ]
      refine wpAnyH_take (i := 2) (oi := ?_) (v := ?_) ?_ (by kernel_rfl) (by kernel_rfl) (by kernel_rfl) ?_ ?_ (by assumption) ?_
      rotate_left 2
      · simp only [List.getElem?_toArray, List.getElem?_cons_succ, List.getElem?_cons_zero]; with_reducible rfl
      · exact fun _ _ _ h => h
      · refine Or.inl ⟨by rfl, ?_⟩; intro W hSw; have q0 := hSw.c0 (i := 0) rfl; have q1 := hSw.c1 (i := 0) rfl; have q2 := hSw.c2 (i := 0) rfl; go_simp; try with_reducible rfl
      try simp only [Act.put, List.setIfInBounds_toArray, List.set_cons_zero, List.set_cons_succ]
      refine wpAnyH_ready (rs := [3]) (by kernel_rfl) (by simp) ?_
      refine AllReadyH.cons (o := ?_) ?_ (fun K1 hK1 => ?_) AllReadyH.nil
      rotate_left 1
      · simp only [List.getElem?_toArray, List.getElem?_cons_succ, List.getElem?_cons_zero]; with_reducible rfl
      rw [if_pos (by rfl)]
      go_simp
      skip
      go_wp2_with fail
      refine hK1.out _ _ (⟨hHeld.below.alloc hHeld.below.size (.cells #[.bool a.neg, .string (bs a.digits), .int .i64 a.exp, .bool b.neg, .string (bs b.digits), .int .i64 b.exp, .bool c.neg, .string (bs c.digits), .int .i64 c.exp] 23), fun ii bb dd hi => (hHeld.at_ ii bb dd hi).alloc (.cells #[.bool a.neg, .string (bs a.digits), .int .i64 a.exp, .bool b.neg, .string (bs b.digits), .int .i64 b.exp, .bool c.neg, .string (bs c.digits), .int .i64 c.exp] 23)⟩) (fun hHeld1 => ?_)
      clear hK1 K1
      try simp only [Act.put, List.setIfInBounds_toArray, List.set_cons_zero, List.set_cons_succ]
      refine wpAnyH_ready (rs := [4]) (by kernel_rfl) (by simp) ?_
      refine AllReadyH.cons (o := ?_) ?_ (fun K2 hK2 => ?_) AllReadyH.nil
      rotate_left 1
      · simp only [List.getElem?_toArray, List.getElem?_cons_succ, List.getElem?_cons_zero]; with_reducible rfl
      rw [if_pos (by rfl)]
      go_simp
      refine (HLG.out w1.drew).mono ?_
      rintro e4 w4 ⟨rfl, rfl⟩
      go_wp2_with fail
      refine hK2.out _ _ (hHeld1) (fun hHeld2 => ?_)
      clear hK2 K2
      try simp only [Act.put, List.setIfInBounds_toArray, List.set_cons_zero, List.set_cons_succ]
      refine wpAnyH_take (i := 5) (oi := ?_) (v := ?_) ?_ (by kernel_rfl) (by kernel_rfl) (by kernel_rfl) ?_ ?_ (by assumption) ?_
      rotate_left 2
      · simp only [List.getElem?_toArray, List.getElem?_cons_succ, List.getElem?_cons_zero]; with_reducible rfl
      · exact fun _ _ _ h => h
      · refine Or.inl ⟨by rfl, ?_⟩; intro W hSw; go_simp; try with_reducible rfl
      try simp only [Act.put, List.setIfInBounds_toArray, List.set_cons_zero, List.set_cons_succ]
      refine wpAnyH_take (i := 6) (oi := ?_) (v := ?_) ?_ (by kernel_rfl) (by kernel_rfl) (by kernel_rfl) ?_ ?_ (by assumption) ?_
      rotate_left 2
      · simp only [List.getElem?_toArray, List.getElem?_cons_succ, List.getElem?_cons_zero]; with_reducible rfl
      · exact fun _ _ _ h => h
      · refine Or.inl ⟨by rfl, ?_⟩; intro W hSw; have q0 := hSw.c0 (i := 2) rfl; have q1 := hSw.c1 (i := 2) rfl; have q2 := hSw.c2 (i := 2) rfl; go_simp; try with_reducible rfl
      try simp only [Act.put, List.setIfInBounds_toArray, List.set_cons_zero, List.set_cons_succ]
      refine wpAnyH_take (i := 9) (oi := ?_) (v := ?_) ?_ (by kernel_rfl) (by kernel_rfl) (by kernel_rfl) ?_ ?_ (by assumption) ?_
      rotate_left 2
      · simp only [List.getElem?_toArray, List.getElem?_cons_succ, List.getElem?_cons_zero]; with_reducible rfl
      · exact fun _ _ _ h => h
      · refine Or.inl ⟨by rfl, ?_⟩; intro W hSw; have q0 := hSw.c0 (i := 1) rfl; have q1 := hSw.c1 (i := 1) rfl; have q2 := hSw.c2 (i := 1) rfl; go_simp; try with_reducible rfl
      try simp only [Act.put, List.setIfInBounds_toArray, List.set_cons_zero, List.set_cons_succ]
      refine wpAnyH_take (i := 13) (oi := ?_) (v := ?_) ?_ (by kernel_rfl) (by kernel_rfl) (by kernel_rfl) ?_ ?_ (by assumption) ?_
      rotate_left 2
      · simp only [List.getElem?_toArray, List.getElem?_cons_succ, List.getElem?_cons_zero]; with_reducible rfl
      · exact fun _ _ _ h => h
      · refine Or.inl ⟨by rfl, ?_⟩; intro W hSw; have q0 := hSw.c0 (i := 0) rfl; have q1 := hSw.c1 (i := 0) rfl; have q2 := hSw.c2 (i := 0) rfl; go_simp; try with_reducible rfl
      try simp only [Act.put, List.setIfInBounds_toArray, List.set_cons_zero, List.set_cons_succ]
      refine wpAnyH_ready (rs := [7]) (by kernel_rfl) (by simp) ?_
      refine AllReadyH.cons (o := ?_) ?_ (fun K3 hK3 => ?_) AllReadyH.nil
      rotate_left 1
      · simp only [List.getElem?_toArray, List.getElem?_cons_succ, List.getElem?_cons_zero]; with_reducible rfl
      rw [if_pos (by rfl)]
      go_simp
      refine (HKA.out _).mono ?_
      rintro e7 w7 ⟨rfl, hb7⟩
      go_wp2_with fail
      refine hK3.out _ _ (hHeld2.call hb7) (fun hHeld3 => ?_)
      clear hK3 K3
      try simp only [Act.put, List.setIfInBounds_toArray, List.set_cons_zero, List.set_cons_succ]
      refine wpAnyH_ready (rs := [8]) (by kernel_rfl) (by simp) ?_
      refine AllReadyH.cons (o := ?_) ?_ (fun K4 hK4 => ?_) AllReadyH.nil
      rotate_left 1
      · simp only [List.getElem?_toArray, List.getElem?_cons_succ, List.getElem?_cons_zero]; with_reducible rfl
      rw [if_pos (by rfl)]
      go_simp
      refine (num_ok _ _).mono ?_
      rintro e8 w8 ⟨rfl, rfl⟩
      go_wp2_with fail
      refine hK4.out _ _ (hHeld3) (fun hHeld4 => ?_)
      clear hK4 K4
      try simp only [Act.put, List.setIfInBounds_toArray, List.set_cons_zero, List.set_cons_succ]
      refine wpAnyH_ready (rs := [10]) (by kernel_rfl) (by simp) ?_
      refine AllReadyH.cons (o := ?_) ?_ (fun K5 hK5 => ?_) AllReadyH.nil
      rotate_left 1
      · simp only [List.getElem?_toArray, List.getElem?_cons_succ, List.getElem?_cons_zero]; with_reducible rfl
      rw [if_pos (by rfl)]
      go_simp
      refine (HKB.out _).mono ?_
      rintro e10 w10 ⟨rfl, hb10⟩
      go_wp2_with fail
      refine hK5.out _ _ (hHeld4.call hb10) (fun hHeld5 => ?_)
      clear hK5 K5
      try simp only [Act.put, List.setIfInBounds_toArray, List.set_cons_zero, List.set_cons_succ]
      refine wpAnyH_ready (rs := [11]) (by kernel_rfl) (by simp) ?_
      refine AllReadyH.cons (o := ?_) ?_ (fun K6 hK6 => ?_) AllReadyH.nil
      rotate_left 1
      · simp only [List.getElem?_toArray, List.getElem?_cons_succ, List.getElem?_cons_zero]; with_reducible rfl
      rw [if_pos (by rfl)]
      go_simp
      refine (num_ok _ _).mono ?_
      rintro e11 w11 ⟨rfl, rfl⟩
      go_wp2_with fail
      refine hK6.out _ _ (hHeld5) (fun hHeld6 => ?_)
      clear hK6 K6
      try simp only [Act.put, List.setIfInBounds_toArray, List.set_cons_zero, List.set_cons_succ]
      refine wpAnyH_take (i := 12) (oi := ?_) (v := ?_) ?_ (by kernel_rfl) (by kernel_rfl) (by kernel_rfl) ?_ ?_ (by assumption) ?_
      rotate_left 2
      · simp only [List.getElem?_toArray, List.getElem?_cons_succ, List.getElem?_cons_zero]; with_reducible rfl
      · exact fun _ _ _ h => h
      · refine Or.inl ⟨by rfl, ?_⟩; intro W hSw; go_simp; try with_reducible rfl
      try simp only [Act.put, List.setIfInBounds_toArray, List.set_cons_zero, List.set_cons_succ]
      refine wpAnyH_ready (rs := [14]) (by kernel_rfl) (by simp) ?_
      refine AllReadyH.cons (o := ?_) ?_ (fun K7 hK7 => ?_) AllReadyH.nil
      rotate_left 1
      · simp only [List.getElem?_toArray, List.getElem?_cons_succ, List.getElem?_cons_zero]; with_reducible rfl
      rw [if_pos (by rfl)]
      go_simp
      refine (HKC.out _).mono ?_
      rintro e14 w14 ⟨rfl, hb14⟩
      go_wp2_with fail
      refine hK7.out _ _ (hHeld6.call hb14) (fun hHeld7 => ?_)
      clear hK7 K7
      try simp only [Act.put, List.setIfInBounds_toArray, List.set_cons_zero, List.set_cons_succ]
      refine wpAnyH_ready (rs := [15]) (by kernel_rfl) (by simp) ?_
      refine AllReadyH.cons (o := ?_) ?_ (fun K8 hK8 => ?_) AllReadyH.nil
      rotate_left 1
      · simp only [List.getElem?_toArray, List.getElem?_cons_succ, List.getElem?_cons_zero]; with_reducible rfl
      rw [if_pos (by rfl)]
      go_simp
      refine (num_ok _ _).mono ?_
      rintro e15 w15 ⟨rfl, rfl⟩
      go_wp2_with fail
      refine hK8.out _ _ (hHeld7) (fun hHeld8 => ?_)
      clear hK8 K8
      try simp only [Act.put, List.setIfInBounds_toArray, List.set_cons_zero, List.set_cons_succ]
      refine wpAnyH_take (i := 16) (oi := ?_) (v := ?_) ?_ (by kernel_rfl) (by kernel_rfl) (by kernel_rfl) ?_ ?_ (by assumption) ?_
      rotate_left 2
      · simp only [List.getElem?_toArray, List.getElem?_cons_succ, List.getElem?_cons_zero]; with_reducible rfl
      · exact fun _ _ _ h => h
      · refine Or.inl ⟨by rfl, ?_⟩; intro W hSw; go_simp; try with_reducible rfl
      try simp only [Act.put, List.setIfInBounds_toArray, List.set_cons_zero, List.set_cons_succ]
      refine wpAnyH_take (i := 17) (oi := ?_) (v := ?_) ?_ (by kernel_rfl) (by kernel_rfl) (by kernel_rfl) ?_ ?_ (by assumption) ?_
      rotate_left 2
      · simp only [List.getElem?_toArray, List.getElem?_cons_succ, List.getElem?_cons_zero]; with_reducible rfl
      · exact fun _ _ _ h => h
      · refine Or.inl ⟨by rfl, ?_⟩; intro W hSw; go_simp; try with_reducible rfl
      try simp only [Act.put, List.setIfInBounds_toArray, List.set_cons_zero, List.set_cons_succ]
      refine wpAnyH_take (i := 18) (oi := ?_) (v := ?_) ?_ (by kernel_rfl) (by kernel_rfl) (by kernel_rfl) ?_ ?_ (by assumption) ?_
      rotate_left 2
      · simp only [List.getElem?_toArray, List.getElem?_cons_succ, List.getElem?_cons_zero]; with_reducible rfl
      · exact fun _ _ _ h => h
      · refine Or.inl ⟨by rfl, ?_⟩; intro W hSw; go_simp; try with_reducible rfl
      try simp only [Act.put, List.setIfInBounds_toArray, List.set_cons_zero, List.set_cons_succ]
      refine wpAnyH_done (by kernel_rfl) ?_ _
      have HD2 := Lib.hid hHeld8
      clear HD1
      have H1 := Lib.hid (cmpG ma mb)
      have H2 := Lib.hid (cmpG mb ma)
      rw [cmpZ_anti] at H2
      have H3 := Lib.hid (cmpG mb mc)
      have H4 := Lib.hid (cmpG ma mc)
      have HI := Lib.hid (ordI (c := c) ma mb)
      have H5 := Lib.hid (negG ma)
      have H6 := Lib.hid (negG mb)
      have H7 := Lib.hid (cmpG (negD_may ma) (negD_may mb))
      rw [vl_neg, vl_neg, cmpZ_neg, cmpZ_anti] at H7
      have H8 := Lib.hid (sumG ma (negD_may ma))
      rw [vl_neg, Int.add_right_neg, (ofZ_zero 3000).1, (ofZ_zero 3000).2] at H8
      have H9 := Lib.hid (sumG ma mc)
      have H10 := Lib.hid (sumG mb mc)
      have H11 := Lib.hid (cmpG (ofZ_may 3000 (vl 3000 a + vl 3000 c)) (ofZ_may 3000 (vl 3000 b + vl 3000 c)))
      have H11E : Hid (erZ 3000 (vl 3000 a + vl 3000 c) = 0 → erZ 3000 (vl 3000 b + vl 3000 c) = 0 → cmpZ (vl 3000 (ofZ 3000 (vl 3000 a + vl 3000 c))) (vl 3000 (ofZ 3000 (vl 3000 b + vl 3000 c))) = cmpZ (vl 3000 a) (vl 3000 b)) := Lib.hid fun h1 h2 => by rw [vl_ofZ h1, vl_ofZ h2, cmpZ_add]
      have H12 := Lib.hid (fun W h => times_ok a b c W h ma mb mc)
      generalize cmpZ (vl 3000 (ofZ 3000 (vl 3000 a + vl 3000 c))) (vl 3000 (ofZ 3000 (vl 3000 b + vl 3000 c))) = pq at *
      generalize ofZ 3000 (vl 3000 a + vl 3000 c) = p at *
      generalize erZ 3000 (vl 3000 a + vl 3000 c) = pe at *
      generalize ofZ 3000 (vl 3000 b + vl 3000 c) = q at *
      generalize erZ 3000 (vl 3000 b + vl 3000 c) = qe at *
      generalize cmpZ (vl 3000 a) (vl 3000 b) = x at *
      generalize cmpZ (vl 3000 b) (vl 3000 c) = z at *
      generalize cmpZ (vl 3000 a) (vl 3000 c) = v at *
      generalize negD a = u at *
      generalize negD b = y at *
      obtain ⟨un, ul, ux⟩ := u
      obtain ⟨yn, yl, yx⟩ := y
      obtain ⟨pn, pl, px⟩ := p
      obtain ⟨qn, ql, qx⟩ := q
      clear ma mb mc hla hlb hlc hHeld hHeld1 hHeld2 hHeld3 hHeld4 hHeld5 hHeld6 hHeld7 hHeld8
      obtain ⟨an, al, ax⟩ := a
      obtain ⟨bn, bl, bx⟩ := b
      obtain ⟨cn, cl, cx⟩ := c
      unfold GivesI at H1 H2 H3 H4 H7 H11
      unfold GivesT at H5 H6
      unfold GivesS at H8 H9 H10
      unfold decV Dec.zero at *
      simp only at H1 H2 H3 H4 H5 H6 H7 H8 H9 H10 H11 H12 HI
      have f101 : w14.cell? ⟨w.heap.size, 0, none⟩ = some (.bool an) := HD2.out.c0 (i := 2) (b := w.heap.size) (d := ⟨an, al, ax⟩) rfl
      have f102 : w14.cell? ⟨w.heap.size, 1, none⟩ = some (.string (bs al)) := HD2.out.c1 (i := 2) (b := w.heap.size) (d := ⟨an, al, ax⟩) rfl
      have f103 : w14.cell? ⟨w.heap.size, 2, none⟩ = some (.int .i64 ax) := HD2.out.c2 (i := 2) (b := w.heap.size) (d := ⟨an, al, ax⟩) rfl
      have f104 : w14.cell? ⟨w.heap.size + 1, 0, none⟩ = some (.bool bn) := HD2.out.c0 (i := 1) (b := w.heap.size + 1) (d := ⟨bn, bl, bx⟩) rfl
      have f105 : w14.cell? ⟨w.heap.size + 1, 1, none⟩ = some (.string (bs bl)) := HD2.out.c1 (i := 1) (b := w.heap.size + 1) (d := ⟨bn, bl, bx⟩) rfl
      have f106 : w14.cell? ⟨w.heap.size + 1, 2, none⟩ = some (.int .i64 bx) := HD2.out.c2 (i := 1) (b := w.heap.size + 1) (d := ⟨bn, bl, bx⟩) rfl
      go_wp2_with fail
      refine (H1.out _).mono ?_
      rintro e w107 ⟨rfl, hb108⟩
      have HD109 := Lib.hid (HD2.out.call hb108)
      clear hb108 HD2 f101 f102 f103 f104 f105 f106
      have f110 : w107.cell? ⟨w.heap.size, 0, none⟩ = some (.bool an) := HD109.out.c0 (i := 2) (b := w.heap.size) (d := ⟨an, al, ax⟩) rfl
      have f111 : w107.cell? ⟨w.heap.size, 1, none⟩ = some (.string (bs al)) := HD109.out.c1 (i := 2) (b := w.heap.size) (d := ⟨an, al, ax⟩) rfl
      have f112 : w107.cell? ⟨w.heap.size, 2, none⟩ = some (.int .i64 ax) := HD109.out.c2 (i := 2) (b := w.heap.size) (d := ⟨an, al, ax⟩) rfl
      have f113 : w107.cell? ⟨w.heap.size + 1, 0, none⟩ = some (.bool bn) := HD109.out.c0 (i := 1) (b := w.heap.size + 1) (d := ⟨bn, bl, bx⟩) rfl
      have f114 : w107.cell? ⟨w.heap.size + 1, 1, none⟩ = some (.string (bs bl)) := HD109.out.c1 (i := 1) (b := w.heap.size + 1) (d := ⟨bn, bl, bx⟩) rfl
      have f115 : w107.cell? ⟨w.heap.size + 1, 2, none⟩ = some (.int .i64 bx) := HD109.out.c2 (i := 1) (b := w.heap.size + 1) (d := ⟨bn, bl, bx⟩) rfl
      go_wp2_with fail
      refine (H2.out _).mono ?_
      rintro e w116 ⟨rfl, hb117⟩
      have HD118 := Lib.hid (HD109.out.call hb117)
      clear hb117 HD109 f110 f111 f112 f113 f114 f115
      have f119 : w116.cell? ⟨w.heap.size + 1, 0, none⟩ = some (.bool bn) := HD118.out.c0 (i := 1) (b := w.heap.size + 1) (d := ⟨bn, bl, bx⟩) rfl
      have f120 : w116.cell? ⟨w.heap.size + 1, 1, none⟩ = some (.string (bs bl)) := HD118.out.c1 (i := 1) (b := w.heap.size + 1) (d := ⟨bn, bl, bx⟩) rfl
      have f121 : w116.cell? ⟨w.heap.size + 1, 2, none⟩ = some (.int .i64 bx) := HD118.out.c2 (i := 1) (b := w.heap.size + 1) (d := ⟨bn, bl, bx⟩) rfl
      have f122 : w116.cell? ⟨w.heap.size + 1 + 1, 0, none⟩ = some (.bool cn) := HD118.out.c0 (i := 0) (b := w.heap.size + 1 + 1) (d := ⟨cn, cl, cx⟩) rfl
      have f123 : w116.cell? ⟨w.heap.size + 1 + 1, 1, none⟩ = some (.string (bs cl)) := HD118.out.c1 (i := 0) (b := w.heap.size + 1 + 1) (d := ⟨cn, cl, cx⟩) rfl
      have f124 : w116.cell? ⟨w.heap.size + 1 + 1, 2, none⟩ = some (.int .i64 cx) := HD118.out.c2 (i := 0) (b := w.heap.size + 1 + 1) (d := ⟨cn, cl, cx⟩) rfl
      go_wp2_with fail
      refine (H3.out _).mono ?_
      rintro e w125 ⟨rfl, hb126⟩
      have HD127 := Lib.hid (HD118.out.call hb126)
      clear hb126 HD118 f119 f120 f121 f122 f123 f124
      have f128 : w125.cell? ⟨w.heap.size, 0, none⟩ = some (.bool an) := HD127.out.c0 (i := 2) (b := w.heap.size) (d := ⟨an, al, ax⟩) rfl
      have f129 : w125.cell? ⟨w.heap.size, 1, none⟩ = some (.string (bs al)) := HD127.out.c1 (i := 2) (b := w.heap.size) (d := ⟨an, al, ax⟩) rfl
      have f130 : w125.cell? ⟨w.heap.size, 2, none⟩ = some (.int .i64 ax) := HD127.out.c2 (i := 2) (b := w.heap.size) (d := ⟨an, al, ax⟩) rfl
      have f131 : w125.cell? ⟨w.heap.size + 1 + 1, 0, none⟩ = some (.bool cn) := HD127.out.c0 (i := 0) (b := w.heap.size + 1 + 1) (d := ⟨cn, cl, cx⟩) rfl
      have f132 : w125.cell? ⟨w.heap.size + 1 + 1, 1, none⟩ = some (.string (bs cl)) := HD127.out.c1 (i := 0) (b := w.heap.size + 1 + 1) (d := ⟨cn, cl, cx⟩) rfl
      have f133 : w125.cell? ⟨w.heap.size + 1 + 1, 2, none⟩ = some (.int .i64 cx) := HD127.out.c2 (i := 0) (b := w.heap.size + 1 + 1) (d := ⟨cn, cl, cx⟩) rfl
      go_wp2_with fail
      refine (H4.out _).mono ?_
      rintro e w134 ⟨rfl, hb135⟩
      have HD136 := Lib.hid (HD127.out.call hb135)
      clear hb135 HD127 f128 f129 f130 f131 f132 f133
      go_upto_region 7 with fail
      refine wp_code ord7 (by kernel_rfl) ?_
      refine frO_end (K := fun a W => Code.wp Tryd.prog ord7 _ a W) (.pointer (some ⟨w.heap.size, 0, none⟩)) (.pointer (some ⟨w.heap.size + 1, 0, none⟩)) (.pointer (some ⟨w.heap.size + 1 + 1, 0, none⟩)) x z v ?_ ?_
      · kernel_rfl
      refine ord7_ok w w134 an bn cn al bl cl ax bx cx x z v HD136 HI.out _ _ _ ?_
      intro g
      dsimp only [frO2]
      have f137 : w134.cell? ⟨w.heap.size, 0, none⟩ = some (.bool an) := HD136.out.c0 (i := 2) (b := w.heap.size) (d := ⟨an, al, ax⟩) rfl
      have f138 : w134.cell? ⟨w.heap.size, 1, none⟩ = some (.string (bs al)) := HD136.out.c1 (i := 2) (b := w.heap.size) (d := ⟨an, al, ax⟩) rfl
      have f139 : w134.cell? ⟨w.heap.size, 2, none⟩ = some (.int .i64 ax) := HD136.out.c2 (i := 2) (b := w.heap.size) (d := ⟨an, al, ax⟩) rfl
      go_wp2_with fail
      refine (H5.out _ (HT.out.below HD136.out.below)).mono ?_
      rintro e w140 ⟨rfl, hb141⟩
      have HD142 := Lib.hid (HD136.out.call hb141)
      clear hb141 HD136 f137 f138 f139
      obtain ⟨w143, hw144⟩ : ∃ w9, w9 = w140.alloc (.cells #[.bool un, .string (bs ul), .int .i64 ux] 23) := ⟨_, rfl⟩
      have HD145 : Hid (Decs w w143 [(w140.heap.size, ⟨un, ul, ux⟩), (w.heap.size + 1 + 1, ⟨cn, cl, cx⟩), (w.heap.size + 1, ⟨bn, bl, bx⟩), (w.heap.size, ⟨an, al, ax⟩)]) := Lib.hid (by rw [hw144]; exact HD142.out.var un ul ux)
      clear HD142
      go_upto_region 10 with fail
      rw [← hw144]
      clear hw144
      have f146 : w143.cell? ⟨w.heap.size + 1, 0, none⟩ = some (.bool bn) := HD145.out.c0 (i := 2) (b := w.heap.size + 1) (d := ⟨bn, bl, bx⟩) rfl
      have f147 : w143.cell? ⟨w.heap.size + 1, 1, none⟩ = some (.string (bs bl)) := HD145.out.c1 (i := 2) (b := w.heap.size + 1) (d := ⟨bn, bl, bx⟩) rfl
      have f148 : w143.cell? ⟨w.heap.size + 1, 2, none⟩ = some (.int .i64 bx) := HD145.out.c2 (i := 2) (b := w.heap.size + 1) (d := ⟨bn, bl, bx⟩) rfl
      go_wp2_with fail
      refine (H6.out _ (HT.out.below HD145.out.below)).mono ?_
      rintro e w149 ⟨rfl, hb150⟩
      have HD151 := Lib.hid (HD145.out.call hb150)
      clear hb150 HD145 f146 f147 f148
      obtain ⟨w152, hw153⟩ : ∃ w9, w9 = w149.alloc (.cells #[.bool yn, .string (bs yl), .int .i64 yx] 23) := ⟨_, rfl⟩
      have HD154 : Hid (Decs w w152 [(w149.heap.size, ⟨yn, yl, yx⟩), (w140.heap.size, ⟨un, ul, ux⟩), (w.heap.size + 1 + 1, ⟨cn, cl, cx⟩), (w.heap.size + 1, ⟨bn, bl, bx⟩), (w.heap.size, ⟨an, al, ax⟩)]) := Lib.hid (by rw [hw153]; exact HD151.out.var yn yl yx)
      clear HD151
      go_upto_region 11 with fail
      rw [← hw153]
      clear hw153
      have f155 : w152.cell? ⟨w140.heap.size, 0, none⟩ = some (.bool un) := HD154.out.c0 (i := 1) (b := w140.heap.size) (d := ⟨un, ul, ux⟩) rfl
      have f156 : w152.cell? ⟨w140.heap.size, 1, none⟩ = some (.string (bs ul)) := HD154.out.c1 (i := 1) (b := w140.heap.size) (d := ⟨un, ul, ux⟩) rfl
      have f157 : w152.cell? ⟨w140.heap.size, 2, none⟩ = some (.int .i64 ux) := HD154.out.c2 (i := 1) (b := w140.heap.size) (d := ⟨un, ul, ux⟩) rfl
      have f158 : w152.cell? ⟨w149.heap.size, 0, none⟩ = some (.bool yn) := HD154.out.c0 (i := 0) (b := w149.heap.size) (d := ⟨yn, yl, yx⟩) rfl
      have f159 : w152.cell? ⟨w149.heap.size, 1, none⟩ = some (.string (bs yl)) := HD154.out.c1 (i := 0) (b := w149.heap.size) (d := ⟨yn, yl, yx⟩) rfl
      have f160 : w152.cell? ⟨w149.heap.size, 2, none⟩ = some (.int .i64 yx) := HD154.out.c2 (i := 0) (b := w149.heap.size) (d := ⟨yn, yl, yx⟩) rfl
      go_wp2_with fail
      refine (H7.out _).mono ?_
      rintro e w161 ⟨rfl, hb162⟩
      have HD163 := Lib.hid (HD154.out.call hb162)
      clear hb162 HD154 f155 f156 f157 f158 f159 f160
      have f164 : w161.cell? ⟨w.heap.size, 0, none⟩ = some (.bool an) := HD163.out.c0 (i := 4) (b := w.heap.size) (d := ⟨an, al, ax⟩) rfl
      have f165 : w161.cell? ⟨w.heap.size, 1, none⟩ = some (.string (bs al)) := HD163.out.c1 (i := 4) (b := w.heap.size) (d := ⟨an, al, ax⟩) rfl
      have f166 : w161.cell? ⟨w.heap.size, 2, none⟩ = some (.int .i64 ax) := HD163.out.c2 (i := 4) (b := w.heap.size) (d := ⟨an, al, ax⟩) rfl
      have f167 : w161.cell? ⟨w140.heap.size, 0, none⟩ = some (.bool un) := HD163.out.c0 (i := 1) (b := w140.heap.size) (d := ⟨un, ul, ux⟩) rfl
      have f168 : w161.cell? ⟨w140.heap.size, 1, none⟩ = some (.string (bs ul)) := HD163.out.c1 (i := 1) (b := w140.heap.size) (d := ⟨un, ul, ux⟩) rfl
      have f169 : w161.cell? ⟨w140.heap.size, 2, none⟩ = some (.int .i64 ux) := HD163.out.c2 (i := 1) (b := w140.heap.size) (d := ⟨un, ul, ux⟩) rfl
      go_wp2_with fail
      refine (H8.out _ (HT.out.below HD163.out.below)).mono ?_
      rintro e w170 ⟨rfl, hb171⟩
      have HD172 := Lib.hid (HD163.out.call hb171)
      clear hb171 HD163 f164 f165 f166 f167 f168 f169
      obtain ⟨w173, hw174⟩ : ∃ w9, w9 = w170.alloc (.cells #[.bool false, .string (bs []), .int .i64 0] 23) := ⟨_, rfl⟩
      have HD175 : Hid (Decs w w173 [(w170.heap.size, ⟨false, [], 0⟩), (w149.heap.size, ⟨yn, yl, yx⟩), (w140.heap.size, ⟨un, ul, ux⟩), (w.heap.size + 1 + 1, ⟨cn, cl, cx⟩), (w.heap.size + 1, ⟨bn, bl, bx⟩), (w.heap.size, ⟨an, al, ax⟩)]) := Lib.hid (by rw [hw174]; exact HD172.out.var false [] 0)
      clear HD172
      go_upto_region 13 with fail
      rw [← hw174]
      clear hw174
      have ht0 : (bs []).toList = [] := bs_toList []
      have f176 : w173.cell? ⟨w170.heap.size, 0, none⟩ = some (.bool false) := HD175.out.c0 (i := 0) (b := w170.heap.size) (d := ⟨false, [], 0⟩) rfl
      have f177 : w173.cell? ⟨w170.heap.size, 1, none⟩ = some (.string (bs [])) := HD175.out.c1 (i := 0) (b := w170.heap.size) (d := ⟨false, [], 0⟩) rfl
      have f178 : w173.cell? ⟨w170.heap.size, 2, none⟩ = some (.int .i64 0) := HD175.out.c2 (i := 0) (b := w170.heap.size) (d := ⟨false, [], 0⟩) rfl
      have f179 : w173.cell? ⟨w.heap.size, 0, none⟩ = some (.bool an) := HD175.out.c0 (i := 5) (b := w.heap.size) (d := ⟨an, al, ax⟩) rfl
      have f180 : w173.cell? ⟨w.heap.size, 1, none⟩ = some (.string (bs al)) := HD175.out.c1 (i := 5) (b := w.heap.size) (d := ⟨an, al, ax⟩) rfl
      have f181 : w173.cell? ⟨w.heap.size, 2, none⟩ = some (.int .i64 ax) := HD175.out.c2 (i := 5) (b := w.heap.size) (d := ⟨an, al, ax⟩) rfl
      have f182 : w173.cell? ⟨w.heap.size + 1 + 1, 0, none⟩ = some (.bool cn) := HD175.out.c0 (i := 3) (b := w.heap.size + 1 + 1) (d := ⟨cn, cl, cx⟩) rfl
      have f183 : w173.cell? ⟨w.heap.size + 1 + 1, 1, none⟩ = some (.string (bs cl)) := HD175.out.c1 (i := 3) (b := w.heap.size + 1 + 1) (d := ⟨cn, cl, cx⟩) rfl
      have f184 : w173.cell? ⟨w.heap.size + 1 + 1, 2, none⟩ = some (.int .i64 cx) := HD175.out.c2 (i := 3) (b := w.heap.size + 1 + 1) (d := ⟨cn, cl, cx⟩) rfl
      go_wp2_with (refine (num_ok _ _).mono ?_; rintro e9 w9 ⟨rfl, rfl⟩)
      refine (H9.out _ (HT.out.below HD175.out.below)).mono ?_
      rintro e w185 ⟨rfl, hb186⟩
      have HD187 := Lib.hid (HD175.out.call hb186)
      clear hb186 HD175 f176 f177 f178 f179 f180 f181 f182 f183 f184
      obtain ⟨w188, hw189⟩ : ∃ w9, w9 = w185.alloc (.cells #[.bool pn, .string (bs pl), .int .i64 px] 23) := ⟨_, rfl⟩
      have HD190 : Hid (Decs w w188 [(w185.heap.size, ⟨pn, pl, px⟩), (w170.heap.size, ⟨false, [], 0⟩), (w149.heap.size, ⟨yn, yl, yx⟩), (w140.heap.size, ⟨un, ul, ux⟩), (w.heap.size + 1 + 1, ⟨cn, cl, cx⟩), (w.heap.size + 1, ⟨bn, bl, bx⟩), (w.heap.size, ⟨an, al, ax⟩)]) := Lib.hid (by rw [hw189]; exact HD187.out.var pn pl px)
      clear HD187
      go_upto_region 16 with fail
      rw [← hw189]
      clear hw189
      have f191 : w188.cell? ⟨w.heap.size + 1, 0, none⟩ = some (.bool bn) := HD190.out.c0 (i := 5) (b := w.heap.size + 1) (d := ⟨bn, bl, bx⟩) rfl
      have f192 : w188.cell? ⟨w.heap.size + 1, 1, none⟩ = some (.string (bs bl)) := HD190.out.c1 (i := 5) (b := w.heap.size + 1) (d := ⟨bn, bl, bx⟩) rfl
      have f193 : w188.cell? ⟨w.heap.size + 1, 2, none⟩ = some (.int .i64 bx) := HD190.out.c2 (i := 5) (b := w.heap.size + 1) (d := ⟨bn, bl, bx⟩) rfl
      have f194 : w188.cell? ⟨w.heap.size + 1 + 1, 0, none⟩ = some (.bool cn) := HD190.out.c0 (i := 4) (b := w.heap.size + 1 + 1) (d := ⟨cn, cl, cx⟩) rfl
      have f195 : w188.cell? ⟨w.heap.size + 1 + 1, 1, none⟩ = some (.string (bs cl)) := HD190.out.c1 (i := 4) (b := w.heap.size + 1 + 1) (d := ⟨cn, cl, cx⟩) rfl
      have f196 : w188.cell? ⟨w.heap.size + 1 + 1, 2, none⟩ = some (.int .i64 cx) := HD190.out.c2 (i := 4) (b := w.heap.size + 1 + 1) (d := ⟨cn, cl, cx⟩) rfl
      go_wp2_with fail
      refine (H10.out _ (HT.out.below HD190.out.below)).mono ?_
      rintro e w197 ⟨rfl, hb198⟩
      have HD199 := Lib.hid (HD190.out.call hb198)
      clear hb198 HD190 f191 f192 f193 f194 f195 f196
      obtain ⟨w200, hw201⟩ : ∃ w9, w9 = w197.alloc (.cells #[.bool qn, .string (bs ql), .int .i64 qx] 23) := ⟨_, rfl⟩
      have HD202 : Hid (Decs w w200 [(w197.heap.size, ⟨qn, ql, qx⟩), (w185.heap.size, ⟨pn, pl, px⟩), (w170.heap.size, ⟨false, [], 0⟩), (w149.heap.size, ⟨yn, yl, yx⟩), (w140.heap.size, ⟨un, ul, ux⟩), (w.heap.size + 1 + 1, ⟨cn, cl, cx⟩), (w.heap.size + 1, ⟨bn, bl, bx⟩), (w.heap.size, ⟨an, al, ax⟩)]) := Lib.hid (by rw [hw201]; exact HD199.out.var qn ql qx)
      clear HD199
      go_upto_region 17 with fail
      rw [← hw201]
      clear hw201
      by_cases e1 : pe = 0 ∧ qe = 0
      · obtain ⟨rfl, rfl⟩ := e1
        have hpq := H11E.out rfl rfl
        subst hpq
        clear H11E
        have f203 : w200.cell? ⟨w185.heap.size, 0, none⟩ = some (.bool pn) := HD202.out.c0 (i := 1) (b := w185.heap.size) (d := ⟨pn, pl, px⟩) rfl
        have f204 : w200.cell? ⟨w185.heap.size, 1, none⟩ = some (.string (bs pl)) := HD202.out.c1 (i := 1) (b := w185.heap.size) (d := ⟨pn, pl, px⟩) rfl
        have f205 : w200.cell? ⟨w185.heap.size, 2, none⟩ = some (.int .i64 px) := HD202.out.c2 (i := 1) (b := w185.heap.size) (d := ⟨pn, pl, px⟩) rfl
        have f206 : w200.cell? ⟨w197.heap.size, 0, none⟩ = some (.bool qn) := HD202.out.c0 (i := 0) (b := w197.heap.size) (d := ⟨qn, ql, qx⟩) rfl
        have f207 : w200.cell? ⟨w197.heap.size, 1, none⟩ = some (.string (bs ql)) := HD202.out.c1 (i := 0) (b := w197.heap.size) (d := ⟨qn, ql, qx⟩) rfl
        have f208 : w200.cell? ⟨w197.heap.size, 2, none⟩ = some (.int .i64 qx) := HD202.out.c2 (i := 0) (b := w197.heap.size) (d := ⟨qn, ql, qx⟩) rfl
        go_wp2_with (refine (num_ok _ _).mono ?_; rintro e9 w9 ⟨rfl, rfl⟩)
        refine (H11.out _).mono ?_
        rintro e w209 ⟨rfl, hb210⟩
        have HD211 := Lib.hid (HD202.out.call hb210)
        clear hb210 HD202 f203 f204 f205 f206 f207 f208
        have f212 : w209.cell? ⟨w.heap.size, 0, none⟩ = some (.bool an) := HD211.out.c0 (i := 7) (b := w.heap.size) (d := ⟨an, al, ax⟩) rfl
        have f213 : w209.cell? ⟨w.heap.size, 1, none⟩ = some (.string (bs al)) := HD211.out.c1 (i := 7) (b := w.heap.size) (d := ⟨an, al, ax⟩) rfl
        have f214 : w209.cell? ⟨w.heap.size, 2, none⟩ = some (.int .i64 ax) := HD211.out.c2 (i := 7) (b := w.heap.size) (d := ⟨an, al, ax⟩) rfl
        have f215 : w209.cell? ⟨w.heap.size + 1, 0, none⟩ = some (.bool bn) := HD211.out.c0 (i := 6) (b := w.heap.size + 1) (d := ⟨bn, bl, bx⟩) rfl
        have f216 : w209.cell? ⟨w.heap.size + 1, 1, none⟩ = some (.string (bs bl)) := HD211.out.c1 (i := 6) (b := w.heap.size + 1) (d := ⟨bn, bl, bx⟩) rfl
        have f217 : w209.cell? ⟨w.heap.size + 1, 2, none⟩ = some (.int .i64 bx) := HD211.out.c2 (i := 6) (b := w.heap.size + 1) (d := ⟨bn, bl, bx⟩) rfl
        have f218 : w209.cell? ⟨w.heap.size + 1 + 1, 0, none⟩ = some (.bool cn) := HD211.out.c0 (i := 5) (b := w.heap.size + 1 + 1) (d := ⟨cn, cl, cx⟩) rfl
        have f219 : w209.cell? ⟨w.heap.size + 1 + 1, 1, none⟩ = some (.string (bs cl)) := HD211.out.c1 (i := 5) (b := w.heap.size + 1 + 1) (d := ⟨cn, cl, cx⟩) rfl
        have f220 : w209.cell? ⟨w.heap.size + 1 + 1, 2, none⟩ = some (.int .i64 cx) := HD211.out.c2 (i := 5) (b := w.heap.size + 1 + 1) (d := ⟨cn, cl, cx⟩) rfl
        go_wp2_with (refine (num_ok _ _).mono ?_; rintro e9 w9 ⟨rfl, rfl⟩)
        refine (H12.out _ (HT.out.below HD211.out.below)).mono ?_
        rintro e w221 ⟨rfl, hb222⟩
        have HD223 := Lib.hid (HD211.out.call hb222)
        clear hb222 HD211 f212 f213 f214 f215 f216 f217 f218 f219 f220
        go_wp2_with fail
        refine (HWK.out _ (HT.out.below HD223.out.below)).mono ?_
        rintro e wz ⟨rfl, hbz⟩
        have HBZ := Lib.hid (Below.call HD223.out.below hbz)
        clear hbz
        go_wp2
        go_ret
        exact ⟨rfl, HBZ.out⟩
      · have hk : ¬ pe = 0 ∨ (pe = 0 ∧ ¬ qe = 0) := by omega
        clear H11 H11E
        rcases hk with hk | ⟨rfl, hk⟩
        · have hk1 : ((pe : Int) == 0) = false := by rw [beq_eq_false_iff_ne]; omega
          have f224 : w200.cell? ⟨w.heap.size, 0, none⟩ = some (.bool an) := HD202.out.c0 (i := 7) (b := w.heap.size) (d := ⟨an, al, ax⟩) rfl
          have f225 : w200.cell? ⟨w.heap.size, 1, none⟩ = some (.string (bs al)) := HD202.out.c1 (i := 7) (b := w.heap.size) (d := ⟨an, al, ax⟩) rfl
          have f226 : w200.cell? ⟨w.heap.size, 2, none⟩ = some (.int .i64 ax) := HD202.out.c2 (i := 7) (b := w.heap.size) (d := ⟨an, al, ax⟩) rfl
          have f227 : w200.cell? ⟨w.heap.size + 1, 0, none⟩ = some (.bool bn) := HD202.out.c0 (i := 6) (b := w.heap.size + 1) (d := ⟨bn, bl, bx⟩) rfl
          have f228 : w200.cell? ⟨w.heap.size + 1, 1, none⟩ = some (.string (bs bl)) := HD202.out.c1 (i := 6) (b := w.heap.size + 1) (d := ⟨bn, bl, bx⟩) rfl
          have f229 : w200.cell? ⟨w.heap.size + 1, 2, none⟩ = some (.int .i64 bx) := HD202.out.c2 (i := 6) (b := w.heap.size + 1) (d := ⟨bn, bl, bx⟩) rfl
          have f230 : w200.cell? ⟨w.heap.size + 1 + 1, 0, none⟩ = some (.bool cn) := HD202.out.c0 (i := 5) (b := w.heap.size + 1 + 1) (d := ⟨cn, cl, cx⟩) rfl
          have f231 : w200.cell? ⟨w.heap.size + 1 + 1, 1, none⟩ = some (.string (bs cl)) := HD202.out.c1 (i := 5) (b := w.heap.size + 1 + 1) (d := ⟨cn, cl, cx⟩) rfl
          have f232 : w200.cell? ⟨w.heap.size + 1 + 1, 2, none⟩ = some (.int .i64 cx) := HD202.out.c2 (i := 5) (b := w.heap.size + 1 + 1) (d := ⟨cn, cl, cx⟩) rfl
          go_wp2_with (refine (num_ok _ _).mono ?_; rintro e9 w9 ⟨rfl, rfl⟩)
          refine (H12.out _ (HT.out.below HD202.out.below)).mono ?_
          rintro e w233 ⟨rfl, hb234⟩
          have HD235 := Lib.hid (HD202.out.call hb234)
          clear hb234 HD202 f224 f225 f226 f227 f228 f229 f230 f231 f232
          go_wp2_with fail
          refine (HWK.out _ (HT.out.below HD235.out.below)).mono ?_
          rintro e wz ⟨rfl, hbz⟩
          have HBZ := Lib.hid (Below.call HD235.out.below hbz)
          clear hbz
          go_wp2
          go_ret
          exact ⟨rfl, HBZ.out⟩
        · have hk1 : ((qe : Int) == 0) = false := by rw [beq_eq_false_iff_ne]; omega
          have f224 : w200.cell? ⟨w.heap.size, 0, none⟩ = some (.bool an) := HD202.out.c0 (i := 7) (b := w.heap.size) (d := ⟨an, al, ax⟩) rfl
          have f225 : w200.cell? ⟨w.heap.size, 1, none⟩ = some (.string (bs al)) := HD202.out.c1 (i := 7) (b := w.heap.size) (d := ⟨an, al, ax⟩) rfl
          have f226 : w200.cell? ⟨w.heap.size, 2, none⟩ = some (.int .i64 ax) := HD202.out.c2 (i := 7) (b := w.heap.size) (d := ⟨an, al, ax⟩) rfl
          have f227 : w200.cell? ⟨w.heap.size + 1, 0, none⟩ = some (.bool bn) := HD202.out.c0 (i := 6) (b := w.heap.size + 1) (d := ⟨bn, bl, bx⟩) rfl
          have f228 : w200.cell? ⟨w.heap.size + 1, 1, none⟩ = some (.string (bs bl)) := HD202.out.c1 (i := 6) (b := w.heap.size + 1) (d := ⟨bn, bl, bx⟩) rfl
          have f229 : w200.cell? ⟨w.heap.size + 1, 2, none⟩ = some (.int .i64 bx) := HD202.out.c2 (i := 6) (b := w.heap.size + 1) (d := ⟨bn, bl, bx⟩) rfl
          have f230 : w200.cell? ⟨w.heap.size + 1 + 1, 0, none⟩ = some (.bool cn) := HD202.out.c0 (i := 5) (b := w.heap.size + 1 + 1) (d := ⟨cn, cl, cx⟩) rfl
          have f231 : w200.cell? ⟨w.heap.size + 1 + 1, 1, none⟩ = some (.string (bs cl)) := HD202.out.c1 (i := 5) (b := w.heap.size + 1 + 1) (d := ⟨cn, cl, cx⟩) rfl
          have f232 : w200.cell? ⟨w.heap.size + 1 + 1, 2, none⟩ = some (.int .i64 cx) := HD202.out.c2 (i := 5) (b := w.heap.size + 1 + 1) (d := ⟨cn, cl, cx⟩) rfl
          go_wp2_with (refine (num_ok _ _).mono ?_; rintro e9 w9 ⟨rfl, rfl⟩)
          refine (H12.out _ (HT.out.below HD202.out.below)).mono ?_
          rintro e w233 ⟨rfl, hb234⟩
          have HD235 := Lib.hid (HD202.out.call hb234)
          clear hb234 HD202 f224 f225 f226 f227 f228 f229 f230 f231 f232
          go_wp2_with fail
          refine (HWK.out _ (HT.out.below HD235.out.below)).mono ?_
          rintro e wz ⟨rfl, hbz⟩
          have HBZ := Lib.hid (Below.call HD235.out.below hbz)
          clear hbz
          go_wp2
          go_ret
          exact ⟨rfl, HBZ.out⟩
end Go.Proofs.YtkbkappbplocoaaDoor
