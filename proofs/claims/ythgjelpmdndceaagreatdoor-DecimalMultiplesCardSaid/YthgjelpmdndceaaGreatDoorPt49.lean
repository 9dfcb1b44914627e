/- Layer 7: the walk of DecimalMultiples. -/
import Derived.Test.YthgjelpmdndceaaGreatDoorPt48
import Derived.Test.YthgjelpmdndceaaGreatDoorPt32
import Derived.Test.YthgjelpmdndceaaGreatDoorPt25
import Derived.Test.YthgjelpmdndceaaGreatDoorPt26
namespace Go.Proofs.YthgjelpmdndceaaGreatDoor
open Go.RowKit

theorem long2 (a b : Dec) (ha : a.digits.length ≤ 9223372036854775807) (hb : b.digits.length ≤ 9223372036854775807) (W : World) :
    Calls Tryz.prog 5 #[.slice (some ⟨W.heap.size, 0, none⟩) 2 2] (W.alloc (.cells #[.bool a.neg, .string (bs a.digits), .int .i64 a.exp, .bool b.neg, .string (bs b.digits), .int .i64 b.exp] 24)) fun e w' => e = .returned (.bool (longB [a, b])) ∧ (W.alloc (.cells #[.bool a.neg, .string (bs a.digits), .int .i64 a.exp, .bool b.neg, .string (bs b.digits), .int .i64 b.exp] 24)) = w' := by
  have hr := Row.new W 24 #[.bool a.neg, .string (bs a.digits), .int .i64 a.exp, .bool b.neg, .string (bs b.digits), .int .i64 b.exp]
  exact long_ok (some ⟨W.heap.size, 0, none⟩) 2 2 [a, b] _ rfl (by decide) ⟨rfl, fun _ => ⟨W.heap.size, 0, rfl, hr.lt, fun j v hv => by have := hr.cell (i := j) (v := v) (by simpa [dcs] using hv); simpa using this⟩⟩ (fun d hd => by
    simp only [List.mem_cons, List.not_mem_nil, or_false] at hd
    rcases hd with rfl | rfl <;> assumption)
theorem two_vars (w : World) (an bn : Bool) (al bl : List UInt8) (ax bx : Int) {w1 : World}
    (h : w1 = (w.alloc (.cells #[.bool an, .string (bs al), .int .i64 ax] 24)).alloc (.cells #[.bool bn, .string (bs bl), .int .i64 bx] 24)) :
    Decs w w1 [(w.heap.size + 1, ⟨bn, bl, bx⟩), (w.heap.size, ⟨an, al, ax⟩)] := by
  have h0 : Decs w w [] := ⟨Below.refl _ _, fun i b d hi => by simp at hi⟩
  have h3 := (h0.var an al ax).var bn bl bx
  rw [h]
  simpa using h3
/-- Multiple, as the law wants it. -/
def GivesM (f : Nat) (args : Array Value) (r : Bool) (k : Nat) : Prop := ∀ W : World, Calls Tryz.prog f args W fun e w' => e = .returned (.tuple #[.bool r, .int .i64 (k : Int)]) ∧ Below W.heap.size W w'
theorem multG (a b : Dec) (ha : a.digits.length ≤ 1000) (hb : b.digits.length ≤ 1000) : GivesM 16 #[decV a, decV b] (multB a b) (multE a b) := fun W => multiple_ok a b W (by omega) (by omega)
theorem comG (a b : Dec) (ha : a.digits.length ≤ 1000) (hb : b.digits.length ≤ 1000) : GivesT 17 #[decV a, decV b] (comD a b) (comE a b) := fun W h => common_ok a b W h (by omega) (by omega)
theorem mult_bad {a b : Dec} (h : mayB a = false ∨ mayB b = false ∨ b.neg = true ∨ b.digits = []) : multB a b = false ∧ multE a b = 2 ∧ comD a b = Dec.zero ∧ comE a b = 2 := by
  have h1 : mulOk a b = false := by
    unfold mulOk aboveB
    rcases h with h | h | h | h <;> simp [h]
  have h2 : comOk a b = false := by
    unfold comOk aboveB
    rcases h with h | h | h | h <;> simp [h]
  unfold multB multE comD comE
  rw [h1, h2]
  exact ⟨rfl, rfl, rfl, rfl⟩
theorem mult_good {a b : Dec} (h : mayB a = true) (h2 : mayB b = true) (h3 : b.neg = false) (h4 : b.digits ≠ []) : aboveB b = true ∧ multB a b = decide (lev a (minX a b) % lev b (minX a b) = 0) ∧ multE a b = 0 := by
  have hb : aboveB b = true := by unfold aboveB; rw [h2, h3]; simp [h4]
  have hm : mulOk a b = true := by unfold mulOk; rw [h, hb]; rfl
  unfold multB multE
  rw [hm]
  exact ⟨hb, rfl, rfl⟩
theorem com_bad {a b : Dec} (h : a.neg = true ∨ a.digits = []) : comD a b = Dec.zero ∧ comE a b = 2 := by
  have h2 : comOk a b = false := by
    unfold comOk aboveB
    rcases h with h | h <;> simp [h]
  unfold comD comE
  rw [h2]
  exact ⟨rfl, rfl⟩
theorem above_of {a : Dec} (h : mayB a = true) (h3 : a.neg = false) (h4 : a.digits ≠ []) : aboveB a = true := by unfold aboveB; rw [h, h3]; simp [h4]
set_option maxRecDepth 1000000 in
set_option maxHeartbeats 40000000 in
theorem mults_law (a b : Dec) (w : World) (hT : PowTab w) (ha : a.digits.length ≤ 9223372036854775807) (hb : b.digits.length ≤ 9223372036854775807) :
    Calls Tryz.prog 4 #[decV a, decV b] w fun e w' => e = .returned (.bool true) ∧ Below w.heap.size w w' := by
  have HT := Lib.hid hT
  have HWK := Lib.hid (fun W h => works_ok W h)
  have HLG := Lib.hid (fun W => long2 a b ha hb W)
  have HLS : Hid (longB [a, b] = false → a.digits.length ≤ 1000 ∧ b.digits.length ≤ 1000) := Lib.hid fun h => ⟨longB_no h a (by simp), longB_no h b (by simp)⟩
  obtain ⟨lb, hlb⟩ : ∃ lb, lb = longB [a, b] := ⟨_, rfl⟩
  rw [← hlb] at HLG HLS
  clear hT ha hb hlb
  obtain ⟨w1, hw1⟩ : ∃ w1, w1 = (w.alloc (.cells (decC a) 24)).alloc (.cells (decC b) 24) := ⟨_, rfl⟩
  have HD1 : Hid (Decs w w1 [(w.heap.size + 1, b), (w.heap.size, a)]) := Lib.hid (two_vars w a.neg b.neg a.digits b.digits a.exp b.exp hw1)
  unfold decC at hw1
  go_enter Tryz.func4, Tryz.ntmps4
  unfold decV
  go_upto_region 1 with fail
  rw [← hw1]
  clear hw1
  have HC := Lib.hid (fun (h : lb = false) => comG a b (HLS.out h).1 (HLS.out h).2)
  have HM := Lib.hid (fun (h : lb = false) => multG a b (HLS.out h).1 (HLS.out h).2)
  have HMA := Lib.hid (fun (h : lb = false) W => may_ok a W (by have := (HLS.out h).1; omega))
  have HMB := Lib.hid (fun (h : lb = false) W => may_ok b W (by have := (HLS.out h).2; omega))
  have HBAD := Lib.hid (fun h : mayB a = false ∨ mayB b = false ∨ b.neg = true ∨ b.digits = [] => mult_bad h)
  have HGOOD := Lib.hid (fun (h : mayB a = true) (h2 : mayB b = true) (h3 : b.neg = false) (h4 : b.digits ≠ []) => mult_good h h2 h3 h4)
  have HRM := Lib.hid (fun (h : mayB a = true) (h2 : aboveB b = true) W => rmultiple_ok a b W ((mayB_iff a).1 h) h2)
  have HCB := Lib.hid (fun h : a.neg = true ∨ a.digits = [] => com_bad (b := b) h)
  have HAB := Lib.hid (fun (h : mayB a = true) (h3 : a.neg = false) (h4 : a.digits ≠ []) => above_of h h3 h4)
  have HRC := Lib.hid (fun (h : aboveB a = true) (h2 : aboveB b = true) W => rcommon_ok a b W h h2)
  have HEA : Hid (a.digits ≠ [] → (bs a.digits).toList.isEmpty = false ∧ ¬ (bs a.digits).toList = []) := Lib.hid fun h => by
    rw [bs_toList]
    exact ⟨by cases hh : a.digits with | nil => exact absurd hh h | cons x r => rfl, h⟩
  have HEB : Hid (b.digits ≠ [] → (bs b.digits).toList.isEmpty = false ∧ ¬ (bs b.digits).toList = []) := Lib.hid fun h => by
    rw [bs_toList]
    exact ⟨by cases hh : b.digits with | nil => exact absurd hh h | cons x r => rfl, h⟩
  generalize decide (lev a (minX a b) % lev b (minX a b) = 0) = rb at *
  generalize multB a b = ob at *
  generalize multE a b = oe at *
  generalize comD a b = c at *
  generalize comE a b = ce at *
  obtain ⟨va, hva⟩ : ∃ v, v = mayB a := ⟨_, rfl⟩
  obtain ⟨vb, hvb⟩ : ∃ v, v = mayB b := ⟨_, rfl⟩
  rw [← hva] at HMA HBAD HGOOD HRM HAB
  rw [← hvb] at HMB HBAD HGOOD
  clear hva hvb
  generalize aboveB a = aa at *
  generalize aboveB b = ab at *
  obtain ⟨an, al, ax⟩ := a
  obtain ⟨bn, bl, bx⟩ := b
  obtain ⟨cn, cl, cx⟩ := c
  unfold GivesT at HC
  unfold GivesM at HM
  unfold Told at HRC
  unfold Dec.zero at *
  unfold decV at *
  simp only at HLG HC HM HMA HMB HBAD HGOOD HRM HCB HAB HRC HEA HEB
  have ht0 : (bs []).toList = [] := bs_toList []
  have f101 : w1.cell? ⟨w.heap.size, 0, none⟩ = some (.bool an) := HD1.out.c0 (i := 1) (b := w.heap.size) (d := ⟨an, al, ax⟩) rfl
  have f102 : w1.cell? ⟨w.heap.size, 1, none⟩ = some (.string (bs al)) := HD1.out.c1 (i := 1) (b := w.heap.size) (d := ⟨an, al, ax⟩) rfl
  have f103 : w1.cell? ⟨w.heap.size, 2, none⟩ = some (.int .i64 ax) := HD1.out.c2 (i := 1) (b := w.heap.size) (d := ⟨an, al, ax⟩) rfl
  have f104 : w1.cell? ⟨w.heap.size + 1, 0, none⟩ = some (.bool bn) := HD1.out.c0 (i := 0) (b := w.heap.size + 1) (d := ⟨bn, bl, bx⟩) rfl
  have f105 : w1.cell? ⟨w.heap.size + 1, 1, none⟩ = some (.string (bs bl)) := HD1.out.c1 (i := 0) (b := w.heap.size + 1) (d := ⟨bn, bl, bx⟩) rfl
  have f106 : w1.cell? ⟨w.heap.size + 1, 2, none⟩ = some (.int .i64 bx) := HD1.out.c2 (i := 0) (b := w.heap.size + 1) (d := ⟨bn, bl, bx⟩) rfl
  go_wp2_with fail
  refine (HLG.out w1).mono ?_
  rintro e4 w4 ⟨rfl, rfl⟩
  have HD2 : Hid (Decs w (w1.alloc (.cells #[.bool an, .string (bs al), .int .i64 ax, .bool bn, .string (bs bl), .int .i64 bx] 24)) [(w.heap.size + 1, ⟨bn, bl, bx⟩), (w.heap.size, ⟨an, al, ax⟩)]) := Lib.hid ⟨HD1.out.below.alloc HD1.out.below.size (.cells #[.bool an, .string (bs al), .int .i64 ax, .bool bn, .string (bs bl), .int .i64 bx] 24), fun ii bb dd hi => (HD1.out.at_ ii bb dd hi).alloc (.cells #[.bool an, .string (bs al), .int .i64 ax, .bool bn, .string (bs bl), .int .i64 bx] 24)⟩
  clear HD1 f101 f102 f103 f104 f105 f106
  generalize w1.alloc (.cells #[.bool an, .string (bs al), .int .i64 ax, .bool bn, .string (bs bl), .int .i64 bx] 24) = w2 at *
  cases lb with
  | true =>
    go_wp2_with (refine (num_ok _ _).mono ?_; rintro e9 w9 ⟨rfl, rfl⟩)
    refine (HWK.out _ (HT.out.below HD2.out.below)).mono ?_
    rintro e wz ⟨rfl, hbz⟩
    have HBZ := Lib.hid (Below.call HD2.out.below hbz)
    clear hbz
    go_wp2
    go_ret
    exact ⟨rfl, HBZ.out⟩
  | false =>
    replace HC := Lib.hid (HC.out (by trivial))
    replace HM := Lib.hid (HM.out (by trivial))
    replace HMA := Lib.hid (HMA.out (by trivial))
    replace HMB := Lib.hid (HMB.out (by trivial))
    have f107 : w2.cell? ⟨w.heap.size, 0, none⟩ = some (.bool an) := HD2.out.c0 (i := 1) (b := w.heap.size) (d := ⟨an, al, ax⟩) rfl
    have f108 : w2.cell? ⟨w.heap.size, 1, none⟩ = some (.string (bs al)) := HD2.out.c1 (i := 1) (b := w.heap.size) (d := ⟨an, al, ax⟩) rfl
    have f109 : w2.cell? ⟨w.heap.size, 2, none⟩ = some (.int .i64 ax) := HD2.out.c2 (i := 1) (b := w.heap.size) (d := ⟨an, al, ax⟩) rfl
    have f110 : w2.cell? ⟨w.heap.size + 1, 0, none⟩ = some (.bool bn) := HD2.out.c0 (i := 0) (b := w.heap.size + 1) (d := ⟨bn, bl, bx⟩) rfl
    have f111 : w2.cell? ⟨w.heap.size + 1, 1, none⟩ = some (.string (bs bl)) := HD2.out.c1 (i := 0) (b := w.heap.size + 1) (d := ⟨bn, bl, bx⟩) rfl
    have f112 : w2.cell? ⟨w.heap.size + 1, 2, none⟩ = some (.int .i64 bx) := HD2.out.c2 (i := 0) (b := w.heap.size + 1) (d := ⟨bn, bl, bx⟩) rfl
    go_wp2_with fail
    refine (HM.out _).mono ?_
    rintro e w113 ⟨rfl, hb114⟩
    have HD115 := Lib.hid (HD2.out.call hb114)
    clear hb114 HD2 f107 f108 f109 f110 f111 f112
    have f116 : w113.cell? ⟨w.heap.size, 0, none⟩ = some (.bool an) := HD115.out.c0 (i := 1) (b := w.heap.size) (d := ⟨an, al, ax⟩) rfl
    have f117 : w113.cell? ⟨w.heap.size, 1, none⟩ = some (.string (bs al)) := HD115.out.c1 (i := 1) (b := w.heap.size) (d := ⟨an, al, ax⟩) rfl
    have f118 : w113.cell? ⟨w.heap.size, 2, none⟩ = some (.int .i64 ax) := HD115.out.c2 (i := 1) (b := w.heap.size) (d := ⟨an, al, ax⟩) rfl
    have f119 : w113.cell? ⟨w.heap.size + 1, 0, none⟩ = some (.bool bn) := HD115.out.c0 (i := 0) (b := w.heap.size + 1) (d := ⟨bn, bl, bx⟩) rfl
    have f120 : w113.cell? ⟨w.heap.size + 1, 1, none⟩ = some (.string (bs bl)) := HD115.out.c1 (i := 0) (b := w.heap.size + 1) (d := ⟨bn, bl, bx⟩) rfl
    have f121 : w113.cell? ⟨w.heap.size + 1, 2, none⟩ = some (.int .i64 bx) := HD115.out.c2 (i := 0) (b := w.heap.size + 1) (d := ⟨bn, bl, bx⟩) rfl
    go_wp2_with fail
    refine (HC.out _ (HT.out.below HD115.out.below)).mono ?_
    rintro e w122 ⟨rfl, hb123⟩
    have HD124 := Lib.hid (HD115.out.call hb123)
    clear hb123 HD115 f116 f117 f118 f119 f120 f121
    obtain ⟨w125, hw126⟩ : ∃ w9, w9 = w122.alloc (.cells #[.bool cn, .string (bs cl), .int .i64 cx] 24) := ⟨_, rfl⟩
    have HD127 : Hid (Decs w w125 [(w122.heap.size, ⟨cn, cl, cx⟩), (w.heap.size + 1, ⟨bn, bl, bx⟩), (w.heap.size, ⟨an, al, ax⟩)]) := Lib.hid (by rw [hw126]; exact HD124.out.var cn cl cx)
    clear HD124
    go_upto_region 5 with fail
    rw [← hw126]
    clear hw126
    cases va with
    | false =>
      cases bn with
      | true =>
        obtain ⟨rfl, rfl, hz9, rfl⟩ := HBAD.out (by simp)
        injection hz9 with hz1 hz2 hz3
        subst hz1 hz2 hz3
        refine wp_region_held_drew (S := (fun W => Decs w W [(w122.heap.size, ⟨false, [], 0⟩), (w.heap.size + 1, ⟨true, bl, bx⟩), (w.heap.size, ⟨an, al, ax⟩)])) (by kernel_rfl) (HD127.out.drew) (fun hHeld => ?_)
        refine wpAnyH_take (i := 0) (oi := ?_) (v := ?_) ?_ (by kernel_rfl) (by kernel_rfl) (by kernel_rfl) ?_ ?_ (by assumption) ?_
        rotate_left 2
        · simp only [List.getElem?_toArray, List.getElem?_cons_zero]; with_reducible rfl
        · exact fun _ _ _ h => h
        · refine Or.inl ⟨by rfl, ?_⟩; intro W hSw; have q0 := hSw.c0 (i := 2) rfl; have q1 := hSw.c1 (i := 2) rfl; have q2 := hSw.c2 (i := 2) rfl; go_simp; try with_reducible rfl
        try simp only [Act.put, List.setIfInBounds_toArray, List.set_cons_zero, List.set_cons_succ]
        refine wpAnyH_take (i := 6) (oi := ?_) (v := ?_) ?_ (by kernel_rfl) (by kernel_rfl) (by kernel_rfl) ?_ ?_ (by assumption) ?_
        rotate_left 2
        · simp only [List.getElem?_toArray, List.getElem?_cons_succ, List.getElem?_cons_zero]; with_reducible rfl
        · exact fun _ _ _ h => h
        · refine Or.inl ⟨by rfl, ?_⟩; intro W hSw; go_simp; try with_reducible rfl
        try simp only [Act.put, List.setIfInBounds_toArray, List.set_cons_zero, List.set_cons_succ]
        refine wpAnyH_take (i := 7) (oi := ?_) (v := ?_) ?_ (by kernel_rfl) (by kernel_rfl) (by kernel_rfl) ?_ ?_ (by assumption) ?_
        rotate_left 2
        · simp only [List.getElem?_toArray, List.getElem?_cons_succ, List.getElem?_cons_zero]; with_reducible rfl
        · exact fun _ _ _ h => h
        · refine Or.inl ⟨by rfl, ?_⟩; intro W hSw; have q0 := hSw.c0 (i := 1) rfl; go_simp; try with_reducible rfl
        try simp only [Act.put, List.setIfInBounds_toArray, List.set_cons_zero, List.set_cons_succ]
        refine wpAnyH_take (i := 8) (oi := ?_) (v := ?_) ?_ (by kernel_rfl) (by kernel_rfl) (by kernel_rfl) ?_ ?_ (by assumption) ?_
        rotate_left 2
        · simp only [List.getElem?_toArray, List.getElem?_cons_succ, List.getElem?_cons_zero]; with_reducible rfl
        · exact fun _ _ _ h => h
        · refine Or.inl ⟨by rfl, ?_⟩; intro W hSw; go_simp; try with_reducible rfl
        try simp only [Act.put, List.setIfInBounds_toArray, List.set_cons_zero, List.set_cons_succ]
        refine wpAnyH_ready (rs := [1]) (by kernel_rfl) (by simp) ?_
        refine AllReadyH.cons (o := ?_) ?_ (fun K1 hK1 => ?_) AllReadyH.nil
        rotate_left 1
        · simp only [List.getElem?_toArray, List.getElem?_cons_succ, List.getElem?_cons_zero]; with_reducible rfl
        rw [if_pos (by rfl)]
        go_simp
        refine (HMA.out _).mono ?_
        rintro e21 w21 ⟨rfl, hb21⟩
        go_wp2_with fail
        refine hK1.out _ _ (hHeld.call hb21) (fun hHeld1 => ?_)
        clear hK1 K1
        try simp only [Act.put, List.setIfInBounds_toArray, List.set_cons_zero, List.set_cons_succ]
        refine wpAnyH_take (i := 2) (oi := ?_) (v := ?_) ?_ (by kernel_rfl) (by kernel_rfl) (by kernel_rfl) ?_ ?_ (by assumption) ?_
        rotate_left 2
        · simp only [List.getElem?_toArray, List.getElem?_cons_succ, List.getElem?_cons_zero]; with_reducible rfl
        · exact fun _ _ _ h => h
        · refine Or.inl ⟨by rfl, ?_⟩; intro W hSw; go_simp; try with_reducible rfl
        try simp only [Act.put, List.setIfInBounds_toArray, List.set_cons_zero, List.set_cons_succ]
        refine wpAnyH_take (i := 3) (oi := ?_) (v := ?_) ?_ (by kernel_rfl) (by kernel_rfl) (by kernel_rfl) ?_ ?_ (by assumption) ?_
        rotate_left 2
        · simp only [List.getElem?_toArray, List.getElem?_cons_succ, List.getElem?_cons_zero]; with_reducible rfl
        · exact fun _ _ _ h => h
        · refine Or.inr ⟨by rfl, ?_⟩; with_reducible rfl
        try simp only [Act.put, List.setIfInBounds_toArray, List.set_cons_zero, List.set_cons_succ]
        refine wpAnyH_take (i := 4) (oi := ?_) (v := ?_) ?_ (by kernel_rfl) (by kernel_rfl) (by kernel_rfl) ?_ ?_ (by assumption) ?_
        rotate_left 2
        · simp only [List.getElem?_toArray, List.getElem?_cons_succ, List.getElem?_cons_zero]; with_reducible rfl
        · exact fun _ _ _ h => h
        · refine Or.inr ⟨by rfl, ?_⟩; with_reducible rfl
        try simp only [Act.put, List.setIfInBounds_toArray, List.set_cons_zero, List.set_cons_succ]
        refine wpAnyH_take (i := 5) (oi := ?_) (v := ?_) ?_ (by kernel_rfl) (by kernel_rfl) (by kernel_rfl) ?_ ?_ (by assumption) ?_
        rotate_left 2
        · simp only [List.getElem?_toArray, List.getElem?_cons_succ, List.getElem?_cons_zero]; with_reducible rfl
        · exact fun _ _ _ h => h
        · refine Or.inl ⟨by rfl, ?_⟩; intro W hSw; go_simp; try with_reducible rfl
        try simp only [Act.put, List.setIfInBounds_toArray, List.set_cons_zero, List.set_cons_succ]
        refine wpAnyH_take (i := 9) (oi := ?_) (v := ?_) ?_ (by kernel_rfl) (by kernel_rfl) (by kernel_rfl) ?_ ?_ (by assumption) ?_
        rotate_left 2
        · simp only [List.getElem?_toArray, List.getElem?_cons_succ, List.getElem?_cons_zero]; with_reducible rfl
        · exact fun _ _ _ h => h
        · refine Or.inl ⟨by rfl, ?_⟩; intro W hSw; go_simp; try with_reducible rfl
        try simp only [Act.put, List.setIfInBounds_toArray, List.set_cons_zero, List.set_cons_succ]
        refine wpAnyH_take (i := 10) (oi := ?_) (v := ?_) ?_ (by kernel_rfl) (by kernel_rfl) (by kernel_rfl) ?_ ?_ (by assumption) ?_
        rotate_left 2
        · simp only [List.getElem?_toArray, List.getElem?_cons_succ, List.getElem?_cons_zero]; with_reducible rfl
        · exact fun _ _ _ h => h
        · refine Or.inr ⟨by rfl, ?_⟩; with_reducible rfl
        try simp only [Act.put, List.setIfInBounds_toArray, List.set_cons_zero, List.set_cons_succ]
        refine wpAnyH_take (i := 11) (oi := ?_) (v := ?_) ?_ (by kernel_rfl) (by kernel_rfl) (by kernel_rfl) ?_ ?_ (by assumption) ?_
        rotate_left 2
        · simp only [List.getElem?_toArray, List.getElem?_cons_succ, List.getElem?_cons_zero]; with_reducible rfl
        · exact fun _ _ _ h => h
        · refine Or.inr ⟨by rfl, ?_⟩; with_reducible rfl
        try simp only [Act.put, List.setIfInBounds_toArray, List.set_cons_zero, List.set_cons_succ]
        refine wpAnyH_take (i := 12) (oi := ?_) (v := ?_) ?_ (by kernel_rfl) (by kernel_rfl) (by kernel_rfl) ?_ ?_ (by assumption) ?_
        rotate_left 2
        · simp only [List.getElem?_toArray, List.getElem?_cons_succ, List.getElem?_cons_zero]; with_reducible rfl
        · exact fun _ _ _ h => h
        · refine Or.inr ⟨by rfl, ?_⟩; with_reducible rfl
        try simp only [Act.put, List.setIfInBounds_toArray, List.set_cons_zero, List.set_cons_succ]
        refine wpAnyH_take (i := 13) (oi := ?_) (v := ?_) ?_ (by kernel_rfl) (by kernel_rfl) (by kernel_rfl) ?_ ?_ (by assumption) ?_
        rotate_left 2
        · simp only [List.getElem?_toArray, List.getElem?_cons_succ, List.getElem?_cons_zero]; with_reducible rfl
        · exact fun _ _ _ h => h
        · refine Or.inl ⟨by rfl, ?_⟩; intro W hSw; go_simp; try with_reducible rfl
        try simp only [Act.put, List.setIfInBounds_toArray, List.set_cons_zero, List.set_cons_succ]
        refine wpAnyH_take (i := 14) (oi := ?_) (v := ?_) ?_ (by kernel_rfl) (by kernel_rfl) (by kernel_rfl) ?_ ?_ (by assumption) ?_
        rotate_left 2
        · simp only [List.getElem?_toArray, List.getElem?_cons_succ, List.getElem?_cons_zero]; with_reducible rfl
        · exact fun _ _ _ h => h
        · refine Or.inl ⟨by rfl, ?_⟩; intro W hSw; go_simp; try with_reducible rfl
        try simp only [Act.put, List.setIfInBounds_toArray, List.set_cons_zero, List.set_cons_succ]
        refine wpAnyH_take (i := 15) (oi := ?_) (v := ?_) ?_ (by kernel_rfl) (by kernel_rfl) (by kernel_rfl) ?_ ?_ (by assumption) ?_
        rotate_left 2
        · simp only [List.getElem?_toArray, List.getElem?_cons_succ, List.getElem?_cons_zero]; with_reducible rfl
        · exact fun _ _ _ h => h
        · refine Or.inl ⟨by rfl, ?_⟩; intro W hSw; go_simp; try with_reducible rfl
        try simp only [Act.put, List.setIfInBounds_toArray, List.set_cons_zero, List.set_cons_succ]
        refine wpAnyH_done (by kernel_rfl) ?_ _
        have HD30 := Lib.hid hHeld1
        clear hb21 hHeld hHeld1 HD127
        have f128 : w21.cell? ⟨w122.heap.size, 0, none⟩ = some (.bool false) := HD30.out.c0 (i := 0) (b := w122.heap.size) (d := ⟨false, [], 0⟩) rfl
        have f129 : w21.cell? ⟨w122.heap.size, 1, none⟩ = some (.string (bs [])) := HD30.out.c1 (i := 0) (b := w122.heap.size) (d := ⟨false, [], 0⟩) rfl
        have f130 : w21.cell? ⟨w122.heap.size, 2, none⟩ = some (.int .i64 0) := HD30.out.c2 (i := 0) (b := w122.heap.size) (d := ⟨false, [], 0⟩) rfl
        go_wp2_with (refine (num_ok _ _).mono ?_; rintro e9 w9 ⟨rfl, rfl⟩)
        refine (HWK.out _ (HT.out.below HD30.out.below)).mono ?_
        rintro e wz ⟨rfl, hbz⟩
        have HBZ := Lib.hid (Below.call HD30.out.below hbz)
        clear hbz f128 f129 f130
        go_wp2
        go_ret
        exact ⟨rfl, HBZ.out⟩
      | false =>
        by_cases hbl : bl = []
        · subst hbl
          obtain ⟨rfl, rfl, hz9, rfl⟩ := HBAD.out (by simp)
          injection hz9 with hz1 hz2 hz3
          subst hz1 hz2 hz3
          refine wp_region_held_drew (S := (fun W => Decs w W [(w122.heap.size, ⟨false, [], 0⟩), (w.heap.size + 1, ⟨false, [], bx⟩), (w.heap.size, ⟨an, al, ax⟩)])) (by kernel_rfl) (HD127.out.drew) (fun hHeld => ?_)
          refine wpAnyH_take (i := 0) (oi := ?_) (v := ?_) ?_ (by kernel_rfl) (by kernel_rfl) (by kernel_rfl) ?_ ?_ (by assumption) ?_
          rotate_left 2
          · simp only [List.getElem?_toArray, List.getElem?_cons_zero]; with_reducible rfl
          · exact fun _ _ _ h => h
          · refine Or.inl ⟨by rfl, ?_⟩; intro W hSw; have q0 := hSw.c0 (i := 2) rfl; have q1 := hSw.c1 (i := 2) rfl; have q2 := hSw.c2 (i := 2) rfl; go_simp; try with_reducible rfl
          try simp only [Act.put, List.setIfInBounds_toArray, List.set_cons_zero, List.set_cons_succ]
          refine wpAnyH_take (i := 6) (oi := ?_) (v := ?_) ?_ (by kernel_rfl) (by kernel_rfl) (by kernel_rfl) ?_ ?_ (by assumption) ?_
          rotate_left 2
          · simp only [List.getElem?_toArray, List.getElem?_cons_succ, List.getElem?_cons_zero]; with_reducible rfl
          · exact fun _ _ _ h => h
          · refine Or.inl ⟨by rfl, ?_⟩; intro W hSw; go_simp; try with_reducible rfl
          try simp only [Act.put, List.setIfInBounds_toArray, List.set_cons_zero, List.set_cons_succ]
          refine wpAnyH_take (i := 7) (oi := ?_) (v := ?_) ?_ (by kernel_rfl) (by kernel_rfl) (by kernel_rfl) ?_ ?_ (by assumption) ?_
          rotate_left 2
          · simp only [List.getElem?_toArray, List.getElem?_cons_succ, List.getElem?_cons_zero]; with_reducible rfl
          · exact fun _ _ _ h => h
          · refine Or.inl ⟨by rfl, ?_⟩; intro W hSw; have q0 := hSw.c0 (i := 1) rfl; go_simp; try with_reducible rfl
          try simp only [Act.put, List.setIfInBounds_toArray, List.set_cons_zero, List.set_cons_succ]
          refine wpAnyH_take (i := 8) (oi := ?_) (v := ?_) ?_ (by kernel_rfl) (by kernel_rfl) (by kernel_rfl) ?_ ?_ (by assumption) ?_
          rotate_left 2
          · simp only [List.getElem?_toArray, List.getElem?_cons_succ, List.getElem?_cons_zero]; with_reducible rfl
          · exact fun _ _ _ h => h
          · refine Or.inl ⟨by rfl, ?_⟩; intro W hSw; go_simp; try with_reducible rfl
          try simp only [Act.put, List.setIfInBounds_toArray, List.set_cons_zero, List.set_cons_succ]
          refine wpAnyH_ready (rs := [1]) (by kernel_rfl) (by simp) ?_
          refine AllReadyH.cons (o := ?_) ?_ (fun K1 hK1 => ?_) AllReadyH.nil
          rotate_left 1
          · simp only [List.getElem?_toArray, List.getElem?_cons_succ, List.getElem?_cons_zero]; with_reducible rfl
          rw [if_pos (by rfl)]
          go_simp
          refine (HMA.out _).mono ?_
          rintro e21 w21 ⟨rfl, hb21⟩
          go_wp2_with fail
          refine hK1.out _ _ (hHeld.call hb21) (fun hHeld1 => ?_)
          clear hK1 K1
          try simp only [Act.put, List.setIfInBounds_toArray, List.set_cons_zero, List.set_cons_succ]
          refine wpAnyH_take (i := 2) (oi := ?_) (v := ?_) ?_ (by kernel_rfl) (by kernel_rfl) (by kernel_rfl) ?_ ?_ (by assumption) ?_
          rotate_left 2
          · simp only [List.getElem?_toArray, List.getElem?_cons_succ, List.getElem?_cons_zero]; with_reducible rfl
          · exact fun _ _ _ h => h
          · refine Or.inl ⟨by rfl, ?_⟩; intro W hSw; go_simp; try with_reducible rfl
          try simp only [Act.put, List.setIfInBounds_toArray, List.set_cons_zero, List.set_cons_succ]
          refine wpAnyH_take (i := 3) (oi := ?_) (v := ?_) ?_ (by kernel_rfl) (by kernel_rfl) (by kernel_rfl) ?_ ?_ (by assumption) ?_
          rotate_left 2
          · simp only [List.getElem?_toArray, List.getElem?_cons_succ, List.getElem?_cons_zero]; with_reducible rfl
          · exact fun _ _ _ h => h
          · refine Or.inr ⟨by rfl, ?_⟩; with_reducible rfl
          try simp only [Act.put, List.setIfInBounds_toArray, List.set_cons_zero, List.set_cons_succ]
          refine wpAnyH_take (i := 4) (oi := ?_) (v := ?_) ?_ (by kernel_rfl) (by kernel_rfl) (by kernel_rfl) ?_ ?_ (by assumption) ?_
          rotate_left 2
          · simp only [List.getElem?_toArray, List.getElem?_cons_succ, List.getElem?_cons_zero]; with_reducible rfl
          · exact fun _ _ _ h => h
          · refine Or.inr ⟨by rfl, ?_⟩; with_reducible rfl
          try simp only [Act.put, List.setIfInBounds_toArray, List.set_cons_zero, List.set_cons_succ]
          refine wpAnyH_take (i := 5) (oi := ?_) (v := ?_) ?_ (by kernel_rfl) (by kernel_rfl) (by kernel_rfl) ?_ ?_ (by assumption) ?_
          rotate_left 2
          · simp only [List.getElem?_toArray, List.getElem?_cons_succ, List.getElem?_cons_zero]; with_reducible rfl
          · exact fun _ _ _ h => h
          · refine Or.inl ⟨by rfl, ?_⟩; intro W hSw; go_simp; try with_reducible rfl
          try simp only [Act.put, List.setIfInBounds_toArray, List.set_cons_zero, List.set_cons_succ]
          refine wpAnyH_take (i := 9) (oi := ?_) (v := ?_) ?_ (by kernel_rfl) (by kernel_rfl) (by kernel_rfl) ?_ ?_ (by assumption) ?_
          rotate_left 2
          · simp only [List.getElem?_toArray, List.getElem?_cons_succ, List.getElem?_cons_zero]; with_reducible rfl
          · exact fun _ _ _ h => h
          · refine Or.inl ⟨by rfl, ?_⟩; intro W hSw; go_simp; try with_reducible rfl
          try simp only [Act.put, List.setIfInBounds_toArray, List.set_cons_zero, List.set_cons_succ]
          refine wpAnyH_take (i := 10) (oi := ?_) (v := ?_) ?_ (by kernel_rfl) (by kernel_rfl) (by kernel_rfl) ?_ ?_ (by assumption) ?_
          rotate_left 2
          · simp only [List.getElem?_toArray, List.getElem?_cons_succ, List.getElem?_cons_zero]; with_reducible rfl
          · exact fun _ _ _ h => h
          · refine Or.inl ⟨by rfl, ?_⟩; intro W hSw; go_simp; try with_reducible rfl
          try simp only [Act.put, List.setIfInBounds_toArray, List.set_cons_zero, List.set_cons_succ]
          refine wpAnyH_take (i := 11) (oi := ?_) (v := ?_) ?_ (by kernel_rfl) (by kernel_rfl) (by kernel_rfl) ?_ ?_ (by assumption) ?_
          rotate_left 2
          · simp only [List.getElem?_toArray, List.getElem?_cons_succ, List.getElem?_cons_zero]; with_reducible rfl
          · exact fun _ _ _ h => h
          · refine Or.inl ⟨by rfl, ?_⟩; intro W hSw; have q1 := hSw.c1 (i := 1) rfl; go_simp; try with_reducible rfl
          try simp only [Act.put, List.setIfInBounds_toArray, List.set_cons_zero, List.set_cons_succ]
          refine wpAnyH_take (i := 12) (oi := ?_) (v := ?_) ?_ (by kernel_rfl) (by kernel_rfl) (by kernel_rfl) ?_ ?_ (by assumption) ?_
          rotate_left 2
          · simp only [List.getElem?_toArray, List.getElem?_cons_succ, List.getElem?_cons_zero]; with_reducible rfl
          · exact fun _ _ _ h => h
          · refine Or.inl ⟨by rfl, ?_⟩; intro W hSw; go_simp; try with_reducible rfl
          try simp only [Act.put, List.setIfInBounds_toArray, List.set_cons_zero, List.set_cons_succ]
          refine wpAnyH_take (i := 13) (oi := ?_) (v := ?_) ?_ (by kernel_rfl) (by kernel_rfl) (by kernel_rfl) ?_ ?_ (by assumption) ?_
          rotate_left 2
          · simp only [List.getElem?_toArray, List.getElem?_cons_succ, List.getElem?_cons_zero]; with_reducible rfl
          · exact fun _ _ _ h => h
          · refine Or.inl ⟨by rfl, ?_⟩; intro W hSw; go_simp; try with_reducible rfl
          try simp only [Act.put, List.setIfInBounds_toArray, List.set_cons_zero, List.set_cons_succ]
          refine wpAnyH_take (i := 14) (oi := ?_) (v := ?_) ?_ (by kernel_rfl) (by kernel_rfl) (by kernel_rfl) ?_ ?_ (by assumption) ?_
          rotate_left 2
          · simp only [List.getElem?_toArray, List.getElem?_cons_succ, List.getElem?_cons_zero]; with_reducible rfl
          · exact fun _ _ _ h => h
          · refine Or.inl ⟨by rfl, ?_⟩; intro W hSw; go_simp; try with_reducible rfl
          try simp only [Act.put, List.setIfInBounds_toArray, List.set_cons_zero, List.set_cons_succ]
          refine wpAnyH_take (i := 15) (oi := ?_) (v := ?_) ?_ (by kernel_rfl) (by kernel_rfl) (by kernel_rfl) ?_ ?_ (by assumption) ?_
          rotate_left 2
          · simp only [List.getElem?_toArray, List.getElem?_cons_succ, List.getElem?_cons_zero]; with_reducible rfl
          · exact fun _ _ _ h => h
          · refine Or.inl ⟨by rfl, ?_⟩; intro W hSw; go_simp; try with_reducible rfl
          try simp only [Act.put, List.setIfInBounds_toArray, List.set_cons_zero, List.set_cons_succ]
          refine wpAnyH_done (by kernel_rfl) ?_ _
          have HD30 := Lib.hid hHeld1
          clear hb21 hHeld hHeld1 HD127
          have f131 : w21.cell? ⟨w122.heap.size, 0, none⟩ = some (.bool false) := HD30.out.c0 (i := 0) (b := w122.heap.size) (d := ⟨false, [], 0⟩) rfl
          have f132 : w21.cell? ⟨w122.heap.size, 1, none⟩ = some (.string (bs [])) := HD30.out.c1 (i := 0) (b := w122.heap.size) (d := ⟨false, [], 0⟩) rfl
          have f133 : w21.cell? ⟨w122.heap.size, 2, none⟩ = some (.int .i64 0) := HD30.out.c2 (i := 0) (b := w122.heap.size) (d := ⟨false, [], 0⟩) rfl
          go_wp2_with (refine (num_ok _ _).mono ?_; rintro e9 w9 ⟨rfl, rfl⟩)
          refine (HWK.out _ (HT.out.below HD30.out.below)).mono ?_
          rintro e wz ⟨rfl, hbz⟩
          have HBZ := Lib.hid (Below.call HD30.out.below hbz)
          clear hbz f131 f132 f133
          go_wp2
          go_ret
          exact ⟨rfl, HBZ.out⟩
        · obtain ⟨hbe1, hbe2⟩ := HEB.out hbl
          obtain ⟨rfl, rfl, hz9, rfl⟩ := HBAD.out (by simp)
          injection hz9 with hz1 hz2 hz3
          subst hz1 hz2 hz3
          refine wp_region_held_drew (S := (fun W => Decs w W [(w122.heap.size, ⟨false, [], 0⟩), (w.heap.size + 1, ⟨false, bl, bx⟩), (w.heap.size, ⟨an, al, ax⟩)])) (by kernel_rfl) (HD127.out.drew) (fun hHeld => ?_)
          refine wpAnyH_take (i := 0) (oi := ?_) (v := ?_) ?_ (by kernel_rfl) (by kernel_rfl) (by kernel_rfl) ?_ ?_ (by assumption) ?_
          rotate_left 2
          · simp only [List.getElem?_toArray, List.getElem?_cons_zero]; with_reducible rfl
          · exact fun _ _ _ h => h
          · refine Or.inl ⟨by rfl, ?_⟩; intro W hSw; have q0 := hSw.c0 (i := 2) rfl; have q1 := hSw.c1 (i := 2) rfl; have q2 := hSw.c2 (i := 2) rfl; go_simp; try with_reducible rfl
          try simp only [Act.put, List.setIfInBounds_toArray, List.set_cons_zero, List.set_cons_succ]
          refine wpAnyH_take (i := 6) (oi := ?_) (v := ?_) ?_ (by kernel_rfl) (by kernel_rfl) (by kernel_rfl) ?_ ?_ (by assumption) ?_
          rotate_left 2
          · simp only [List.getElem?_toArray, List.getElem?_cons_succ, List.getElem?_cons_zero]; with_reducible rfl
          · exact fun _ _ _ h => h
          · refine Or.inl ⟨by rfl, ?_⟩; intro W hSw; go_simp; try with_reducible rfl
          try simp only [Act.put, List.setIfInBounds_toArray, List.set_cons_zero, List.set_cons_succ]
          refine wpAnyH_take (i := 7) (oi := ?_) (v := ?_) ?_ (by kernel_rfl) (by kernel_rfl) (by kernel_rfl) ?_ ?_ (by assumption) ?_
          rotate_left 2
          · simp only [List.getElem?_toArray, List.getElem?_cons_succ, List.getElem?_cons_zero]; with_reducible rfl
          · exact fun _ _ _ h => h
          · refine Or.inl ⟨by rfl, ?_⟩; intro W hSw; have q0 := hSw.c0 (i := 1) rfl; go_simp; try with_reducible rfl
          try simp only [Act.put, List.setIfInBounds_toArray, List.set_cons_zero, List.set_cons_succ]
          refine wpAnyH_take (i := 8) (oi := ?_) (v := ?_) ?_ (by kernel_rfl) (by kernel_rfl) (by kernel_rfl) ?_ ?_ (by assumption) ?_
          rotate_left 2
          · simp only [List.getElem?_toArray, List.getElem?_cons_succ, List.getElem?_cons_zero]; with_reducible rfl
          · exact fun _ _ _ h => h
          · refine Or.inl ⟨by rfl, ?_⟩; intro W hSw; go_simp; try with_reducible rfl
          try simp only [Act.put, List.setIfInBounds_toArray, List.set_cons_zero, List.set_cons_succ]
          refine wpAnyH_ready (rs := [1]) (by kernel_rfl) (by simp) ?_
          refine AllReadyH.cons (o := ?_) ?_ (fun K1 hK1 => ?_) AllReadyH.nil
          rotate_left 1
          · simp only [List.getElem?_toArray, List.getElem?_cons_succ, List.getElem?_cons_zero]; with_reducible rfl
          rw [if_pos (by rfl)]
          go_simp
          refine (HMA.out _).mono ?_
          rintro e21 w21 ⟨rfl, hb21⟩
          go_wp2_with fail
          refine hK1.out _ _ (hHeld.call hb21) (fun hHeld1 => ?_)
          clear hK1 K1
          try simp only [Act.put, List.setIfInBounds_toArray, List.set_cons_zero, List.set_cons_succ]
          refine wpAnyH_take (i := 2) (oi := ?_) (v := ?_) ?_ (by kernel_rfl) (by kernel_rfl) (by kernel_rfl) ?_ ?_ (by assumption) ?_
          rotate_left 2
          · simp only [List.getElem?_toArray, List.getElem?_cons_succ, List.getElem?_cons_zero]; with_reducible rfl
          · exact fun _ _ _ h => h
          · refine Or.inl ⟨by rfl, ?_⟩; intro W hSw; go_simp; try with_reducible rfl
          try simp only [Act.put, List.setIfInBounds_toArray, List.set_cons_zero, List.set_cons_succ]
          refine wpAnyH_take (i := 3) (oi := ?_) (v := ?_) ?_ (by kernel_rfl) (by kernel_rfl) (by kernel_rfl) ?_ ?_ (by assumption) ?_
          rotate_left 2
          · simp only [List.getElem?_toArray, List.getElem?_cons_succ, List.getElem?_cons_zero]; with_reducible rfl
          · exact fun _ _ _ h => h
          · refine Or.inr ⟨by rfl, ?_⟩; with_reducible rfl
          try simp only [Act.put, List.setIfInBounds_toArray, List.set_cons_zero, List.set_cons_succ]
          refine wpAnyH_take (i := 4) (oi := ?_) (v := ?_) ?_ (by kernel_rfl) (by kernel_rfl) (by kernel_rfl) ?_ ?_ (by assumption) ?_
          rotate_left 2
          · simp only [List.getElem?_toArray, List.getElem?_cons_succ, List.getElem?_cons_zero]; with_reducible rfl
          · exact fun _ _ _ h => h
          · refine Or.inr ⟨by rfl, ?_⟩; with_reducible rfl
          try simp only [Act.put, List.setIfInBounds_toArray, List.set_cons_zero, List.set_cons_succ]
          refine wpAnyH_take (i := 5) (oi := ?_) (v := ?_) ?_ (by kernel_rfl) (by kernel_rfl) (by kernel_rfl) ?_ ?_ (by assumption) ?_
          rotate_left 2
          · simp only [List.getElem?_toArray, List.getElem?_cons_succ, List.getElem?_cons_zero]; with_reducible rfl
          · exact fun _ _ _ h => h
          · refine Or.inl ⟨by rfl, ?_⟩; intro W hSw; go_simp; try with_reducible rfl
          try simp only [Act.put, List.setIfInBounds_toArray, List.set_cons_zero, List.set_cons_succ]
          refine wpAnyH_take (i := 9) (oi := ?_) (v := ?_) ?_ (by kernel_rfl) (by kernel_rfl) (by kernel_rfl) ?_ ?_ (by assumption) ?_
          rotate_left 2
          · simp only [List.getElem?_toArray, List.getElem?_cons_succ, List.getElem?_cons_zero]; with_reducible rfl
          · exact fun _ _ _ h => h
          · refine Or.inl ⟨by rfl, ?_⟩; intro W hSw; go_simp; try with_reducible rfl
          try simp only [Act.put, List.setIfInBounds_toArray, List.set_cons_zero, List.set_cons_succ]
          refine wpAnyH_take (i := 10) (oi := ?_) (v := ?_) ?_ (by kernel_rfl) (by kernel_rfl) (by kernel_rfl) ?_ ?_ (by assumption) ?_
          rotate_left 2
          · simp only [List.getElem?_toArray, List.getElem?_cons_succ, List.getElem?_cons_zero]; with_reducible rfl
          · exact fun _ _ _ h => h
          · refine Or.inl ⟨by rfl, ?_⟩; intro W hSw; go_simp; try with_reducible rfl
          try simp only [Act.put, List.setIfInBounds_toArray, List.set_cons_zero, List.set_cons_succ]
          refine wpAnyH_take (i := 11) (oi := ?_) (v := ?_) ?_ (by kernel_rfl) (by kernel_rfl) (by kernel_rfl) ?_ ?_ (by assumption) ?_
          rotate_left 2
          · simp only [List.getElem?_toArray, List.getElem?_cons_succ, List.getElem?_cons_zero]; with_reducible rfl
          · exact fun _ _ _ h => h
          · refine Or.inl ⟨by rfl, ?_⟩; intro W hSw; have q1 := hSw.c1 (i := 1) rfl; go_simp; try with_reducible rfl
          try simp only [Act.put, List.setIfInBounds_toArray, List.set_cons_zero, List.set_cons_succ]
          refine wpAnyH_take (i := 12) (oi := ?_) (v := ?_) ?_ (by kernel_rfl) (by kernel_rfl) (by kernel_rfl) ?_ ?_ (by assumption) ?_
          rotate_left 2
          · simp only [List.getElem?_toArray, List.getElem?_cons_succ, List.getElem?_cons_zero]; with_reducible rfl
          · exact fun _ _ _ h => h
          · refine Or.inl ⟨by rfl, ?_⟩; intro W hSw; go_simp; try with_reducible rfl
          try simp only [Act.put, List.setIfInBounds_toArray, List.set_cons_zero, List.set_cons_succ]
          refine wpAnyH_take (i := 13) (oi := ?_) (v := ?_) ?_ (by kernel_rfl) (by kernel_rfl) (by kernel_rfl) ?_ ?_ (by assumption) ?_
          rotate_left 2
          · simp only [List.getElem?_toArray, List.getElem?_cons_succ, List.getElem?_cons_zero]; with_reducible rfl
          · exact fun _ _ _ h => h
          · refine Or.inl ⟨by rfl, ?_⟩; intro W hSw; go_simp; try with_reducible rfl
          try simp only [Act.put, List.setIfInBounds_toArray, List.set_cons_zero, List.set_cons_succ]
          refine wpAnyH_take (i := 14) (oi := ?_) (v := ?_) ?_ (by kernel_rfl) (by kernel_rfl) (by kernel_rfl) ?_ ?_ (by assumption) ?_
          rotate_left 2
          · simp only [List.getElem?_toArray, List.getElem?_cons_succ, List.getElem?_cons_zero]; with_reducible rfl
          · exact fun _ _ _ h => h
          · refine Or.inl ⟨by rfl, ?_⟩; intro W hSw; go_simp; try with_reducible rfl
          try simp only [Act.put, List.setIfInBounds_toArray, List.set_cons_zero, List.set_cons_succ]
          refine wpAnyH_take (i := 15) (oi := ?_) (v := ?_) ?_ (by kernel_rfl) (by kernel_rfl) (by kernel_rfl) ?_ ?_ (by assumption) ?_
          rotate_left 2
          · simp only [List.getElem?_toArray, List.getElem?_cons_succ, List.getElem?_cons_zero]; with_reducible rfl
          · exact fun _ _ _ h => h
          · refine Or.inl ⟨by rfl, ?_⟩; intro W hSw; go_simp; try with_reducible rfl
          try simp only [Act.put, List.setIfInBounds_toArray, List.set_cons_zero, List.set_cons_succ]
          refine wpAnyH_done (by kernel_rfl) ?_ _
          have HD30 := Lib.hid hHeld1
          clear hb21 hHeld hHeld1 HD127
          have f134 : w21.cell? ⟨w122.heap.size, 0, none⟩ = some (.bool false) := HD30.out.c0 (i := 0) (b := w122.heap.size) (d := ⟨false, [], 0⟩) rfl
          have f135 : w21.cell? ⟨w122.heap.size, 1, none⟩ = some (.string (bs [])) := HD30.out.c1 (i := 0) (b := w122.heap.size) (d := ⟨false, [], 0⟩) rfl
          have f136 : w21.cell? ⟨w122.heap.size, 2, none⟩ = some (.int .i64 0) := HD30.out.c2 (i := 0) (b := w122.heap.size) (d := ⟨false, [], 0⟩) rfl
          go_wp2_with (refine (num_ok _ _).mono ?_; rintro e9 w9 ⟨rfl, rfl⟩)
          refine (HWK.out _ (HT.out.below HD30.out.below)).mono ?_
          rintro e wz ⟨rfl, hbz⟩
          have HBZ := Lib.hid (Below.call HD30.out.below hbz)
          clear hbz f134 f135 f136
          go_wp2
          go_ret
          exact ⟨rfl, HBZ.out⟩
    | true =>
      cases vb with
      | false =>
        cases bn with
        | true =>
          obtain ⟨rfl, rfl, hz9, rfl⟩ := HBAD.out (by simp)
          injection hz9 with hz1 hz2 hz3
          subst hz1 hz2 hz3
          refine wp_region_held_drew (S := (fun W => Decs w W [(w122.heap.size, ⟨false, [], 0⟩), (w.heap.size + 1, ⟨true, bl, bx⟩), (w.heap.size, ⟨an, al, ax⟩)])) (by kernel_rfl) (HD127.out.drew) (fun hHeld => ?_)
          refine wpAnyH_take (i := 0) (oi := ?_) (v := ?_) ?_ (by kernel_rfl) (by kernel_rfl) (by kernel_rfl) ?_ ?_ (by assumption) ?_
          rotate_left 2
          · simp only [List.getElem?_toArray, List.getElem?_cons_zero]; with_reducible rfl
          · exact fun _ _ _ h => h
          · refine Or.inl ⟨by rfl, ?_⟩; intro W hSw; have q0 := hSw.c0 (i := 2) rfl; have q1 := hSw.c1 (i := 2) rfl; have q2 := hSw.c2 (i := 2) rfl; go_simp; try with_reducible rfl
          try simp only [Act.put, List.setIfInBounds_toArray, List.set_cons_zero, List.set_cons_succ]
          refine wpAnyH_take (i := 6) (oi := ?_) (v := ?_) ?_ (by kernel_rfl) (by kernel_rfl) (by kernel_rfl) ?_ ?_ (by assumption) ?_
          rotate_left 2
          · simp only [List.getElem?_toArray, List.getElem?_cons_succ, List.getElem?_cons_zero]; with_reducible rfl
          · exact fun _ _ _ h => h
          · refine Or.inl ⟨by rfl, ?_⟩; intro W hSw; go_simp; try with_reducible rfl
          try simp only [Act.put, List.setIfInBounds_toArray, List.set_cons_zero, List.set_cons_succ]
          refine wpAnyH_take (i := 7) (oi := ?_) (v := ?_) ?_ (by kernel_rfl) (by kernel_rfl) (by kernel_rfl) ?_ ?_ (by assumption) ?_
          rotate_left 2
          · simp only [List.getElem?_toArray, List.getElem?_cons_succ, List.getElem?_cons_zero]; with_reducible rfl
          · exact fun _ _ _ h => h
          · refine Or.inl ⟨by rfl, ?_⟩; intro W hSw; have q0 := hSw.c0 (i := 1) rfl; go_simp; try with_reducible rfl
          try simp only [Act.put, List.setIfInBounds_toArray, List.set_cons_zero, List.set_cons_succ]
          refine wpAnyH_take (i := 8) (oi := ?_) (v := ?_) ?_ (by kernel_rfl) (by kernel_rfl) (by kernel_rfl) ?_ ?_ (by assumption) ?_
          rotate_left 2
          · simp only [List.getElem?_toArray, List.getElem?_cons_succ, List.getElem?_cons_zero]; with_reducible rfl
          · exact fun _ _ _ h => h
          · refine Or.inl ⟨by rfl, ?_⟩; intro W hSw; go_simp; try with_reducible rfl
          try simp only [Act.put, List.setIfInBounds_toArray, List.set_cons_zero, List.set_cons_succ]
          refine wpAnyH_ready (rs := [1]) (by kernel_rfl) (by simp) ?_
          refine AllReadyH.cons (o := ?_) ?_ (fun K1 hK1 => ?_) AllReadyH.nil
          rotate_left 1
          · simp only [List.getElem?_toArray, List.getElem?_cons_succ, List.getElem?_cons_zero]; with_reducible rfl
          rw [if_pos (by rfl)]
          go_simp
          refine (HMA.out _).mono ?_
          rintro e21 w21 ⟨rfl, hb21⟩
          go_wp2_with fail
          refine hK1.out _ _ (hHeld.call hb21) (fun hHeld1 => ?_)
          clear hK1 K1
          try simp only [Act.put, List.setIfInBounds_toArray, List.set_cons_zero, List.set_cons_succ]
          refine wpAnyH_take (i := 2) (oi := ?_) (v := ?_) ?_ (by kernel_rfl) (by kernel_rfl) (by kernel_rfl) ?_ ?_ (by assumption) ?_
          rotate_left 2
          · simp only [List.getElem?_toArray, List.getElem?_cons_succ, List.getElem?_cons_zero]; with_reducible rfl
          · exact fun _ _ _ h => h
          · refine Or.inl ⟨by rfl, ?_⟩; intro W hSw; go_simp; try with_reducible rfl
          try simp only [Act.put, List.setIfInBounds_toArray, List.set_cons_zero, List.set_cons_succ]
          refine wpAnyH_take (i := 3) (oi := ?_) (v := ?_) ?_ (by kernel_rfl) (by kernel_rfl) (by kernel_rfl) ?_ ?_ (by assumption) ?_
          rotate_left 2
          · simp only [List.getElem?_toArray, List.getElem?_cons_succ, List.getElem?_cons_zero]; with_reducible rfl
          · exact fun _ _ _ h => h
          · refine Or.inl ⟨by rfl, ?_⟩; intro W hSw; have q0 := hSw.c0 (i := 1) rfl; have q1 := hSw.c1 (i := 1) rfl; have q2 := hSw.c2 (i := 1) rfl; go_simp; try with_reducible rfl
          try simp only [Act.put, List.setIfInBounds_toArray, List.set_cons_zero, List.set_cons_succ]
          refine wpAnyH_ready (rs := [4]) (by kernel_rfl) (by simp) ?_
          refine AllReadyH.cons (o := ?_) ?_ (fun K2 hK2 => ?_) AllReadyH.nil
          rotate_left 1
          · simp only [List.getElem?_toArray, List.getElem?_cons_succ, List.getElem?_cons_zero]; with_reducible rfl
          rw [if_pos (by rfl)]
          go_simp
          refine (HMB.out _).mono ?_
          rintro e22 w22 ⟨rfl, hb22⟩
          go_wp2_with fail
          refine hK2.out _ _ (hHeld1.call hb22) (fun hHeld2 => ?_)
          clear hK2 K2
          try simp only [Act.put, List.setIfInBounds_toArray, List.set_cons_zero, List.set_cons_succ]
          refine wpAnyH_take (i := 5) (oi := ?_) (v := ?_) ?_ (by kernel_rfl) (by kernel_rfl) (by kernel_rfl) ?_ ?_ (by assumption) ?_
          rotate_left 2
          · simp only [List.getElem?_toArray, List.getElem?_cons_succ, List.getElem?_cons_zero]; with_reducible rfl
          · exact fun _ _ _ h => h
          · refine Or.inl ⟨by rfl, ?_⟩; intro W hSw; go_simp; try with_reducible rfl
          try simp only [Act.put, List.setIfInBounds_toArray, List.set_cons_zero, List.set_cons_succ]
          refine wpAnyH_take (i := 9) (oi := ?_) (v := ?_) ?_ (by kernel_rfl) (by kernel_rfl) (by kernel_rfl) ?_ ?_ (by assumption) ?_
          rotate_left 2
          · simp only [List.getElem?_toArray, List.getElem?_cons_succ, List.getElem?_cons_zero]; with_reducible rfl
          · exact fun _ _ _ h => h
          · refine Or.inl ⟨by rfl, ?_⟩; intro W hSw; go_simp; try with_reducible rfl
          try simp only [Act.put, List.setIfInBounds_toArray, List.set_cons_zero, List.set_cons_succ]
          refine wpAnyH_take (i := 10) (oi := ?_) (v := ?_) ?_ (by kernel_rfl) (by kernel_rfl) (by kernel_rfl) ?_ ?_ (by assumption) ?_
          rotate_left 2
          · simp only [List.getElem?_toArray, List.getElem?_cons_succ, List.getElem?_cons_zero]; with_reducible rfl
          · exact fun _ _ _ h => h
          · refine Or.inr ⟨by rfl, ?_⟩; with_reducible rfl
          try simp only [Act.put, List.setIfInBounds_toArray, List.set_cons_zero, List.set_cons_succ]
          refine wpAnyH_take (i := 11) (oi := ?_) (v := ?_) ?_ (by kernel_rfl) (by kernel_rfl) (by kernel_rfl) ?_ ?_ (by assumption) ?_
          rotate_left 2
          · simp only [List.getElem?_toArray, List.getElem?_cons_succ, List.getElem?_cons_zero]; with_reducible rfl
          · exact fun _ _ _ h => h
          · refine Or.inr ⟨by rfl, ?_⟩; with_reducible rfl
          try simp only [Act.put, List.setIfInBounds_toArray, List.set_cons_zero, List.set_cons_succ]
          refine wpAnyH_take (i := 12) (oi := ?_) (v := ?_) ?_ (by kernel_rfl) (by kernel_rfl) (by kernel_rfl) ?_ ?_ (by assumption) ?_
          rotate_left 2
          · simp only [List.getElem?_toArray, List.getElem?_cons_succ, List.getElem?_cons_zero]; with_reducible rfl
          · exact fun _ _ _ h => h
          · refine Or.inr ⟨by rfl, ?_⟩; with_reducible rfl
          try simp only [Act.put, List.setIfInBounds_toArray, List.set_cons_zero, List.set_cons_succ]
          refine wpAnyH_take (i := 13) (oi := ?_) (v := ?_) ?_ (by kernel_rfl) (by kernel_rfl) (by kernel_rfl) ?_ ?_ (by assumption) ?_
          rotate_left 2
          · simp only [List.getElem?_toArray, List.getElem?_cons_succ, List.getElem?_cons_zero]; with_reducible rfl
          · exact fun _ _ _ h => h
          · refine Or.inl ⟨by rfl, ?_⟩; intro W hSw; go_simp; try with_reducible rfl
          try simp only [Act.put, List.setIfInBounds_toArray, List.set_cons_zero, List.set_cons_succ]
          refine wpAnyH_take (i := 14) (oi := ?_) (v := ?_) ?_ (by kernel_rfl) (by kernel_rfl) (by kernel_rfl) ?_ ?_ (by assumption) ?_
          rotate_left 2
          · simp only [List.getElem?_toArray, List.getElem?_cons_succ, List.getElem?_cons_zero]; with_reducible rfl
          · exact fun _ _ _ h => h
          · refine Or.inl ⟨by rfl, ?_⟩; intro W hSw; go_simp; try with_reducible rfl
          try simp only [Act.put, List.setIfInBounds_toArray, List.set_cons_zero, List.set_cons_succ]
          refine wpAnyH_take (i := 15) (oi := ?_) (v := ?_) ?_ (by kernel_rfl) (by kernel_rfl) (by kernel_rfl) ?_ ?_ (by assumption) ?_
          rotate_left 2
          · simp only [List.getElem?_toArray, List.getElem?_cons_succ, List.getElem?_cons_zero]; with_reducible rfl
          · exact fun _ _ _ h => h
          · refine Or.inl ⟨by rfl, ?_⟩; intro W hSw; go_simp; try with_reducible rfl
          try simp only [Act.put, List.setIfInBounds_toArray, List.set_cons_zero, List.set_cons_succ]
          refine wpAnyH_done (by kernel_rfl) ?_ _
          have HD30 := Lib.hid hHeld2
          clear hb21 hb22 hHeld hHeld1 hHeld2 HD127
          have f137 : w22.cell? ⟨w122.heap.size, 0, none⟩ = some (.bool false) := HD30.out.c0 (i := 0) (b := w122.heap.size) (d := ⟨false, [], 0⟩) rfl
          have f138 : w22.cell? ⟨w122.heap.size, 1, none⟩ = some (.string (bs [])) := HD30.out.c1 (i := 0) (b := w122.heap.size) (d := ⟨false, [], 0⟩) rfl
          have f139 : w22.cell? ⟨w122.heap.size, 2, none⟩ = some (.int .i64 0) := HD30.out.c2 (i := 0) (b := w122.heap.size) (d := ⟨false, [], 0⟩) rfl
          go_wp2_with (refine (num_ok _ _).mono ?_; rintro e9 w9 ⟨rfl, rfl⟩)
          refine (HWK.out _ (HT.out.below HD30.out.below)).mono ?_
          rintro e wz ⟨rfl, hbz⟩
          have HBZ := Lib.hid (Below.call HD30.out.below hbz)
          clear hbz f137 f138 f139
          go_wp2
          go_ret
          exact ⟨rfl, HBZ.out⟩
        | false =>
          by_cases hbl : bl = []
          · subst hbl
            obtain ⟨rfl, rfl, hz9, rfl⟩ := HBAD.out (by simp)
            injection hz9 with hz1 hz2 hz3
            subst hz1 hz2 hz3
            refine wp_region_held_drew (S := (fun W => Decs w W [(w122.heap.size, ⟨false, [], 0⟩), (w.heap.size + 1, ⟨false, [], bx⟩), (w.heap.size, ⟨an, al, ax⟩)])) (by kernel_rfl) (HD127.out.drew) (fun hHeld => ?_)
            refine wpAnyH_take (i := 0) (oi := ?_) (v := ?_) ?_ (by kernel_rfl) (by kernel_rfl) (by kernel_rfl) ?_ ?_ (by assumption) ?_
            rotate_left 2
            · simp only [List.getElem?_toArray, List.getElem?_cons_zero]; with_reducible rfl
            · exact fun _ _ _ h => h
            · refine Or.inl ⟨by rfl, ?_⟩; intro W hSw; have q0 := hSw.c0 (i := 2) rfl; have q1 := hSw.c1 (i := 2) rfl; have q2 := hSw.c2 (i := 2) rfl; go_simp; try with_reducible rfl
            try simp only [Act.put, List.setIfInBounds_toArray, List.set_cons_zero, List.set_cons_succ]
            refine wpAnyH_take (i := 6) (oi := ?_) (v := ?_) ?_ (by kernel_rfl) (by kernel_rfl) (by kernel_rfl) ?_ ?_ (by assumption) ?_
            rotate_left 2
            · simp only [List.getElem?_toArray, List.getElem?_cons_succ, List.getElem?_cons_zero]; with_reducible rfl
            · exact fun _ _ _ h => h
            · refine Or.inl ⟨by rfl, ?_⟩; intro W hSw; go_simp; try with_reducible rfl
            try simp only [Act.put, List.setIfInBounds_toArray, List.set_cons_zero, List.set_cons_succ]
            refine wpAnyH_take (i := 7) (oi := ?_) (v := ?_) ?_ (by kernel_rfl) (by kernel_rfl) (by kernel_rfl) ?_ ?_ (by assumption) ?_
            rotate_left 2
            · simp only [List.getElem?_toArray, List.getElem?_cons_succ, List.getElem?_cons_zero]; with_reducible rfl
            · exact fun _ _ _ h => h
            · refine Or.inl ⟨by rfl, ?_⟩; intro W hSw; have q0 := hSw.c0 (i := 1) rfl; go_simp; try with_reducible rfl
            try simp only [Act.put, List.setIfInBounds_toArray, List.set_cons_zero, List.set_cons_succ]
            refine wpAnyH_take (i := 8) (oi := ?_) (v := ?_) ?_ (by kernel_rfl) (by kernel_rfl) (by kernel_rfl) ?_ ?_ (by assumption) ?_
            rotate_left 2
            · simp only [List.getElem?_toArray, List.getElem?_cons_succ, List.getElem?_cons_zero]; with_reducible rfl
            · exact fun _ _ _ h => h
            · refine Or.inl ⟨by rfl, ?_⟩; intro W hSw; go_simp; try with_reducible rfl
            try simp only [Act.put, List.setIfInBounds_toArray, List.set_cons_zero, List.set_cons_succ]
            refine wpAnyH_ready (rs := [1]) (by kernel_rfl) (by simp) ?_
            refine AllReadyH.cons (o := ?_) ?_ (fun K1 hK1 => ?_) AllReadyH.nil
            rotate_left 1
            · simp only [List.getElem?_toArray, List.getElem?_cons_succ, List.getElem?_cons_zero]; with_reducible rfl
            rw [if_pos (by rfl)]
            go_simp
            refine (HMA.out _).mono ?_
            rintro e21 w21 ⟨rfl, hb21⟩
            go_wp2_with fail
            refine hK1.out _ _ (hHeld.call hb21) (fun hHeld1 => ?_)
            clear hK1 K1
            try simp only [Act.put, List.setIfInBounds_toArray, List.set_cons_zero, List.set_cons_succ]
            refine wpAnyH_take (i := 2) (oi := ?_) (v := ?_) ?_ (by kernel_rfl) (by kernel_rfl) (by kernel_rfl) ?_ ?_ (by assumption) ?_
            rotate_left 2
            · simp only [List.getElem?_toArray, List.getElem?_cons_succ, List.getElem?_cons_zero]; with_reducible rfl
            · exact fun _ _ _ h => h
            · refine Or.inl ⟨by rfl, ?_⟩; intro W hSw; go_simp; try with_reducible rfl
            try simp only [Act.put, List.setIfInBounds_toArray, List.set_cons_zero, List.set_cons_succ]
            refine wpAnyH_take (i := 3) (oi := ?_) (v := ?_) ?_ (by kernel_rfl) (by kernel_rfl) (by kernel_rfl) ?_ ?_ (by assumption) ?_
            rotate_left 2
            · simp only [List.getElem?_toArray, List.getElem?_cons_succ, List.getElem?_cons_zero]; with_reducible rfl
            · exact fun _ _ _ h => h
            · refine Or.inl ⟨by rfl, ?_⟩; intro W hSw; have q0 := hSw.c0 (i := 1) rfl; have q1 := hSw.c1 (i := 1) rfl; have q2 := hSw.c2 (i := 1) rfl; go_simp; try with_reducible rfl
            try simp only [Act.put, List.setIfInBounds_toArray, List.set_cons_zero, List.set_cons_succ]
            refine wpAnyH_ready (rs := [4]) (by kernel_rfl) (by simp) ?_
            refine AllReadyH.cons (o := ?_) ?_ (fun K2 hK2 => ?_) AllReadyH.nil
            rotate_left 1
            · simp only [List.getElem?_toArray, List.getElem?_cons_succ, List.getElem?_cons_zero]; with_reducible rfl
            rw [if_pos (by rfl)]
            go_simp
            refine (HMB.out _).mono ?_
            rintro e22 w22 ⟨rfl, hb22⟩
            go_wp2_with fail
            refine hK2.out _ _ (hHeld1.call hb22) (fun hHeld2 => ?_)
            clear hK2 K2
            try simp only [Act.put, List.setIfInBounds_toArray, List.set_cons_zero, List.set_cons_succ]
            refine wpAnyH_take (i := 5) (oi := ?_) (v := ?_) ?_ (by kernel_rfl) (by kernel_rfl) (by kernel_rfl) ?_ ?_ (by assumption) ?_
            rotate_left 2
            · simp only [List.getElem?_toArray, List.getElem?_cons_succ, List.getElem?_cons_zero]; with_reducible rfl
            · exact fun _ _ _ h => h
            · refine Or.inl ⟨by rfl, ?_⟩; intro W hSw; go_simp; try with_reducible rfl
            try simp only [Act.put, List.setIfInBounds_toArray, List.set_cons_zero, List.set_cons_succ]
            refine wpAnyH_take (i := 9) (oi := ?_) (v := ?_) ?_ (by kernel_rfl) (by kernel_rfl) (by kernel_rfl) ?_ ?_ (by assumption) ?_
            rotate_left 2
            · simp only [List.getElem?_toArray, List.getElem?_cons_succ, List.getElem?_cons_zero]; with_reducible rfl
            · exact fun _ _ _ h => h
            · refine Or.inl ⟨by rfl, ?_⟩; intro W hSw; go_simp; try with_reducible rfl
            try simp only [Act.put, List.setIfInBounds_toArray, List.set_cons_zero, List.set_cons_succ]
            refine wpAnyH_take (i := 10) (oi := ?_) (v := ?_) ?_ (by kernel_rfl) (by kernel_rfl) (by kernel_rfl) ?_ ?_ (by assumption) ?_
            rotate_left 2
            · simp only [List.getElem?_toArray, List.getElem?_cons_succ, List.getElem?_cons_zero]; with_reducible rfl
            · exact fun _ _ _ h => h
            · refine Or.inl ⟨by rfl, ?_⟩; intro W hSw; go_simp; try with_reducible rfl
            try simp only [Act.put, List.setIfInBounds_toArray, List.set_cons_zero, List.set_cons_succ]
            refine wpAnyH_take (i := 11) (oi := ?_) (v := ?_) ?_ (by kernel_rfl) (by kernel_rfl) (by kernel_rfl) ?_ ?_ (by assumption) ?_
            rotate_left 2
            · simp only [List.getElem?_toArray, List.getElem?_cons_succ, List.getElem?_cons_zero]; with_reducible rfl
            · exact fun _ _ _ h => h
            · refine Or.inl ⟨by rfl, ?_⟩; intro W hSw; have q1 := hSw.c1 (i := 1) rfl; go_simp; try with_reducible rfl
            try simp only [Act.put, List.setIfInBounds_toArray, List.set_cons_zero, List.set_cons_succ]
            refine wpAnyH_take (i := 12) (oi := ?_) (v := ?_) ?_ (by kernel_rfl) (by kernel_rfl) (by kernel_rfl) ?_ ?_ (by assumption) ?_
            rotate_left 2
            · simp only [List.getElem?_toArray, List.getElem?_cons_succ, List.getElem?_cons_zero]; with_reducible rfl
            · exact fun _ _ _ h => h
            · refine Or.inl ⟨by rfl, ?_⟩; intro W hSw; go_simp; try with_reducible rfl
            try simp only [Act.put, List.setIfInBounds_toArray, List.set_cons_zero, List.set_cons_succ]
            refine wpAnyH_take (i := 13) (oi := ?_) (v := ?_) ?_ (by kernel_rfl) (by kernel_rfl) (by kernel_rfl) ?_ ?_ (by assumption) ?_
            rotate_left 2
            · simp only [List.getElem?_toArray, List.getElem?_cons_succ, List.getElem?_cons_zero]; with_reducible rfl
            · exact fun _ _ _ h => h
            · refine Or.inl ⟨by rfl, ?_⟩; intro W hSw; go_simp; try with_reducible rfl
            try simp only [Act.put, List.setIfInBounds_toArray, List.set_cons_zero, List.set_cons_succ]
            refine wpAnyH_take (i := 14) (oi := ?_) (v := ?_) ?_ (by kernel_rfl) (by kernel_rfl) (by kernel_rfl) ?_ ?_ (by assumption) ?_
            rotate_left 2
            · simp only [List.getElem?_toArray, List.getElem?_cons_succ, List.getElem?_cons_zero]; with_reducible rfl
            · exact fun _ _ _ h => h
            · refine Or.inl ⟨by rfl, ?_⟩; intro W hSw; go_simp; try with_reducible rfl
            try simp only [Act.put, List.setIfInBounds_toArray, List.set_cons_zero, List.set_cons_succ]
            refine wpAnyH_take (i := 15) (oi := ?_) (v := ?_) ?_ (by kernel_rfl) (by kernel_rfl) (by kernel_rfl) ?_ ?_ (by assumption) ?_
            rotate_left 2
            · simp only [List.getElem?_toArray, List.getElem?_cons_succ, List.getElem?_cons_zero]; with_reducible rfl
            · exact fun _ _ _ h => h
            · refine Or.inl ⟨by rfl, ?_⟩; intro W hSw; go_simp; try with_reducible rfl
            try simp only [Act.put, List.setIfInBounds_toArray, List.set_cons_zero, List.set_cons_succ]
            refine wpAnyH_done (by kernel_rfl) ?_ _
            have HD30 := Lib.hid hHeld2
            clear hb21 hb22 hHeld hHeld1 hHeld2 HD127
            have f140 : w22.cell? ⟨w122.heap.size, 0, none⟩ = some (.bool false) := HD30.out.c0 (i := 0) (b := w122.heap.size) (d := ⟨false, [], 0⟩) rfl
            have f141 : w22.cell? ⟨w122.heap.size, 1, none⟩ = some (.string (bs [])) := HD30.out.c1 (i := 0) (b := w122.heap.size) (d := ⟨false, [], 0⟩) rfl
            have f142 : w22.cell? ⟨w122.heap.size, 2, none⟩ = some (.int .i64 0) := HD30.out.c2 (i := 0) (b := w122.heap.size) (d := ⟨false, [], 0⟩) rfl
            go_wp2_with (refine (num_ok _ _).mono ?_; rintro e9 w9 ⟨rfl, rfl⟩)
            refine (HWK.out _ (HT.out.below HD30.out.below)).mono ?_
            rintro e wz ⟨rfl, hbz⟩
            have HBZ := Lib.hid (Below.call HD30.out.below hbz)
            clear hbz f140 f141 f142
            go_wp2
            go_ret
            exact ⟨rfl, HBZ.out⟩
          · obtain ⟨hbe1, hbe2⟩ := HEB.out hbl
            obtain ⟨rfl, rfl, hz9, rfl⟩ := HBAD.out (by simp)
            injection hz9 with hz1 hz2 hz3
            subst hz1 hz2 hz3
            refine wp_region_held_drew (S := (fun W => Decs w W [(w122.heap.size, ⟨false, [], 0⟩), (w.heap.size + 1, ⟨false, bl, bx⟩), (w.heap.size, ⟨an, al, ax⟩)])) (by kernel_rfl) (HD127.out.drew) (fun hHeld => ?_)
            refine wpAnyH_take (i := 0) (oi := ?_) (v := ?_) ?_ (by kernel_rfl) (by kernel_rfl) (by kernel_rfl) ?_ ?_ (by assumption) ?_
            rotate_left 2
            · simp only [List.getElem?_toArray, List.getElem?_cons_zero]; with_reducible rfl
            · exact fun _ _ _ h => h
            · refine Or.inl ⟨by rfl, ?_⟩; intro W hSw; have q0 := hSw.c0 (i := 2) rfl; have q1 := hSw.c1 (i := 2) rfl; have q2 := hSw.c2 (i := 2) rfl; go_simp; try with_reducible rfl
            try simp only [Act.put, List.setIfInBounds_toArray, List.set_cons_zero, List.set_cons_succ]
            refine wpAnyH_take (i := 6) (oi := ?_) (v := ?_) ?_ (by kernel_rfl) (by kernel_rfl) (by kernel_rfl) ?_ ?_ (by assumption) ?_
            rotate_left 2
            · simp only [List.getElem?_toArray, List.getElem?_cons_succ, List.getElem?_cons_zero]; with_reducible rfl
            · exact fun _ _ _ h => h
            · refine Or.inl ⟨by rfl, ?_⟩; intro W hSw; go_simp; try with_reducible rfl
            try simp only [Act.put, List.setIfInBounds_toArray, List.set_cons_zero, List.set_cons_succ]
            refine wpAnyH_take (i := 7) (oi := ?_) (v := ?_) ?_ (by kernel_rfl) (by kernel_rfl) (by kernel_rfl) ?_ ?_ (by assumption) ?_
            rotate_left 2
            · simp only [List.getElem?_toArray, List.getElem?_cons_succ, List.getElem?_cons_zero]; with_reducible rfl
            · exact fun _ _ _ h => h
            · refine Or.inl ⟨by rfl, ?_⟩; intro W hSw; have q0 := hSw.c0 (i := 1) rfl; go_simp; try with_reducible rfl
            try simp only [Act.put, List.setIfInBounds_toArray, List.set_cons_zero, List.set_cons_succ]
            refine wpAnyH_take (i := 8) (oi := ?_) (v := ?_) ?_ (by kernel_rfl) (by kernel_rfl) (by kernel_rfl) ?_ ?_ (by assumption) ?_
            rotate_left 2
            · simp only [List.getElem?_toArray, List.getElem?_cons_succ, List.getElem?_cons_zero]; with_reducible rfl
            · exact fun _ _ _ h => h
            · refine Or.inl ⟨by rfl, ?_⟩; intro W hSw; go_simp; try with_reducible rfl
            try simp only [Act.put, List.setIfInBounds_toArray, List.set_cons_zero, List.set_cons_succ]
            refine wpAnyH_ready (rs := [1]) (by kernel_rfl) (by simp) ?_
            refine AllReadyH.cons (o := ?_) ?_ (fun K1 hK1 => ?_) AllReadyH.nil
            rotate_left 1
            · simp only [List.getElem?_toArray, List.getElem?_cons_succ, List.getElem?_cons_zero]; with_reducible rfl
            rw [if_pos (by rfl)]
            go_simp
            refine (HMA.out _).mono ?_
            rintro e21 w21 ⟨rfl, hb21⟩
            go_wp2_with fail
            refine hK1.out _ _ (hHeld.call hb21) (fun hHeld1 => ?_)
            clear hK1 K1
            try simp only [Act.put, List.setIfInBounds_toArray, List.set_cons_zero, List.set_cons_succ]
            refine wpAnyH_take (i := 2) (oi := ?_) (v := ?_) ?_ (by kernel_rfl) (by kernel_rfl) (by kernel_rfl) ?_ ?_ (by assumption) ?_
            rotate_left 2
            · simp only [List.getElem?_toArray, List.getElem?_cons_succ, List.getElem?_cons_zero]; with_reducible rfl
            · exact fun _ _ _ h => h
            · refine Or.inl ⟨by rfl, ?_⟩; intro W hSw; go_simp; try with_reducible rfl
            try simp only [Act.put, List.setIfInBounds_toArray, List.set_cons_zero, List.set_cons_succ]
            refine wpAnyH_take (i := 3) (oi := ?_) (v := ?_) ?_ (by kernel_rfl) (by kernel_rfl) (by kernel_rfl) ?_ ?_ (by assumption) ?_
            rotate_left 2
            · simp only [List.getElem?_toArray, List.getElem?_cons_succ, List.getElem?_cons_zero]; with_reducible rfl
            · exact fun _ _ _ h => h
            · refine Or.inl ⟨by rfl, ?_⟩; intro W hSw; have q0 := hSw.c0 (i := 1) rfl; have q1 := hSw.c1 (i := 1) rfl; have q2 := hSw.c2 (i := 1) rfl; go_simp; try with_reducible rfl
            try simp only [Act.put, List.setIfInBounds_toArray, List.set_cons_zero, List.set_cons_succ]
            refine wpAnyH_ready (rs := [4]) (by kernel_rfl) (by simp) ?_
            refine AllReadyH.cons (o := ?_) ?_ (fun K2 hK2 => ?_) AllReadyH.nil
            rotate_left 1
            · simp only [List.getElem?_toArray, List.getElem?_cons_succ, List.getElem?_cons_zero]; with_reducible rfl
            rw [if_pos (by rfl)]
            go_simp
            refine (HMB.out _).mono ?_
            rintro e22 w22 ⟨rfl, hb22⟩
            go_wp2_with fail
            refine hK2.out _ _ (hHeld1.call hb22) (fun hHeld2 => ?_)
            clear hK2 K2
            try simp only [Act.put, List.setIfInBounds_toArray, List.set_cons_zero, List.set_cons_succ]
            refine wpAnyH_take (i := 5) (oi := ?_) (v := ?_) ?_ (by kernel_rfl) (by kernel_rfl) (by kernel_rfl) ?_ ?_ (by assumption) ?_
            rotate_left 2
            · simp only [List.getElem?_toArray, List.getElem?_cons_succ, List.getElem?_cons_zero]; with_reducible rfl
            · exact fun _ _ _ h => h
            · refine Or.inl ⟨by rfl, ?_⟩; intro W hSw; go_simp; try with_reducible rfl
            try simp only [Act.put, List.setIfInBounds_toArray, List.set_cons_zero, List.set_cons_succ]
            refine wpAnyH_take (i := 9) (oi := ?_) (v := ?_) ?_ (by kernel_rfl) (by kernel_rfl) (by kernel_rfl) ?_ ?_ (by assumption) ?_
            rotate_left 2
            · simp only [List.getElem?_toArray, List.getElem?_cons_succ, List.getElem?_cons_zero]; with_reducible rfl
            · exact fun _ _ _ h => h
            · refine Or.inl ⟨by rfl, ?_⟩; intro W hSw; go_simp; try with_reducible rfl
            try simp only [Act.put, List.setIfInBounds_toArray, List.set_cons_zero, List.set_cons_succ]
            refine wpAnyH_take (i := 10) (oi := ?_) (v := ?_) ?_ (by kernel_rfl) (by kernel_rfl) (by kernel_rfl) ?_ ?_ (by assumption) ?_
            rotate_left 2
            · simp only [List.getElem?_toArray, List.getElem?_cons_succ, List.getElem?_cons_zero]; with_reducible rfl
            · exact fun _ _ _ h => h
            · refine Or.inl ⟨by rfl, ?_⟩; intro W hSw; go_simp; try with_reducible rfl
            try simp only [Act.put, List.setIfInBounds_toArray, List.set_cons_zero, List.set_cons_succ]
            refine wpAnyH_take (i := 11) (oi := ?_) (v := ?_) ?_ (by kernel_rfl) (by kernel_rfl) (by kernel_rfl) ?_ ?_ (by assumption) ?_
            rotate_left 2
            · simp only [List.getElem?_toArray, List.getElem?_cons_succ, List.getElem?_cons_zero]; with_reducible rfl
            · exact fun _ _ _ h => h
            · refine Or.inl ⟨by rfl, ?_⟩; intro W hSw; have q1 := hSw.c1 (i := 1) rfl; go_simp; try with_reducible rfl
            try simp only [Act.put, List.setIfInBounds_toArray, List.set_cons_zero, List.set_cons_succ]
            refine wpAnyH_take (i := 12) (oi := ?_) (v := ?_) ?_ (by kernel_rfl) (by kernel_rfl) (by kernel_rfl) ?_ ?_ (by assumption) ?_
            rotate_left 2
            · simp only [List.getElem?_toArray, List.getElem?_cons_succ, List.getElem?_cons_zero]; with_reducible rfl
            · exact fun _ _ _ h => h
            · refine Or.inl ⟨by rfl, ?_⟩; intro W hSw; go_simp; try with_reducible rfl
            try simp only [Act.put, List.setIfInBounds_toArray, List.set_cons_zero, List.set_cons_succ]
            refine wpAnyH_take (i := 13) (oi := ?_) (v := ?_) ?_ (by kernel_rfl) (by kernel_rfl) (by kernel_rfl) ?_ ?_ (by assumption) ?_
            rotate_left 2
            · simp only [List.getElem?_toArray, List.getElem?_cons_succ, List.getElem?_cons_zero]; with_reducible rfl
            · exact fun _ _ _ h => h
            · refine Or.inl ⟨by rfl, ?_⟩; intro W hSw; go_simp; try with_reducible rfl
            try simp only [Act.put, List.setIfInBounds_toArray, List.set_cons_zero, List.set_cons_succ]
            refine wpAnyH_take (i := 14) (oi := ?_) (v := ?_) ?_ (by kernel_rfl) (by kernel_rfl) (by kernel_rfl) ?_ ?_ (by assumption) ?_
            rotate_left 2
            · simp only [List.getElem?_toArray, List.getElem?_cons_succ, List.getElem?_cons_zero]; with_reducible rfl
            · exact fun _ _ _ h => h
            · refine Or.inl ⟨by rfl, ?_⟩; intro W hSw; go_simp; try with_reducible rfl
            try simp only [Act.put, List.setIfInBounds_toArray, List.set_cons_zero, List.set_cons_succ]
            refine wpAnyH_take (i := 15) (oi := ?_) (v := ?_) ?_ (by kernel_rfl) (by kernel_rfl) (by kernel_rfl) ?_ ?_ (by assumption) ?_
            rotate_left 2
            · simp only [List.getElem?_toArray, List.getElem?_cons_succ, List.getElem?_cons_zero]; with_reducible rfl
            · exact fun _ _ _ h => h
            · refine Or.inl ⟨by rfl, ?_⟩; intro W hSw; go_simp; try with_reducible rfl
            try simp only [Act.put, List.setIfInBounds_toArray, List.set_cons_zero, List.set_cons_succ]
            refine wpAnyH_done (by kernel_rfl) ?_ _
            have HD30 := Lib.hid hHeld2
            clear hb21 hb22 hHeld hHeld1 hHeld2 HD127
            have f143 : w22.cell? ⟨w122.heap.size, 0, none⟩ = some (.bool false) := HD30.out.c0 (i := 0) (b := w122.heap.size) (d := ⟨false, [], 0⟩) rfl
            have f144 : w22.cell? ⟨w122.heap.size, 1, none⟩ = some (.string (bs [])) := HD30.out.c1 (i := 0) (b := w122.heap.size) (d := ⟨false, [], 0⟩) rfl
            have f145 : w22.cell? ⟨w122.heap.size, 2, none⟩ = some (.int .i64 0) := HD30.out.c2 (i := 0) (b := w122.heap.size) (d := ⟨false, [], 0⟩) rfl
            go_wp2_with (refine (num_ok _ _).mono ?_; rintro e9 w9 ⟨rfl, rfl⟩)
            refine (HWK.out _ (HT.out.below HD30.out.below)).mono ?_
            rintro e wz ⟨rfl, hbz⟩
            have HBZ := Lib.hid (Below.call HD30.out.below hbz)
            clear hbz f143 f144 f145
            go_wp2
            go_ret
            exact ⟨rfl, HBZ.out⟩
      | true =>
        cases bn with
        | true =>
          obtain ⟨rfl, rfl, hz9, rfl⟩ := HBAD.out (by simp)
          injection hz9 with hz1 hz2 hz3
          subst hz1 hz2 hz3
          refine wp_region_held_drew (S := (fun W => Decs w W [(w122.heap.size, ⟨false, [], 0⟩), (w.heap.size + 1, ⟨true, bl, bx⟩), (w.heap.size, ⟨an, al, ax⟩)])) (by kernel_rfl) (HD127.out.drew) (fun hHeld => ?_)
          refine wpAnyH_take (i := 0) (oi := ?_) (v := ?_) ?_ (by kernel_rfl) (by kernel_rfl) (by kernel_rfl) ?_ ?_ (by assumption) ?_
          rotate_left 2
          · simp only [List.getElem?_toArray, List.getElem?_cons_zero]; with_reducible rfl
          · exact fun _ _ _ h => h
          · refine Or.inl ⟨by rfl, ?_⟩; intro W hSw; have q0 := hSw.c0 (i := 2) rfl; have q1 := hSw.c1 (i := 2) rfl; have q2 := hSw.c2 (i := 2) rfl; go_simp; try with_reducible rfl
          try simp only [Act.put, List.setIfInBounds_toArray, List.set_cons_zero, List.set_cons_succ]
          refine wpAnyH_take (i := 6) (oi := ?_) (v := ?_) ?_ (by kernel_rfl) (by kernel_rfl) (by kernel_rfl) ?_ ?_ (by assumption) ?_
          rotate_left 2
          · simp only [List.getElem?_toArray, List.getElem?_cons_succ, List.getElem?_cons_zero]; with_reducible rfl
          · exact fun _ _ _ h => h
          · refine Or.inl ⟨by rfl, ?_⟩; intro W hSw; go_simp; try with_reducible rfl
          try simp only [Act.put, List.setIfInBounds_toArray, List.set_cons_zero, List.set_cons_succ]
          refine wpAnyH_take (i := 7) (oi := ?_) (v := ?_) ?_ (by kernel_rfl) (by kernel_rfl) (by kernel_rfl) ?_ ?_ (by assumption) ?_
          rotate_left 2
          · simp only [List.getElem?_toArray, List.getElem?_cons_succ, List.getElem?_cons_zero]; with_reducible rfl
          · exact fun _ _ _ h => h
          · refine Or.inl ⟨by rfl, ?_⟩; intro W hSw; have q0 := hSw.c0 (i := 1) rfl; go_simp; try with_reducible rfl
          try simp only [Act.put, List.setIfInBounds_toArray, List.set_cons_zero, List.set_cons_succ]
          refine wpAnyH_take (i := 8) (oi := ?_) (v := ?_) ?_ (by kernel_rfl) (by kernel_rfl) (by kernel_rfl) ?_ ?_ (by assumption) ?_
          rotate_left 2
          · simp only [List.getElem?_toArray, List.getElem?_cons_succ, List.getElem?_cons_zero]; with_reducible rfl
          · exact fun _ _ _ h => h
          · refine Or.inl ⟨by rfl, ?_⟩; intro W hSw; go_simp; try with_reducible rfl
          try simp only [Act.put, List.setIfInBounds_toArray, List.set_cons_zero, List.set_cons_succ]
          refine wpAnyH_ready (rs := [1]) (by kernel_rfl) (by simp) ?_
          refine AllReadyH.cons (o := ?_) ?_ (fun K1 hK1 => ?_) AllReadyH.nil
          rotate_left 1
          · simp only [List.getElem?_toArray, List.getElem?_cons_succ, List.getElem?_cons_zero]; with_reducible rfl
          rw [if_pos (by rfl)]
          go_simp
          refine (HMA.out _).mono ?_
          rintro e21 w21 ⟨rfl, hb21⟩
          go_wp2_with fail
          refine hK1.out _ _ (hHeld.call hb21) (fun hHeld1 => ?_)
          clear hK1 K1
          try simp only [Act.put, List.setIfInBounds_toArray, List.set_cons_zero, List.set_cons_succ]
          refine wpAnyH_take (i := 2) (oi := ?_) (v := ?_) ?_ (by kernel_rfl) (by kernel_rfl) (by kernel_rfl) ?_ ?_ (by assumption) ?_
          rotate_left 2
          · simp only [List.getElem?_toArray, List.getElem?_cons_succ, List.getElem?_cons_zero]; with_reducible rfl
          · exact fun _ _ _ h => h
          · refine Or.inl ⟨by rfl, ?_⟩; intro W hSw; go_simp; try with_reducible rfl
          try simp only [Act.put, List.setIfInBounds_toArray, List.set_cons_zero, List.set_cons_succ]
          refine wpAnyH_take (i := 3) (oi := ?_) (v := ?_) ?_ (by kernel_rfl) (by kernel_rfl) (by kernel_rfl) ?_ ?_ (by assumption) ?_
          rotate_left 2
          · simp only [List.getElem?_toArray, List.getElem?_cons_succ, List.getElem?_cons_zero]; with_reducible rfl
          · exact fun _ _ _ h => h
          · refine Or.inl ⟨by rfl, ?_⟩; intro W hSw; have q0 := hSw.c0 (i := 1) rfl; have q1 := hSw.c1 (i := 1) rfl; have q2 := hSw.c2 (i := 1) rfl; go_simp; try with_reducible rfl
          try simp only [Act.put, List.setIfInBounds_toArray, List.set_cons_zero, List.set_cons_succ]
          refine wpAnyH_ready (rs := [4]) (by kernel_rfl) (by simp) ?_
          refine AllReadyH.cons (o := ?_) ?_ (fun K2 hK2 => ?_) AllReadyH.nil
          rotate_left 1
          · simp only [List.getElem?_toArray, List.getElem?_cons_succ, List.getElem?_cons_zero]; with_reducible rfl
          rw [if_pos (by rfl)]
          go_simp
          refine (HMB.out _).mono ?_
          rintro e22 w22 ⟨rfl, hb22⟩
          go_wp2_with fail
          refine hK2.out _ _ (hHeld1.call hb22) (fun hHeld2 => ?_)
          clear hK2 K2
          try simp only [Act.put, List.setIfInBounds_toArray, List.set_cons_zero, List.set_cons_succ]
          refine wpAnyH_take (i := 5) (oi := ?_) (v := ?_) ?_ (by kernel_rfl) (by kernel_rfl) (by kernel_rfl) ?_ ?_ (by assumption) ?_
          rotate_left 2
          · simp only [List.getElem?_toArray, List.getElem?_cons_succ, List.getElem?_cons_zero]; with_reducible rfl
          · exact fun _ _ _ h => h
          · refine Or.inl ⟨by rfl, ?_⟩; intro W hSw; go_simp; try with_reducible rfl
          try simp only [Act.put, List.setIfInBounds_toArray, List.set_cons_zero, List.set_cons_succ]
          refine wpAnyH_take (i := 9) (oi := ?_) (v := ?_) ?_ (by kernel_rfl) (by kernel_rfl) (by kernel_rfl) ?_ ?_ (by assumption) ?_
          rotate_left 2
          · simp only [List.getElem?_toArray, List.getElem?_cons_succ, List.getElem?_cons_zero]; with_reducible rfl
          · exact fun _ _ _ h => h
          · refine Or.inl ⟨by rfl, ?_⟩; intro W hSw; go_simp; try with_reducible rfl
          try simp only [Act.put, List.setIfInBounds_toArray, List.set_cons_zero, List.set_cons_succ]
          refine wpAnyH_take (i := 10) (oi := ?_) (v := ?_) ?_ (by kernel_rfl) (by kernel_rfl) (by kernel_rfl) ?_ ?_ (by assumption) ?_
          rotate_left 2
          · simp only [List.getElem?_toArray, List.getElem?_cons_succ, List.getElem?_cons_zero]; with_reducible rfl
          · exact fun _ _ _ h => h
          · refine Or.inr ⟨by rfl, ?_⟩; with_reducible rfl
          try simp only [Act.put, List.setIfInBounds_toArray, List.set_cons_zero, List.set_cons_succ]
          refine wpAnyH_take (i := 11) (oi := ?_) (v := ?_) ?_ (by kernel_rfl) (by kernel_rfl) (by kernel_rfl) ?_ ?_ (by assumption) ?_
          rotate_left 2
          · simp only [List.getElem?_toArray, List.getElem?_cons_succ, List.getElem?_cons_zero]; with_reducible rfl
          · exact fun _ _ _ h => h
          · refine Or.inr ⟨by rfl, ?_⟩; with_reducible rfl
          try simp only [Act.put, List.setIfInBounds_toArray, List.set_cons_zero, List.set_cons_succ]
          refine wpAnyH_take (i := 12) (oi := ?_) (v := ?_) ?_ (by kernel_rfl) (by kernel_rfl) (by kernel_rfl) ?_ ?_ (by assumption) ?_
          rotate_left 2
          · simp only [List.getElem?_toArray, List.getElem?_cons_succ, List.getElem?_cons_zero]; with_reducible rfl
          · exact fun _ _ _ h => h
          · refine Or.inr ⟨by rfl, ?_⟩; with_reducible rfl
          try simp only [Act.put, List.setIfInBounds_toArray, List.set_cons_zero, List.set_cons_succ]
          refine wpAnyH_take (i := 13) (oi := ?_) (v := ?_) ?_ (by kernel_rfl) (by kernel_rfl) (by kernel_rfl) ?_ ?_ (by assumption) ?_
          rotate_left 2
          · simp only [List.getElem?_toArray, List.getElem?_cons_succ, List.getElem?_cons_zero]; with_reducible rfl
          · exact fun _ _ _ h => h
          · refine Or.inl ⟨by rfl, ?_⟩; intro W hSw; go_simp; try with_reducible rfl
          try simp only [Act.put, List.setIfInBounds_toArray, List.set_cons_zero, List.set_cons_succ]
          refine wpAnyH_take (i := 14) (oi := ?_) (v := ?_) ?_ (by kernel_rfl) (by kernel_rfl) (by kernel_rfl) ?_ ?_ (by assumption) ?_
          rotate_left 2
          · simp only [List.getElem?_toArray, List.getElem?_cons_succ, List.getElem?_cons_zero]; with_reducible rfl
          · exact fun _ _ _ h => h
          · refine Or.inl ⟨by rfl, ?_⟩; intro W hSw; go_simp; try with_reducible rfl
          try simp only [Act.put, List.setIfInBounds_toArray, List.set_cons_zero, List.set_cons_succ]
          refine wpAnyH_take (i := 15) (oi := ?_) (v := ?_) ?_ (by kernel_rfl) (by kernel_rfl) (by kernel_rfl) ?_ ?_ (by assumption) ?_
          rotate_left 2
          · simp only [List.getElem?_toArray, List.getElem?_cons_succ, List.getElem?_cons_zero]; with_reducible rfl
          · exact fun _ _ _ h => h
          · refine Or.inl ⟨by rfl, ?_⟩; intro W hSw; go_simp; try with_reducible rfl
          try simp only [Act.put, List.setIfInBounds_toArray, List.set_cons_zero, List.set_cons_succ]
          refine wpAnyH_done (by kernel_rfl) ?_ _
          have HD30 := Lib.hid hHeld2
          clear hb21 hb22 hHeld hHeld1 hHeld2 HD127
          have f146 : w22.cell? ⟨w122.heap.size, 0, none⟩ = some (.bool false) := HD30.out.c0 (i := 0) (b := w122.heap.size) (d := ⟨false, [], 0⟩) rfl
          have f147 : w22.cell? ⟨w122.heap.size, 1, none⟩ = some (.string (bs [])) := HD30.out.c1 (i := 0) (b := w122.heap.size) (d := ⟨false, [], 0⟩) rfl
          have f148 : w22.cell? ⟨w122.heap.size, 2, none⟩ = some (.int .i64 0) := HD30.out.c2 (i := 0) (b := w122.heap.size) (d := ⟨false, [], 0⟩) rfl
          go_wp2_with (refine (num_ok _ _).mono ?_; rintro e9 w9 ⟨rfl, rfl⟩)
          refine (HWK.out _ (HT.out.below HD30.out.below)).mono ?_
          rintro e wz ⟨rfl, hbz⟩
          have HBZ := Lib.hid (Below.call HD30.out.below hbz)
          clear hbz f146 f147 f148
          go_wp2
          go_ret
          exact ⟨rfl, HBZ.out⟩
        | false =>
          by_cases hbl : bl = []
          · subst hbl
            obtain ⟨rfl, rfl, hz9, rfl⟩ := HBAD.out (by simp)
            injection hz9 with hz1 hz2 hz3
            subst hz1 hz2 hz3
            refine wp_region_held_drew (S := (fun W => Decs w W [(w122.heap.size, ⟨false, [], 0⟩), (w.heap.size + 1, ⟨false, [], bx⟩), (w.heap.size, ⟨an, al, ax⟩)])) (by kernel_rfl) (HD127.out.drew) (fun hHeld => ?_)
            refine wpAnyH_take (i := 0) (oi := ?_) (v := ?_) ?_ (by kernel_rfl) (by kernel_rfl) (by kernel_rfl) ?_ ?_ (by assumption) ?_
            rotate_left 2
            · simp only [List.getElem?_toArray, List.getElem?_cons_zero]; with_reducible rfl
            · exact fun _ _ _ h => h
            · refine Or.inl ⟨by rfl, ?_⟩; intro W hSw; have q0 := hSw.c0 (i := 2) rfl; have q1 := hSw.c1 (i := 2) rfl; have q2 := hSw.c2 (i := 2) rfl; go_simp; try with_reducible rfl
            try simp only [Act.put, List.setIfInBounds_toArray, List.set_cons_zero, List.set_cons_succ]
            refine wpAnyH_take (i := 6) (oi := ?_) (v := ?_) ?_ (by kernel_rfl) (by kernel_rfl) (by kernel_rfl) ?_ ?_ (by assumption) ?_
            rotate_left 2
            · simp only [List.getElem?_toArray, List.getElem?_cons_succ, List.getElem?_cons_zero]; with_reducible rfl
            · exact fun _ _ _ h => h
            · refine Or.inl ⟨by rfl, ?_⟩; intro W hSw; go_simp; try with_reducible rfl
            try simp only [Act.put, List.setIfInBounds_toArray, List.set_cons_zero, List.set_cons_succ]
            refine wpAnyH_take (i := 7) (oi := ?_) (v := ?_) ?_ (by kernel_rfl) (by kernel_rfl) (by kernel_rfl) ?_ ?_ (by assumption) ?_
            rotate_left 2
            · simp only [List.getElem?_toArray, List.getElem?_cons_succ, List.getElem?_cons_zero]; with_reducible rfl
            · exact fun _ _ _ h => h
            · refine Or.inl ⟨by rfl, ?_⟩; intro W hSw; have q0 := hSw.c0 (i := 1) rfl; go_simp; try with_reducible rfl
            try simp only [Act.put, List.setIfInBounds_toArray, List.set_cons_zero, List.set_cons_succ]
            refine wpAnyH_take (i := 8) (oi := ?_) (v := ?_) ?_ (by kernel_rfl) (by kernel_rfl) (by kernel_rfl) ?_ ?_ (by assumption) ?_
            rotate_left 2
            · simp only [List.getElem?_toArray, List.getElem?_cons_succ, List.getElem?_cons_zero]; with_reducible rfl
            · exact fun _ _ _ h => h
            · refine Or.inl ⟨by rfl, ?_⟩; intro W hSw; go_simp; try with_reducible rfl
            try simp only [Act.put, List.setIfInBounds_toArray, List.set_cons_zero, List.set_cons_succ]
            refine wpAnyH_ready (rs := [1]) (by kernel_rfl) (by simp) ?_
            refine AllReadyH.cons (o := ?_) ?_ (fun K1 hK1 => ?_) AllReadyH.nil
            rotate_left 1
            · simp only [List.getElem?_toArray, List.getElem?_cons_succ, List.getElem?_cons_zero]; with_reducible rfl
            rw [if_pos (by rfl)]
            go_simp
            refine (HMA.out _).mono ?_
            rintro e21 w21 ⟨rfl, hb21⟩
            go_wp2_with fail
            refine hK1.out _ _ (hHeld.call hb21) (fun hHeld1 => ?_)
            clear hK1 K1
            try simp only [Act.put, List.setIfInBounds_toArray, List.set_cons_zero, List.set_cons_succ]
            refine wpAnyH_take (i := 2) (oi := ?_) (v := ?_) ?_ (by kernel_rfl) (by kernel_rfl) (by kernel_rfl) ?_ ?_ (by assumption) ?_
            rotate_left 2
            · simp only [List.getElem?_toArray, List.getElem?_cons_succ, List.getElem?_cons_zero]; with_reducible rfl
            · exact fun _ _ _ h => h
            · refine Or.inl ⟨by rfl, ?_⟩; intro W hSw; go_simp; try with_reducible rfl
            try simp only [Act.put, List.setIfInBounds_toArray, List.set_cons_zero, List.set_cons_succ]
            refine wpAnyH_take (i := 3) (oi := ?_) (v := ?_) ?_ (by kernel_rfl) (by kernel_rfl) (by kernel_rfl) ?_ ?_ (by assumption) ?_
            rotate_left 2
            · simp only [List.getElem?_toArray, List.getElem?_cons_succ, List.getElem?_cons_zero]; with_reducible rfl
            · exact fun _ _ _ h => h
            · refine Or.inl ⟨by rfl, ?_⟩; intro W hSw; have q0 := hSw.c0 (i := 1) rfl; have q1 := hSw.c1 (i := 1) rfl; have q2 := hSw.c2 (i := 1) rfl; go_simp; try with_reducible rfl
            try simp only [Act.put, List.setIfInBounds_toArray, List.set_cons_zero, List.set_cons_succ]
            refine wpAnyH_ready (rs := [4]) (by kernel_rfl) (by simp) ?_
            refine AllReadyH.cons (o := ?_) ?_ (fun K2 hK2 => ?_) AllReadyH.nil
            rotate_left 1
            · simp only [List.getElem?_toArray, List.getElem?_cons_succ, List.getElem?_cons_zero]; with_reducible rfl
            rw [if_pos (by rfl)]
            go_simp
            refine (HMB.out _).mono ?_
            rintro e22 w22 ⟨rfl, hb22⟩
            go_wp2_with fail
            refine hK2.out _ _ (hHeld1.call hb22) (fun hHeld2 => ?_)
            clear hK2 K2
            try simp only [Act.put, List.setIfInBounds_toArray, List.set_cons_zero, List.set_cons_succ]
            refine wpAnyH_take (i := 5) (oi := ?_) (v := ?_) ?_ (by kernel_rfl) (by kernel_rfl) (by kernel_rfl) ?_ ?_ (by assumption) ?_
            rotate_left 2
            · simp only [List.getElem?_toArray, List.getElem?_cons_succ, List.getElem?_cons_zero]; with_reducible rfl
            · exact fun _ _ _ h => h
            · refine Or.inl ⟨by rfl, ?_⟩; intro W hSw; go_simp; try with_reducible rfl
            try simp only [Act.put, List.setIfInBounds_toArray, List.set_cons_zero, List.set_cons_succ]
            refine wpAnyH_take (i := 9) (oi := ?_) (v := ?_) ?_ (by kernel_rfl) (by kernel_rfl) (by kernel_rfl) ?_ ?_ (by assumption) ?_
            rotate_left 2
            · simp only [List.getElem?_toArray, List.getElem?_cons_succ, List.getElem?_cons_zero]; with_reducible rfl
            · exact fun _ _ _ h => h
            · refine Or.inl ⟨by rfl, ?_⟩; intro W hSw; go_simp; try with_reducible rfl
            try simp only [Act.put, List.setIfInBounds_toArray, List.set_cons_zero, List.set_cons_succ]
            refine wpAnyH_take (i := 10) (oi := ?_) (v := ?_) ?_ (by kernel_rfl) (by kernel_rfl) (by kernel_rfl) ?_ ?_ (by assumption) ?_
            rotate_left 2
            · simp only [List.getElem?_toArray, List.getElem?_cons_succ, List.getElem?_cons_zero]; with_reducible rfl
            · exact fun _ _ _ h => h
            · refine Or.inl ⟨by rfl, ?_⟩; intro W hSw; go_simp; try with_reducible rfl
            try simp only [Act.put, List.setIfInBounds_toArray, List.set_cons_zero, List.set_cons_succ]
            refine wpAnyH_take (i := 11) (oi := ?_) (v := ?_) ?_ (by kernel_rfl) (by kernel_rfl) (by kernel_rfl) ?_ ?_ (by assumption) ?_
            rotate_left 2
            · simp only [List.getElem?_toArray, List.getElem?_cons_succ, List.getElem?_cons_zero]; with_reducible rfl
            · exact fun _ _ _ h => h
            · refine Or.inl ⟨by rfl, ?_⟩; intro W hSw; have q1 := hSw.c1 (i := 1) rfl; go_simp; try with_reducible rfl
            try simp only [Act.put, List.setIfInBounds_toArray, List.set_cons_zero, List.set_cons_succ]
            refine wpAnyH_take (i := 12) (oi := ?_) (v := ?_) ?_ (by kernel_rfl) (by kernel_rfl) (by kernel_rfl) ?_ ?_ (by assumption) ?_
            rotate_left 2
            · simp only [List.getElem?_toArray, List.getElem?_cons_succ, List.getElem?_cons_zero]; with_reducible rfl
            · exact fun _ _ _ h => h
            · refine Or.inl ⟨by rfl, ?_⟩; intro W hSw; go_simp; try with_reducible rfl
            try simp only [Act.put, List.setIfInBounds_toArray, List.set_cons_zero, List.set_cons_succ]
            refine wpAnyH_take (i := 13) (oi := ?_) (v := ?_) ?_ (by kernel_rfl) (by kernel_rfl) (by kernel_rfl) ?_ ?_ (by assumption) ?_
            rotate_left 2
            · simp only [List.getElem?_toArray, List.getElem?_cons_succ, List.getElem?_cons_zero]; with_reducible rfl
            · exact fun _ _ _ h => h
            · refine Or.inl ⟨by rfl, ?_⟩; intro W hSw; go_simp; try with_reducible rfl
            try simp only [Act.put, List.setIfInBounds_toArray, List.set_cons_zero, List.set_cons_succ]
            refine wpAnyH_take (i := 14) (oi := ?_) (v := ?_) ?_ (by kernel_rfl) (by kernel_rfl) (by kernel_rfl) ?_ ?_ (by assumption) ?_
            rotate_left 2
            · simp only [List.getElem?_toArray, List.getElem?_cons_succ, List.getElem?_cons_zero]; with_reducible rfl
            · exact fun _ _ _ h => h
            · refine Or.inl ⟨by rfl, ?_⟩; intro W hSw; go_simp; try with_reducible rfl
            try simp only [Act.put, List.setIfInBounds_toArray, List.set_cons_zero, List.set_cons_succ]
            refine wpAnyH_take (i := 15) (oi := ?_) (v := ?_) ?_ (by kernel_rfl) (by kernel_rfl) (by kernel_rfl) ?_ ?_ (by assumption) ?_
            rotate_left 2
            · simp only [List.getElem?_toArray, List.getElem?_cons_succ, List.getElem?_cons_zero]; with_reducible rfl
            · exact fun _ _ _ h => h
            · refine Or.inl ⟨by rfl, ?_⟩; intro W hSw; go_simp; try with_reducible rfl
            try simp only [Act.put, List.setIfInBounds_toArray, List.set_cons_zero, List.set_cons_succ]
            refine wpAnyH_done (by kernel_rfl) ?_ _
            have HD30 := Lib.hid hHeld2
            clear hb21 hb22 hHeld hHeld1 hHeld2 HD127
            have f149 : w22.cell? ⟨w122.heap.size, 0, none⟩ = some (.bool false) := HD30.out.c0 (i := 0) (b := w122.heap.size) (d := ⟨false, [], 0⟩) rfl
            have f150 : w22.cell? ⟨w122.heap.size, 1, none⟩ = some (.string (bs [])) := HD30.out.c1 (i := 0) (b := w122.heap.size) (d := ⟨false, [], 0⟩) rfl
            have f151 : w22.cell? ⟨w122.heap.size, 2, none⟩ = some (.int .i64 0) := HD30.out.c2 (i := 0) (b := w122.heap.size) (d := ⟨false, [], 0⟩) rfl
            go_wp2_with (refine (num_ok _ _).mono ?_; rintro e9 w9 ⟨rfl, rfl⟩)
            refine (HWK.out _ (HT.out.below HD30.out.below)).mono ?_
            rintro e wz ⟨rfl, hbz⟩
            have HBZ := Lib.hid (Below.call HD30.out.below hbz)
            clear hbz f149 f150 f151
            go_wp2
            go_ret
            exact ⟨rfl, HBZ.out⟩
          · obtain ⟨hbe1, hbe2⟩ := HEB.out hbl
            obtain ⟨rfl, rfl, rfl⟩ := HGOOD.out (by trivial) (by trivial) (by trivial) hbl
            replace HRM := Lib.hid (HRM.out (by trivial) (by trivial))
            refine wp_region_held_drew (S := (fun W => Decs w W [(w122.heap.size, ⟨cn, cl, cx⟩), (w.heap.size + 1, ⟨false, bl, bx⟩), (w.heap.size, ⟨an, al, ax⟩)])) (by kernel_rfl) (HD127.out.drew) (fun hHeld => ?_)
            refine wpAnyH_take (i := 0) (oi := ?_) (v := ?_) ?_ (by kernel_rfl) (by kernel_rfl) (by kernel_rfl) ?_ ?_ (by assumption) ?_
            rotate_left 2
            · simp only [List.getElem?_toArray, List.getElem?_cons_zero]; with_reducible rfl
            · exact fun _ _ _ h => h
            · refine Or.inl ⟨by rfl, ?_⟩; intro W hSw; have q0 := hSw.c0 (i := 2) rfl; have q1 := hSw.c1 (i := 2) rfl; have q2 := hSw.c2 (i := 2) rfl; go_simp; try with_reducible rfl
            try simp only [Act.put, List.setIfInBounds_toArray, List.set_cons_zero, List.set_cons_succ]
            refine wpAnyH_take (i := 6) (oi := ?_) (v := ?_) ?_ (by kernel_rfl) (by kernel_rfl) (by kernel_rfl) ?_ ?_ (by assumption) ?_
            rotate_left 2
            · simp only [List.getElem?_toArray, List.getElem?_cons_succ, List.getElem?_cons_zero]; with_reducible rfl
            · exact fun _ _ _ h => h
            · refine Or.inl ⟨by rfl, ?_⟩; intro W hSw; go_simp; try with_reducible rfl
            try simp only [Act.put, List.setIfInBounds_toArray, List.set_cons_zero, List.set_cons_succ]
            refine wpAnyH_take (i := 7) (oi := ?_) (v := ?_) ?_ (by kernel_rfl) (by kernel_rfl) (by kernel_rfl) ?_ ?_ (by assumption) ?_
            rotate_left 2
            · simp only [List.getElem?_toArray, List.getElem?_cons_succ, List.getElem?_cons_zero]; with_reducible rfl
            · exact fun _ _ _ h => h
            · refine Or.inl ⟨by rfl, ?_⟩; intro W hSw; have q0 := hSw.c0 (i := 1) rfl; go_simp; try with_reducible rfl
            try simp only [Act.put, List.setIfInBounds_toArray, List.set_cons_zero, List.set_cons_succ]
            refine wpAnyH_take (i := 8) (oi := ?_) (v := ?_) ?_ (by kernel_rfl) (by kernel_rfl) (by kernel_rfl) ?_ ?_ (by assumption) ?_
            rotate_left 2
            · simp only [List.getElem?_toArray, List.getElem?_cons_succ, List.getElem?_cons_zero]; with_reducible rfl
            · exact fun _ _ _ h => h
            · refine Or.inl ⟨by rfl, ?_⟩; intro W hSw; go_simp; try with_reducible rfl
            try simp only [Act.put, List.setIfInBounds_toArray, List.set_cons_zero, List.set_cons_succ]
            refine wpAnyH_ready (rs := [1]) (by kernel_rfl) (by simp) ?_
            refine AllReadyH.cons (o := ?_) ?_ (fun K1 hK1 => ?_) AllReadyH.nil
            rotate_left 1
            · simp only [List.getElem?_toArray, List.getElem?_cons_succ, List.getElem?_cons_zero]; with_reducible rfl
            rw [if_pos (by rfl)]
            go_simp
            refine (HMA.out _).mono ?_
            rintro e21 w21 ⟨rfl, hb21⟩
            go_wp2_with fail
            refine hK1.out _ _ (hHeld.call hb21) (fun hHeld1 => ?_)
            clear hK1 K1
            try simp only [Act.put, List.setIfInBounds_toArray, List.set_cons_zero, List.set_cons_succ]
            refine wpAnyH_take (i := 2) (oi := ?_) (v := ?_) ?_ (by kernel_rfl) (by kernel_rfl) (by kernel_rfl) ?_ ?_ (by assumption) ?_
            rotate_left 2
            · simp only [List.getElem?_toArray, List.getElem?_cons_succ, List.getElem?_cons_zero]; with_reducible rfl
            · exact fun _ _ _ h => h
            · refine Or.inl ⟨by rfl, ?_⟩; intro W hSw; go_simp; try with_reducible rfl
            try simp only [Act.put, List.setIfInBounds_toArray, List.set_cons_zero, List.set_cons_succ]
            refine wpAnyH_take (i := 3) (oi := ?_) (v := ?_) ?_ (by kernel_rfl) (by kernel_rfl) (by kernel_rfl) ?_ ?_ (by assumption) ?_
            rotate_left 2
            · simp only [List.getElem?_toArray, List.getElem?_cons_succ, List.getElem?_cons_zero]; with_reducible rfl
            · exact fun _ _ _ h => h
            · refine Or.inl ⟨by rfl, ?_⟩; intro W hSw; have q0 := hSw.c0 (i := 1) rfl; have q1 := hSw.c1 (i := 1) rfl; have q2 := hSw.c2 (i := 1) rfl; go_simp; try with_reducible rfl
            try simp only [Act.put, List.setIfInBounds_toArray, List.set_cons_zero, List.set_cons_succ]
            refine wpAnyH_ready (rs := [4]) (by kernel_rfl) (by simp) ?_
            refine AllReadyH.cons (o := ?_) ?_ (fun K2 hK2 => ?_) AllReadyH.nil
            rotate_left 1
            · simp only [List.getElem?_toArray, List.getElem?_cons_succ, List.getElem?_cons_zero]; with_reducible rfl
            rw [if_pos (by rfl)]
            go_simp
            refine (HMB.out _).mono ?_
            rintro e22 w22 ⟨rfl, hb22⟩
            go_wp2_with fail
            refine hK2.out _ _ (hHeld1.call hb22) (fun hHeld2 => ?_)
            clear hK2 K2
            try simp only [Act.put, List.setIfInBounds_toArray, List.set_cons_zero, List.set_cons_succ]
            refine wpAnyH_take (i := 5) (oi := ?_) (v := ?_) ?_ (by kernel_rfl) (by kernel_rfl) (by kernel_rfl) ?_ ?_ (by assumption) ?_
            rotate_left 2
            · simp only [List.getElem?_toArray, List.getElem?_cons_succ, List.getElem?_cons_zero]; with_reducible rfl
            · exact fun _ _ _ h => h
            · refine Or.inl ⟨by rfl, ?_⟩; intro W hSw; go_simp; try with_reducible rfl
            try simp only [Act.put, List.setIfInBounds_toArray, List.set_cons_zero, List.set_cons_succ]
            refine wpAnyH_take (i := 9) (oi := ?_) (v := ?_) ?_ (by kernel_rfl) (by kernel_rfl) (by kernel_rfl) ?_ ?_ (by assumption) ?_
            rotate_left 2
            · simp only [List.getElem?_toArray, List.getElem?_cons_succ, List.getElem?_cons_zero]; with_reducible rfl
            · exact fun _ _ _ h => h
            · refine Or.inl ⟨by rfl, ?_⟩; intro W hSw; go_simp; try with_reducible rfl
            try simp only [Act.put, List.setIfInBounds_toArray, List.set_cons_zero, List.set_cons_succ]
            refine wpAnyH_take (i := 10) (oi := ?_) (v := ?_) ?_ (by kernel_rfl) (by kernel_rfl) (by kernel_rfl) ?_ ?_ (by assumption) ?_
            rotate_left 2
            · simp only [List.getElem?_toArray, List.getElem?_cons_succ, List.getElem?_cons_zero]; with_reducible rfl
            · exact fun _ _ _ h => h
            · refine Or.inl ⟨by rfl, ?_⟩; intro W hSw; go_simp; try with_reducible rfl
            try simp only [Act.put, List.setIfInBounds_toArray, List.set_cons_zero, List.set_cons_succ]
            refine wpAnyH_take (i := 11) (oi := ?_) (v := ?_) ?_ (by kernel_rfl) (by kernel_rfl) (by kernel_rfl) ?_ ?_ (by assumption) ?_
            rotate_left 2
            · simp only [List.getElem?_toArray, List.getElem?_cons_succ, List.getElem?_cons_zero]; with_reducible rfl
            · exact fun _ _ _ h => h
            · refine Or.inl ⟨by rfl, ?_⟩; intro W hSw; have q1 := hSw.c1 (i := 1) rfl; go_simp; try with_reducible rfl
            try simp only [Act.put, List.setIfInBounds_toArray, List.set_cons_zero, List.set_cons_succ]
            refine wpAnyH_take (i := 12) (oi := ?_) (v := ?_) ?_ (by kernel_rfl) (by kernel_rfl) (by kernel_rfl) ?_ ?_ (by assumption) ?_
            rotate_left 2
            · simp only [List.getElem?_toArray, List.getElem?_cons_succ, List.getElem?_cons_zero]; with_reducible rfl
            · exact fun _ _ _ h => h
            · refine Or.inl ⟨by rfl, ?_⟩; intro W hSw; go_simp; try with_reducible rfl
            try simp only [Act.put, List.setIfInBounds_toArray, List.set_cons_zero, List.set_cons_succ]
            refine wpAnyH_take (i := 13) (oi := ?_) (v := ?_) ?_ (by kernel_rfl) (by kernel_rfl) (by kernel_rfl) ?_ ?_ (by assumption) ?_
            rotate_left 2
            · simp only [List.getElem?_toArray, List.getElem?_cons_succ, List.getElem?_cons_zero]; with_reducible rfl
            · exact fun _ _ _ h => h
            · refine Or.inl ⟨by rfl, ?_⟩; intro W hSw; go_simp; try with_reducible rfl
            try simp only [Act.put, List.setIfInBounds_toArray, List.set_cons_zero, List.set_cons_succ]
            refine wpAnyH_take (i := 14) (oi := ?_) (v := ?_) ?_ (by kernel_rfl) (by kernel_rfl) (by kernel_rfl) ?_ ?_ (by assumption) ?_
            rotate_left 2
            · simp only [List.getElem?_toArray, List.getElem?_cons_succ, List.getElem?_cons_zero]; with_reducible rfl
            · exact fun _ _ _ h => h
            · refine Or.inl ⟨by rfl, ?_⟩; intro W hSw; go_simp; try with_reducible rfl
            try simp only [Act.put, List.setIfInBounds_toArray, List.set_cons_zero, List.set_cons_succ]
            refine wpAnyH_take (i := 15) (oi := ?_) (v := ?_) ?_ (by kernel_rfl) (by kernel_rfl) (by kernel_rfl) ?_ ?_ (by assumption) ?_
            rotate_left 2
            · simp only [List.getElem?_toArray, List.getElem?_cons_succ, List.getElem?_cons_zero]; with_reducible rfl
            · exact fun _ _ _ h => h
            · refine Or.inl ⟨by rfl, ?_⟩; intro W hSw; go_simp; try with_reducible rfl
            try simp only [Act.put, List.setIfInBounds_toArray, List.set_cons_zero, List.set_cons_succ]
            refine wpAnyH_done (by kernel_rfl) ?_ _
            have HD30 := Lib.hid hHeld2
            clear hb21 hb22 hHeld hHeld1 hHeld2 HD127
            have f152 : w22.cell? ⟨w.heap.size, 0, none⟩ = some (.bool an) := HD30.out.c0 (i := 2) (b := w.heap.size) (d := ⟨an, al, ax⟩) rfl
            have f153 : w22.cell? ⟨w.heap.size, 1, none⟩ = some (.string (bs al)) := HD30.out.c1 (i := 2) (b := w.heap.size) (d := ⟨an, al, ax⟩) rfl
            have f154 : w22.cell? ⟨w.heap.size, 2, none⟩ = some (.int .i64 ax) := HD30.out.c2 (i := 2) (b := w.heap.size) (d := ⟨an, al, ax⟩) rfl
            have f155 : w22.cell? ⟨w.heap.size + 1, 0, none⟩ = some (.bool false) := HD30.out.c0 (i := 1) (b := w.heap.size + 1) (d := ⟨false, bl, bx⟩) rfl
            have f156 : w22.cell? ⟨w.heap.size + 1, 1, none⟩ = some (.string (bs bl)) := HD30.out.c1 (i := 1) (b := w.heap.size + 1) (d := ⟨false, bl, bx⟩) rfl
            have f157 : w22.cell? ⟨w.heap.size + 1, 2, none⟩ = some (.int .i64 bx) := HD30.out.c2 (i := 1) (b := w.heap.size + 1) (d := ⟨false, bl, bx⟩) rfl
            go_wp2_with fail
            refine (HRM.out _).mono ?_
            rintro e w158 ⟨rfl, hb159⟩
            have HD160 := Lib.hid (HD30.out.call hb159)
            clear hb159 HD30 f152 f153 f154 f155 f156 f157
            clear hbe1 hbe2
            go_upto_region 10 with (refine (num_ok _ _).mono ?_; rintro e9 w9 ⟨rfl, rfl⟩)
            cases an with
            | true =>
              obtain ⟨hz9, rfl⟩ := HCB.out (by simp)
              injection hz9 with hz1 hz2 hz3
              subst hz1 hz2 hz3
              have f161 : w158.cell? ⟨w.heap.size, 0, none⟩ = some (.bool true) := HD160.out.c0 (i := 2) (b := w.heap.size) (d := ⟨true, al, ax⟩) rfl
              have f162 : w158.cell? ⟨w.heap.size, 1, none⟩ = some (.string (bs al)) := HD160.out.c1 (i := 2) (b := w.heap.size) (d := ⟨true, al, ax⟩) rfl
              have f163 : w158.cell? ⟨w.heap.size, 2, none⟩ = some (.int .i64 ax) := HD160.out.c2 (i := 2) (b := w.heap.size) (d := ⟨true, al, ax⟩) rfl
              have f164 : w158.cell? ⟨w122.heap.size, 0, none⟩ = some (.bool false) := HD160.out.c0 (i := 0) (b := w122.heap.size) (d := ⟨false, [], 0⟩) rfl
              have f165 : w158.cell? ⟨w122.heap.size, 1, none⟩ = some (.string (bs [])) := HD160.out.c1 (i := 0) (b := w122.heap.size) (d := ⟨false, [], 0⟩) rfl
              have f166 : w158.cell? ⟨w122.heap.size, 2, none⟩ = some (.int .i64 0) := HD160.out.c2 (i := 0) (b := w122.heap.size) (d := ⟨false, [], 0⟩) rfl
              go_wp2_with (refine (num_ok _ _).mono ?_; rintro e9 w9 ⟨rfl, rfl⟩)
              refine (HWK.out _ (HT.out.below HD160.out.below)).mono ?_
              rintro e wz ⟨rfl, hbz⟩
              have HBZ := Lib.hid (Below.call HD160.out.below hbz)
              clear hbz f161 f162 f163 f164 f165 f166
              go_wp2
              go_ret
              exact ⟨rfl, HBZ.out⟩
            | false =>
              by_cases hal : al = []
              · subst hal
                obtain ⟨hz9, rfl⟩ := HCB.out (by simp)
                injection hz9 with hz1 hz2 hz3
                subst hz1 hz2 hz3
                have f167 : w158.cell? ⟨w.heap.size, 0, none⟩ = some (.bool false) := HD160.out.c0 (i := 2) (b := w.heap.size) (d := ⟨false, [], ax⟩) rfl
                have f168 : w158.cell? ⟨w.heap.size, 1, none⟩ = some (.string (bs [])) := HD160.out.c1 (i := 2) (b := w.heap.size) (d := ⟨false, [], ax⟩) rfl
                have f169 : w158.cell? ⟨w.heap.size, 2, none⟩ = some (.int .i64 ax) := HD160.out.c2 (i := 2) (b := w.heap.size) (d := ⟨false, [], ax⟩) rfl
                have f170 : w158.cell? ⟨w122.heap.size, 0, none⟩ = some (.bool false) := HD160.out.c0 (i := 0) (b := w122.heap.size) (d := ⟨false, [], 0⟩) rfl
                have f171 : w158.cell? ⟨w122.heap.size, 1, none⟩ = some (.string (bs [])) := HD160.out.c1 (i := 0) (b := w122.heap.size) (d := ⟨false, [], 0⟩) rfl
                have f172 : w158.cell? ⟨w122.heap.size, 2, none⟩ = some (.int .i64 0) := HD160.out.c2 (i := 0) (b := w122.heap.size) (d := ⟨false, [], 0⟩) rfl
                go_wp2_with (refine (num_ok _ _).mono ?_; rintro e9 w9 ⟨rfl, rfl⟩)
                refine (HWK.out _ (HT.out.below HD160.out.below)).mono ?_
                rintro e wz ⟨rfl, hbz⟩
                have HBZ := Lib.hid (Below.call HD160.out.below hbz)
                clear hbz f167 f168 f169 f170 f171 f172
                go_wp2
                go_ret
                exact ⟨rfl, HBZ.out⟩
              · obtain ⟨hae1, hae2⟩ := HEA.out hal
                obtain rfl := HAB.out (by trivial) (by trivial) hal
                replace HRC := Lib.hid (HRC.out (by trivial) (by trivial))
                have f173 : w158.cell? ⟨w.heap.size, 0, none⟩ = some (.bool false) := HD160.out.c0 (i := 2) (b := w.heap.size) (d := ⟨false, al, ax⟩) rfl
                have f174 : w158.cell? ⟨w.heap.size, 1, none⟩ = some (.string (bs al)) := HD160.out.c1 (i := 2) (b := w.heap.size) (d := ⟨false, al, ax⟩) rfl
                have f175 : w158.cell? ⟨w.heap.size, 2, none⟩ = some (.int .i64 ax) := HD160.out.c2 (i := 2) (b := w.heap.size) (d := ⟨false, al, ax⟩) rfl
                have f176 : w158.cell? ⟨w.heap.size + 1, 0, none⟩ = some (.bool false) := HD160.out.c0 (i := 1) (b := w.heap.size + 1) (d := ⟨false, bl, bx⟩) rfl
                have f177 : w158.cell? ⟨w.heap.size + 1, 1, none⟩ = some (.string (bs bl)) := HD160.out.c1 (i := 1) (b := w.heap.size + 1) (d := ⟨false, bl, bx⟩) rfl
                have f178 : w158.cell? ⟨w.heap.size + 1, 2, none⟩ = some (.int .i64 bx) := HD160.out.c2 (i := 1) (b := w.heap.size + 1) (d := ⟨false, bl, bx⟩) rfl
                go_wp2_with fail
                refine (HRC.out _).mono ?_
                rintro e w179 ⟨rfl, hb180⟩
                have HD181 := Lib.hid (HD160.out.call hb180)
                clear hb180 HD160 f173 f174 f175 f176 f177 f178
                obtain ⟨w182, hw183⟩ : ∃ w9, w9 = w179.alloc (.cells #[.bool cn, .string (bs cl), .int .i64 cx] 24) := ⟨_, rfl⟩
                have HD184 : Hid (Decs w w182 [(w179.heap.size, ⟨cn, cl, cx⟩), (w122.heap.size, ⟨cn, cl, cx⟩), (w.heap.size + 1, ⟨false, bl, bx⟩), (w.heap.size, ⟨false, al, ax⟩)]) := Lib.hid (by rw [hw183]; exact HD181.out.var cn cl cx)
                clear HD181
                go_upto_region 13 with fail
                rw [← hw183]
                clear hw183
                clear hae1 hae2
                have f185 : w182.cell? ⟨w122.heap.size, 0, none⟩ = some (.bool cn) := HD184.out.c0 (i := 1) (b := w122.heap.size) (d := ⟨cn, cl, cx⟩) rfl
                have f186 : w182.cell? ⟨w122.heap.size, 1, none⟩ = some (.string (bs cl)) := HD184.out.c1 (i := 1) (b := w122.heap.size) (d := ⟨cn, cl, cx⟩) rfl
                have f187 : w182.cell? ⟨w122.heap.size, 2, none⟩ = some (.int .i64 cx) := HD184.out.c2 (i := 1) (b := w122.heap.size) (d := ⟨cn, cl, cx⟩) rfl
                have f188 : w182.cell? ⟨w179.heap.size, 0, none⟩ = some (.bool cn) := HD184.out.c0 (i := 0) (b := w179.heap.size) (d := ⟨cn, cl, cx⟩) rfl
                have f189 : w182.cell? ⟨w179.heap.size, 1, none⟩ = some (.string (bs cl)) := HD184.out.c1 (i := 0) (b := w179.heap.size) (d := ⟨cn, cl, cx⟩) rfl
                have f190 : w182.cell? ⟨w179.heap.size, 2, none⟩ = some (.int .i64 cx) := HD184.out.c2 (i := 0) (b := w179.heap.size) (d := ⟨cn, cl, cx⟩) rfl
                go_wp2_with (refine (num_ok _ _).mono ?_; rintro e9 w9 ⟨rfl, rfl⟩)
                refine (HWK.out _ (HT.out.below HD184.out.below)).mono ?_
                rintro e wz ⟨rfl, hbz⟩
                have HBZ := Lib.hid (Below.call HD184.out.below hbz)
                clear hbz f185 f186 f187 f188 f189 f190
                go_wp2
                go_ret
                exact ⟨rfl, HBZ.out⟩
end Go.Proofs.YthgjelpmdndceaaGreatDoor
/- Layer 7's laws: what they are handed, opened. -/
namespace Go.Proofs.YthgjelpmdndceaaGreatDoor
open Go.RowKit Go.ChangeShapes Go.WideShapes Go.Deep

section
variable {H : Type} {enc : TypeId × Value → H} {w : World}
set_option maxRecDepth 100000 in
theorem open_dec {r : Reach} {b0 : Nat} {v : Value} {d : DataW H} {p : List MemPlace} (hv : Value.okWide Tryz.prog w r b0 24 v) (h : DataW.Trod enc Tryz.prog w 0 (fun _ => true) true 24 v d p) :
    ∃ c : Dec, v = decV c ∧ c.digits.length ≤ 9223372036854775807 := by
  obtain ⟨cs, rfl, hsz⟩ := okWide_struct Tryz.underlying24 hv
  obtain ⟨fuel, hf⟩ := h
  obtain ⟨hl2, n', hg⟩ := fields_one Tryz.underlying24 (by kernel_rfl) (by kernel_rfl) hf
  obtain ⟨v0, y0, e0, t0⟩ := hg 0 _ rfl
  obtain ⟨v1, y1, e1, t1⟩ := hg 1 _ rfl
  obtain ⟨v2, y2, e2, t2⟩ := hg 2 _ rfl
  obtain ⟨k0, hk0, _⟩ := DataW.trod_bool Tryz.underlying4 t0
  obtain ⟨k1, hk1, _, w1⟩ := DataW.trod_string Tryz.underlying9 t1
  obtain ⟨k2, hk2, _, w2⟩ := DataW.trod_int Tryz.underlying3 t2
  injection hk0 with hk0
  injection hk1 with hk1
  injection hk2 with hk2
  subst hk0; subst hk1; subst hk2
  have hcc : (Value.agg cs).cells.toList = cs.toList := by simp [Value.cells]
  rw [hcc] at hl2 e0 e1 e2
  have hl3 : cs.toList.length = 3 := hl2
  refine ⟨⟨k0, k1.data.toList, k2⟩, ?_, by have : k1.data.toList.length = k1.size := Array.length_toList; unfold maxLen at w1; simp only; omega⟩
  unfold decV
  refine agg_of (l := [.bool k0, .string (bs k1.data.toList), .int .i64 k2]) hl3 fun j hj => ?_
  rw [← bs_of]
  have hj : j < 3 := hj
  rcases (by omega : j = 0 ∨ j = 1 ∨ j = 2) with rfl | rfl | rfl
  · rw [e0]; rfl
  · rw [e1]; rfl
  · rw [e2]; rfl
end
end Go.Proofs.YthgjelpmdndceaaGreatDoor
