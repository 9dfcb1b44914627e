/- Layer 7: Compare, and what it calls. -/
import Derived.Test.YtlcbjikiodmlfaaGreatDoorPt06
import Derived.Test.YtlcbjikiodmlfaaGreatDoorPt15
import Derived.Test.YtlcbjikiodmlfaaGreatDoorPt18
namespace Go.Proofs.YtlcbjikiodmlfaaGreatDoor
open Go.RowKit

theorem nanI_ok (x : Int) (w : World) : Calls Tryz.prog 61 #[.int .i64 x] w fun e w' => e = .returned (.bool false) ∧ w = w' := by
  go_enter Tryz.func61, Tryz.ntmps61
  go_wp2
  go_ret
  exact ⟨by simp, rfl⟩
theorem nanS_ok (s : ByteArray) (w : World) : Calls Tryz.prog 62 #[.string s] w fun e w' => e = .returned (.bool false) ∧ w = w' := by
  go_enter Tryz.func62, Tryz.ntmps62
  go_wp2
  go_ret
  exact ⟨by simp, rfl⟩
set_option maxHeartbeats 1000000 in
theorem cmpI_ok (x y : Int) (w : World) : Calls Tryz.prog 51 #[.int .i64 x, .int .i64 y] w fun e w' => e = .returned (.int .i64 (cmpZ x y)) ∧ w = w' := by
  go_enter Tryz.func51, Tryz.ntmps51
  go_wp2_with (refine (nanI_ok _ _).mono ?_; rintro e w' ⟨rfl, rfl⟩)
  all_goals (go_ret; refine ⟨?_, rfl⟩; unfold cmpZ; (repeat' split) <;> first | rfl | (exfalso; omega))
theorem cmpB_less (a b : List UInt8) : cmpB a b = if Op.bytesLess a b then -1 else if a == b then 0 else 1 := by
  induction a generalizing b with
  | nil => cases b <;> rfl
  | cons x l ih =>
    cases b with
    | nil => rfl
    | cons y m =>
      show (if x.toNat < y.toNat then -1 else if y.toNat < x.toNat then 1 else cmpB l m) = _
      rw [ih m, show Op.bytesLess (x :: l) (y :: m) = (decide (x < y) || (x == y && Op.bytesLess l m)) from rfl]
      by_cases h1 : x.toNat < y.toNat
      · have h : x < y := UInt8.lt_iff_toNat_lt.2 h1
        simp [h1, h]
      · have h : ¬ x < y := fun h => h1 (UInt8.lt_iff_toNat_lt.1 h)
        by_cases h2 : y.toNat < x.toNat
        · have h3 : ¬ x = y := fun e => by rw [e] at h2; omega
          simp [h1, h2, h, h3]
        · have h3 : x = y := UInt8.toNat_inj.1 (by omega)
          subst h3
          simp
set_option maxHeartbeats 1000000 in
theorem cmpS_ok (a b : List UInt8) (w : World) : Calls Tryz.prog 53 #[.string (bs a), .string (bs b)] w fun e w' => e = .returned (.int .i64 (cmpB a b)) ∧ w = w' := by
  have h := cmpB_less a b
  have h1 : (bs a).toList = a := bs_toList a
  have h2 : (bs b).toList = b := bs_toList b
  generalize bs a = s at *
  generalize bs b = t at *
  rw [h]
  clear h
  cases c1 : Op.bytesLess a b <;> cases c2 : (a == b)
  all_goals
    go_enter Tryz.func53, Tryz.ntmps53
    go_wp2_with (refine (nanS_ok _ _).mono ?_; rintro e w' ⟨rfl, rfl⟩)
    go_ret
    exact ⟨rfl, rfl⟩
theorem cmpOr_ok (b off c : Nat) (x y r : Int) (HR : Hid (r = if x ≠ 0 then x else y)) (w : World) (hx : w.cell? ⟨b, off, none⟩ = some (.int .i64 x)) (hy : w.cell? ⟨b, off + 1, none⟩ = some (.int .i64 y)) :
    Calls Tryz.prog 52 #[.slice (some ⟨b, off, none⟩) 2 c] w fun e w' => e = .returned (.int .i64 r) ∧ w = w' := by
  go_enter Tryz.func52, Tryz.ntmps52
  go_wp2_with fail
  go_loop [8] (fun v8 => v8 = .int .i64 0 ∨ (v8 = .int .i64 1 ∧ x = 0) ∨ (v8 = .int .i64 2 ∧ x = 0 ∧ y = 0)) (fun v8 => 2 - (intOf v8).toNat)
  case atStart => exact Or.inl rfl
  case round =>
    rcases hrel with rfl | ⟨rfl, hz⟩ | ⟨rfl, hz, hz2⟩
    · by_cases h0 : x = 0
      · subst h0
        go_wp2
        go_round
        case rel => simp
        case measure => simp [intOf]
      · have hb : (x == 0) = false := by rw [beq_eq_false_iff_ne]; exact h0
        go_wp2
        go_ret
        exact ⟨by rw [HR.out, if_pos h0]; rfl, rfl⟩
    · subst hz
      by_cases h0 : y = 0
      · subst h0
        go_wp2
        go_round
        case rel => simp
        case measure => simp [intOf]
      · have hb : (y == 0) = false := by rw [beq_eq_false_iff_ne]; exact h0
        go_wp2
        go_ret
        exact ⟨by rw [HR.out, if_neg (by simp)]; rfl, rfl⟩
    · subst hz hz2
      go_wp2
      go_ret
      exact ⟨by rw [HR.out, if_neg (by simp)]; rfl, rfl⟩

set_option maxHeartbeats 1000000 in
theorem size_ok (a b : Dec) (w : World) (ha : a.digits.length ≤ 140737488355328) (ha2 : -4611686018427387904 ≤ a.exp) (ha3 : a.exp ≤ 4611686018427387904) (hb : b.digits.length ≤ 140737488355328) (hb2 : -4611686018427387904 ≤ b.exp) (hb3 : b.exp ≤ 4611686018427387904) :
    Calls Tryz.prog 27 #[decV a, decV b] w fun e w' => e = .returned (.int .i64 (sizeI a b)) ∧ Below w.heap.size w w' := by
  obtain ⟨an, al, ae⟩ := a
  obtain ⟨bn, bl, be⟩ := b
  simp only at ha ha2 ha3 hb hb2 hb3
  have HZA := Lib.hid (fun W => isZero_ok ⟨an, al, ae⟩ W)
  have HZB := Lib.hid (fun W => isZero_ok ⟨bn, bl, be⟩ W)
  have HPA := Lib.hid (fun W => place_ok ⟨an, al, ae⟩ W ha ha2 ha3)
  have HPB := Lib.hid (fun W => place_ok ⟨bn, bl, be⟩ W hb hb2 hb3)
  unfold decV at *
  simp only at HZA HZB HPA HPB ⊢
  have hsa := bs_size al
  have hsb := bs_size bl
  have HS : Hid (sizeI ⟨an, al, ae⟩ ⟨bn, bl, be⟩ = if al = [] ∨ bl = [] then cmpZ al.length bl.length else if cmpZ (al.length + ae) (bl.length + be) ≠ 0 then cmpZ (al.length + ae) (bl.length + be) else cmpB al bl) := Lib.hid rfl
  generalize sizeI ⟨an, al, ae⟩ ⟨bn, bl, be⟩ = r at *
  obtain ⟨w2, hw2⟩ : ∃ w2, w2 = (w.alloc (.cells #[.bool an, .string (bs al), .int .i64 ae] 24)).alloc (.cells #[.bool bn, .string (bs bl), .int .i64 be] 24) := ⟨_, rfl⟩
  have hra : Row w2 w.heap.size 24 #[.bool an, .string (bs al), .int .i64 ae] := by subst hw2; exact (Row.new _ _ _).alloc _
  have hrb : Row w2 (w.heap.size + 1) 24 #[.bool bn, .string (bs bl), .int .i64 be] := by
    subst hw2
    have := Row.new (w.alloc (.cells #[.bool an, .string (bs al), .int .i64 ae] 24)) 24 #[.bool bn, .string (bs bl), .int .i64 be]
    rwa [show (w.alloc (.cells #[.bool an, .string (bs al), .int .i64 ae] 24)).heap.size = w.heap.size + 1 by simp] at this
  have hb2 : Below w.heap.size w w2 := by subst hw2; exact ((Below.refl _ _).alloc (Nat.le_refl _) _).alloc (by simp) _
  have HB2 := Lib.hid hb2
  have HRA := Lib.hid hra
  have HRB := Lib.hid hrb
  clear hb2 hra hrb
  go_enter Tryz.func27, Tryz.ntmps27
  go_upto_region 2 with fail
  rw [← hw2]
  clear hw2
  have hca1 : ∀ W : World, Below w2.heap.size w2 W → W.cell? ⟨w.heap.size, 1, none⟩ = some (.string (bs al)) := fun W hb => (HRA.out.call hb).cell rfl
  have hca2 : ∀ W : World, Below w2.heap.size w2 W → W.cell? ⟨w.heap.size, 2, none⟩ = some (.int .i64 ae) := fun W hb => (HRA.out.call hb).cell rfl
  have hca0 : ∀ W : World, Below w2.heap.size w2 W → W.cell? ⟨w.heap.size, 0, none⟩ = some (.bool an) := fun W hb => (HRA.out.call hb).cell rfl
  have hcb1 : ∀ W : World, Below w2.heap.size w2 W → W.cell? ⟨w.heap.size + 1, 1, none⟩ = some (.string (bs bl)) := fun W hb => (HRB.out.call hb).cell rfl
  have hcb2 : ∀ W : World, Below w2.heap.size w2 W → W.cell? ⟨w.heap.size + 1, 2, none⟩ = some (.int .i64 be) := fun W hb => (HRB.out.call hb).cell rfl
  have hcb0 : ∀ W : World, Below w2.heap.size w2 W → W.cell? ⟨w.heap.size + 1, 0, none⟩ = some (.bool bn) := fun W hb => (HRB.out.call hb).cell rfl
  refine (HZA.out _).mono ?_
  rintro e w3 ⟨rfl, hb3⟩
  cases ea : decide (al = []) with
  | true =>
    have HS2 : Hid (r = cmpZ al.length bl.length) := Lib.hid (by rw [HS.out, if_pos (Or.inl (of_decide_eq_true ea))])
    go_wp2_with (refine (cmpI_ok _ _ _).mono ?_; rintro e w' ⟨rfl, rfl⟩)
    go_ret
    exact ⟨by rw [HS2.out]; rfl, HB2.out.call hb3⟩
  | false =>
    go_wp2_with fail
    refine (HZB.out _).mono ?_
    rintro e w4 ⟨rfl, hb4⟩
    have hb5 := hb3.call hb4
    cases eb : decide (bl = []) with
    | true =>
      have HS2 : Hid (r = cmpZ al.length bl.length) := Lib.hid (by rw [HS.out, if_pos (Or.inr (of_decide_eq_true eb))])
      go_wp2_with (refine (cmpI_ok _ _ _).mono ?_; rintro e w' ⟨rfl, rfl⟩)
      go_ret
      exact ⟨by rw [HS2.out]; rfl, HB2.out.call hb5⟩
    | false =>
      have HS2 : Hid (r = if cmpZ (al.length + ae) (bl.length + be) ≠ 0 then cmpZ (al.length + ae) (bl.length + be) else cmpB al bl) := Lib.hid (by rw [HS.out, if_neg (fun h => h.elim (of_decide_eq_false ea) (of_decide_eq_false eb))])
      go_wp2_with fail
      refine wp_region_held_drew (S := (fun W => Below w2.heap.size w2 W)) (by kernel_rfl) (hb5.drew) (fun hHeld => ?_)
      refine wpAnyH_take (i := 0) (oi := ?_) (v := ?_) ?_ (by kernel_rfl) (by kernel_rfl) (by kernel_rfl) ?_ ?_ (by assumption) ?_
      rotate_left 2
      · simp only [List.getElem?_toArray, List.getElem?_cons_zero]; with_reducible rfl
      · exact fun _ _ _ h => h
      · refine Or.inl ⟨by rfl, ?_⟩; intro W hSw; have hSw2 : Below w2.heap.size w2 W := hSw; go_simp; try with_reducible rfl
      try simp only [Act.put, List.setIfInBounds_toArray, List.set_cons_zero, List.set_cons_succ]
      refine wpAnyH_take (i := 2) (oi := ?_) (v := ?_) ?_ (by kernel_rfl) (by kernel_rfl) (by kernel_rfl) ?_ ?_ (by assumption) ?_
      rotate_left 2
      · simp only [List.getElem?_toArray, List.getElem?_cons_succ, List.getElem?_cons_zero]; with_reducible rfl
      · exact fun _ _ _ h => h
      · refine Or.inl ⟨by rfl, ?_⟩; intro W hSw; have hSw2 : Below w2.heap.size w2 W := hSw; go_simp; try with_reducible rfl
      try simp only [Act.put, List.setIfInBounds_toArray, List.set_cons_zero, List.set_cons_succ]
      refine wpAnyH_take (i := 5) (oi := ?_) (v := ?_) ?_ (by kernel_rfl) (by kernel_rfl) (by kernel_rfl) ?_ ?_ (by assumption) ?_
      rotate_left 2
      · simp only [List.getElem?_toArray, List.getElem?_cons_succ, List.getElem?_cons_zero]; with_reducible rfl
      · exact fun _ _ _ h => h
      · refine Or.inl ⟨by rfl, ?_⟩; intro W hSw; go_simp; try with_reducible rfl
      try simp only [Act.put, List.setIfInBounds_toArray, List.set_cons_zero, List.set_cons_succ]
      refine wpAnyH_take (i := 6) (oi := ?_) (v := ?_) ?_ (by kernel_rfl) (by kernel_rfl) (by kernel_rfl) ?_ ?_ (by assumption) ?_
      rotate_left 2
      · simp only [List.getElem?_toArray, List.getElem?_cons_succ, List.getElem?_cons_zero]; with_reducible rfl
      · exact fun _ _ _ h => h
      · refine Or.inl ⟨by rfl, ?_⟩; intro W hSw; have hSw2 : Below w2.heap.size w2 W := hSw; go_simp; try with_reducible rfl
      try simp only [Act.put, List.setIfInBounds_toArray, List.set_cons_zero, List.set_cons_succ]
      refine wpAnyH_take (i := 7) (oi := ?_) (v := ?_) ?_ (by kernel_rfl) (by kernel_rfl) (by kernel_rfl) ?_ ?_ (by assumption) ?_
      rotate_left 2
      · simp only [List.getElem?_toArray, List.getElem?_cons_succ, List.getElem?_cons_zero]; with_reducible rfl
      · exact fun _ _ _ h => h
      · refine Or.inl ⟨by rfl, ?_⟩; intro W hSw; go_simp; try with_reducible rfl
      try simp only [Act.put, List.setIfInBounds_toArray, List.set_cons_zero, List.set_cons_succ]
      refine wpAnyH_take (i := 8) (oi := ?_) (v := ?_) ?_ (by kernel_rfl) (by kernel_rfl) (by kernel_rfl) ?_ ?_ (by assumption) ?_
      rotate_left 2
      · simp only [List.getElem?_toArray, List.getElem?_cons_succ, List.getElem?_cons_zero]; with_reducible rfl
      · exact fun _ _ _ h => h
      · refine Or.inl ⟨by rfl, ?_⟩; intro W hSw; have hSw2 : Below w2.heap.size w2 W := hSw; go_simp; try with_reducible rfl
      try simp only [Act.put, List.setIfInBounds_toArray, List.set_cons_zero, List.set_cons_succ]
      refine wpAnyH_ready (rs := [1]) (by kernel_rfl) (by simp) ?_
      refine AllReadyH.cons (o := ?_) ?_ (fun K1 hK1 => ?_) AllReadyH.nil
      rotate_left 1
      · simp only [List.getElem?_toArray, List.getElem?_cons_succ, List.getElem?_cons_zero]; with_reducible rfl
      rw [if_pos (by rfl)]
      go_simp
      refine (HPA.out _).mono ?_
      rintro e6 w6 ⟨rfl, hb6⟩
      go_wp2_with fail
      refine hK1.out _ _ (Below.call hHeld hb6) (fun hHeld1 => ?_)
      clear hK1 K1
      try simp only [Act.put, List.setIfInBounds_toArray, List.set_cons_zero, List.set_cons_succ]
      refine wpAnyH_ready (rs := [3]) (by kernel_rfl) (by simp) ?_
      refine AllReadyH.cons (o := ?_) ?_ (fun K2 hK2 => ?_) AllReadyH.nil
      rotate_left 1
      · simp only [List.getElem?_toArray, List.getElem?_cons_succ, List.getElem?_cons_zero]; with_reducible rfl
      rw [if_pos (by rfl)]
      go_simp
      refine (HPB.out _).mono ?_
      rintro e7 w7 ⟨rfl, hb7⟩
      go_wp2_with fail
      refine hK2.out _ _ (Below.call hHeld1 hb7) (fun hHeld2 => ?_)
      clear hK2 K2
      try simp only [Act.put, List.setIfInBounds_toArray, List.set_cons_zero, List.set_cons_succ]
      refine wpAnyH_ready (rs := [4]) (by kernel_rfl) (by simp) ?_
      refine AllReadyH.cons (o := ?_) ?_ (fun K3 hK3 => ?_) AllReadyH.nil
      rotate_left 1
      · simp only [List.getElem?_toArray, List.getElem?_cons_succ, List.getElem?_cons_zero]; with_reducible rfl
      rw [if_pos (by rfl)]
      go_simp
      refine (cmpI_ok _ _ _).mono ?_
      rintro e8 w8 ⟨rfl, rfl⟩
      go_wp2_with fail
      refine hK3.out _ _ (hHeld2) (fun hHeld3 => ?_)
      clear hK3 K3
      try simp only [Act.put, List.setIfInBounds_toArray, List.set_cons_zero, List.set_cons_succ]
      refine wpAnyH_ready (rs := [9]) (by kernel_rfl) (by simp) ?_
      refine AllReadyH.cons (o := ?_) ?_ (fun K4 hK4 => ?_) AllReadyH.nil
      rotate_left 1
      · simp only [List.getElem?_toArray, List.getElem?_cons_succ, List.getElem?_cons_zero]; with_reducible rfl
      rw [if_pos (by rfl)]
      go_simp
      refine (cmpS_ok _ _ _).mono ?_
      rintro e9 w9 ⟨rfl, rfl⟩
      go_wp2_with fail
      refine hK4.out _ _ (hHeld2) (fun hHeld4 => ?_)
      clear hK4 K4
      try simp only [Act.put, List.setIfInBounds_toArray, List.set_cons_zero, List.set_cons_succ]
      refine wpAnyH_ready (rs := [10]) (by kernel_rfl) (by simp) ?_
      refine AllReadyH.cons (o := ?_) ?_ (fun K5 hK5 => ?_) AllReadyH.nil
      rotate_left 1
      · simp only [List.getElem?_toArray, List.getElem?_cons_succ, List.getElem?_cons_zero]; with_reducible rfl
      rw [if_pos (by rfl)]
      go_simp
      skip
      go_wp2_with fail
      refine hK5.out _ _ ((Below.alloc hHeld2 hHeld2.size _)) (fun hHeld5 => ?_)
      clear hK5 K5
      try simp only [Act.put, List.setIfInBounds_toArray, List.set_cons_zero, List.set_cons_succ]
      refine wpAnyH_ready (rs := [11]) (by kernel_rfl) (by simp) ?_
      refine AllReadyH.cons (o := ?_) ?_ (fun K6 hK6 => ?_) AllReadyH.nil
      rotate_left 1
      · simp only [List.getElem?_toArray, List.getElem?_cons_succ, List.getElem?_cons_zero]; with_reducible rfl
      rw [if_pos (by rfl)]
      go_simp
      refine (cmpOr_ok w7.heap.size 0 2 (cmpZ (al.length + ae) (bl.length + be)) (cmpB al bl) r HS2 _ ((Row.new _ _ _).cell (i := 0) rfl) ((Row.new _ _ _).cell (i := 1) rfl)).mono ?_
      rintro e9 w9 ⟨rfl, rfl⟩
      go_wp2_with fail
      refine hK6.out _ _ (hHeld5) (fun hHeld6 => ?_)
      clear hK6 K6
      try simp only [Act.put, List.setIfInBounds_toArray, List.set_cons_zero, List.set_cons_succ]
      refine wpAnyH_take (i := 12) (oi := ?_) (v := ?_) ?_ (by kernel_rfl) (by kernel_rfl) (by kernel_rfl) ?_ ?_ (by assumption) ?_
      rotate_left 2
      · simp only [List.getElem?_toArray, List.getElem?_cons_succ, List.getElem?_cons_zero]; with_reducible rfl
      · exact fun _ _ _ h => h
      · refine Or.inl ⟨by rfl, ?_⟩; intro W hSw; go_simp; try with_reducible rfl
      try simp only [Act.put, List.setIfInBounds_toArray, List.set_cons_zero, List.set_cons_succ]
      refine wpAnyH_done (by kernel_rfl) ?_ _
      go_wp2
      go_ret
      exact ⟨rfl, HB2.out.trans (hHeld5.mono HB2.out.size)⟩
/-- What Compare tells. -/
def cmpE (a b : Dec) : Nat := if mayB a = true ∧ mayB b = true then 0 else 2
def cmpI (a b : Dec) : Int := if mayB a = true ∧ mayB b = true then cmpD a b else 0
def CmpPost (w : World) (a b : Dec) (e : Ending) (w' : World) : Prop := e = .returned (.tuple #[.int .i64 (cmpI a b), .int .i64 (cmpE a b)]) ∧ Below w.heap.size w w'
set_option maxHeartbeats 1000000 in
theorem compare_ok (a b : Dec) (w : World) (ha : a.digits.length ≤ 140737488355328) (hb : b.digits.length ≤ 140737488355328) :
    Calls Tryz.prog 10 #[decV a, decV b] w (CmpPost w a b) := by
  have HCA := Lib.hid (fun W => check_ok a W (by omega))
  have HCB := Lib.hid (fun W => check_ok b W (by omega))
  have HSZ := Lib.hid (fun (ma : mayB a = true) (mb : mayB b = true) W => size_ok a b W ha (by have := ((mayB_iff a).1 ma).lo; omega) (by have := ((mayB_iff a).1 ma).hi; omega) hb (by have := ((mayB_iff b).1 mb).lo; omega) (by have := ((mayB_iff b).1 mb).hi; omega))
  have HSW := Lib.hid (fun (ma : mayB a = true) (mb : mayB b = true) W => size_ok b a W hb (by have := ((mayB_iff b).1 mb).lo; omega) (by have := ((mayB_iff b).1 mb).hi; omega) ha (by have := ((mayB_iff a).1 ma).lo; omega) (by have := ((mayB_iff a).1 ma).hi; omega))
  have HNO : Hid (¬ (mayB a = true ∧ mayB b = true) → cmpI a b = 0 ∧ cmpE a b = 2) := Lib.hid fun h => by unfold cmpI cmpE; rw [if_neg h, if_neg h]; exact ⟨rfl, rfl⟩
  have HYES : Hid (mayB a = true → mayB b = true → cmpI a b = cmpD a b ∧ cmpE a b = 0) := Lib.hid fun h h' => by unfold cmpI cmpE; rw [if_pos ⟨h, h'⟩, if_pos ⟨h, h'⟩]; exact ⟨rfl, rfl⟩
  have HCD : Hid (cmpD a b = if a.neg = true ∧ b.neg = true then sizeI b a else if a.neg = true then -1 else if b.neg = true then 1 else sizeI a b) := Lib.hid rfl
  unfold CmpPost
  generalize cmpI a b = ri at *
  generalize cmpE a b = re at *
  generalize cmpD a b = rd at *
  generalize sizeI a b = sz at *
  generalize sizeI b a = sw at *
  obtain ⟨an, al, ae⟩ := a
  obtain ⟨bn, bl, be⟩ := b
  simp only at ha hb HCD
  unfold decV at *
  simp only at HCA HCB HSZ HSW ⊢
  obtain ⟨w2, hw2⟩ : ∃ w2, w2 = (w.alloc (.cells #[.bool an, .string (bs al), .int .i64 ae] 24)).alloc (.cells #[.bool bn, .string (bs bl), .int .i64 be] 24) := ⟨_, rfl⟩
  have hra : Row w2 w.heap.size 24 #[.bool an, .string (bs al), .int .i64 ae] := by subst hw2; exact (Row.new _ _ _).alloc _
  have hrb : Row w2 (w.heap.size + 1) 24 #[.bool bn, .string (bs bl), .int .i64 be] := by
    subst hw2
    have := Row.new (w.alloc (.cells #[.bool an, .string (bs al), .int .i64 ae] 24)) 24 #[.bool bn, .string (bs bl), .int .i64 be]
    rwa [show (w.alloc (.cells #[.bool an, .string (bs al), .int .i64 ae] 24)).heap.size = w.heap.size + 1 by simp] at this
  have hb2 : Below w.heap.size w w2 := by subst hw2; exact ((Below.refl _ _).alloc (Nat.le_refl _) _).alloc (by simp) _
  have HB2 := Lib.hid hb2
  have HRA := Lib.hid hra
  have HRB := Lib.hid hrb
  clear hb2 hra hrb
  have hca1 : ∀ W : World, Below w2.heap.size w2 W → W.cell? ⟨w.heap.size, 1, none⟩ = some (.string (bs al)) := fun W hb => (HRA.out.call hb).cell rfl
  have hca2 : ∀ W : World, Below w2.heap.size w2 W → W.cell? ⟨w.heap.size, 2, none⟩ = some (.int .i64 ae) := fun W hb => (HRA.out.call hb).cell rfl
  have hca0 : ∀ W : World, Below w2.heap.size w2 W → W.cell? ⟨w.heap.size, 0, none⟩ = some (.bool an) := fun W hb => (HRA.out.call hb).cell rfl
  have hcb1 : ∀ W : World, Below w2.heap.size w2 W → W.cell? ⟨w.heap.size + 1, 1, none⟩ = some (.string (bs bl)) := fun W hb => (HRB.out.call hb).cell rfl
  have hcb2 : ∀ W : World, Below w2.heap.size w2 W → W.cell? ⟨w.heap.size + 1, 2, none⟩ = some (.int .i64 be) := fun W hb => (HRB.out.call hb).cell rfl
  have hcb0 : ∀ W : World, Below w2.heap.size w2 W → W.cell? ⟨w.heap.size + 1, 0, none⟩ = some (.bool bn) := fun W hb => (HRB.out.call hb).cell rfl
  go_enter Tryz.func10, Tryz.ntmps10
  go_upto_region 2 with fail
  rw [← hw2]
  clear hw2
  refine (HCA.out _).mono ?_
  rintro e w3 ⟨rfl, hb3⟩
  cases ea : mayB ⟨an, al, ae⟩ with
  | false =>
    obtain ⟨h1, h2⟩ := HNO.out (fun h => by rw [ea] at h; exact absurd h.1 (by decide))
    have H1 := Lib.hid h1
    have H2 := Lib.hid h2
    rw [checkE_no ea]
    clear ea HNO HYES HCD HSZ HSW h1 h2
    go_wp2
    go_ret2
    exact ⟨by rw [H1.out, H2.out]; rfl, HB2.out.call hb3⟩
  | true =>
    rw [checkE_yes ea]
    go_wp2_with fail
    refine (HCB.out _).mono ?_
    rintro e w4 ⟨rfl, hb4⟩
    have hb5 := hb3.call hb4
    cases eb : mayB ⟨bn, bl, be⟩ with
    | false =>
      obtain ⟨h1, h2⟩ := HNO.out (fun h => by rw [eb] at h; exact absurd h.2 (by decide))
      have H1 := Lib.hid h1
      have H2 := Lib.hid h2
      rw [checkE_no eb]
      clear ea eb HNO HYES HCD HSZ HSW h1 h2
      go_wp2
      go_ret2
      exact ⟨by rw [H1.out, H2.out]; rfl, HB2.out.call hb5⟩
    | true =>
      obtain ⟨h1, h2⟩ := HYES.out ea eb
      have HSZ1 := Lib.hid (HSZ.out ea eb)
      have HSW1 := Lib.hid (HSW.out ea eb)
      rw [checkE_yes eb]
      have HCD2 := Lib.hid (h1.trans HCD.out)
      have H2 := Lib.hid h2
      clear ea eb HNO HYES HCD HSZ HSW h1 h2
      cases an <;> cases bn
      · go_wp2_with fail
        refine (HSZ1.out _).mono ?_
        rintro e w6 ⟨rfl, hb6⟩
        have hb7 := hb5.call hb6
        go_wp2
        go_ret2
        exact ⟨by rw [HCD2.out, H2.out]; rfl, HB2.out.call hb7⟩
      · go_wp2
        go_ret2
        exact ⟨by rw [HCD2.out, H2.out]; rfl, HB2.out.call hb5⟩
      · go_wp2
        go_ret2
        exact ⟨by rw [HCD2.out, H2.out]; rfl, HB2.out.call hb5⟩
      · go_wp2_with fail
        refine (HSW1.out _).mono ?_
        rintro e w6 ⟨rfl, hb6⟩
        have hb7 := hb5.call hb6
        go_wp2
        go_ret2
        exact ⟨by rw [HCD2.out, H2.out]; rfl, HB2.out.call hb7⟩
end Go.Proofs.YtlcbjikiodmlfaaGreatDoor
