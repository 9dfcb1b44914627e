/- Layer 7's laws: what they have in common (num, works, long). -/
import Derived.Test.YtlcbjikiodmlfaaGreatDoorPt21
import Derived.Test.YtlcbjikiodmlfaaGreatDoorPt16
import Derived.Test.YtlcbjikiodmlfaaGreatDoorPt24
import Derived.Test.YtlcbjikiodmlfaaGreatDoorPt19
import Derived.Test.YtlcbjikiodmlfaaGreatDoorPt25
namespace Go.Proofs.YtlcbjikiodmlfaaGreatDoor
open Go.RowKit

theorem wp_toE {P : Program} {c : Code} {K : Act → World → Prop} {Q : Exit → Act → World → Prop} {a : Act} {w : World} {β : Type} (l : β → List (Nat × Value)) (R : β → World → Prop)
    (h : c.wp P (Exit.then (fun a' w' => ∃ b, a' = puts a (l b) ∧ R b w') (fun _ _ _ => False)) a w) (h2 : ∀ b w', R b w' → K (puts a (l b)) w') : c.wp P (Exit.then K Q) a w := by
  refine wp_mono h fun e a' w' h => ?_
  cases e
  case normal =>
    obtain ⟨b, rfl, hr⟩ := h
    exact h2 b w' hr
  all_goals exact h.elim

theorem num_ok (k : Int) (w : World) : Calls Tryz.prog 9 #[.int .i64 k] w fun e w' => e = .returned (.int .i64 k) ∧ w = w' := by
  go_enter Tryz.func9, Tryz.ntmps9
  go_wp2
  go_ret
  exact ⟨rfl, rfl⟩
theorem wk1 : parseD [45, 49, 46, 53, 48, 101, 45, 50] = ⟨true, [49, 53], -3⟩ ∧ parseE [45, 49, 46, 53, 48, 101, 45, 50] = 0 := ⟨by kernel_rfl, by kernel_rfl⟩
theorem wk2 : parseD [48, 49] = Dec.zero ∧ parseE [48, 49] = 170 := ⟨by kernel_rfl, by kernel_rfl⟩
theorem wk3 : txL ⟨true, [49, 53], -3⟩ = [45, 48, 46, 48, 49, 53] ∧ checkE ⟨true, [49, 53], -3⟩ = 0 := ⟨by kernel_rfl, by kernel_rfl⟩
theorem wk4 : fromI 7 = ⟨false, [55], 0⟩ := by kernel_rfl
theorem wk5 : sumD [⟨true, [49, 53], -3⟩, ⟨false, [55], 0⟩] = ⟨false, [54, 57, 56, 53], -3⟩ ∧ sumE [⟨true, [49, 53], -3⟩, ⟨false, [55], 0⟩] = 0 := ⟨by kernel_rfl, by kernel_rfl⟩
theorem wk6 : cmpI ⟨false, [54, 57, 56, 53], -3⟩ ⟨true, [49, 53], -3⟩ = 1 ∧ cmpE ⟨false, [54, 57, 56, 53], -3⟩ ⟨true, [49, 53], -3⟩ = 0 := ⟨by kernel_rfl, by kernel_rfl⟩
def decA (neg : Bool) (l : List UInt8) (x : Int) : Value := .agg #[.bool neg, .string (bs l), .int .i64 x]
def Gives (f : Nat) (args : Array Value) (r : Value) : Prop := ∀ W : World, PowTab W → Calls Tryz.prog f args W fun e w' => e = .returned r ∧ Below W.heap.size W w'
theorem wg1 : Gives 15 #[.string ⟨#[45, 49, 46, 53, 48, 101, 45, 50]⟩] (.tuple #[.agg #[.bool true, .string (bs [49, 53]), .int .i64 (-3)], .int .i64 0]) := by
  intro W h
  have := parse_ok [45, 49, 46, 53, 48, 101, 45, 50] W h
  rw [wk1.1, wk1.2] at this
  exact this
theorem wg2 : Gives 16 #[.agg #[.bool true, .string (bs [49, 53]), .int .i64 (-3)]] (.tuple #[.string ⟨#[45, 48, 46, 48, 49, 53]⟩, .int .i64 0]) := by
  intro W h
  have := text_ok ⟨true, [49, 53], -3⟩ W h (by decide)
  unfold TextPost at this
  rw [wk3.1, wk3.2] at this
  exact this
theorem wg3 : Gives 15 #[.string ⟨#[48, 49]⟩] (.tuple #[.agg #[.bool false, .string (bs []), .int .i64 0], .int .i64 170]) := by
  intro W h
  have := parse_ok [48, 49] W h
  rw [wk2.1, wk2.2] at this
  exact this
theorem wg4 : Gives 17 #[.int .i64 7] (.agg #[.bool false, .string (bs [55]), .int .i64 0]) := by
  intro W h
  have := fromInt_ok 7 W (by decide) (by decide) h
  rw [wk4] at this
  exact this
theorem wg5 : Gives 10 #[.agg #[.bool false, .string (bs [54, 57, 56, 53]), .int .i64 (-3)], .agg #[.bool true, .string (bs [49, 53]), .int .i64 (-3)]] (.tuple #[.int .i64 1, .int .i64 0]) := by
  intro W h
  have := compare_ok ⟨false, [54, 57, 56, 53], -3⟩ ⟨true, [49, 53], -3⟩ W (by decide) (by decide)
  unfold CmpPost at this
  rw [wk6.1, wk6.2] at this
  exact this
theorem wsum (b : Nat) (c : Nat) (W : World) (hr : Row W b 24 #[.bool true, .string (bs [49, 53]), .int .i64 (-3), .bool false, .string (bs [55]), .int .i64 0]) (hT : PowTab W) :
    Calls Tryz.prog 6 #[.slice (some ⟨b, 0, none⟩) 2 c] W fun e w' => e = .returned (.tuple #[.agg #[.bool false, .string (bs [54, 57, 56, 53]), .int .i64 (-3)], .int .i64 0]) ∧ Below W.heap.size W w' := by
  have h := sum_ok (some ⟨b, 0, none⟩) 2 c [⟨true, [49, 53], -3⟩, ⟨false, [55], 0⟩] W rfl (by decide) ⟨rfl, fun _ => ⟨b, 0, rfl, hr.lt, fun j v hv => by have := hr.cell (i := j) (v := v) (by simpa [dcs] using hv); simpa using this⟩⟩
    (fun d hd => by
      have : (mayB ⟨true, [49, 53], -3⟩ && mayB ⟨false, [55], 0⟩) = true := by decide +kernel
      rw [Bool.and_eq_true] at this
      rcases List.mem_cons.1 hd with rfl | hd
      · exact (mayB_iff _).1 this.1
      · rw [List.mem_singleton] at hd; subst hd; exact (mayB_iff _).1 this.2) hT
  rw [wk5.1, wk5.2] at h
  exact h
set_option maxHeartbeats 1000000 in
theorem works_ok (w : World) (hT : PowTab w) : Calls Tryz.prog 5 #[] w fun e w' => e = .returned (.bool true) ∧ Below w.heap.size w w' := by
  have HT := Lib.hid hT
  clear hT
  go_enter Tryz.func5, Tryz.ntmps5
  go_wp2_with fail
  refine (wg1 _ HT.out).mono ?_
  rintro e w1 ⟨rfl, hb1⟩
  obtain ⟨w2, hw2⟩ : ∃ w2, w2 = w1.alloc (.cells #[.bool true, .string (bs [49, 53]), .int .i64 (-3)] 24) := ⟨_, rfl⟩
  have HR2 : Hid (Row w2 w1.heap.size 24 #[.bool true, .string (bs [49, 53]), .int .i64 (-3)]) := Lib.hid (by subst hw2; exact Row.new _ _ _)
  have hb2 : Below w1.heap.size w1 w2 := by subst hw2; exact (Below.refl _ _).alloc (Nat.le_refl _) _
  have HB2 := Lib.hid (hb1.call hb2)
  clear hb2
  clear hb1
  go_wp2_with fail
  rw [← hw2]
  clear hw2
  refine (wg2 _ (HT.out.below HB2.out)).mono ?_
  rintro e w3 ⟨rfl, hb3⟩
  have HB3 := Lib.hid (HB2.out.call hb3)
  have HR3 := Lib.hid (HR2.out.call hb3)
  clear hb3 HB2 HR2
  go_wp2_with fail
  refine (wg3 _ (HT.out.below HB3.out)).mono ?_
  rintro e w4 ⟨rfl, hb4⟩
  have HB4 := Lib.hid ((HB3.out.call hb4).alloc (HB3.out.call hb4).size (.cells #[.bool false, .string (bs []), .int .i64 0] 24))
  have HR4 := Lib.hid ((HR3.out.call hb4).alloc (.cells #[.bool false, .string (bs []), .int .i64 0] 24))
  clear hb4 HB3 HR3
  go_wp2_with fail
  refine wp_toE (fun b : Nat × Nat => [(25, .agg #[.bool true, .string (bs [49, 53]), .int .i64 (-3)]), (26, .agg #[.bool false, .string (bs [55]), .int .i64 0]), (27, .slice (some ⟨b.1, 0, none⟩) 2 2), (28, .tuple #[.agg #[.bool false, .string (bs [54, 57, 56, 53]), .int .i64 (-3)], .int .i64 0]), (24, .tuple #[.agg #[.bool false, .string (bs [54, 57, 56, 53]), .int .i64 (-3)], .int .i64 0]), (29, .agg #[.bool false, .string (bs [54, 57, 56, 53]), .int .i64 (-3)]), (30, .int .i64 0), (7, .pointer (some ⟨b.2, 0, none⟩)), (8, .int .i64 0)])
    (fun b W => Below w.heap.size w W ∧ Row W w1.heap.size 24 #[.bool true, .string (bs [49, 53]), .int .i64 (-3)] ∧ Row W b.2 24 #[.bool false, .string (bs [54, 57, 56, 53]), .int .i64 (-3)]) ?_ ?_
  · skip
    refine wp_region_held_drew (S := fun W => Below w.heap.size w W ∧ Row W w1.heap.size 24 #[.bool true, .string (bs [49, 53]), .int .i64 (-3)]) (by kernel_rfl) ⟨HB4.out.drew, HR4.out.drew⟩ (fun H0 => ?_)
    refine wpAnyH_take (i := 0) (oi := ?_) (v := ?_) ?_ (by kernel_rfl) (by kernel_rfl) (by kernel_rfl) ?_ ?_ (by assumption) ?_
    rotate_left 2
    · simp only [List.getElem?_toArray, List.getElem?_cons_zero]; with_reducible rfl
    · exact fun _ _ _ h => h
    · refine Or.inl ⟨by rfl, ?_⟩; intro W hSw; have hc0 := hSw.2.cell (i := 0) (v := .bool true) rfl; have hc1 := hSw.2.cell (i := 1) (v := .string (bs [49, 53])) rfl; have hc2 := hSw.2.cell (i := 2) (v := .int .i64 (-3)) rfl; go_simp; try with_reducible rfl
    try simp only [Act.put, List.setIfInBounds_toArray, List.set_cons_zero, List.set_cons_succ]
    refine wpAnyH_ready (rs := [1, 7]) (by kernel_rfl) (by simp) ?_
    refine AllReadyH.cons (o := ?_) ?_ (fun K1 hK1 => ?_) (AllReadyH.cons (o := ?_) ?_ (fun K2 hK2 => ?_) AllReadyH.nil)
    rotate_left 1
    · simp only [List.getElem?_toArray, List.getElem?_cons_succ, List.getElem?_cons_zero]; with_reducible rfl
    · skip
      rw [if_pos (by rfl)]
      go_simp
      refine (wg4 _ (HT.out.below H0.1)).mono ?_
      rintro e1 v1 ⟨rfl, hb1⟩
      go_wp2_with fail
      refine hK1.out _ _ ⟨H0.1.call hb1, H0.2.call hb1⟩ (fun H1 => ?_)
      clear hK1 K1
      try simp only [Act.put, List.setIfInBounds_toArray, List.set_cons_zero, List.set_cons_succ]
      refine wpAnyH_ready (rs := [2, 7]) (by kernel_rfl) (by simp) ?_
      refine AllReadyH.cons (o := ?_) ?_ (fun K3 hK3 => ?_) (AllReadyH.cons (o := ?_) ?_ (fun K4 hK4 => ?_) AllReadyH.nil)
      rotate_left 1
      · simp only [List.getElem?_toArray, List.getElem?_cons_succ, List.getElem?_cons_zero]; with_reducible rfl
      · skip
        rw [if_pos (by rfl)]
        go_simp
        have HS2 := Lib.hid (Row.new v1 24 #[.bool true, .string (bs [49, 53]), .int .i64 (-3), .bool false, .string (bs [55]), .int .i64 0])
        try go_wp2_with fail
        refine hK3.out _ _ ⟨H1.1.alloc H1.1.size (.cells #[.bool true, .string (bs [49, 53]), .int .i64 (-3), .bool false, .string (bs [55]), .int .i64 0] 24), H1.2.alloc (.cells #[.bool true, .string (bs [49, 53]), .int .i64 (-3), .bool false, .string (bs [55]), .int .i64 0] 24)⟩ (fun H2 => ?_)
        clear hK3 K3
        try simp only [Act.put, List.setIfInBounds_toArray, List.set_cons_zero, List.set_cons_succ]
        refine wpAnyH_ready (rs := [3, 7]) (by kernel_rfl) (by simp) ?_
        refine AllReadyH.cons (o := ?_) ?_ (fun K5 hK5 => ?_) (AllReadyH.cons (o := ?_) ?_ (fun K6 hK6 => ?_) AllReadyH.nil)
        rotate_left 1
        · simp only [List.getElem?_toArray, List.getElem?_cons_succ, List.getElem?_cons_zero]; with_reducible rfl
        · skip
          rw [if_pos (by rfl)]
          go_simp
          refine (wsum _ _ _ HS2.out (HT.out.below H2.1)).mono ?_
          rintro e3 v3 ⟨rfl, hb3⟩
          go_wp2_with fail
          refine hK5.out _ _ ⟨H2.1.call hb3, H2.2.call hb3⟩ (fun H3 => ?_)
          clear hK5 K5
          try simp only [Act.put, List.setIfInBounds_toArray, List.set_cons_zero, List.set_cons_succ]
          refine wpAnyH_take (i := 4) (oi := ?_) (v := ?_) ?_ (by kernel_rfl) (by kernel_rfl) (by kernel_rfl) ?_ ?_ (by assumption) ?_
          rotate_left 2
          · simp only [List.getElem?_toArray, List.getElem?_cons_succ, List.getElem?_cons_zero]; with_reducible rfl
          · exact fun _ _ _ h => h
          · refine Or.inl ⟨by rfl, ?_⟩; intro W hSw; go_simp; try with_reducible rfl
          try simp only [Act.put, List.setIfInBounds_toArray, List.set_cons_zero, List.set_cons_succ]
          refine wpAnyH_take (i := 5) (oi := ?_) (v := ?_) ?_ (by kernel_rfl) (by kernel_rfl) (by kernel_rfl) ?_ ?_ (by assumption) ?_
          rotate_left 2
          · simp only [List.getElem?_toArray, List.getElem?_cons_succ, List.getElem?_cons_zero]; with_reducible rfl
          · exact fun _ _ _ h => h
          · refine Or.inl ⟨by rfl, ?_⟩; intro W hSw; go_simp; try with_reducible rfl
          try simp only [Act.put, List.setIfInBounds_toArray, List.set_cons_zero, List.set_cons_succ]
          refine wpAnyH_take (i := 6) (oi := ?_) (v := ?_) ?_ (by kernel_rfl) (by kernel_rfl) (by kernel_rfl) ?_ ?_ (by assumption) ?_
          rotate_left 2
          · simp only [List.getElem?_toArray, List.getElem?_cons_succ, List.getElem?_cons_zero]; with_reducible rfl
          · exact fun _ _ _ h => h
          · refine Or.inl ⟨by rfl, ?_⟩; intro W hSw; go_simp; try with_reducible rfl
          try simp only [Act.put, List.setIfInBounds_toArray, List.set_cons_zero, List.set_cons_succ]
          refine wpAnyH_ready (rs := [7]) (by kernel_rfl) (by simp) ?_
          refine AllReadyH.cons (o := ?_) ?_ (fun K7 hK7 => ?_) AllReadyH.nil
          rotate_left 1
          · simp only [List.getElem?_toArray, List.getElem?_cons_succ, List.getElem?_cons_zero]; with_reducible rfl
          rw [if_pos (by rfl)]
          go_simp
          have HX4 := Lib.hid (Row.new v3 24 #[.bool false, .string ⟨#[]⟩, .int .i64 0])
          have HN4 : Hid (w1.heap.size ≠ v3.heap.size ∧ w.heap.size ≤ v3.heap.size) := Lib.hid (by have h8 := Nat.ne_of_lt H3.2.lt; have h9 := H3.1.size; exact ⟨h8, h9⟩)
          have HS4 := Lib.hid (HS2.out.alloc (.cells #[.bool false, .string ⟨#[]⟩, .int .i64 0] 24))
          try go_wp2_with fail
          refine hK7.out _ _ ⟨H3.1.alloc H3.1.size (.cells #[.bool false, .string ⟨#[]⟩, .int .i64 0] 24), H3.2.alloc (.cells #[.bool false, .string ⟨#[]⟩, .int .i64 0] 24)⟩ (fun H4 => ?_)
          clear hK7 K7
          try simp only [Act.put, List.setIfInBounds_toArray, List.set_cons_zero, List.set_cons_succ]
          have x0 := HX4.out.cell (i := 0) (v := .bool false) rfl
          have g0 := HX4.out.free 0
          have x1 := HX4.out.cell (i := 1) (v := .string ⟨#[]⟩) rfl
          have g1 := HX4.out.free 1
          have x2 := HX4.out.cell (i := 2) (v := .int .i64 0) rfl
          have g2 := HX4.out.free 2
          refine wpAnyH_ready (rs := [8]) (by kernel_rfl) (by simp) ?_
          refine AllReadyH.cons (o := ?_) ?_ (fun K8 hK8 => ?_) AllReadyH.nil
          rotate_left 1
          · simp only [List.getElem?_toArray, List.getElem?_cons_succ, List.getElem?_cons_zero]; with_reducible rfl
          rw [if_pos (by rfl)]
          go_simp
          try go_wp2_with fail
          refine hK8.out _ _ ⟨H3.1.alloc H3.1.size (.cells #[.bool false, .string (bs [54, 57, 56, 53]), .int .i64 (-3)] 24), H3.2.alloc (.cells #[.bool false, .string (bs [54, 57, 56, 53]), .int .i64 (-3)] 24)⟩ (fun H5 => ?_)
          clear hK8 K8
          try simp only [Act.put, List.setIfInBounds_toArray, List.set_cons_zero, List.set_cons_succ]
          refine wpAnyH_take (i := 9) (oi := ?_) (v := ?_) ?_ (by kernel_rfl) (by kernel_rfl) (by kernel_rfl) ?_ ?_ (by assumption) ?_
          rotate_left 2
          · simp only [List.getElem?_toArray, List.getElem?_cons_succ, List.getElem?_cons_zero]; with_reducible rfl
          · exact fun _ _ _ h => h
          · refine Or.inl ⟨by rfl, ?_⟩; intro W hSw; go_simp; try with_reducible rfl
          try simp only [Act.put, List.setIfInBounds_toArray, List.set_cons_zero, List.set_cons_succ]
          refine wpAnyH_done (by kernel_rfl) ?_ _
          refine ⟨(v1.heap.size, v3.heap.size), ?_, ?_⟩
          · kernel_rfl
          · exact ⟨H5.1, H5.2, Row.new _ _ _⟩
        rotate_left 1
        · simp only [List.getElem?_toArray, List.getElem?_cons_succ, List.getElem?_cons_zero]; with_reducible rfl
        · skip
          rw [if_pos (by rfl)]
          go_simp
          have HX6 : Hid (Row ((v1.alloc (.cells #[.bool true, .string (bs [49, 53]), .int .i64 (-3), .bool false, .string (bs [55]), .int .i64 0] 24)).alloc (.cells #[.bool false, .string ⟨#[]⟩, .int .i64 0] 24)) (v1.heap.size + 1) 24 #[.bool false, .string ⟨#[]⟩, .int .i64 0]) := Lib.hid (by have h9 := Row.new (v1.alloc (.cells #[.bool true, .string (bs [49, 53]), .int .i64 (-3), .bool false, .string (bs [55]), .int .i64 0] 24)) 24 #[.bool false, .string ⟨#[]⟩, .int .i64 0]; rwa [show (v1.alloc (.cells #[.bool true, .string (bs [49, 53]), .int .i64 (-3), .bool false, .string (bs [55]), .int .i64 0] 24)).heap.size = v1.heap.size + 1 by simp] at h9)
          have HN6 : Hid (w1.heap.size ≠ v1.heap.size + 1 ∧ w.heap.size ≤ v1.heap.size + 1) := Lib.hid (by have h8 := Nat.ne_of_lt H2.2.lt; have h9 := H2.1.size; rw [show (v1.alloc (.cells #[.bool true, .string (bs [49, 53]), .int .i64 (-3), .bool false, .string (bs [55]), .int .i64 0] 24)).heap.size = v1.heap.size + 1 by simp] at h8 h9; exact ⟨h8, h9⟩)
          have HS6 := Lib.hid (HS2.out.alloc (.cells #[.bool false, .string ⟨#[]⟩, .int .i64 0] 24))
          try go_wp2_with fail
          refine hK6.out _ _ ⟨H2.1.alloc H2.1.size (.cells #[.bool false, .string ⟨#[]⟩, .int .i64 0] 24), H2.2.alloc (.cells #[.bool false, .string ⟨#[]⟩, .int .i64 0] 24)⟩ (fun H6 => ?_)
          clear hK6 K6
          try simp only [Act.put, List.setIfInBounds_toArray, List.set_cons_zero, List.set_cons_succ]
          refine wpAnyH_ready (rs := [3]) (by kernel_rfl) (by simp) ?_
          refine AllReadyH.cons (o := ?_) ?_ (fun K9 hK9 => ?_) AllReadyH.nil
          rotate_left 1
          · simp only [List.getElem?_toArray, List.getElem?_cons_succ, List.getElem?_cons_zero]; with_reducible rfl
          rw [if_pos (by rfl)]
          go_simp
          refine (wsum _ _ _ HS6.out (HT.out.below H6.1)).mono ?_
          rintro e7 v7 ⟨rfl, hb7⟩
          have HX7 := Lib.hid (HX6.out.call hb7)
          go_wp2_with fail
          refine hK9.out _ _ ⟨H6.1.call hb7, H6.2.call hb7⟩ (fun H7 => ?_)
          clear hK9 K9
          try simp only [Act.put, List.setIfInBounds_toArray, List.set_cons_zero, List.set_cons_succ]
          refine wpAnyH_take (i := 4) (oi := ?_) (v := ?_) ?_ (by kernel_rfl) (by kernel_rfl) (by kernel_rfl) ?_ ?_ (by assumption) ?_
          rotate_left 2
          · simp only [List.getElem?_toArray, List.getElem?_cons_succ, List.getElem?_cons_zero]; with_reducible rfl
          · exact fun _ _ _ h => h
          · refine Or.inl ⟨by rfl, ?_⟩; intro W hSw; go_simp; try with_reducible rfl
          try simp only [Act.put, List.setIfInBounds_toArray, List.set_cons_zero, List.set_cons_succ]
          refine wpAnyH_take (i := 5) (oi := ?_) (v := ?_) ?_ (by kernel_rfl) (by kernel_rfl) (by kernel_rfl) ?_ ?_ (by assumption) ?_
          rotate_left 2
          · simp only [List.getElem?_toArray, List.getElem?_cons_succ, List.getElem?_cons_zero]; with_reducible rfl
          · exact fun _ _ _ h => h
          · refine Or.inl ⟨by rfl, ?_⟩; intro W hSw; go_simp; try with_reducible rfl
          try simp only [Act.put, List.setIfInBounds_toArray, List.set_cons_zero, List.set_cons_succ]
          refine wpAnyH_take (i := 6) (oi := ?_) (v := ?_) ?_ (by kernel_rfl) (by kernel_rfl) (by kernel_rfl) ?_ ?_ (by assumption) ?_
          rotate_left 2
          · simp only [List.getElem?_toArray, List.getElem?_cons_succ, List.getElem?_cons_zero]; with_reducible rfl
          · exact fun _ _ _ h => h
          · refine Or.inl ⟨by rfl, ?_⟩; intro W hSw; go_simp; try with_reducible rfl
          try simp only [Act.put, List.setIfInBounds_toArray, List.set_cons_zero, List.set_cons_succ]
          have x0 := HX7.out.cell (i := 0) (v := .bool false) rfl
          have g0 := HX7.out.free 0
          have x1 := HX7.out.cell (i := 1) (v := .string ⟨#[]⟩) rfl
          have g1 := HX7.out.free 1
          have x2 := HX7.out.cell (i := 2) (v := .int .i64 0) rfl
          have g2 := HX7.out.free 2
          refine wpAnyH_ready (rs := [8]) (by kernel_rfl) (by simp) ?_
          refine AllReadyH.cons (o := ?_) ?_ (fun K10 hK10 => ?_) AllReadyH.nil
          rotate_left 1
          · simp only [List.getElem?_toArray, List.getElem?_cons_succ, List.getElem?_cons_zero]; with_reducible rfl
          rw [if_pos (by rfl)]
          go_simp
          try go_wp2_with fail
          refine hK10.out _ _ ⟨((H7.1.setCell (p := ⟨v1.heap.size + 1, 0, none⟩) HN6.out.2 _).setCell (p := ⟨v1.heap.size + 1, 1, none⟩) HN6.out.2 _).setCell (p := ⟨v1.heap.size + 1, 2, none⟩) HN6.out.2 _, ((H7.2.far (p := ⟨v1.heap.size + 1, 0, none⟩) HN6.out.1 _).far (p := ⟨v1.heap.size + 1, 1, none⟩) HN6.out.1 _).far (p := ⟨v1.heap.size + 1, 2, none⟩) HN6.out.1 _⟩ (fun H8 => ?_)
          clear hK10 K10
          try simp only [Act.put, List.setIfInBounds_toArray, List.set_cons_zero, List.set_cons_succ]
          refine wpAnyH_take (i := 9) (oi := ?_) (v := ?_) ?_ (by kernel_rfl) (by kernel_rfl) (by kernel_rfl) ?_ ?_ (by assumption) ?_
          rotate_left 2
          · simp only [List.getElem?_toArray, List.getElem?_cons_succ, List.getElem?_cons_zero]; with_reducible rfl
          · exact fun _ _ _ h => h
          · refine Or.inl ⟨by rfl, ?_⟩; intro W hSw; go_simp; try with_reducible rfl
          try simp only [Act.put, List.setIfInBounds_toArray, List.set_cons_zero, List.set_cons_succ]
          refine wpAnyH_done (by kernel_rfl) ?_ _
          refine ⟨(v1.heap.size, v1.heap.size + 1), ?_, ?_⟩
          · kernel_rfl
          · exact ⟨H8.1, H8.2, ((HX7.out.set_ 0 (.bool false)).set_ 1 (.string (bs [54, 57, 56, 53]))).set_ 2 (.int .i64 (-3))⟩
      rotate_left 1
      · simp only [List.getElem?_toArray, List.getElem?_cons_succ, List.getElem?_cons_zero]; with_reducible rfl
      · skip
        rw [if_pos (by rfl)]
        go_simp
        have HX9 := Lib.hid (Row.new v1 24 #[.bool false, .string ⟨#[]⟩, .int .i64 0])
        have HN9 : Hid (w1.heap.size ≠ v1.heap.size ∧ w.heap.size ≤ v1.heap.size) := Lib.hid (by have h8 := Nat.ne_of_lt H1.2.lt; have h9 := H1.1.size; exact ⟨h8, h9⟩)
        try go_wp2_with fail
        refine hK4.out _ _ ⟨H1.1.alloc H1.1.size (.cells #[.bool false, .string ⟨#[]⟩, .int .i64 0] 24), H1.2.alloc (.cells #[.bool false, .string ⟨#[]⟩, .int .i64 0] 24)⟩ (fun H9 => ?_)
        clear hK4 K4
        try simp only [Act.put, List.setIfInBounds_toArray, List.set_cons_zero, List.set_cons_succ]
        refine wpAnyH_ready (rs := [2]) (by kernel_rfl) (by simp) ?_
        refine AllReadyH.cons (o := ?_) ?_ (fun K11 hK11 => ?_) AllReadyH.nil
        rotate_left 1
        · simp only [List.getElem?_toArray, List.getElem?_cons_succ, List.getElem?_cons_zero]; with_reducible rfl
        rw [if_pos (by rfl)]
        go_simp
        have HS10 : Hid (Row ((v1.alloc (.cells #[.bool false, .string ⟨#[]⟩, .int .i64 0] 24)).alloc (.cells #[.bool true, .string (bs [49, 53]), .int .i64 (-3), .bool false, .string (bs [55]), .int .i64 0] 24)) (v1.heap.size + 1) 24 #[.bool true, .string (bs [49, 53]), .int .i64 (-3), .bool false, .string (bs [55]), .int .i64 0]) := Lib.hid (by have h9 := Row.new (v1.alloc (.cells #[.bool false, .string ⟨#[]⟩, .int .i64 0] 24)) 24 #[.bool true, .string (bs [49, 53]), .int .i64 (-3), .bool false, .string (bs [55]), .int .i64 0]; rwa [show (v1.alloc (.cells #[.bool false, .string ⟨#[]⟩, .int .i64 0] 24)).heap.size = v1.heap.size + 1 by simp] at h9)
        have HX10 := Lib.hid (HX9.out.alloc (.cells #[.bool true, .string (bs [49, 53]), .int .i64 (-3), .bool false, .string (bs [55]), .int .i64 0] 24))
        try go_wp2_with fail
        refine hK11.out _ _ ⟨H9.1.alloc H9.1.size (.cells #[.bool true, .string (bs [49, 53]), .int .i64 (-3), .bool false, .string (bs [55]), .int .i64 0] 24), H9.2.alloc (.cells #[.bool true, .string (bs [49, 53]), .int .i64 (-3), .bool false, .string (bs [55]), .int .i64 0] 24)⟩ (fun H10 => ?_)
        clear hK11 K11
        try simp only [Act.put, List.setIfInBounds_toArray, List.set_cons_zero, List.set_cons_succ]
        refine wpAnyH_ready (rs := [3]) (by kernel_rfl) (by simp) ?_
        refine AllReadyH.cons (o := ?_) ?_ (fun K12 hK12 => ?_) AllReadyH.nil
        rotate_left 1
        · simp only [List.getElem?_toArray, List.getElem?_cons_succ, List.getElem?_cons_zero]; with_reducible rfl
        rw [if_pos (by rfl)]
        go_simp
        refine (wsum _ _ _ HS10.out (HT.out.below H10.1)).mono ?_
        rintro e11 v11 ⟨rfl, hb11⟩
        have HX11 := Lib.hid (HX10.out.call hb11)
        go_wp2_with fail
        refine hK12.out _ _ ⟨H10.1.call hb11, H10.2.call hb11⟩ (fun H11 => ?_)
        clear hK12 K12
        try simp only [Act.put, List.setIfInBounds_toArray, List.set_cons_zero, List.set_cons_succ]
        refine wpAnyH_take (i := 4) (oi := ?_) (v := ?_) ?_ (by kernel_rfl) (by kernel_rfl) (by kernel_rfl) ?_ ?_ (by assumption) ?_
        rotate_left 2
        · simp only [List.getElem?_toArray, List.getElem?_cons_succ, List.getElem?_cons_zero]; with_reducible rfl
        · exact fun _ _ _ h => h
        · refine Or.inl ⟨by rfl, ?_⟩; intro W hSw; go_simp; try with_reducible rfl
        try simp only [Act.put, List.setIfInBounds_toArray, List.set_cons_zero, List.set_cons_succ]
        refine wpAnyH_take (i := 5) (oi := ?_) (v := ?_) ?_ (by kernel_rfl) (by kernel_rfl) (by kernel_rfl) ?_ ?_ (by assumption) ?_
        rotate_left 2
        · simp only [List.getElem?_toArray, List.getElem?_cons_succ, List.getElem?_cons_zero]; with_reducible rfl
        · exact fun _ _ _ h => h
        · refine Or.inl ⟨by rfl, ?_⟩; intro W hSw; go_simp; try with_reducible rfl
        try simp only [Act.put, List.setIfInBounds_toArray, List.set_cons_zero, List.set_cons_succ]
        refine wpAnyH_take (i := 6) (oi := ?_) (v := ?_) ?_ (by kernel_rfl) (by kernel_rfl) (by kernel_rfl) ?_ ?_ (by assumption) ?_
        rotate_left 2
        · simp only [List.getElem?_toArray, List.getElem?_cons_succ, List.getElem?_cons_zero]; with_reducible rfl
        · exact fun _ _ _ h => h
        · refine Or.inl ⟨by rfl, ?_⟩; intro W hSw; go_simp; try with_reducible rfl
        try simp only [Act.put, List.setIfInBounds_toArray, List.set_cons_zero, List.set_cons_succ]
        have x0 := HX11.out.cell (i := 0) (v := .bool false) rfl
        have g0 := HX11.out.free 0
        have x1 := HX11.out.cell (i := 1) (v := .string ⟨#[]⟩) rfl
        have g1 := HX11.out.free 1
        have x2 := HX11.out.cell (i := 2) (v := .int .i64 0) rfl
        have g2 := HX11.out.free 2
        refine wpAnyH_ready (rs := [8]) (by kernel_rfl) (by simp) ?_
        refine AllReadyH.cons (o := ?_) ?_ (fun K13 hK13 => ?_) AllReadyH.nil
        rotate_left 1
        · simp only [List.getElem?_toArray, List.getElem?_cons_succ, List.getElem?_cons_zero]; with_reducible rfl
        rw [if_pos (by rfl)]
        go_simp
        try go_wp2_with fail
        refine hK13.out _ _ ⟨((H11.1.setCell (p := ⟨v1.heap.size, 0, none⟩) HN9.out.2 _).setCell (p := ⟨v1.heap.size, 1, none⟩) HN9.out.2 _).setCell (p := ⟨v1.heap.size, 2, none⟩) HN9.out.2 _, ((H11.2.far (p := ⟨v1.heap.size, 0, none⟩) HN9.out.1 _).far (p := ⟨v1.heap.size, 1, none⟩) HN9.out.1 _).far (p := ⟨v1.heap.size, 2, none⟩) HN9.out.1 _⟩ (fun H12 => ?_)
        clear hK13 K13
        try simp only [Act.put, List.setIfInBounds_toArray, List.set_cons_zero, List.set_cons_succ]
        refine wpAnyH_take (i := 9) (oi := ?_) (v := ?_) ?_ (by kernel_rfl) (by kernel_rfl) (by kernel_rfl) ?_ ?_ (by assumption) ?_
        rotate_left 2
        · simp only [List.getElem?_toArray, List.getElem?_cons_succ, List.getElem?_cons_zero]; with_reducible rfl
        · exact fun _ _ _ h => h
        · refine Or.inl ⟨by rfl, ?_⟩; intro W hSw; go_simp; try with_reducible rfl
        try simp only [Act.put, List.setIfInBounds_toArray, List.set_cons_zero, List.set_cons_succ]
        refine wpAnyH_done (by kernel_rfl) ?_ _
        refine ⟨(v1.heap.size + 1, v1.heap.size), ?_, ?_⟩
        · kernel_rfl
        · exact ⟨H12.1, H12.2, ((HX11.out.set_ 0 (.bool false)).set_ 1 (.string (bs [54, 57, 56, 53]))).set_ 2 (.int .i64 (-3))⟩
    rotate_left 1
    · simp only [List.getElem?_toArray, List.getElem?_cons_succ, List.getElem?_cons_zero]; with_reducible rfl
    · skip
      rw [if_pos (by rfl)]
      go_simp
      have HX13 : Hid (Row ((w4.alloc (.cells #[.bool false, .string (bs []), .int .i64 0] 24)).drew.alloc (.cells #[.bool false, .string ⟨#[]⟩, .int .i64 0] 24)) (w4.heap.size + 1) 24 #[.bool false, .string ⟨#[]⟩, .int .i64 0]) := Lib.hid (by have h9 := Row.new (w4.alloc (.cells #[.bool false, .string (bs []), .int .i64 0] 24)).drew 24 #[.bool false, .string ⟨#[]⟩, .int .i64 0]; rwa [show (w4.alloc (.cells #[.bool false, .string (bs []), .int .i64 0] 24)).drew.heap.size = w4.heap.size + 1 by simp] at h9)
      have HN13 : Hid (w1.heap.size ≠ w4.heap.size + 1 ∧ w.heap.size ≤ w4.heap.size + 1) := Lib.hid (by have h8 := Nat.ne_of_lt H0.2.lt; have h9 := H0.1.size; rw [show (w4.alloc (.cells #[.bool false, .string (bs []), .int .i64 0] 24)).drew.heap.size = w4.heap.size + 1 by simp] at h8 h9; exact ⟨h8, h9⟩)
      try go_wp2_with fail
      refine hK2.out _ _ ⟨H0.1.alloc H0.1.size (.cells #[.bool false, .string ⟨#[]⟩, .int .i64 0] 24), H0.2.alloc (.cells #[.bool false, .string ⟨#[]⟩, .int .i64 0] 24)⟩ (fun H13 => ?_)
      clear hK2 K2
      try simp only [Act.put, List.setIfInBounds_toArray, List.set_cons_zero, List.set_cons_succ]
      refine wpAnyH_ready (rs := [1]) (by kernel_rfl) (by simp) ?_
      refine AllReadyH.cons (o := ?_) ?_ (fun K14 hK14 => ?_) AllReadyH.nil
      rotate_left 1
      · simp only [List.getElem?_toArray, List.getElem?_cons_succ, List.getElem?_cons_zero]; with_reducible rfl
      rw [if_pos (by rfl)]
      go_simp
      refine (wg4 _ (HT.out.below H13.1)).mono ?_
      rintro e14 v14 ⟨rfl, hb14⟩
      have HX14 := Lib.hid (HX13.out.call hb14)
      go_wp2_with fail
      refine hK14.out _ _ ⟨H13.1.call hb14, H13.2.call hb14⟩ (fun H14 => ?_)
      clear hK14 K14
      try simp only [Act.put, List.setIfInBounds_toArray, List.set_cons_zero, List.set_cons_succ]
      refine wpAnyH_ready (rs := [2]) (by kernel_rfl) (by simp) ?_
      refine AllReadyH.cons (o := ?_) ?_ (fun K15 hK15 => ?_) AllReadyH.nil
      rotate_left 1
      · simp only [List.getElem?_toArray, List.getElem?_cons_succ, List.getElem?_cons_zero]; with_reducible rfl
      rw [if_pos (by rfl)]
      go_simp
      have HS15 := Lib.hid (Row.new v14 24 #[.bool true, .string (bs [49, 53]), .int .i64 (-3), .bool false, .string (bs [55]), .int .i64 0])
      have HX15 := Lib.hid (HX14.out.alloc (.cells #[.bool true, .string (bs [49, 53]), .int .i64 (-3), .bool false, .string (bs [55]), .int .i64 0] 24))
      try go_wp2_with fail
      refine hK15.out _ _ ⟨H14.1.alloc H14.1.size (.cells #[.bool true, .string (bs [49, 53]), .int .i64 (-3), .bool false, .string (bs [55]), .int .i64 0] 24), H14.2.alloc (.cells #[.bool true, .string (bs [49, 53]), .int .i64 (-3), .bool false, .string (bs [55]), .int .i64 0] 24)⟩ (fun H15 => ?_)
      clear hK15 K15
      try simp only [Act.put, List.setIfInBounds_toArray, List.set_cons_zero, List.set_cons_succ]
      refine wpAnyH_ready (rs := [3]) (by kernel_rfl) (by simp) ?_
      refine AllReadyH.cons (o := ?_) ?_ (fun K16 hK16 => ?_) AllReadyH.nil
      rotate_left 1
      · simp only [List.getElem?_toArray, List.getElem?_cons_succ, List.getElem?_cons_zero]; with_reducible rfl
      rw [if_pos (by rfl)]
      go_simp
      refine (wsum _ _ _ HS15.out (HT.out.below H15.1)).mono ?_
      rintro e16 v16 ⟨rfl, hb16⟩
      have HX16 := Lib.hid (HX15.out.call hb16)
      go_wp2_with fail
      refine hK16.out _ _ ⟨H15.1.call hb16, H15.2.call hb16⟩ (fun H16 => ?_)
      clear hK16 K16
      try simp only [Act.put, List.setIfInBounds_toArray, List.set_cons_zero, List.set_cons_succ]
      refine wpAnyH_take (i := 4) (oi := ?_) (v := ?_) ?_ (by kernel_rfl) (by kernel_rfl) (by kernel_rfl) ?_ ?_ (by assumption) ?_
      rotate_left 2
      · simp only [List.getElem?_toArray, List.getElem?_cons_succ, List.getElem?_cons_zero]; with_reducible rfl
      · exact fun _ _ _ h => h
      · refine Or.inl ⟨by rfl, ?_⟩; intro W hSw; go_simp; try with_reducible rfl
      try simp only [Act.put, List.setIfInBounds_toArray, List.set_cons_zero, List.set_cons_succ]
      refine wpAnyH_take (i := 5) (oi := ?_) (v := ?_) ?_ (by kernel_rfl) (by kernel_rfl) (by kernel_rfl) ?_ ?_ (by assumption) ?_
      rotate_left 2
      · simp only [List.getElem?_toArray, List.getElem?_cons_succ, List.getElem?_cons_zero]; with_reducible rfl
      · exact fun _ _ _ h => h
      · refine Or.inl ⟨by rfl, ?_⟩; intro W hSw; go_simp; try with_reducible rfl
      try simp only [Act.put, List.setIfInBounds_toArray, List.set_cons_zero, List.set_cons_succ]
      refine wpAnyH_take (i := 6) (oi := ?_) (v := ?_) ?_ (by kernel_rfl) (by kernel_rfl) (by kernel_rfl) ?_ ?_ (by assumption) ?_
      rotate_left 2
      · simp only [List.getElem?_toArray, List.getElem?_cons_succ, List.getElem?_cons_zero]; with_reducible rfl
      · exact fun _ _ _ h => h
      · refine Or.inl ⟨by rfl, ?_⟩; intro W hSw; go_simp; try with_reducible rfl
      try simp only [Act.put, List.setIfInBounds_toArray, List.set_cons_zero, List.set_cons_succ]
      have x0 := HX16.out.cell (i := 0) (v := .bool false) rfl
      have g0 := HX16.out.free 0
      have x1 := HX16.out.cell (i := 1) (v := .string ⟨#[]⟩) rfl
      have g1 := HX16.out.free 1
      have x2 := HX16.out.cell (i := 2) (v := .int .i64 0) rfl
      have g2 := HX16.out.free 2
      refine wpAnyH_ready (rs := [8]) (by kernel_rfl) (by simp) ?_
      refine AllReadyH.cons (o := ?_) ?_ (fun K17 hK17 => ?_) AllReadyH.nil
      rotate_left 1
      · simp only [List.getElem?_toArray, List.getElem?_cons_succ, List.getElem?_cons_zero]; with_reducible rfl
      rw [if_pos (by rfl)]
      go_simp
      try go_wp2_with fail
      refine hK17.out _ _ ⟨((H16.1.setCell (p := ⟨w4.heap.size + 1, 0, none⟩) HN13.out.2 _).setCell (p := ⟨w4.heap.size + 1, 1, none⟩) HN13.out.2 _).setCell (p := ⟨w4.heap.size + 1, 2, none⟩) HN13.out.2 _, ((H16.2.far (p := ⟨w4.heap.size + 1, 0, none⟩) HN13.out.1 _).far (p := ⟨w4.heap.size + 1, 1, none⟩) HN13.out.1 _).far (p := ⟨w4.heap.size + 1, 2, none⟩) HN13.out.1 _⟩ (fun H17 => ?_)
      clear hK17 K17
      try simp only [Act.put, List.setIfInBounds_toArray, List.set_cons_zero, List.set_cons_succ]
      refine wpAnyH_take (i := 9) (oi := ?_) (v := ?_) ?_ (by kernel_rfl) (by kernel_rfl) (by kernel_rfl) ?_ ?_ (by assumption) ?_
      rotate_left 2
      · simp only [List.getElem?_toArray, List.getElem?_cons_succ, List.getElem?_cons_zero]; with_reducible rfl
      · exact fun _ _ _ h => h
      · refine Or.inl ⟨by rfl, ?_⟩; intro W hSw; go_simp; try with_reducible rfl
      try simp only [Act.put, List.setIfInBounds_toArray, List.set_cons_zero, List.set_cons_succ]
      refine wpAnyH_done (by kernel_rfl) ?_ _
      refine ⟨(v14.heap.size, w4.heap.size + 1), ?_, ?_⟩
      · kernel_rfl
      · exact ⟨H17.1, H17.2, ((HX16.out.set_ 0 (.bool false)).set_ 1 (.string (bs [54, 57, 56, 53]))).set_ 2 (.int .i64 (-3))⟩
  · rintro ⟨b27, b7⟩ w5 ⟨hb5, hd5, hx5⟩
    simp only [puts, List.foldl, Act.put, List.setIfInBounds_toArray, List.set_cons_zero, List.set_cons_succ]
    have d0 := hd5.cell (i := 0) (v := .bool true) rfl
    have d1 := hd5.cell (i := 1) (v := .string (bs [49, 53])) rfl
    have d2 := hd5.cell (i := 2) (v := .int .i64 (-3)) rfl
    have x0 := hx5.cell (i := 0) (v := .bool false) rfl
    have x1 := hx5.cell (i := 1) (v := .string (bs [54, 57, 56, 53])) rfl
    have x2 := hx5.cell (i := 2) (v := .int .i64 (-3)) rfl
    have HB5 := Lib.hid hb5
    have HR5 := Lib.hid hd5
    have ht1 : (bs [49, 53]).toList = [49, 53] := bs_toList _
    clear hb5 hd5 hx5
    go_wp2_with fail
    refine (wg5 _ (HT.out.below HB5.out)).mono ?_
    rintro e w6 ⟨rfl, hb6⟩
    have HB6 := Lib.hid (HB5.out.call hb6)
    have y0 := (HR5.out.call hb6).cell (i := 0) (v := .bool true) rfl
    have y1 := (HR5.out.call hb6).cell (i := 1) (v := .string (bs [49, 53])) rfl
    have y2 := (HR5.out.call hb6).cell (i := 2) (v := .int .i64 (-3)) rfl
    clear hb6 HB5 HR5 d0 d1 d2 x0 x1 x2
    go_wp2_with (refine (num_ok _ _).mono ?_; rintro e9 w9 ⟨rfl, rfl⟩)
    go_ret
    exact ⟨rfl, HB6.out⟩
/-! ### Numbers that are too long -/
def longB (L : List Dec) : Bool := L.any fun d => decide (1000 < d.digits.length)
theorem longB_snoc (L : List Dec) (d : Dec) : longB (L ++ [d]) = (longB L || decide (1000 < d.digits.length)) := by simp [longB]
theorem longB_no {L : List Dec} (h : longB L = false) (d : Dec) (hd : d ∈ L) : d.digits.length ≤ 1000 := by
  have := (List.any_eq_false.1 h) d hd
  simpa using this
theorem longB_get {L : List Dec} {i : Nat} (hi : i < L.length) (h : 1000 < (L.getD i Dec.zero).digits.length) : longB L = true :=
  List.any_eq_true.2 ⟨_, mem_getD hi, by simpa using h⟩
set_option maxHeartbeats 1000000 in
theorem long_ok (A : Option Addr) (n c : Nat) (L : List Dec) (w : World) (hL : L.length = n) (hn : n ≤ 140737488355328) (h : Holds w A n 3 (dcs L)) (hs : ∀ d ∈ L, d.digits.length ≤ 9223372036854775807) :
    Calls Tryz.prog 4 #[.slice A n c] w fun e w' => e = .returned (.bool (longB L)) ∧ w = w' := by
  have HH := Lib.hid h
  have HL := Lib.hid hL
  have HS := Lib.hid hs
  clear h hL hs
  go_enter Tryz.func4, Tryz.ntmps4
  go_wp2_with fail
  go_loop [3] (fun v3 => ∃ i : Nat, i ≤ n ∧ v3 = .int .i64 i ∧ Hid (longB (L.take i) = false)) (fun v3 => n - (intOf v3).toNat)
  case atStart => exact ⟨0, Nat.zero_le _, rfl, Lib.hid rfl⟩
  case round =>
    obtain ⟨i, hi, rfl, HR⟩ := hrel
    by_cases hlt : i < n
    · have hsz := HS.out (L.getD i Dec.zero) (mem_getD (by rw [HL.out]; exact hlt))
      obtain ⟨g, off, rfl, hg, hcell⟩ := HH.out.2 (by omega)
      obtain ⟨_, j1, _⟩ := dcs_get L i (by rw [HL.out]; exact hlt)
      have k1 := hcell _ _ j1
      rw [← Nat.add_assoc] at k1
      have HT : Hid (longB (L.take (i + 1)) = decide (1000 < (L.getD i Dec.zero).digits.length)) := Lib.hid (by rw [getD_take L i (by rw [HL.out]; exact hlt), longB_snoc, HR.out, Bool.false_or])
      have HY : Hid (1000 < (L.getD i Dec.zero).digits.length → longB L = true) := Lib.hid (fun h => longB_get (by rw [HL.out]; exact hlt) h)
      clear hcell
      generalize L.getD i Dec.zero = d at *
      obtain ⟨neg, l, x⟩ := d
      simp only at k1 HT HY hsz
      have hbz := bs_size l
      generalize bs l = s at *
      generalize l.length = m at *
      by_cases hm : 1000 < m
      · have HZ := Lib.hid (HY.out hm)
        clear HY HT
        go_wp2
        go_ret
        exact ⟨by rw [HZ.out]; rfl, rfl⟩
      · have HZ : Hid (longB (L.take (i + 1)) = false) := Lib.hid (by rw [HT.out]; simpa using hm)
        clear HY HT
        go_wp2
        refine ⟨⟨i + 1, by omega, by go_num, HZ⟩, by simp [intOf]; omega⟩
    · obtain rfl : i = n := by omega
      have HX : Hid (longB L = false) := Lib.hid (by rw [← HR.out, ← HL.out, List.take_length])
      go_wp2
      go_ret
      exact ⟨by rw [HX.out]; rfl, rfl⟩
end Go.Proofs.YtlcbjikiodmlfaaGreatDoor
