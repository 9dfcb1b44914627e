/- Layer 7: the document's Multiple and Common. -/
import Derived.Test.YthgjelpmdndceaaGreatDoorPt46
namespace Go.Proofs.YthgjelpmdndceaaGreatDoor
open Go.RowKit

theorem lev_len {d : Dec} (h : May d) {e : Int} (he : -1000 ≤ e) : (dig (lev d e)).length ≤ 2200 :=
  Nat.le_trans (dig_len_le _ (show lev d e < 10 ^ (e100 + e2000) from lev_lt h he)) (by decide)
theorem dig_empty (r : Nat) : (bs (dig r)).toList.isEmpty = decide (r = 0) := by
  rw [bs_toList]
  cases h : dig r with
  | nil => rw [decide_eq_true (dig_nil.1 h)]; rfl
  | cons x l => rw [decide_eq_false (fun e => by rw [e] at h; cases h)]; rfl
set_option maxHeartbeats 2000000 in
theorem rmultiple_ok (a b : Dec) (w : World) (ma : May a) (hb : aboveB b = true) :
    Calls Tryz.prog 18 #[decV a, decV b] w fun e w' => e = .returned (.bool (decide (lev a (minX a b) % lev b (minX a b) = 0))) ∧ Below w.heap.size w w' := by
  have mb := (mayB_iff b).1 (above_may hb)
  have l1 := ma.lo; have l2 := mb.lo; have l3 := ma.hi; have l4 := mb.hi; have l5 := ma.len; have l6 := mb.len
  obtain ⟨E, hE⟩ : ∃ E, E = minX a b := ⟨_, rfl⟩
  have e1 : E ≤ a.exp := by rw [hE]; unfold minX; omega
  have e2 : E ≤ b.exp := by rw [hE]; unfold minX; omega
  have e3 : -1000 ≤ E := by rw [hE]; unfold minX; omega
  have HLA := Lib.hid (fun W => rscaled_ok a E W ma.digs (by omega) e1 (by omega) (by omega) (by omega))
  have HLB := Lib.hid (fun W => rscaled_ok b E W mb.digs (by omega) e2 (by omega) (by omega) (by omega))
  have hxl := lev_len ma e3
  have hyl := lev_len mb e3
  have hy0 := lev_pos hb E
  rw [← hE]
  have hEE : min a.exp b.exp = E := hE.symm
  generalize lev a E = x at *
  generalize lev b E = y at *
  have HD : Hid (∀ W, Calls Tryz.prog 40 #[.string (bs (dig x)), .string (bs (dig y))] W fun e w' => e = .returned (.tuple #[.string (bs (dig (x / y))), .string (bs (dig (x % y)))]) ∧ Below W.heap.size W w') := Lib.hid fun W => by
    have h := rdiv_ok (dig x) y W (dig_digs x) hy0 (by omega) (by omega)
    rwa [num_dig] at h
  have HE := Lib.hid (dig_empty (x % y))
  clear hE e1 e2 e3 l1 l2 l3 l4 l5 l6 ma mb hb hxl hyl hy0
  obtain ⟨an, al, ax⟩ := a
  obtain ⟨bn, bl, bx⟩ := b
  unfold decV at *
  simp only at HLA HLB hEE ⊢
  obtain ⟨w2, hw2⟩ : ∃ w2, w2 = (w.alloc (.cells #[.bool an, .string (bs al), .int .i64 ax] 24)).alloc (.cells #[.bool bn, .string (bs bl), .int .i64 bx] 24) := ⟨_, rfl⟩
  have HRA : Hid (Row w2 w.heap.size 24 #[.bool an, .string (bs al), .int .i64 ax]) := Lib.hid (by subst hw2; exact (Row.new _ _ _).alloc _)
  have HRB : Hid (Row w2 (w.heap.size + 1) 24 #[.bool bn, .string (bs bl), .int .i64 bx]) := Lib.hid (by
    subst hw2
    have := Row.new (w.alloc (.cells #[.bool an, .string (bs al), .int .i64 ax] 24)) 24 #[.bool bn, .string (bs bl), .int .i64 bx]
    rwa [show (w.alloc (.cells #[.bool an, .string (bs al), .int .i64 ax] 24)).heap.size = w.heap.size + 1 by simp] at this)
  have HB2 : Hid (Below w.heap.size w w2) := Lib.hid (by subst hw2; exact ((Below.refl _ _).alloc (Nat.le_refl _) _).alloc (by simp) _)
  go_enter Tryz.func18, Tryz.ntmps18
  go_upto_region 1 with fail
  rw [← hw2]
  clear hw2
  have y2 := HRA.out.cell (i := 2) (v := .int .i64 ax) rfl
  have z2 := HRB.out.cell (i := 2) (v := .int .i64 bx) rfl
  go_upto_region 2 with fail
  clear y2 z2
  refine wp_region_held_drew (S := (fun W => Below w.heap.size w W ∧ Row W w.heap.size 24 #[.bool an, .string (bs al), .int .i64 ax] ∧ Row W (w.heap.size + 1) 24 #[.bool bn, .string (bs bl), .int .i64 bx])) (by kernel_rfl) (⟨HB2.out.drew, HRA.out.drew, HRB.out.drew⟩) (fun hHeld => ?_)
  refine wpAnyH_take (i := 0) (oi := ?_) (v := ?_) ?_ (by kernel_rfl) (by kernel_rfl) (by kernel_rfl) ?_ ?_ (by assumption) ?_
  rotate_left 2
  · simp only [List.getElem?_toArray, List.getElem?_cons_zero]; with_reducible rfl
  · exact fun _ _ _ h => h
  · refine Or.inl ⟨by rfl, ?_⟩; intro W hSw; have hSw0 := hSw.2.1.cell (i := 0) (v := .bool an) rfl; have hSw1 := hSw.2.1.cell (i := 1) (v := .string (bs al)) rfl; have hSw2 := hSw.2.1.cell (i := 2) (v := .int .i64 ax) rfl; go_simp; try with_reducible rfl
  try simp only [Act.put, List.setIfInBounds_toArray, List.set_cons_zero, List.set_cons_succ]
  refine wpAnyH_take (i := 1) (oi := ?_) (v := ?_) ?_ (by kernel_rfl) (by kernel_rfl) (by kernel_rfl) ?_ ?_ (by assumption) ?_
  rotate_left 2
  · simp only [List.getElem?_toArray, List.getElem?_cons_succ, List.getElem?_cons_zero]; with_reducible rfl
  · exact fun _ _ _ h => h
  · refine Or.inl ⟨by rfl, ?_⟩; intro W hSw; go_simp; try with_reducible rfl
  try simp only [Act.put, List.setIfInBounds_toArray, List.set_cons_zero, List.set_cons_succ]
  refine wpAnyH_take (i := 3) (oi := ?_) (v := ?_) ?_ (by kernel_rfl) (by kernel_rfl) (by kernel_rfl) ?_ ?_ (by assumption) ?_
  rotate_left 2
  · simp only [List.getElem?_toArray, List.getElem?_cons_succ, List.getElem?_cons_zero]; with_reducible rfl
  · exact fun _ _ _ h => h
  · refine Or.inl ⟨by rfl, ?_⟩; intro W hSw; have hSw0 := hSw.2.2.cell (i := 0) (v := .bool bn) rfl; have hSw1 := hSw.2.2.cell (i := 1) (v := .string (bs bl)) rfl; have hSw2 := hSw.2.2.cell (i := 2) (v := .int .i64 bx) rfl; go_simp; try with_reducible rfl
  try simp only [Act.put, List.setIfInBounds_toArray, List.set_cons_zero, List.set_cons_succ]
  refine wpAnyH_take (i := 4) (oi := ?_) (v := ?_) ?_ (by kernel_rfl) (by kernel_rfl) (by kernel_rfl) ?_ ?_ (by assumption) ?_
  rotate_left 2
  · simp only [List.getElem?_toArray, List.getElem?_cons_succ, List.getElem?_cons_zero]; with_reducible rfl
  · exact fun _ _ _ h => h
  · refine Or.inl ⟨by rfl, ?_⟩; intro W hSw; go_simp; try with_reducible rfl
  try simp only [Act.put, List.setIfInBounds_toArray, List.set_cons_zero, List.set_cons_succ]
  refine wpAnyH_ready (rs := [2]) (by kernel_rfl) (by simp) ?_
  refine AllReadyH.cons (o := ?_) ?_ (fun K1 hK1 => ?_) AllReadyH.nil
  rotate_left 1
  · simp only [List.getElem?_toArray, List.getElem?_cons_succ, List.getElem?_cons_zero]; with_reducible rfl
  rw [if_pos (by rfl)]
  go_simp
  refine (HLA.out _).mono ?_
  rintro e5 w5 ⟨rfl, hb5⟩
  go_wp2_with fail
  refine hK1.out _ _ (⟨hHeld.1.call hb5, hHeld.2.1.call hb5, hHeld.2.2.call hb5⟩) (fun hHeld1 => ?_)
  clear hK1 K1
  try simp only [Act.put, List.setIfInBounds_toArray, List.set_cons_zero, List.set_cons_succ]
  refine wpAnyH_ready (rs := [5]) (by kernel_rfl) (by simp) ?_
  refine AllReadyH.cons (o := ?_) ?_ (fun K2 hK2 => ?_) AllReadyH.nil
  rotate_left 1
  · simp only [List.getElem?_toArray, List.getElem?_cons_succ, List.getElem?_cons_zero]; with_reducible rfl
  rw [if_pos (by rfl)]
  go_simp
  refine (HLB.out _).mono ?_
  rintro e6 w6 ⟨rfl, hb6⟩
  go_wp2_with fail
  refine hK2.out _ _ (⟨hHeld1.1.call hb6, hHeld1.2.1.call hb6, hHeld1.2.2.call hb6⟩) (fun hHeld2 => ?_)
  clear hK2 K2
  try simp only [Act.put, List.setIfInBounds_toArray, List.set_cons_zero, List.set_cons_succ]
  refine wpAnyH_ready (rs := [6]) (by kernel_rfl) (by simp) ?_
  refine AllReadyH.cons (o := ?_) ?_ (fun K3 hK3 => ?_) AllReadyH.nil
  rotate_left 1
  · simp only [List.getElem?_toArray, List.getElem?_cons_succ, List.getElem?_cons_zero]; with_reducible rfl
  rw [if_pos (by rfl)]
  go_simp
  refine (HD.out _).mono ?_
  rintro e7 w7 ⟨rfl, hb7⟩
  go_wp2_with fail
  refine hK3.out _ _ (⟨hHeld2.1.call hb7, hHeld2.2.1.call hb7, hHeld2.2.2.call hb7⟩) (fun hHeld3 => ?_)
  clear hK3 K3
  try simp only [Act.put, List.setIfInBounds_toArray, List.set_cons_zero, List.set_cons_succ]
  refine wpAnyH_take (i := 7) (oi := ?_) (v := ?_) ?_ (by kernel_rfl) (by kernel_rfl) (by kernel_rfl) ?_ ?_ (by assumption) ?_
  rotate_left 2
  · simp only [List.getElem?_toArray, List.getElem?_cons_succ, List.getElem?_cons_zero]; with_reducible rfl
  · exact fun _ _ _ h => h
  · refine Or.inl ⟨by rfl, ?_⟩; intro W hSw; go_simp; try with_reducible rfl
  try simp only [Act.put, List.setIfInBounds_toArray, List.set_cons_zero, List.set_cons_succ]
  refine wpAnyH_take (i := 8) (oi := ?_) (v := ?_) ?_ (by kernel_rfl) (by kernel_rfl) (by kernel_rfl) ?_ ?_ (by assumption) ?_
  rotate_left 2
  · simp only [List.getElem?_toArray, List.getElem?_cons_succ, List.getElem?_cons_zero]; with_reducible rfl
  · exact fun _ _ _ h => h
  · refine Or.inl ⟨by rfl, ?_⟩; intro W hSw; go_simp; try with_reducible rfl
  try simp only [Act.put, List.setIfInBounds_toArray, List.set_cons_zero, List.set_cons_succ]
  refine wpAnyH_take (i := 9) (oi := ?_) (v := ?_) ?_ (by kernel_rfl) (by kernel_rfl) (by kernel_rfl) ?_ ?_ (by assumption) ?_
  rotate_left 2
  · simp only [List.getElem?_toArray, List.getElem?_cons_succ, List.getElem?_cons_zero]; with_reducible rfl
  · exact fun _ _ _ h => h
  · refine Or.inl ⟨by rfl, ?_⟩; intro W hSw; go_simp; try with_reducible rfl
  try simp only [Act.put, List.setIfInBounds_toArray, List.set_cons_zero, List.set_cons_succ]
  refine wpAnyH_take (i := 10) (oi := ?_) (v := ?_) ?_ (by kernel_rfl) (by kernel_rfl) (by kernel_rfl) ?_ ?_ (by assumption) ?_
  rotate_left 2
  · simp only [List.getElem?_toArray, List.getElem?_cons_succ, List.getElem?_cons_zero]; with_reducible rfl
  · exact fun _ _ _ h => h
  · refine Or.inl ⟨by rfl, ?_⟩; intro W hSw; go_simp; try with_reducible rfl
  try simp only [Act.put, List.setIfInBounds_toArray, List.set_cons_zero, List.set_cons_succ]
  refine wpAnyH_take (i := 11) (oi := ?_) (v := ?_) ?_ (by kernel_rfl) (by kernel_rfl) (by kernel_rfl) ?_ ?_ (by assumption) ?_
  rotate_left 2
  · simp only [List.getElem?_toArray, List.getElem?_cons_succ, List.getElem?_cons_zero]; with_reducible rfl
  · exact fun _ _ _ h => h
  · refine Or.inl ⟨by rfl, ?_⟩; intro W hSw; go_simp; try with_reducible rfl
  try simp only [Act.put, List.setIfInBounds_toArray, List.set_cons_zero, List.set_cons_succ]
  refine wpAnyH_done (by kernel_rfl) ?_ _
  have hempty := HE.out
  generalize bs (dig (x % y)) = sr at *
  go_wp2_with fail
  go_ret
  exact ⟨ret_val (by rw [← HE.out]; rfl), hHeld3.1⟩
end Go.Proofs.YthgjelpmdndceaaGreatDoor
