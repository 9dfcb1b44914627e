/- Layer 7: the document's Common. -/
import Derived.Test.YthgjelpmdndceaaGreatDoorPt47
namespace Go.Proofs.YthgjelpmdndceaaGreatDoor
open Go.RowKit

theorem com_made {a b : Dec} (ha : aboveB a = true) (hb : aboveB b = true) :
    (mayB (dec false (comN (lev a (minX a b)) (lev b (minX a b))) (minX a b)) = true → comD a b = dec false (comN (lev a (minX a b)) (lev b (minX a b))) (minX a b) ∧ comE a b = 0) ∧
    (mayB (dec false (comN (lev a (minX a b)) (lev b (minX a b))) (minX a b)) = false → comD a b = Dec.zero ∧ comE a b = 4) := by
  have hok : comOk a b = true := by unfold comOk; rw [ha, hb]; rfl
  unfold comD comE mkD mkE
  rw [hok]
  constructor
  · intro h; rw [h]; exact ⟨rfl, rfl⟩
  · intro h; rw [h]; exact ⟨rfl, rfl⟩
set_option maxHeartbeats 4000000 in
theorem rcommon_ok (a b : Dec) (w : World) (ha : aboveB a = true) (hb : aboveB b = true) :
    Calls Tryz.prog 19 #[decV a, decV b] w (Told w (comD a b) (comE a b)) := by
  have ma := (mayB_iff a).1 (above_may ha)
  have mb := (mayB_iff b).1 (above_may hb)
  have l1 := ma.lo; have l2 := mb.lo; have l3 := ma.hi; have l4 := mb.hi; have l5 := ma.len; have l6 := mb.len
  have HCM := Lib.hid (com_made ha hb)
  obtain ⟨E, hE⟩ : ∃ E, E = minX a b := ⟨_, rfl⟩
  have e1 : E ≤ a.exp := by rw [hE]; unfold minX; omega
  have e2 : E ≤ b.exp := by rw [hE]; unfold minX; omega
  have e3 : -1000 ≤ E := by rw [hE]; unfold minX; omega
  have e4 : E ≤ 1000 := by omega
  have HLA := Lib.hid (fun W => rscaled_ok a E W ma.digs (by omega) e1 (by omega) (by omega) (by omega))
  have HLB := Lib.hid (fun W => rscaled_ok b E W mb.digs (by omega) e2 (by omega) (by omega) (by omega))
  have hxl := lev_len ma e3
  have hyl := lev_len mb e3
  have hx0 := lev_pos ha E
  rw [← hE] at HCM
  have hEE : min a.exp b.exp = E := hE.symm
  generalize lev a E = x at *
  generalize lev b E = y at *
  have hg0 : 0 < Nat.gcd x y := Nat.gcd_pos_of_pos_left _ hx0
  have HGC := Lib.hid (fun W => rgcd_ok x y W (by omega) (by omega))
  have HD : Hid (∀ W, Calls Tryz.prog 40 #[.string (bs (dig x)), .string (bs (dig (Nat.gcd x y)))] W fun e w' => e = .returned (.tuple #[.string (bs (dig (x / Nat.gcd x y))), .string (bs (dig (x % Nat.gcd x y)))]) ∧ Below W.heap.size W w') := Lib.hid fun W => by
    have h := rdiv_ok (dig x) (Nat.gcd x y) W (dig_digs x) hg0 (by omega) (by have := dig_mono (Nat.gcd_le_left y hx0); omega)
    rwa [num_dig] at h
  have HMU : Hid (∀ W, Calls Tryz.prog 36 #[.string (bs (dig (x / Nat.gcd x y))), .string (bs (dig y))] W fun e w' => e = .returned (.string (bs (dig (comN x y)))) ∧ Below W.heap.size W w') := Lib.hid fun W => by
    have h := rmul_ok (dig (x / Nat.gcd x y)) (dig y) W (dig_digs _) (dig_digs _) (by have := dig_mono (Nat.div_le_self x (Nat.gcd x y)); omega) (by omega)
    rwa [num_dig, num_dig] at h
  have HMA : Hid (∀ W, Calls Tryz.prog 30 #[.bool false, .string (bs (dig (comN x y))), .int .i64 E] W (MadePost W (dec false (comN x y) E))) := Lib.hid fun W => by
    have hn : (dig (comN x y)).length ≤ 5000 := by
      have h1 := num_lt (dig_digs x)
      have h2 := num_lt (dig_digs y)
      rw [num_dig] at h1 h2
      have h3 : comN x y ≤ x * y := Nat.mul_le_mul_right _ (Nat.div_le_self _ _)
      have h4 : x * y < 10 ^ ((dig x).length + (dig y).length) := by
        rw [Nat.pow_add]
        exact Nat.mul_lt_mul_of_lt_of_le h1 (Nat.le_of_lt h2) (Nat.pow_pos (by omega))
      exact Nat.le_trans (dig_len_le _ (Nat.lt_of_le_of_lt h3 h4)) (by omega)
    have h := made_ok false (dig (comN x y)) E W (dig_digs _) (by omega) (by omega) (by omega)
    rwa [num_dig] at h
  clear hE e1 e2 e3 e4 l1 l2 l3 l4 l5 l6 ma mb ha hb hxl hyl hx0 hg0
  generalize comD a b = cd at *
  generalize comE a b = ce at *
  generalize dec false (comN x y) E = md at *
  generalize comN x y = N at *
  generalize x / Nat.gcd x y = q at *
  generalize x % Nat.gcd x y = r at *
  generalize Nat.gcd x y = g at *
  obtain ⟨dn, dl, dx⟩ := md
  obtain ⟨an, al, ax⟩ := a
  obtain ⟨bn, bl, bx⟩ := b
  unfold MadePost at HMA
  unfold decV at *
  simp only at HLA HLB HMA hEE ⊢
  obtain ⟨w2, hw2⟩ : ∃ w2, w2 = ((w.alloc (.cells #[.bool an, .string (bs al), .int .i64 ax] 24)).alloc (.cells #[.bool bn, .string (bs bl), .int .i64 bx] 24)).alloc (.cells #[.bool false, .string ⟨#[]⟩, .int .i64 0] 24) := ⟨_, rfl⟩
  have HRA : Hid (Row w2 w.heap.size 24 #[.bool an, .string (bs al), .int .i64 ax]) := Lib.hid (by subst hw2; exact ((Row.new _ _ _).alloc _).alloc _)
  have HRB : Hid (Row w2 (w.heap.size + 1) 24 #[.bool bn, .string (bs bl), .int .i64 bx]) := Lib.hid (by
    subst hw2
    have := Row.new (w.alloc (.cells #[.bool an, .string (bs al), .int .i64 ax] 24)) 24 #[.bool bn, .string (bs bl), .int .i64 bx]
    rw [show (w.alloc (.cells #[.bool an, .string (bs al), .int .i64 ax] 24)).heap.size = w.heap.size + 1 by simp] at this
    exact this.alloc _)
  have HRR : Hid (Row w2 (w.heap.size + 1 + 1) 24 #[.bool false, .string ⟨#[]⟩, .int .i64 0]) := Lib.hid (by
    subst hw2
    have := Row.new ((w.alloc (.cells #[.bool an, .string (bs al), .int .i64 ax] 24)).alloc (.cells #[.bool bn, .string (bs bl), .int .i64 bx] 24)) 24 #[.bool false, .string ⟨#[]⟩, .int .i64 0]
    rwa [show ((w.alloc (.cells #[.bool an, .string (bs al), .int .i64 ax] 24)).alloc (.cells #[.bool bn, .string (bs bl), .int .i64 bx] 24)).heap.size = w.heap.size + 1 + 1 by simp] at this)
  have HB2 : Hid (Below w.heap.size w w2) := Lib.hid (by subst hw2; exact (((Below.refl _ _).alloc (Nat.le_refl _) _).alloc (by simp) _).alloc (by simp; omega) _)
  go_enter Tryz.func19, Tryz.ntmps19
  go_upto_region 1 with fail
  rw [← hw2]
  clear hw2
  have y2 := HRA.out.cell (i := 2) (v := .int .i64 ax) rfl
  have z2 := HRB.out.cell (i := 2) (v := .int .i64 bx) rfl
  go_upto_region 2 with fail
  clear y2 z2
  refine wp_region_held_drew (S := (fun W => Below w.heap.size w W ∧ Row W w.heap.size 24 #[.bool an, .string (bs al), .int .i64 ax] ∧ Row W (w.heap.size + 1) 24 #[.bool bn, .string (bs bl), .int .i64 bx])) (by kernel_rfl) (⟨HB2.out.drew, HRA.out.drew, HRB.out.drew⟩) (fun hHeld => ?_)
  refine wpAnyH_take (i := 0) (oi := ?_) (v := ?_) ?_ (by kernel_rfl) (by kernel_rfl) (by kernel_rfl) ?_ ?_ (by assumption) ?_
  rotate_left 2
  · simp only [List.getElem?_toArray, List.getElem?_cons_zero]; with_reducible rfl
  · exact fun _ _ _ h => h
  · refine Or.inl ⟨by rfl, ?_⟩; intro W hSw; have hSw0 := hSw.2.1.cell (i := 0) (v := .bool an) rfl; have hSw1 := hSw.2.1.cell (i := 1) (v := .string (bs al)) rfl; have hSw2 := hSw.2.1.cell (i := 2) (v := .int .i64 ax) rfl; go_simp; try with_reducible rfl
  try simp only [Act.put, List.setIfInBounds_toArray, List.set_cons_zero, List.set_cons_succ]
  refine wpAnyH_take (i := 1) (oi := ?_) (v := ?_) ?_ (by kernel_rfl) (by kernel_rfl) (by kernel_rfl) ?_ ?_ (by assumption) ?_
  rotate_left 2
  · simp only [List.getElem?_toArray, List.getElem?_cons_succ, List.getElem?_cons_zero]; with_reducible rfl
  · exact fun _ _ _ h => h
  · refine Or.inl ⟨by rfl, ?_⟩; intro W hSw; go_simp; try with_reducible rfl
  try simp only [Act.put, List.setIfInBounds_toArray, List.set_cons_zero, List.set_cons_succ]
  refine wpAnyH_take (i := 3) (oi := ?_) (v := ?_) ?_ (by kernel_rfl) (by kernel_rfl) (by kernel_rfl) ?_ ?_ (by assumption) ?_
  rotate_left 2
  · simp only [List.getElem?_toArray, List.getElem?_cons_succ, List.getElem?_cons_zero]; with_reducible rfl
  · exact fun _ _ _ h => h
  · refine Or.inl ⟨by rfl, ?_⟩; intro W hSw; have hSw0 := hSw.2.2.cell (i := 0) (v := .bool bn) rfl; have hSw1 := hSw.2.2.cell (i := 1) (v := .string (bs bl)) rfl; have hSw2 := hSw.2.2.cell (i := 2) (v := .int .i64 bx) rfl; go_simp; try with_reducible rfl
  try simp only [Act.put, List.setIfInBounds_toArray, List.set_cons_zero, List.set_cons_succ]
  refine wpAnyH_take (i := 4) (oi := ?_) (v := ?_) ?_ (by kernel_rfl) (by kernel_rfl) (by kernel_rfl) ?_ ?_ (by assumption) ?_
  rotate_left 2
  · simp only [List.getElem?_toArray, List.getElem?_cons_succ, List.getElem?_cons_zero]; with_reducible rfl
  · exact fun _ _ _ h => h
  · refine Or.inl ⟨by rfl, ?_⟩; intro W hSw; go_simp; try with_reducible rfl
  try simp only [Act.put, List.setIfInBounds_toArray, List.set_cons_zero, List.set_cons_succ]
  refine wpAnyH_ready (rs := [2]) (by kernel_rfl) (by simp) ?_
  refine AllReadyH.cons (o := ?_) ?_ (fun K1 hK1 => ?_) AllReadyH.nil
  rotate_left 1
  · simp only [List.getElem?_toArray, List.getElem?_cons_succ, List.getElem?_cons_zero]; with_reducible rfl
  rw [if_pos (by rfl)]
  go_simp
  refine (HLA.out _).mono ?_
  rintro e5 w5 ⟨rfl, hb5⟩
  have HR5 := Lib.hid (HRR.out.drew.call hb5)
  go_wp2_with fail
  refine hK1.out _ _ (⟨hHeld.1.call hb5, hHeld.2.1.call hb5, hHeld.2.2.call hb5⟩) (fun hHeld1 => ?_)
  clear hK1 K1
  try simp only [Act.put, List.setIfInBounds_toArray, List.set_cons_zero, List.set_cons_succ]
  refine wpAnyH_ready (rs := [5]) (by kernel_rfl) (by simp) ?_
  refine AllReadyH.cons (o := ?_) ?_ (fun K2 hK2 => ?_) AllReadyH.nil
  rotate_left 1
  · simp only [List.getElem?_toArray, List.getElem?_cons_succ, List.getElem?_cons_zero]; with_reducible rfl
  rw [if_pos (by rfl)]
  go_simp
  refine (HLB.out _).mono ?_
  rintro e6 w6 ⟨rfl, hb6⟩
  have HR6 := Lib.hid (HR5.out.call hb6)
  go_wp2_with fail
  refine hK2.out _ _ (⟨hHeld1.1.call hb6, hHeld1.2.1.call hb6, hHeld1.2.2.call hb6⟩) (fun hHeld2 => ?_)
  clear hK2 K2
  try simp only [Act.put, List.setIfInBounds_toArray, List.set_cons_zero, List.set_cons_succ]
  refine wpAnyH_take (i := 6) (oi := ?_) (v := ?_) ?_ (by kernel_rfl) (by kernel_rfl) (by kernel_rfl) ?_ ?_ (by assumption) ?_
  rotate_left 2
  · simp only [List.getElem?_toArray, List.getElem?_cons_succ, List.getElem?_cons_zero]; with_reducible rfl
  · exact fun _ _ _ h => h
  · refine Or.inl ⟨by rfl, ?_⟩; intro W hSw; go_simp; try with_reducible rfl
  try simp only [Act.put, List.setIfInBounds_toArray, List.set_cons_zero, List.set_cons_succ]
  refine wpAnyH_take (i := 7) (oi := ?_) (v := ?_) ?_ (by kernel_rfl) (by kernel_rfl) (by kernel_rfl) ?_ ?_ (by assumption) ?_
  rotate_left 2
  · simp only [List.getElem?_toArray, List.getElem?_cons_succ, List.getElem?_cons_zero]; with_reducible rfl
  · exact fun _ _ _ h => h
  · refine Or.inl ⟨by rfl, ?_⟩; intro W hSw; go_simp; try with_reducible rfl
  try simp only [Act.put, List.setIfInBounds_toArray, List.set_cons_zero, List.set_cons_succ]
  refine wpAnyH_done (by kernel_rfl) ?_ _
  have HB6 := Lib.hid hHeld2.1
  clear hHeld hHeld1 hHeld2
  go_wp2_with fail
  refine (HGC.out _).mono ?_
  rintro e7 w7 ⟨rfl, hb7⟩
  have HR7 := Lib.hid (HR6.out.call hb7)
  have HB7 := Lib.hid (HB6.out.call hb7)
  clear hb7
  go_wp2_with fail
  refine (HD.out _).mono ?_
  rintro e8 w8 ⟨rfl, hb8⟩
  have HR8 := Lib.hid (HR7.out.call hb8)
  have HB8 := Lib.hid (HB7.out.call hb8)
  clear hb8
  go_wp2_with fail
  refine (HMU.out _).mono ?_
  rintro e9 w9 ⟨rfl, hb9⟩
  have HR9 := Lib.hid (HR8.out.call hb9)
  have HB9 := Lib.hid (HB8.out.call hb9)
  clear hb9
  go_wp2_with fail
  refine (HMA.out _).mono ?_
  rintro e10 w10 ⟨rfl, hb10⟩
  have HR10 := Lib.hid (HR9.out.call hb10)
  have HB10 := Lib.hid (HB9.out.call hb10)
  clear hb10
  obtain ⟨w11, hw11⟩ : ∃ w11, w11 = w10.alloc (.cells #[.bool dn, .string (bs dl), .int .i64 dx] 24) := ⟨_, rfl⟩
  have HR11 : Hid (Row w11 (w.heap.size + 1 + 1) 24 #[.bool false, .string ⟨#[]⟩, .int .i64 0]) := Lib.hid (by subst hw11; exact HR10.out.alloc _)
  have HV11 : Hid (Row w11 w10.heap.size 24 #[.bool dn, .string (bs dl), .int .i64 dx]) := Lib.hid (by subst hw11; exact Row.new _ _ _)
  have HB11 : Hid (Below w.heap.size w w11) := Lib.hid (by subst hw11; exact HB10.out.alloc HB10.out.size _)
  go_upto_region 5 with fail
  rw [← hw11]
  clear hw11
  have y0 := HR11.out.cell (i := 0) (v := .bool false) rfl
  have y1 := HR11.out.cell (i := 1) (v := .string ⟨#[]⟩) rfl
  have y2 := HR11.out.cell (i := 2) (v := .int .i64 0) rfl
  have g0 := HR11.out.free 0
  have g1 := HR11.out.free 1
  have g2 := HR11.out.free 2
  have v0 := HV11.out.cell (i := 0) (v := .bool dn) rfl
  have v1 := HV11.out.cell (i := 1) (v := .string (bs dl)) rfl
  have v2 := HV11.out.cell (i := 2) (v := .int .i64 dx) rfl
  cases em : mayB ⟨dn, dl, dx⟩ with
  | false =>
    obtain ⟨rfl, rfl⟩ := HCM.out.2 em
    clear em
    go_wp2_with fail
    have hrow := ((HR11.out.set_ 0 (.bool false)).set_ 1 (.string ⟨#[]⟩)).set_ 2 (.int .i64 0)
    refine bodyPost_ret_by (results_row_tmp rfl _ _ (w.heap.size + 1 + 1) #[.bool false, .string ⟨#[]⟩, .int .i64 0] rfl (load_dec hrow rfl)) rfl ?_
    exact ⟨rfl, ((HB11.out.setCell (p := ⟨w.heap.size + 1 + 1, 0, none⟩) (by simp only; omega) _).setCell (p := ⟨w.heap.size + 1 + 1, 1, none⟩) (by simp only; omega) _).setCell (p := ⟨w.heap.size + 1 + 1, 2, none⟩) (by simp only; omega) _⟩
  | true =>
    obtain ⟨rfl, rfl⟩ := HCM.out.1 em
    clear em
    go_wp2_with fail
    have hrow := ((HR11.out.set_ 0 (.bool dn)).set_ 1 (.string (bs dl))).set_ 2 (.int .i64 dx)
    refine bodyPost_ret_by (results_row_tmp rfl _ _ (w.heap.size + 1 + 1) #[.bool dn, .string (bs dl), .int .i64 dx] rfl (load_dec hrow rfl)) rfl ?_
    exact ⟨rfl, ((HB11.out.setCell (p := ⟨w.heap.size + 1 + 1, 0, none⟩) (by simp only; omega) _).setCell (p := ⟨w.heap.size + 1 + 1, 1, none⟩) (by simp only; omega) _).setCell (p := ⟨w.heap.size + 1 + 1, 2, none⟩) (by simp only; omega) _⟩
end Go.Proofs.YthgjelpmdndceaaGreatDoor
