/- Layer 3: sectors that no tear makes whole are left as they are. -/
import Derived.Test.YtljlkmmeedlaiaaDoorPt21
namespace Go.Proofs.YtljlkmmeedlaiaaDoor
open Go.RowKit Go.Shelf
attribute [local go_sem] Oper.semAt_some

set_option maxRecDepth 100000 in
set_option maxHeartbeats 1000000 in
theorem spoil_ok (w : World) (FL FD : Nat → Prop) (p : Nat) (l : L) (d : D) (f : Int → List Nat) (at_ m : Nat) (h : LogOn w FL FD p l d) (hf : d.read = f) (hsec : ∀ k, Sec (f k)) (hm : 0 < m) (ha : at_ + m ≤ l.n)
    (hq : ∀ i, i < m → runL (f ((l.from_ : Int) + at_ + i)) = runL ((f ((l.from_ : Int) + at_ + i)).drop 500) ∨ runL ((f ((l.from_ : Int) + at_ + i)).drop 500) < l.base ∨ ∀ W, Below w.heap.size w W → Calls Tryd.prog 63 #[.int .u64 l.run, .int .u64 (runL (f ((l.from_ : Int) + at_ + i))), .int .u64 (runL ((f ((l.from_ : Int) + at_ + i)).drop 500))] W fun e w' => e = .returned (.bool false) ∧ Below W.heap.size W w') :
    Calls Tryd.prog 39 #[.pointer (some ⟨p, 0, none⟩), .int .i64 at_, .int .i64 m] w fun e w' => e = .returned (.int .i64 0) ∧ Below w.heap.size w w' := by
  have hmost := h.most
  have hsz := h.size
  obtain ⟨w0, hw0⟩ : ∃ w0, w0 = w.alloc (.cells #[.pointer (some ⟨p, 0, none⟩)] 33) := ⟨_, rfl⟩
  have hb0 : Below w.heap.size w w0 := by subst hw0; exact (Below.refl _ _).alloc (Nat.le_refl _) _
  have hr0 : Row w0 w.heap.size 33 #[.pointer (some ⟨p, 0, none⟩)] := by subst hw0; exact Row.new _ _ _
  have HC : Hid (∀ W, Below w0.heap.size w0 W → (W.cell? ⟨w.heap.size, 0, none⟩ = some (.pointer (some ⟨p, 0, none⟩)) ∧ W.cell? ⟨p, 0, none⟩ = some (.pointer (some ⟨l.dp, 0, none⟩)) ∧ W.cell? ⟨p, 1, none⟩ = some (.int .i64 l.from_)) ∧ W.cell? ⟨p, 3, none⟩ = some (.int .u64 l.run) ∧ W.cell? ⟨p, 4, none⟩ = some (.int .u64 l.base)) := Lib.hid fun W hb => by
    obtain ⟨vb, mm, h0, h1, _, h3, h4, _⟩ := ((h.call hb0).call hb).cells
    exact ⟨⟨(hr0.call hb).cell (i := 0) rfl, h0, h1⟩, h3, h4⟩
  have HRD : Hid (∀ W, Below w0.heap.size w0 W → Calls Tryd.prog 54 #[.pointer (some ⟨l.dp, 0, none⟩), .int .i64 ((l.from_ : Int) + at_), .int .i64 m] W (ReadPost W f ((l.from_ : Int) + at_) m)) := Lib.hid fun W hb => by
    rw [← hf]
    exact read_ok l.dp d ((l.from_ : Int) + at_) m m W ((h.call hb0).call hb).disk rfl (by omega) (by omega)
  have HB0 := Lib.hid hb0
  have HQ := Lib.hid hq
  have HSEC := Lib.hid hsec
  have hn4 := h.n4
  obtain ⟨⟨i0, i1, i2⟩, _⟩ := HC.out w0 (Below.refl _ _)
  clear h hf hq hsec hr0 hb0
  refine (callsIn_wide (n := 3)).1 ?_
  refine callsIn_of_wp_marks Tryd.func39 rfl trivial ?_ rfl
  simp only [Tryd.ntmps39, List.size_toArray, List.length_cons, List.length_nil, Nat.reduceAdd, Nat.reduceSub, Array.replicate_succ, Array.replicate_zero, List.push_toArray, List.append_toArray, List.nil_append, List.cons_append]
  refine wpIn_wide.2 ?_
  go_upto_region 1 with fail
  rw [← hw0]
  clear hw0
  go_wp2_with fail
  have hd1 : Below w0.heap.size w0 w0.drew := (Below.refl _ _).drew
  refine wp_no_panic ?_
  refine wp_region_held_drew (S := (fun W => Below w0.heap.size w0 W)) (by kernel_rfl) hd1 (fun hHeld => ?_)
  refine wpAnyH_take (i := 0) (oi := ?_) (v := ?_) ?_ (by kernel_rfl) (by kernel_rfl) (by kernel_rfl) ?_ ?_ (by assumption) ?_
  rotate_left 2
  · simp only [List.getElem?_toArray, List.getElem?_cons_zero]; with_reducible rfl
  · exact fun _ _ _ h => h
  · refine Or.inl ⟨by rfl, ?_⟩; intro W hSw; obtain ⟨⟨i0, i1, i2⟩, _⟩ := HC.out W hSw; go_simp; try with_reducible rfl
  try simp only [Act.put, List.setIfInBounds_toArray, List.set_cons_zero, List.set_cons_succ]
  refine wpAnyH_take (i := 1) (oi := ?_) (v := ?_) ?_ (by kernel_rfl) (by kernel_rfl) (by kernel_rfl) ?_ ?_ (by assumption) ?_
  rotate_left 2
  · simp only [List.getElem?_toArray, List.getElem?_cons_succ, List.getElem?_cons_zero]; with_reducible rfl
  · exact fun _ _ _ h => h
  · refine Or.inl ⟨by rfl, ?_⟩; intro W hSw; obtain ⟨⟨i0, i1, i2⟩, _⟩ := HC.out W hSw; go_simp; try with_reducible rfl
  try simp only [Act.put, List.setIfInBounds_toArray, List.set_cons_zero, List.set_cons_succ]
  refine wpAnyH_take (i := 2) (oi := ?_) (v := ?_) ?_ (by kernel_rfl) (by kernel_rfl) (by kernel_rfl) ?_ ?_ (by assumption) ?_
  rotate_left 2
  · simp only [List.getElem?_toArray, List.getElem?_cons_succ, List.getElem?_cons_zero]; with_reducible rfl
  · exact fun _ _ _ h => h
  · refine Or.inl ⟨by rfl, ?_⟩; intro W hSw; obtain ⟨⟨i0, i1, i2⟩, _⟩ := HC.out W hSw; go_simp; try with_reducible rfl
  try simp only [Act.put, List.setIfInBounds_toArray, List.set_cons_zero, List.set_cons_succ]
  refine wpAnyH_take (i := 3) (oi := ?_) (v := ?_) ?_ (by kernel_rfl) (by kernel_rfl) (by kernel_rfl) ?_ ?_ (by assumption) ?_
  rotate_left 2
  · simp only [List.getElem?_toArray, List.getElem?_cons_succ, List.getElem?_cons_zero]; with_reducible rfl
  · exact fun _ _ _ h => h
  · refine Or.inl ⟨by rfl, ?_⟩; intro W hSw; obtain ⟨⟨i0, i1, i2⟩, _⟩ := HC.out W hSw; go_simp; try with_reducible rfl
  try simp only [Act.put, List.setIfInBounds_toArray, List.set_cons_zero, List.set_cons_succ]
  refine wpAnyH_take (i := 4) (oi := ?_) (v := ?_) ?_ (by kernel_rfl) (by kernel_rfl) (by kernel_rfl) ?_ ?_ (by assumption) ?_
  rotate_left 2
  · simp only [List.getElem?_toArray, List.getElem?_cons_succ, List.getElem?_cons_zero]; with_reducible rfl
  · exact fun _ _ _ h => h
  · refine Or.inl ⟨by rfl, ?_⟩; intro W hSw; obtain ⟨⟨i0, i1, i2⟩, _⟩ := HC.out W hSw; go_simp; try with_reducible rfl
  try simp only [Act.put, List.setIfInBounds_toArray, List.set_cons_zero, List.set_cons_succ]
  refine wpAnyH_take (i := 5) (oi := ?_) (v := ?_) ?_ (by kernel_rfl) (by kernel_rfl) (by kernel_rfl) ?_ ?_ (by assumption) ?_
  rotate_left 2
  · simp only [List.getElem?_toArray, List.getElem?_cons_succ, List.getElem?_cons_zero]; with_reducible rfl
  · exact fun _ _ _ h => h
  · refine Or.inl ⟨by rfl, ?_⟩; intro W hSw; obtain ⟨⟨i0, i1, i2⟩, _⟩ := HC.out W hSw; go_simp; try with_reducible rfl
  try simp only [Act.put, List.setIfInBounds_toArray, List.set_cons_zero, List.set_cons_succ]
  refine wpAnyH_take (i := 6) (oi := ?_) (v := ?_) ?_ (by kernel_rfl) (by kernel_rfl) (by kernel_rfl) ?_ ?_ (by assumption) ?_
  rotate_left 2
  · simp only [List.getElem?_toArray, List.getElem?_cons_succ, List.getElem?_cons_zero]; with_reducible rfl
  · exact fun _ _ _ h => h
  · refine Or.inl ⟨by rfl, ?_⟩; intro W hSw; obtain ⟨⟨i0, i1, i2⟩, _⟩ := HC.out W hSw; go_simp; try with_reducible rfl
  try simp only [Act.put, List.setIfInBounds_toArray, List.set_cons_zero, List.set_cons_succ]
  refine wpAnyH_take (i := 7) (oi := ?_) (v := ?_) ?_ (by kernel_rfl) (by kernel_rfl) (by kernel_rfl) ?_ ?_ (by assumption) ?_
  rotate_left 2
  · simp only [List.getElem?_toArray, List.getElem?_cons_succ, List.getElem?_cons_zero]; with_reducible rfl
  · exact fun _ _ _ h => h
  · refine Or.inl ⟨by rfl, ?_⟩; intro W hSw; obtain ⟨⟨i0, i1, i2⟩, _⟩ := HC.out W hSw; go_simp; try with_reducible rfl
  try simp only [Act.put, List.setIfInBounds_toArray, List.set_cons_zero, List.set_cons_succ]
  refine wpAnyH_take (i := 8) (oi := ?_) (v := ?_) ?_ (by kernel_rfl) (by kernel_rfl) (by kernel_rfl) ?_ ?_ (by assumption) ?_
  rotate_left 2
  · simp only [List.getElem?_toArray, List.getElem?_cons_succ, List.getElem?_cons_zero]; with_reducible rfl
  · exact fun _ _ _ h => h
  · refine Or.inl ⟨by rfl, ?_⟩; intro W hSw; obtain ⟨⟨i0, i1, i2⟩, _⟩ := HC.out W hSw; go_simp; try with_reducible rfl
  try simp only [Act.put, List.setIfInBounds_toArray, List.set_cons_zero, List.set_cons_succ]
  refine wpAnyH_take (i := 9) (oi := ?_) (v := .int .i64 ((l.from_ : Int) + at_)) ?_ (by kernel_rfl) (by kernel_rfl) (by kernel_rfl) ?_ ?_ (by assumption) ?_
  rotate_left 1
  · simp only [List.getElem?_toArray, List.getElem?_cons_succ, List.getElem?_cons_zero]; with_reducible rfl
  · exact fun _ _ _ h => h
  · refine Or.inl ⟨by rfl, ?_⟩; intro W hSw; go_simp; rw [IntWalk.i64_in _ (by omega)]
  try simp only [Act.put, List.setIfInBounds_toArray, List.set_cons_zero, List.set_cons_succ]
  refine wpAnyH_take (i := 10) (oi := ?_) (v := ?_) ?_ (by kernel_rfl) (by kernel_rfl) (by kernel_rfl) ?_ ?_ (by assumption) ?_
  rotate_left 2
  · simp only [List.getElem?_toArray, List.getElem?_cons_succ, List.getElem?_cons_zero]; with_reducible rfl
  · exact fun _ _ _ h => h
  · refine Or.inl ⟨by rfl, ?_⟩; intro W hSw; obtain ⟨⟨i0, i1, i2⟩, _⟩ := HC.out W hSw; go_simp; try with_reducible rfl
  try simp only [Act.put, List.setIfInBounds_toArray, List.set_cons_zero, List.set_cons_succ]
  refine wpAnyH_ready (rs := [11]) (by kernel_rfl) (by simp) ?_
  refine AllReadyH.cons (o := ?_) ?_ (fun K1 hK1 => ?_) AllReadyH.nil
  rotate_left 1
  · simp only [List.getElem?_toArray, List.getElem?_cons_succ, List.getElem?_cons_zero]; with_reducible rfl
  rw [if_pos (by rfl)]
  go_simp
  refine (HRD.out _ hd1).mono ?_
  rintro e w1 ⟨g, rfl, hge, hrow, hbx⟩
  have hbx2 : Below w0.heap.size w0 w1 := hd1.call hbx
  go_wp2_with fail
  refine hK1.out _ _ hbx2 (fun hHeld1 => ?_)
  clear hK1 K1
  try simp only [Act.put, List.setIfInBounds_toArray, List.set_cons_zero, List.set_cons_succ]
  refine wpAnyH_take (i := 12) (oi := ?_) (v := ?_) ?_ (by kernel_rfl) (by kernel_rfl) (by kernel_rfl) ?_ ?_ (by assumption) ?_
  rotate_left 2
  · simp only [List.getElem?_toArray, List.getElem?_cons_succ, List.getElem?_cons_zero]; with_reducible rfl
  · exact fun _ _ _ h => h
  · refine Or.inl ⟨by rfl, ?_⟩; intro W hSw; go_simp; try with_reducible rfl
  try simp only [Act.put, List.setIfInBounds_toArray, List.set_cons_zero, List.set_cons_succ]
  refine wpAnyH_take (i := 13) (oi := ?_) (v := ?_) ?_ (by kernel_rfl) (by kernel_rfl) (by kernel_rfl) ?_ ?_ (by assumption) ?_
  rotate_left 2
  · simp only [List.getElem?_toArray, List.getElem?_cons_succ, List.getElem?_cons_zero]; with_reducible rfl
  · exact fun _ _ _ h => h
  · refine Or.inl ⟨by rfl, ?_⟩; intro W hSw; go_simp; try with_reducible rfl
  try simp only [Act.put, List.setIfInBounds_toArray, List.set_cons_zero, List.set_cons_succ]
  refine wpAnyH_take (i := 14) (oi := ?_) (v := ?_) ?_ (by kernel_rfl) (by kernel_rfl) (by kernel_rfl) ?_ ?_ (by assumption) ?_
  rotate_left 2
  · simp only [List.getElem?_toArray, List.getElem?_cons_succ, List.getElem?_cons_zero]; with_reducible rfl
  · exact fun _ _ _ h => h
  · refine Or.inl ⟨by rfl, ?_⟩; intro W hSw; go_simp; try with_reducible rfl
  try simp only [Act.put, List.setIfInBounds_toArray, List.set_cons_zero, List.set_cons_succ]
  refine wpAnyH_take (i := 15) (oi := ?_) (v := ?_) ?_ (by kernel_rfl) (by kernel_rfl) (by kernel_rfl) ?_ ?_ (by assumption) ?_
  rotate_left 2
  · simp only [List.getElem?_toArray, List.getElem?_cons_succ, List.getElem?_cons_zero]; with_reducible rfl
  · exact fun _ _ _ h => h
  · refine Or.inl ⟨by rfl, ?_⟩; intro W hSw; go_simp; try with_reducible rfl
  try simp only [Act.put, List.setIfInBounds_toArray, List.set_cons_zero, List.set_cons_succ]
  refine wpAnyH_take (i := 16) (oi := ?_) (v := ?_) ?_ (by kernel_rfl) (by kernel_rfl) (by kernel_rfl) ?_ ?_ (by assumption) ?_
  rotate_left 2
  · simp only [List.getElem?_toArray, List.getElem?_cons_succ, List.getElem?_cons_zero]; with_reducible rfl
  · exact fun _ _ _ h => h
  · refine Or.inl ⟨by rfl, ?_⟩; intro W hSw; go_simp; try with_reducible rfl
  try simp only [Act.put, List.setIfInBounds_toArray, List.set_cons_zero, List.set_cons_succ]
  refine wpAnyH_done (by kernel_rfl) ?_ _
  have HROW := Lib.hid hrow
  have HBX := Lib.hid hbx2
  have hgl : g < w1.heap.size := hrow.lt
  clear hd1 hHeld hge hrow hbx hHeld1 hbx2 i0 i1 i2 HRD
  obtain ⟨w2, hw2⟩ : ∃ w2, w2 = w1.alloc (.cells #[.bool false] 4) := ⟨_, rfl⟩
  have hb2 : Below w1.heap.size w1 w2 := by subst hw2; exact (Below.refl _ _).alloc (Nat.le_refl _) _
  have HF2 : Hid (Row w2 w1.heap.size 4 #[.bool false]) := Lib.hid (by subst hw2; exact Row.new _ _ _)
  have HROW2 := Lib.hid (HROW.out.call hb2)
  have HBX2 := Lib.hid (HBX.out.call hb2)
  clear hb2 HROW HBX
  go_wp2_with fail
  rw [← hw2]
  clear hw2
  refine (chunk_ok g 0 (m * 512) (m * 512) 512 w2 (by decide)).mono ?_
  rintro e w7 ⟨rfl, hc7, hb7, hz7⟩
  have HC7 := Lib.hid hc7
  have HF7 := Lib.hid (HF2.out.call hb7)
  have HROW7 := Lib.hid (HROW2.out.call hb7)
  have HB7 := Lib.hid (HBX2.out.call hb7)
  have hfl : w1.heap.size < w7.heap.size := HF7.out.lt
  have hgl7 : g < w7.heap.size := HROW7.out.lt
  have hw17 : w.heap.size ≤ w7.heap.size := by have := HB0.out.size; have := HB7.out.size; omega
  clear hc7 hb7 hz7 HF2 HROW2 HBX2
  have hN2 : m * 512 ≤ m * 512 := Nat.le_refl _
  have hm9 : m * 512 ≤ 100000000 := by omega
  go_wp2_with fail
  refine (wpIn_wide (n := 4)).1 ?_
  refine wpIn_rangeFunc_ownF rfl (by omega) (gf := 74) (lb := #[.pointer (some ⟨w2.heap.size, 0, none⟩), .pointer (some ⟨w2.heap.size + 1, 0, none⟩)]) rfl trivial (enters_of Tryd.func74 (by kernel_rfl) rfl)
    (chunk_stops w7 w2.heap.size (w2.heap.size + 1) g 0 (m * 512) (m * 512) 512 m HC7.out (by decide) (by decide) (Nat.le_refl _) hm9 (fun j hj => Nat.mul_lt_mul_of_pos_right hj (by decide)) hN2 (Below w7.heap.size) (fun W W' v hk => ⟨fun hc => (hk.cell (p := ⟨w2.heap.size, 0, none⟩) HC7.out.lq).trans hc, fun hc => (hk.cell (p := ⟨w2.heap.size + 1, 0, none⟩) HC7.out.lq2).trans hc⟩))
    belowK_t (belowK_b (Nat.le_refl _)) (Below.refl _ _) (fun _ => rfl)
    (fun _ W => Below w7.heap.size w7 W) (fun _ _ _ => False) ?hI ?hIx ?h0 ?a1 ?assign ?body ?done ?stop
  case assign =>
    intro l' i W K hK
    simp only [oneChunk]
    gi_wp2
    exact hK
  case hI => exact ownFrom_below (Nat.le_refl _) (Nat.le_refl _)
  case hIx => exact fun _ _ _ _ _ h _ _ => h
  case h0 => exact Below.refl _ _
  case stop => exact fun _ _ _ _ _ _ h => h.elim
  case done =>
    rintro Dk ys W hD rfl hI hK
    have hcl := (HF7.out.below hI hfl).cell (i := 0) (v := .bool false) rfl
    have hDw : w.heap.size ≤ Dk := by omega
    have hbw : Below w.heap.size w W := HB0.out.trans ((HB7.out.trans (hI.mono HB7.out.size)).mono HB0.out.size)
    have hbe : Below w.heap.size w (W.putObj Dk (.deferred none)) := hbw.trans (belowK_b (w := w) (Nat.le_refl _) W Dk _ (.deferred none) hDw hK rfl rfl)
    have HBE := Lib.hid hbe
    have HKK := Lib.hid hK
    clear hbw hbe hI hK HC7 HROW7 HQ HC
    go_wp2
    refine ⟨by simp, .inl ⟨_, _, rfl, run_takeDeferred HKK.out, ?_⟩⟩
    refine ⟨.int .i64 0, ?_, rfl, HBE.out⟩
    simp [results, Tryd.f39, go_sem]
  case body =>
    rintro l' pre i W hI hlen
    have hrow := HROW7.out.below hI hgl7
    have hsec : secOf (readL f ((l.from_ : Int) + at_) m) i.val = f ((l.from_ : Int) + at_ + i.val) := secOf_readLA HSEC.out _ m i.val i.isLt
    have hrl : (readL f ((l.from_ : Int) + at_) m).length = m * 512 := readL_length HSEC.out _ _
    have hil : (i.val + 1) * 512 ≤ m * 512 := Nat.mul_le_mul_right _ i.isLt
    have hS := Bytes.of_row hrow (readL_small HSEC.out _ m) (off := i.val * 512) (n := 512) (by omega)
    change Bytes W (some ⟨g, i.val * 512, none⟩) 512 (secOf (readL f ((l.from_ : Int) + at_) m) i.val) at hS
    rw [hsec] at hS
    have hqi := HQ.out i.val i.isLt
    have hmin := chunk512 m i.val i.isLt
    unfold chunkV
    rw [hmin, Nat.zero_add]
    have hbi : Below w0.heap.size w0 W := HB7.out.trans (hI.mono HB7.out.size)
    obtain ⟨⟨k0, _, _⟩, k3, k4⟩ := HC.out W hbi
    have HBI := Lib.hid hbi
    have HI := Lib.hid hI
    have HS := Lib.hid hS
    have HQI := Lib.hid hqi
    clear hrow hsec hrl hil hS hqi hmin hI hbi
    generalize f ((l.from_ : Int) + at_ + i.val) = s at *
    generalize i.val * 512 = io at *
    have hfm := field_mark
    have hd0 : Below W.heap.size W W.drew := (Below.refl _ _).drew
    have hmix : Tryd.prog.follows .mixedOrders = true := by kernel_rfl
    gi_wp2_with fail
    have HS5 : Hid (Bytes W (some ⟨g, io + 500, none⟩) 12 (s.drop 500)) := Lib.hid (HS.out.drop (k := 500) (by decide))
    have HMK : Hid (∀ (W' : World) (o n : Nat) (r q : Nat), (o = io ∧ n = 512 ∧ r = runL s ∧ q = plL s) ∨ (o = io + 500 ∧ n = 12 ∧ r = runL (s.drop 500) ∧ q = plL (s.drop 500)) → Below W.heap.size W W' → Calls Tryd.prog 62 #[slc g o n n] W' fun e w' => e = .returned (.agg #[.int .u64 r, .int .u64 q]) ∧ Below W'.heap.size W' w') := Lib.hid (by
      rintro W' o n r q (⟨rfl, rfl, rfl, rfl⟩ | ⟨rfl, rfl, rfl, rfl⟩) hb
      · exact markOf_agg g _ 512 512 s W' (HS.out.below hb) (by decide) (by decide) (by decide)
      · exact markOf_agg g _ 12 12 (s.drop 500) W' (HS5.out.below hb) (by decide) (by decide) (by decide))
    obtain ⟨r1, hr1⟩ : ∃ r, r = runL s := ⟨_, rfl⟩
    obtain ⟨r2, hr2⟩ : ∃ r, r = runL (s.drop 500) := ⟨_, rfl⟩
    have HR12 : Hid (r1 = runL s ∧ r2 = runL (s.drop 500)) := Lib.hid ⟨hr1, hr2⟩
    clear hr1 hr2
    refine wpIn_to [(34, slc g io 512 512), (35, .agg #[.int .u64 r1, .int .u64 (plL s)]), (36, .int .u64 r1), (37, slc g io 512 512), (38, slc g (io + 500) 12 12), (39, .agg #[.int .u64 r2, .int .u64 (plL (s.drop 500))]), (40, .int .u64 r2), (11, .int .u64 r1), (12, .int .u64 r2)] (fun Wx => Below W.heap.size W Wx) ?_ ?_
    · gi_region_with_o (first
        | (refine ⟨trivial, ?_⟩; gi_at_call 62
           refine (CallsIn.inRound l' (callsIn_wide.2 (HMK.out _ _ _ _ _ (by first | exact .inl ⟨rfl, rfl, HR12.out.1, rfl⟩ | exact .inr ⟨rfl, rfl, HR12.out.2, rfl⟩) (by assumption)))).mono ?_
           rintro e Wx ⟨rfl, hbx⟩
           have hbx2 : Below W.heap.size W Wx := Below.call (by assumption) hbx))
      all_goals (
        refine ⟨?_, hbx2⟩
        simp only [puts, List.foldl, Act.put, List.setIfInBounds_toArray, List.set_cons_zero, List.set_cons_succ])
    · intro Wx hbx2
      simp only [puts, List.foldl, Act.put, List.setIfInBounds_toArray, List.set_cons_zero, List.set_cons_succ]
      obtain ⟨⟨q0, _, _⟩, q3, q4⟩ := HC.out Wx (HBI.out.call hbx2)
      have HX2 := Lib.hid hbx2
      have HIX : Hid (Below w7.heap.size w7 Wx ∧ Below w7.heap.size W Wx ∧ KeepsOthers W Wx) := Lib.hid ⟨HI.out.trans (hbx2.mono HI.out.size), hbx2.mono HI.out.size, KeepsOthers.of_below hbx2⟩
      have hq2 := HQI.out
      rw [← HR12.out.1, ← HR12.out.2] at hq2
      have HQ2 := Lib.hid hq2
      clear hbx2 hq2 hd0
      by_cases c1 : r1 = r2
      · subst c1
        have d0 : ((r1 : Int) != (r1 : Int)) = false := by simp
        gi_wp2_with fail
        refine ⟨trivial, ?_⟩
        gi_wp2_with fail
        exact ⟨HIX.out.2.2, HIX.out.2.1, HIX.out.1⟩
      · have d1 : ((r1 : Int) != (r2 : Int)) = true := by simp; omega
        by_cases c2 : r2 < l.base
        · have d2 : decide (l.base ≤ r2) = false := by simp; omega
          clear c1 c2
          gi_wp2_with fail
          refine ⟨trivial, ?_⟩
          gi_wp2_with fail
          exact ⟨HIX.out.2.2, HIX.out.2.1, HIX.out.1⟩
        · have d2 : decide (l.base ≤ r2) = true := by simp; omega
          have HMX : Hid (∀ W', Below w.heap.size w W' → Calls Tryd.prog 63 #[.int .u64 l.run, .int .u64 r1, .int .u64 r2] W' fun e w' => e = .returned (.bool false) ∧ Below W'.heap.size W' w') := Lib.hid (by
            rcases HQ2.out with h | h | h
            · exact absurd h c1
            · exact absurd h c2
            · exact h)
          have HWX : Hid (Below w.heap.size w Wx) := Lib.hid (HB0.out.call (HBI.out.call HX2.out))
          clear c1 c2
          gi_wp2_with fail
          refine ⟨trivial, ?_⟩
          refine (CallsIn.inRound l' (callsIn_wide.2 (HMX.out Wx HWX.out))).mono ?_
          rintro e Wm ⟨rfl, hbm⟩
          have HIM : Hid (Below w7.heap.size w7 Wm ∧ Below w7.heap.size W Wm ∧ KeepsOthers W Wm) := Lib.hid (by
            have hX := HX2.out.call hbm
            exact ⟨HI.out.trans (hX.mono HI.out.size), hX.mono HI.out.size, KeepsOthers.of_below hX⟩)
          clear hbm
          gi_wp2_with fail
          exact ⟨HIM.out.2.2, HIM.out.2.1, HIM.out.1⟩
end Go.Proofs.YtljlkmmeedlaiaaDoor
