/- Layer 3: a log's body is read. -/
import Derived.Test.YtljlkmmeedlaiaaDoorPt28
import Derived.Test.YtljlkmmeedlaiaaDoorPt30
import Derived.Test.YtljlkmmeedlaiaaDoorPt31
namespace Go.Proofs.YtljlkmmeedlaiaaDoor
open Go.RowKit Go.Shelf
attribute [local go_sem] Oper.semAt_some

theorem wpIn_toE {F : Fence} {n : Nat} {P : Program} {c : Code} {K : Act → World → Prop} {Q : Exit → Act → World → Prop} {a : Act} {w : World} {β : Type} (l : β → List (Nat × Value)) (R : β → World → Prop)
    (h : c.wpIn F n P (Exit.then (fun a' w' => ∃ b, a' = puts a (l b) ∧ R b w') (fun _ _ _ => False)) a w) (h2 : ∀ b w', R b w' → K (puts a (l b)) w') : c.wpIn F n P (Exit.then K Q) a w := by
  refine wpIn_mono h fun e a' w' h => ?_
  cases e
  case normal =>
    obtain ⟨b, rfl, hr⟩ := h
    exact h2 b w' hr
  all_goals exact h.elim
/-- What readBody leaves: no log, or its batches. -/
def BodyL (w : World) (FL FD : Nat → Prop) (p : Nat) (l : L) (d : D) (f : Int → List Nat) (N : Nat) (e : Ending) (w' : World) : Prop :=
  ((∃ j, j < N ∧ l.run < runL (f ((l.from_ : Int) + 2 + (j : Int)))) ∧ e = .returned (.int .i64 9) ∧ Below w.heap.size w w') ∨
  ((∀ j, j < N → runL (f ((l.from_ : Int) + 2 + (j : Int))) ≤ l.run) ∧ e = .returned (.int .i64 0) ∧
    LeftL w FL FD p { l with used := (scan l.base sc0 (bodyFrom f ((l.from_ : Int) + 2) N 0)).used, bs := (scan l.base sc0 (bodyFrom f ((l.from_ : Int) + 2) N 0)).bs } d w')
set_option maxRecDepth 100000 in
set_option maxHeartbeats 8000000 in
theorem readBody_ok (w : World) (FL FD : Nat → Prop) (p : Nat) (l : L) (d : D) (f : Int → List Nat) (N : Nat) (hN : l.n = N + 2) (h : LogOn w FL FD p l d) (hf : d.read = f) (hsec : ∀ k, Sec (f k)) (hu : l.used = 0) (hbs : l.bs = []) :
    Calls Tryd.prog 56 #[.pointer (some ⟨p, 0, none⟩), .func (.func 54) #[.pointer (some ⟨l.dp, 0, none⟩)] #[]] w (BodyL w FL FD p l d f N) := by
  have hmost := h.most
  have hsz := h.size
  have hn4 := h.n4
  obtain ⟨w0, hw0⟩ : ∃ w0, w0 = (w.alloc (.cells #[.pointer (some ⟨p, 0, none⟩)] 33)).alloc (.cells #[.int .i64 0] 26) := ⟨_, rfl⟩
  have hb0 : Below w.heap.size w w0 := by subst hw0; exact ((Below.refl _ _).alloc (Nat.le_refl _) _).alloc (by simp) _
  have hr0 : Row w0 w.heap.size 33 #[.pointer (some ⟨p, 0, none⟩)] := by subst hw0; exact (Row.new _ _ _).alloc _
  have hr4 : Row w0 (w.heap.size + 1) 26 #[.int .i64 0] := by subst hw0; exact Row.new1 _ _ _ _
  have HC : Hid (∀ W, Below w0.heap.size w0 W → (W.cell? ⟨w.heap.size, 0, none⟩ = some (.pointer (some ⟨p, 0, none⟩)) ∧ W.cell? ⟨p, 1, none⟩ = some (.int .i64 l.from_) ∧ W.cell? ⟨p, 2, none⟩ = some (.int .i64 l.n)) ∧ W.cell? ⟨p, 3, none⟩ = some (.int .u64 l.run) ∧ Row W (w.heap.size + 1) 26 #[.int .i64 0] ∧ LogOn W FL FD p l d ∧ Row W w.heap.size 33 #[.pointer (some ⟨p, 0, none⟩)]) := Lib.hid fun W hb => by
    obtain ⟨vb, mm, _, h1, h2, h3, _⟩ := ((h.call hb0).call hb).cells
    exact ⟨⟨(hr0.call hb).cell (i := 0) rfl, h1, h2⟩, h3, hr4.call hb, (h.call hb0).call hb, hr0.call hb⟩
  have HRD : Hid (∀ W, Below w0.heap.size w0 W → Calls Tryd.prog 54 #[.pointer (some ⟨l.dp, 0, none⟩), .int .i64 ((l.from_ : Int) + 2), .int .i64 N] W (ReadPost W f ((l.from_ : Int) + 2) N)) := Lib.hid fun W hb => by
    rw [← hf]
    exact read_ok l.dp d ((l.from_ : Int) + 2) N N W ((h.call hb0).call hb).disk rfl (by omega) (by omega)
  have HNN : Hid ((l.n : Int) - 2 = (N : Int)) := Lib.hid (by omega)
  have HB0 := Lib.hid hb0
  have HLT : Hid ((∀ k, FL k → k < w.heap.size) ∧ ∀ k, FD k → k < w.heap.size) := Lib.hid ⟨h.thereL, h.thereD⟩
  have HSEC := Lib.hid hsec
  have HU := Lib.hid hu
  have HBS := Lib.hid hbs
  have HN := Lib.hid hN
  have hN9 : N ≤ 65536 := by omega
  obtain ⟨⟨i0, i1, i2⟩, _⟩ := HC.out w0 (Below.refl _ _)
  have hd1 : Below w0.heap.size w0 w0.drew := (Below.refl _ _).drew
  clear h hf hsec hr0 hr4 hb0 hu hbs hN
  refine (callsIn_wide (n := 3)).1 ?_
  refine callsIn_of_wp_marks Tryd.func56 rfl trivial ?_ rfl
  simp only [Tryd.ntmps56, List.size_toArray, List.length_cons, List.length_nil, Nat.reduceAdd, Nat.reduceSub, Array.replicate_succ, Array.replicate_zero, List.push_toArray, List.append_toArray, List.nil_append, List.cons_append]
  refine wpIn_wide.2 ?_
  go_wp2_with fail
  go_step3
  go_upto_region 1 with fail
  rw [← hw0]
  clear hw0
  go_wp2_with fail
  refine wp_no_panic ?_
  refine wp_region_held_drew (S := (fun W => Below w0.heap.size w0 W)) (by kernel_rfl) hd1 (fun hHeld => ?_)
  refine wpAnyH_take (i := 0) (oi := ?_) (v := ?_) ?_ (by kernel_rfl) (by kernel_rfl) (by kernel_rfl) ?_ ?_ (by assumption) ?_
  rotate_left 2
  · simp only [List.getElem?_toArray, List.getElem?_cons_zero]; with_reducible rfl
  · exact fun _ _ _ h => h
  · refine Or.inl ⟨by rfl, ?_⟩; intro W hSw; obtain ⟨j0, j1, j2⟩ := (HC.out W hSw).1; go_simp; try with_reducible rfl
  try simp only [Act.put, List.setIfInBounds_toArray, List.set_cons_zero, List.set_cons_succ]
  refine wpAnyH_take (i := 1) (oi := ?_) (v := ?_) ?_ (by kernel_rfl) (by kernel_rfl) (by kernel_rfl) ?_ ?_ (by assumption) ?_
  rotate_left 2
  · simp only [List.getElem?_toArray, List.getElem?_cons_succ, List.getElem?_cons_zero]; with_reducible rfl
  · exact fun _ _ _ h => h
  · refine Or.inl ⟨by rfl, ?_⟩; intro W hSw; obtain ⟨j0, j1, j2⟩ := (HC.out W hSw).1; go_simp; try with_reducible rfl
  try simp only [Act.put, List.setIfInBounds_toArray, List.set_cons_zero, List.set_cons_succ]
  refine wpAnyH_take (i := 2) (oi := ?_) (v := ?_) ?_ (by kernel_rfl) (by kernel_rfl) (by kernel_rfl) ?_ ?_ (by assumption) ?_
  rotate_left 2
  · simp only [List.getElem?_toArray, List.getElem?_cons_succ, List.getElem?_cons_zero]; with_reducible rfl
  · exact fun _ _ _ h => h
  · refine Or.inl ⟨by rfl, ?_⟩; intro W hSw; obtain ⟨j0, j1, j2⟩ := (HC.out W hSw).1; go_simp; try with_reducible rfl
  try simp only [Act.put, List.setIfInBounds_toArray, List.set_cons_zero, List.set_cons_succ]
  refine wpAnyH_take (i := 3) (oi := ?_) (v := ?_) ?_ (by kernel_rfl) (by kernel_rfl) (by kernel_rfl) ?_ ?_ (by assumption) ?_
  rotate_left 2
  · simp only [List.getElem?_toArray, List.getElem?_cons_succ, List.getElem?_cons_zero]; with_reducible rfl
  · exact fun _ _ _ h => h
  · refine Or.inl ⟨by rfl, ?_⟩; intro W hSw; obtain ⟨j0, j1, j2⟩ := (HC.out W hSw).1; go_simp; try with_reducible rfl
  try simp only [Act.put, List.setIfInBounds_toArray, List.set_cons_zero, List.set_cons_succ]
  refine wpAnyH_take (i := 4) (oi := ?_) (v := ?_) ?_ (by kernel_rfl) (by kernel_rfl) (by kernel_rfl) ?_ ?_ (by assumption) ?_
  rotate_left 2
  · simp only [List.getElem?_toArray, List.getElem?_cons_succ, List.getElem?_cons_zero]; with_reducible rfl
  · exact fun _ _ _ h => h
  · refine Or.inl ⟨by rfl, ?_⟩; intro W hSw; obtain ⟨j0, j1, j2⟩ := (HC.out W hSw).1; go_simp; try with_reducible rfl
  try simp only [Act.put, List.setIfInBounds_toArray, List.set_cons_zero, List.set_cons_succ]
  refine wpAnyH_take (i := 5) (oi := ?_) (v := .int .i64 ((l.from_ : Int) + 2)) ?_ (by kernel_rfl) (by kernel_rfl) (by kernel_rfl) ?_ ?_ (by assumption) ?_
  rotate_left 1
  · simp only [List.getElem?_toArray, List.getElem?_cons_succ, List.getElem?_cons_zero]; with_reducible rfl
  · exact fun _ _ _ h => h
  · refine Or.inl ⟨by rfl, ?_⟩; intro W hSw; go_simp; rw [IntWalk.i64_in _ (by omega)]
  try simp only [Act.put, List.setIfInBounds_toArray, List.set_cons_zero, List.set_cons_succ]
  refine wpAnyH_take (i := 6) (oi := ?_) (v := ?_) ?_ (by kernel_rfl) (by kernel_rfl) (by kernel_rfl) ?_ ?_ (by assumption) ?_
  rotate_left 2
  · simp only [List.getElem?_toArray, List.getElem?_cons_succ, List.getElem?_cons_zero]; with_reducible rfl
  · exact fun _ _ _ h => h
  · refine Or.inl ⟨by rfl, ?_⟩; intro W hSw; obtain ⟨j0, j1, j2⟩ := (HC.out W hSw).1; go_simp; try with_reducible rfl
  try simp only [Act.put, List.setIfInBounds_toArray, List.set_cons_zero, List.set_cons_succ]
  refine wpAnyH_take (i := 7) (oi := ?_) (v := ?_) ?_ (by kernel_rfl) (by kernel_rfl) (by kernel_rfl) ?_ ?_ (by assumption) ?_
  rotate_left 2
  · simp only [List.getElem?_toArray, List.getElem?_cons_succ, List.getElem?_cons_zero]; with_reducible rfl
  · exact fun _ _ _ h => h
  · refine Or.inl ⟨by rfl, ?_⟩; intro W hSw; obtain ⟨j0, j1, j2⟩ := (HC.out W hSw).1; go_simp; try with_reducible rfl
  try simp only [Act.put, List.setIfInBounds_toArray, List.set_cons_zero, List.set_cons_succ]
  refine wpAnyH_take (i := 8) (oi := ?_) (v := ?_) ?_ (by kernel_rfl) (by kernel_rfl) (by kernel_rfl) ?_ ?_ (by assumption) ?_
  rotate_left 2
  · simp only [List.getElem?_toArray, List.getElem?_cons_succ, List.getElem?_cons_zero]; with_reducible rfl
  · exact fun _ _ _ h => h
  · refine Or.inl ⟨by rfl, ?_⟩; intro W hSw; obtain ⟨j0, j1, j2⟩ := (HC.out W hSw).1; go_simp; try with_reducible rfl
  try simp only [Act.put, List.setIfInBounds_toArray, List.set_cons_zero, List.set_cons_succ]
  refine wpAnyH_take (i := 9) (oi := ?_) (v := ?_) ?_ (by kernel_rfl) (by kernel_rfl) (by kernel_rfl) ?_ ?_ (by assumption) ?_
  rotate_left 2
  · simp only [List.getElem?_toArray, List.getElem?_cons_succ, List.getElem?_cons_zero]; with_reducible rfl
  · exact fun _ _ _ h => h
  · refine Or.inl ⟨by rfl, ?_⟩; intro W hSw; obtain ⟨j0, j1, j2⟩ := (HC.out W hSw).1; go_simp; try with_reducible rfl
  try simp only [Act.put, List.setIfInBounds_toArray, List.set_cons_zero, List.set_cons_succ]
  refine wpAnyH_take (i := 10) (oi := ?_) (v := .int .i64 (N : Int)) ?_ (by kernel_rfl) (by kernel_rfl) (by kernel_rfl) ?_ ?_ (by assumption) ?_
  rotate_left 1
  · simp only [List.getElem?_toArray, List.getElem?_cons_succ, List.getElem?_cons_zero]; with_reducible rfl
  · exact fun _ _ _ h => h
  · refine Or.inl ⟨by rfl, ?_⟩; intro W hSw; go_simp; rw [IntWalk.i64_in _ (by omega), HNN.out]
  try simp only [Act.put, List.setIfInBounds_toArray, List.set_cons_zero, List.set_cons_succ]
  refine wpAnyH_ready (rs := [11]) (by kernel_rfl) (by simp) ?_
  refine AllReadyH.cons (o := ?_) ?_ (fun K1 hK1 => ?_) AllReadyH.nil
  rotate_left 1
  · simp only [List.getElem?_toArray, List.getElem?_cons_succ, List.getElem?_cons_zero]; with_reducible rfl
  rw [if_pos (by rfl)]
  go_simp
  refine (HRD.out _ hd1).mono ?_
  rintro e w1 ⟨g, rfl, hge, hrow, hbx⟩
  have hbx2 : Below w0.heap.size w0 w1 := hd1.call hbx
  go_wp2_with fail
  refine hK1.out _ _ hbx2 (fun hHeld1 => ?_)
  clear hK1 K1
  try simp only [Act.put, List.setIfInBounds_toArray, List.set_cons_zero, List.set_cons_succ]
  refine wpAnyH_take (i := 12) (oi := ?_) (v := ?_) ?_ (by kernel_rfl) (by kernel_rfl) (by kernel_rfl) ?_ ?_ (by assumption) ?_
  rotate_left 2
  · simp only [List.getElem?_toArray, List.getElem?_cons_succ, List.getElem?_cons_zero]; with_reducible rfl
  · exact fun _ _ _ h => h
  · refine Or.inl ⟨by rfl, ?_⟩; intro W hSw; go_simp; try with_reducible rfl
  try simp only [Act.put, List.setIfInBounds_toArray, List.set_cons_zero, List.set_cons_succ]
  refine wpAnyH_take (i := 13) (oi := ?_) (v := ?_) ?_ (by kernel_rfl) (by kernel_rfl) (by kernel_rfl) ?_ ?_ (by assumption) ?_
  rotate_left 2
  · simp only [List.getElem?_toArray, List.getElem?_cons_succ, List.getElem?_cons_zero]; with_reducible rfl
  · exact fun _ _ _ h => h
  · refine Or.inl ⟨by rfl, ?_⟩; intro W hSw; go_simp; try with_reducible rfl
  try simp only [Act.put, List.setIfInBounds_toArray, List.set_cons_zero, List.set_cons_succ]
  refine wpAnyH_take (i := 14) (oi := ?_) (v := ?_) ?_ (by kernel_rfl) (by kernel_rfl) (by kernel_rfl) ?_ ?_ (by assumption) ?_
  rotate_left 2
  · simp only [List.getElem?_toArray, List.getElem?_cons_succ, List.getElem?_cons_zero]; with_reducible rfl
  · exact fun _ _ _ h => h
  · refine Or.inl ⟨by rfl, ?_⟩; intro W hSw; go_simp; try with_reducible rfl
  try simp only [Act.put, List.setIfInBounds_toArray, List.set_cons_zero, List.set_cons_succ]
  refine wpAnyH_take (i := 15) (oi := ?_) (v := ?_) ?_ (by kernel_rfl) (by kernel_rfl) (by kernel_rfl) ?_ ?_ (by assumption) ?_
  rotate_left 2
  · simp only [List.getElem?_toArray, List.getElem?_cons_succ, List.getElem?_cons_zero]; with_reducible rfl
  · exact fun _ _ _ h => h
  · refine Or.inl ⟨by rfl, ?_⟩; intro W hSw; go_simp; try with_reducible rfl
  try simp only [Act.put, List.setIfInBounds_toArray, List.set_cons_zero, List.set_cons_succ]
  refine wpAnyH_take (i := 16) (oi := ?_) (v := ?_) ?_ (by kernel_rfl) (by kernel_rfl) (by kernel_rfl) ?_ ?_ (by assumption) ?_
  rotate_left 2
  · simp only [List.getElem?_toArray, List.getElem?_cons_succ, List.getElem?_cons_zero]; with_reducible rfl
  · exact fun _ _ _ h => h
  · refine Or.inl ⟨by rfl, ?_⟩; intro W hSw; go_simp; try with_reducible rfl
  try simp only [Act.put, List.setIfInBounds_toArray, List.set_cons_zero, List.set_cons_succ]
  refine wpAnyH_done (by kernel_rfl) ?_ _
  have HROW := Lib.hid hrow
  have HBX := Lib.hid hbx2
  have HGE : Hid (w.heap.size ≤ g) := Lib.hid (Nat.le_trans HB0.out.size hge)
  have hgl : g < w1.heap.size := hrow.lt
  clear hd1 hHeld hge hrow hbx hHeld1 hbx2 i0 i1 i2 HRD
  go_wp2_with fail
  refine (chunk_ok g 0 (N * 512) (N * 512) 512 w1 (by decide)).mono ?_
  rintro e w7 ⟨rfl, hc7, hb7, hz7⟩
  have HC7 := Lib.hid hc7
  have HROW7 := Lib.hid (HROW.out.call hb7)
  have HB7 := Lib.hid (HBX.out.call hb7)
  have hgl7 : g < w7.heap.size := HROW7.out.lt
  have hw17 : w.heap.size + 1 < w7.heap.size := (HC.out w7 HB7.out).2.2.1.lt
  clear hc7 hb7 hz7 HROW HBX
  have hN2 : N * 512 ≤ N * 512 := Nat.le_refl _
  have hm9 : N * 512 ≤ 100000000 := by omega
  go_wp2_with fail
  refine (wpIn_wide (n := 4)).1 ?_
  refine wpIn_rangeFunc_ownF rfl (by omega) (gf := 74) (lb := #[.pointer (some ⟨w1.heap.size, 0, none⟩), .pointer (some ⟨w1.heap.size + 1, 0, none⟩)]) rfl trivial (enters_of Tryd.func74 (by kernel_rfl) rfl)
    (chunk_stops w7 w1.heap.size (w1.heap.size + 1) g 0 (N * 512) (N * 512) 512 N HC7.out (by decide) (by decide) (Nat.le_refl _) hm9 (fun j hj => Nat.mul_lt_mul_of_pos_right hj (by decide)) hN2 (Below w7.heap.size) (fun W W' v hk => ⟨fun hc => (hk.cell (p := ⟨w1.heap.size, 0, none⟩) HC7.out.lq).trans hc, fun hc => (hk.cell (p := ⟨w1.heap.size + 1, 0, none⟩) HC7.out.lq2).trans hc⟩))
    belowK_t (belowK_b (Nat.le_refl _)) (Below.refl _ _) (fun _ => rfl)
    (fun (pre : List (Fin N)) W => Below w7.heap.size w7 W ∧ ∀ x ∈ pre, runL (f ((l.from_ : Int) + 2 + (x.val : Int))) ≤ l.run) (fun c _ W => c = .ret ∧ (∃ j, j < N ∧ l.run < runL (f ((l.from_ : Int) + 2 + (j : Int)))) ∧ Row W (w.heap.size + 1) 26 #[.int .i64 9] ∧ Below w.heap.size w W) ?hI ?hIx ?h0 ?a1 ?assign ?body ?done ?stop
  case assign =>
    intro l' i W K hK
    simp only [oneChunk]
    gi_wp2
    exact hK
  case hI =>
    rintro s W W' row ⟨h1, h2⟩ hg hr
    exact ⟨(ownFrom_below (Nat.le_refl _) (Nat.le_refl _) : OwnFrom w7.heap.size (fun (_ : List (Fin N)) W => Below w7.heap.size w7 W)) s W W' row h1 hg hr, h2⟩
  case hIx =>
    rintro c s W W' row ⟨h1, h2, h3, h4⟩ hg hr
    exact ⟨h1, h2, h3.grown hg fun r e => (hr r e).2, h4.grown hg (by have := h4.size; omega) fun r e => by have := (hr r e).1; omega⟩
  case h0 => exact ⟨Below.refl _ _, fun x hx => by cases hx⟩
  case stop =>
    rintro Dk c pre W hD hpre ⟨rfl, hbad, hres, hbw⟩ hK
    have hc2 := cell_kept (hres.cell (i := 0) (v := .int .i64 9) rfl) (grownBy_putObj' W Dk (.deferred none)) (fun r e => by cases e; exact ⟨_, hK, rfl⟩)
    have hbe : Below w.heap.size w (W.putObj Dk (.deferred none)) := hbw.trans (belowK_b (w := w) (Nat.le_refl _) W Dk _ (.deferred none) (by omega) hK rfl rfl)
    have HKK := Lib.hid hK
    have HFIN : Hid (BodyL w FL FD p l d f N (.returned (.int .i64 9)) (W.putObj Dk (.deferred none))) := Lib.hid (.inl ⟨hbad, rfl, hbe⟩)
    clear hres hbw hK hbe hbad
    refine wpIn_ret ?_
    simp only [Exit.inBlock, Exit.then, Exit.noGoto]
    refine ⟨by simp, .inl ⟨_, _, rfl, run_takeDeferred HKK.out, ?_⟩⟩
    refine ⟨.int .i64 9, ?_, HFIN.out⟩
    simp [results, Tryd.f56, go_sem, hc2]
  case body =>
    rintro l' pre i W ⟨hI, hpre⟩ hlen
    have hrow := HROW7.out.below hI hgl7
    have hsec : secOf (readL f ((l.from_ : Int) + 2) N) i.val = f ((l.from_ : Int) + 2 + i.val) := secOf_readLA HSEC.out _ N i.val i.isLt
    have hrl : (readL f ((l.from_ : Int) + 2) N).length = N * 512 := readL_length HSEC.out _ _
    have hil : (i.val + 1) * 512 ≤ N * 512 := Nat.mul_le_mul_right _ i.isLt
    have hS := Bytes.of_row hrow (readL_small HSEC.out _ N) (off := i.val * 512) (n := 512) (by omega)
    change Bytes W (some ⟨g, i.val * 512, none⟩) 512 (secOf (readL f ((l.from_ : Int) + 2) N) i.val) at hS
    rw [hsec] at hS
    have hmin := chunk512 N i.val i.isLt
    unfold chunkV
    rw [hmin, Nat.zero_add]
    have hbi : Below w0.heap.size w0 W := HB7.out.trans (hI.mono HB7.out.size)
    have HI := Lib.hid hI
    obtain ⟨r, hr⟩ : ∃ r, r = runL (f ((l.from_ : Int) + 2 + i.val)) := ⟨_, rfl⟩
    have HLL : Hid ((r ≤ l.run → ∀ x ∈ pre ++ [i], runL (f ((l.from_ : Int) + 2 + (x.val : Int))) ≤ l.run) ∧ (l.run < r → ∃ j, j < N ∧ l.run < runL (f ((l.from_ : Int) + 2 + (j : Int))))) := Lib.hid ⟨fun hrr x hx => by
      rcases List.mem_append.1 hx with hx | hx
      · exact hpre x hx
      · obtain rfl := List.mem_singleton.1 hx
        rw [← hr]; exact hrr, fun hrr => ⟨i.val, i.isLt, by rw [← hr]; exact hrr⟩⟩
    have HMK : Hid (∀ W', Below W.heap.size W W' → Calls Tryd.prog 62 #[slc g (i.val * 512) 512 512] W' fun e w' => e = .returned (.agg #[.int .u64 r, .int .u64 (plL (f ((l.from_ : Int) + 2 + i.val)))]) ∧ Below W'.heap.size W' w') := Lib.hid fun W' hb => by
      rw [hr]
      exact markOf_agg g _ 512 512 _ W' (hS.below hb) (by decide) (by decide) (by decide)
    have HCW : Hid (∀ W', Below W.heap.size W W' → (W'.cell? ⟨w.heap.size, 0, none⟩ = some (.pointer (some ⟨p, 0, none⟩))) ∧ W'.cell? ⟨p, 3, none⟩ = some (.int .u64 l.run) ∧ Row W' (w.heap.size + 1) 26 #[.int .i64 0]) := Lib.hid fun W' hb => by
      have h9 := HC.out W' (hbi.call hb)
      exact ⟨h9.1.1, h9.2.1, h9.2.2.1⟩
    have HBI := Lib.hid hbi
    obtain ⟨k0, k3, _⟩ := HCW.out W (Below.refl _ _)
    clear hrow hsec hrl hil hS hmin hI hbi hpre hr
    generalize plL (f ((l.from_ : Int) + 2 + i.val)) = q at *
    generalize i.val * 512 = io at *
    have hmix : Tryd.prog.follows .mixedOrders = true := by kernel_rfl
    have hfm := field_mark
    have hd0 : Below W.heap.size W W.drew := (Below.refl _ _).drew
    gi_wp2_with fail
    refine wpIn_to [(36, slc g io 512 512), (37, .agg #[.int .u64 r, .int .u64 q]), (38, .int .u64 r), (39, .pointer (some ⟨p, 0, none⟩)), (40, .pointer (some ⟨p, 0, none⟩)), (41, .pointer (some ⟨p, 3, none⟩)), (42, .pointer (some ⟨p, 3, none⟩)), (43, .int .u64 l.run), (44, .bool (decide (l.run < r)))] (fun Wx => Below W.heap.size W Wx) ?_ ?_
    · gi_region_with_o (first
        | (refine ⟨trivial, ?_⟩; gi_at_call 62
           refine (CallsIn.inRound l' (callsIn_wide.2 (HMK.out _ (by assumption)))).mono ?_
           rintro e Wx ⟨rfl, hbx⟩
           have hbx2 : Below W.heap.size W Wx := Below.call (by assumption) hbx
           obtain ⟨x0, x3, _⟩ := HCW.out Wx hbx2))
      all_goals (
        refine ⟨?_, hbx2⟩
        simp only [puts, List.foldl, Act.put, List.setIfInBounds_toArray, List.set_cons_zero, List.set_cons_succ])
    · intro Wx hbx2
      simp only [puts, List.foldl, Act.put, List.setIfInBounds_toArray, List.set_cons_zero, List.set_cons_succ]
      obtain ⟨_, _, x4⟩ := HCW.out Wx hbx2
      have c4 := x4.cell (i := 0) (v := .int .i64 0) rfl
      have f4 := x4.free 0
      have HX := Lib.hid hbx2
      have HX4 := Lib.hid x4
      clear hbx2 x4 hd0
      by_cases hlr : l.run < r
      · have HBAD := Lib.hid (HLL.out.2 hlr)
        have HEX : Hid (Row (Wx.setCell ⟨w.heap.size + 1, 0, none⟩ (.int .i64 9)) (w.heap.size + 1) 26 #[.int .i64 9] ∧ Below w.heap.size w (Wx.setCell ⟨w.heap.size + 1, 0, none⟩ (.int .i64 9)) ∧ KeepsOthers W (Wx.setCell ⟨w.heap.size + 1, 0, none⟩ (.int .i64 9))) := Lib.hid ⟨by
          have := HX4.out.set_ 0 (.int .i64 9)
          simpa using this, (HB0.out.call (HBI.out.call HX.out)).setCell (p := ⟨w.heap.size + 1, 0, none⟩) (Nat.le_succ _) _, (KeepsOthers.of_below HX.out).trans (KeepsOthers.setCell _ _ _)⟩
        gi_wp2_with fail
        exact ⟨HEX.out.2.2, rfl, HBAD.out, HEX.out.1, HEX.out.2.1⟩
      · have HGO := Lib.hid (HLL.out.1 (by omega))
        have HEX : Hid (KeepsOthers W Wx ∧ Below w7.heap.size W Wx ∧ Below w7.heap.size w7 Wx) := Lib.hid ⟨KeepsOthers.of_below HX.out, HX.out.mono HI.out.size, HI.out.trans (HX.out.mono HI.out.size)⟩
        gi_wp2_with fail
        exact ⟨HEX.out.1, HEX.out.2.1, HEX.out.2.2, HGO.out⟩
  case done =>
    rintro Dk ys W hD rfl ⟨hI, hall⟩ hK
    simp only [Exit.inBlock, Exit.then]
    have HALL := Lib.hid hall
    have HK := Lib.hid hK
    have HI := Lib.hid hI
    clear hall hK hI
    go_wp2_with fail
    obtain ⟨G, hG⟩ : ∃ G, G = W.heap.size := ⟨_, rfl⟩
    obtain ⟨w8, hw8⟩ : ∃ w8, w8 = (((W.alloc (.cells #[.int .u64 0] 40)).alloc (.cells #[.int .u64 0] 40)).alloc (.cells #[.slice none 0 0] 41)).alloc (.cells #[.int .i64 0] 3) := ⟨_, rfl⟩
    have hb8 : Below W.heap.size W w8 := by subst hw8; exact (((((Below.refl _ _).alloc (Nat.le_refl _) _).alloc (by simp) _).alloc (by simp; omega) _).alloc (by simp; omega) _)
    have hr0 : Row w8 G 40 #[.int .u64 0] := by subst hw8; subst hG; exact (((Row.new _ _ _).alloc _).alloc _).alloc _
    have hr1 : Row w8 (G + 1) 40 #[.int .u64 0] := by subst hw8; subst hG; exact ((Row.new1 _ _ _ _).alloc _).alloc _
    have hr2 : Row w8 (G + 1 + 1) 41 #[.slice none 0 0] := by
      subst hw8; subst hG
      have h := Row.new ((W.alloc (.cells #[.int .u64 0] 40)).alloc (.cells #[.int .u64 0] 40)) 41 #[.slice none 0 0]
      rw [World.size_alloc, World.size_alloc] at h
      exact h.alloc _
    have hr3 : Row w8 (G + 1 + 1 + 1) 3 #[.int .i64 0] := by
      subst hw8; subst hG
      have h := Row.new (((W.alloc (.cells #[.int .u64 0] 40)).alloc (.cells #[.int .u64 0] 40)).alloc (.cells #[.slice none 0 0] 41)) 3 #[.int .i64 0]
      rw [World.size_alloc, World.size_alloc, World.size_alloc] at h
      exact h
    have HGW : Hid (w.heap.size ≤ G) := Lib.hid (by rw [hG]; exact Nat.le_trans HB0.out.size (Nat.le_trans HB7.out.size HI.out.size))
    rw [← hw8, ← hG]
    have HG := Lib.hid hG
    clear hG
    have HB8 := Lib.hid hb8
    have HR0 := Lib.hid hr0
    have HR1 := Lib.hid hr1
    have HR2 := Lib.hid hr2
    have HR3 := Lib.hid hr3
    clear hw8 hb8 hr0 hr1 hr2 hr3
    go_step3
    go_wp2_with fail
    refine (chunk_ok g 0 (N * 512) (N * 512) 512 w8 (by decide)).mono ?_
    rintro e w9 ⟨rfl, hc9, hb9, hz9⟩
    have HC9 := Lib.hid hc9
    have HROW9 := Lib.hid ((HROW7.out.below (HI.out.trans (HB8.out.mono HI.out.size)) hgl7).call hb9)
    have HB9 := Lib.hid hb9
    have HZ9 := Lib.hid hz9
    have HBW9 := Lib.hid (((HB7.out.trans (HI.out.mono HB7.out.size)).trans (HB8.out.mono (Nat.le_trans HB7.out.size HI.out.size))).trans (hb9.mono (Nat.le_trans (Nat.le_trans HB7.out.size HI.out.size) HB8.out.size)))
    have hkl := lt_of_heap HK.out
    have hDk9 : w9.heap[Dk]? = some (.deferred (some [])) := (hb9.block Dk (by have := HB8.out.size; omega)).trans ((HB8.out.block Dk hkl).trans HK.out)
    have HDK := Lib.hid (And.intro hD (And.intro (show Dk < G by have := HG.out; omega) hDk9))
    have HBWW := Lib.hid (HB0.out.call HBW9.out)
    clear hc9 hb9 hz9 hDk9 hkl
    go_wp2_with fail
    have hS9 : w9.heap.size = w8.heap.size + 2 := HZ9.out
    have hG3 : G + 1 + 1 + 1 < w8.heap.size := HR3.out.lt
    have hp0 : ∀ k, FL k → k < G := fun k hk => by
      have h1 := (HC.out w9 HBW9.out).2.2.2.1.thereL k hk
      have h2 := HLT.out.1 k hk
      have h3 := HGW.out
      omega
    have hd0 : ∀ k, FD k → k < G := fun k hk => by
      have h2 := HLT.out.2 k hk
      have h3 := HGW.out
      omega
    have hcs : CountI w9 FL FD p G l d sc0 w9 := count_start (HR0.out.call HB9.out) (HR1.out.call HB9.out) (HR2.out.call HB9.out) (HR3.out.call HB9.out) (HC.out w9 HBW9.out).2.2.2.1 HU.out HBS.out
    have HCS := Lib.hid hcs
    have HP0 := Lib.hid hp0
    have HD0 := Lib.hid hd0
    clear hcs hp0 hd0
    refine (wpIn_wide (n := 4)).1 ?_
    refine wpIn_rangeFunc_ownF rfl (by omega) (gf := 74) (lb := #[.pointer (some ⟨w8.heap.size, 0, none⟩), .pointer (some ⟨w8.heap.size + 1, 0, none⟩)]) rfl trivial (enters_of Tryd.func74 (by kernel_rfl) rfl)
      (chunk_stops w9 w8.heap.size (w8.heap.size + 1) g 0 (N * 512) (N * 512) 512 N HC9.out (by decide) (by decide) (Nat.le_refl _) hm9 (fun j hj => Nat.mul_lt_mul_of_pos_right hj (by decide)) hN2 (Kept (fun k => k < w8.heap.size ∨ w9.heap.size ≤ k)) (fun W W' v hk => ⟨fun hc => hk.cellOf hc (by rintro (h9 | h9) <;> simp at h9 <;> omega), fun hc => hk.cellOf hc (by rintro (h9 | h9) <;> simp at h9 <;> omega)⟩))
      Kept.trans' ?kb (Below.refl _ _) (fun _ => rfl)
      (fun (pre : List (Fin N)) W => ∃ c, scanAll l.base sc0 (pre.map fun x => f ((l.from_ : Int) + 2 + (x.val : Int))) = some c ∧ CountI w9 FL FD p G l d c W)
      (fun cd pre W => ∃ c, (cd = .exit 2 ∧ ∃ pre' x, pre = pre' ++ [x] ∧ scanAll l.base sc0 (pre'.map fun x => f ((l.from_ : Int) + 2 + (x.val : Int))) = some c ∧ stopsB l.base c (f ((l.from_ : Int) + 2 + (x.val : Int))) = true) ∧ CountI w9 FL FD p G l d c W)
      ?hI2 ?hIx2 ?h02 ?a2 ?assign2 ?body2 ?done2 ?stop2
    case kb =>
      intro W l' o o' hl h1 h2 h3
      have hg := grownBy_putObj' W l' o'
      exact ⟨hg.os, hg.tape, hg.output, hg.size, fun k hk hn => hg.block k hk fun e => hn (.inr (by injection e with e; omega))⟩
    case hI2 => exact count_own (fun (pre : List (Fin N)) (c : Sc) => scanAll l.base sc0 (pre.map fun x => f ((l.from_ : Int) + 2 + (x.val : Int))) = some c) (Nat.le_refl _) (fun k hk => by have := HD0.out k hk; omega)
    case hIx2 => exact fun cd => count_own (fun (pre : List (Fin N)) (c : Sc) => cd = .exit 2 ∧ ∃ pre' x, pre = pre' ++ [x] ∧ scanAll l.base sc0 (pre'.map fun x => f ((l.from_ : Int) + 2 + (x.val : Int))) = some c ∧ stopsB l.base c (f ((l.from_ : Int) + 2 + (x.val : Int))) = true) (Nat.le_refl _) (fun k hk => by have := HD0.out k hk; omega)
    case h02 => exact ⟨sc0, rfl, HCS.out⟩
    case assign2 =>
      intro l' i W K hK
      simp only [oneChunk]
      gi_wp2
      exact hK
    case body2 =>
      rintro l' pre i W ⟨c, hc, hI⟩ hlen
      have hpl : c.place < N := by
        have h9 := scanAll_place hc
        rw [List.length_map] at h9
        have h8 : sc0.place = 0 := rfl
        omega
      have HBD : Hid (c.left ≤ 4294967299 ∧ c.batch.length ≤ 488 * c.place ∧ c.bs.length ≤ c.place) := Lib.hid (scanAll_bounds hc (fun s hs => by
        obtain ⟨x, _, rfl⟩ := List.mem_map.1 hs
        exact (HSEC.out _).2) (Nat.zero_le _) (Nat.zero_le _) (Nat.zero_le _))
      have HF40 : Hid (c.left ≠ 0 → 4 ≤ c.left + c.batch.length) := Lib.hid (scanAll_four hc (fun s hs => by
        obtain ⟨x, _, rfl⟩ := List.mem_map.1 hs
        exact (HSEC.out _).1) (fun h => absurd rfl h))
      have hgX : ¬ (FL g ∨ (G ≤ g ∧ g ≤ G + 3)) := by
        have h1 := HGE.out
        rintro (h9 | h9)
        · have := HLT.out.1 g h9; omega
        · have := HI.out.size; have := HG.out; omega
      have hrow := HROW9.out.kept hI.kept hgX
      have hsec : secOf (readL f ((l.from_ : Int) + 2) N) i.val = f ((l.from_ : Int) + 2 + i.val) := secOf_readLA HSEC.out _ N i.val i.isLt
      have hrl : (readL f ((l.from_ : Int) + 2) N).length = N * 512 := readL_length HSEC.out _ _
      have hil : (i.val + 1) * 512 ≤ N * 512 := Nat.mul_le_mul_right _ i.isLt
      have hS := Bytes.of_row hrow (readL_small HSEC.out _ N) (off := i.val * 512) (n := 512) (by omega)
      change Bytes W (some ⟨g, i.val * 512, none⟩) 512 (secOf (readL f ((l.from_ : Int) + 2) N) i.val) at hS
      rw [hsec] at hS
      have hmin := chunk512 N i.val i.isLt
      unfold chunkV
      rw [hmin, Nat.zero_add]
      obtain ⟨s, hs⟩ : ∃ s, s = f ((l.from_ : Int) + 2 + i.val) := ⟨_, rfl⟩
      rw [← hs] at hS
      have hsm : s.length = 512 ∧ Small s := by rw [hs]; exact HSEC.out _
      have HGO : Hid (stopsB l.base c s = false → scanAll l.base sc0 ((pre ++ [i]).map fun x => f ((l.from_ : Int) + 2 + (x.val : Int))) = some (partS (beginS c s) s)) := Lib.hid (by
        intro h9
        rw [List.map_append, List.map_cons, List.map_nil, scanAll_snoc, hc]
        simp only [Option.bind_some]
        rw [← hs, if_neg (by rw [h9]; decide)])
      have HSTOP : Hid (stopsB l.base c s = true → ∃ pre' x, pre ++ [i] = pre' ++ [x] ∧ scanAll l.base sc0 (pre'.map fun x => f ((l.from_ : Int) + 2 + (x.val : Int))) = some c ∧ stopsB l.base c (f ((l.from_ : Int) + 2 + (x.val : Int))) = true) := Lib.hid (fun h9 => ⟨pre, i, rfl, hc, by rw [← hs]; exact h9⟩)
      have hp2 : ∀ W', Below W.heap.size W W' → W'.cell? ⟨w.heap.size, 0, none⟩ = some (.pointer (some ⟨p, 0, none⟩)) ∧ W'.cell? ⟨p, 4, none⟩ = some (.int .u64 l.base) := fun W' hb => by
        have h1 := ((HC.out w9 HBW9.out).2.2.2.2.kept hI.kept (by
          rintro (h9 | h9)
          · have := HLT.out.1 _ h9; omega
          · have := HI.out.size; have := HG.out; omega)).call hb
        obtain ⟨FL', v, h2, _⟩ := (hI.call hb).log
        obtain ⟨vb, xs, hx⟩ := h2.log
        exact ⟨h1.cell (i := 0) rfl, hx.c4⟩
      have HCW : Hid (∀ W', Below W.heap.size W W' → (W'.cell? ⟨w.heap.size, 0, none⟩ = some (.pointer (some ⟨p, 0, none⟩)) ∧ W'.cell? ⟨p, 4, none⟩ = some (.int .u64 l.base)) ∧ W'.cell? ⟨G, 0, none⟩ = some (.int .u64 c.run) ∧ W'.cell? ⟨G + 1, 0, none⟩ = some (.int .u64 c.left) ∧ W'.cell? ⟨G + 1 + 1 + 1, 0, none⟩ = some (.int .i64 c.place)) := Lib.hid fun W' hb =>
        ⟨hp2 W' hb, (hI.call hb).run.cell (i := 0) rfl, (hI.call hb).left.cell (i := 0) rfl, (hI.call hb).place.cell (i := 0) rfl⟩
      obtain ⟨r, hr⟩ : ∃ r, r = runL s := ⟨_, rfl⟩
      have hM := markOf_agg g (i.val * 512) 512 512 s W hS (by decide) (by decide) (by decide)
      rw [← hr] at hM
      have HM := Lib.hid hM
      have HS := Lib.hid hS
      have HI2 := Lib.hid hI
      have HSM := Lib.hid hsm
      have HR := Lib.hid hr
      have HPL := Lib.hid hpl
      have hpb : c.place < 65536 := by omega
      clear hrow hsec hrl hil hS hmin hsm hM hp2 hs hc hgX hI hr hpl
      generalize plL s = q at *
      generalize i.val * 512 = io at *
      gi_wp2_with fail
      refine ⟨trivial, ?_⟩
      refine (CallsIn.inRound l' (callsIn_wide.2 HM.out)).mono ?_
      rintro e W1 ⟨rfl, hb1⟩
      obtain ⟨W2, hW2⟩ : ∃ W2, W2 = W1.alloc (.cells #[.int .u64 r, .int .u64 q] 108) := ⟨_, rfl⟩
      have hb2 : Below W.heap.size W W2 := by subst hW2; exact hb1.call ((Below.refl _ _).alloc (Nat.le_refl _) _)
      have hm2 : Row W2 W1.heap.size 108 #[.int .u64 r, .int .u64 q] := by subst hW2; exact Row.new _ _ _
      obtain ⟨⟨e0, e4⟩, eG, eG1, eG3⟩ := HCW.out W2 hb2
      have hct := counts_ok W2 p g io 512 c.place l.base s e4 (HS.out.below hb2) (by decide) (by decide) (by have := HPL.out; omega)
      have HCT := Lib.hid hct
      have HB2 := Lib.hid hb2
      have HM2 := Lib.hid hm2
      clear e4 eG eG1 hct hb2 hm2 hb1
      rw [hW2] at e0 eG3
      gi_wp2_with fail
      rw [← hW2]
      clear hW2 e0 eG3
      refine ⟨trivial, ?_⟩
      refine (CallsIn.inRound l' (callsIn_wide.2 HCT.out)).mono ?_
      rintro e W3 ⟨rfl, hb3⟩
      have hb30 := HB2.out.call hb3
      have hm3 := HM2.out.call hb3
      obtain ⟨⟨e0, e4⟩, eG, eG1, eG3⟩ := HCW.out W3 hb30
      have em0 := hm3.cell (i := 0) (v := .int .u64 r) rfl
      have HBK : Hid (KeepsOthers W W3 ∧ Kept (fun k => k < w8.heap.size ∨ w9.heap.size ≤ k) W W3 ∧ CountI w9 FL FD p G l d c W3) := Lib.hid ⟨KeepsOthers.of_below hb30, hb30.kept, HI2.out.call hb30⟩
      have HB3 := Lib.hid hb30
      clear hb3 hb30 hm3 HCT HM2
      cases hcb : countsB l.base s c.place
      · have HSS := Lib.hid (HSTOP.out (by unfold stopsB; rw [hcb]; rfl))
        gi_wp2_with fail
        exact ⟨HBK.out.1, c, ⟨rfl, HSS.out⟩, HBK.out.2.2⟩
      · have HCB := Lib.hid hcb
        by_cases hl : c.left = 0
        · by_cases hlt : r < c.run
          · have HSS := Lib.hid (HSTOP.out (by unfold stopsB; rw [← HR.out]; simp [hlt]))
            gi_wp2_with fail
            exact ⟨HBK.out.1, c, ⟨rfl, HSS.out⟩, HBK.out.2.2⟩
          · have HGG := Lib.hid (HGO.out (by unfold stopsB; rw [← HR.out, HCB.out, hl]; simp [hlt]))
            have fG := HBK.out.2.2.run.free 0
            gi_wp2_with fail
            obtain ⟨W4, hW4⟩ : ∃ W4, W4 = W3.setCell ⟨G, 0, none⟩ (.int .u64 r) := ⟨_, rfl⟩
            rw [← hW4]
            have hS4 : Bytes W4 (some ⟨g, io, none⟩) 512 s := by
              subst hW4
              exact (HS.out.below HB3.out).kept (Kept.cell W3 G 0 _) (fun _ x e hx => by
                injection e with e; subst e
                have hx : g = G := hx
                have h2 := HI.out.size
                have h3 := HG.out
                omega)
            have hA4 := hS4.drop (k := 12) (by decide)
            refine ⟨trivial, ?_⟩
            refine (CallsIn.inRound l' (callsIn_wide.2 (taker_ok _ 500 500 W4))).mono ?_
            rintro e W5 ⟨rfl, hW5⟩
            have hb5 : Below W4.heap.size W4 W5 := by subst hW5; exact (Below.refl _ _).alloc (Nat.le_refl _) _
            have hq5 : Row W5 W4.heap.size 41 #[slc g (io + 12) 500 500] := by subst hW5; exact Row.new _ _ _
            have HTK := Lib.hid (take_ok W4.heap.size g (io + 12) 500 500 4 (s.drop 12) W5 hq5 (hA4.below hb5) (by decide) (by decide) (by decide) (by decide))
            have HB5 := Lib.hid hb5
            have HS4 := Lib.hid hS4
            have HW4 := Lib.hid hW4
            clear hW5 hb5 hq5 hA4 hS4 hW4
            gi_wp2_with fail
            refine ⟨trivial, ?_⟩
            refine (CallsIn.inRound l' (callsIn_wide.2 HTK.out)).mono ?_
            rintro e W6 ⟨rfl, hl6⟩
            obtain ⟨m, hm⟩ : ∃ m, m = le ((s.drop 12).take 4) := ⟨_, rfl⟩
            have hm9 : m ≤ 4294967295 := by
              have h1 := le_lt ((HSM.out.2.drop 12).take 4)
              have h2 : 256 ^ ((s.drop 12).take 4).length ≤ 256 ^ 4 := Nat.pow_le_pow_right (by decide) (by rw [List.length_take]; exact Nat.min_le_left _ _)
              omega
            rw [← hm]
            have hb6 : Below W4.heap.size W4 W6 := HB5.out.trans (hl6.kept.below (B := W4.heap.size) HB5.out.size (fun k hk => by omega))
            have hi3 := HBK.out.2.2
            obtain ⟨FL3, v3, _, _, hv3, _⟩ := hi3.log
            have hrr : Row W6 (G + 1) 40 #[.int .u64 c.left] ∧ Row W6 (G + 1 + 1) 41 #[v3] ∧ Row W6 (G + 1 + 1 + 1) 3 #[.int .i64 c.place] := by
              have := HW4.out
              subst this
              exact ⟨(hi3.left.far (p := ⟨G, 0, none⟩) (by show G + 1 ≠ G; omega) _).call hb6, (hv3.far (p := ⟨G, 0, none⟩) (by show G + 1 + 1 ≠ G; omega) _).call hb6, (hi3.place.far (p := ⟨G, 0, none⟩) (by show G + 1 + 1 + 1 ≠ G; omega) _).call hb6⟩
            have g1 := hrr.1.cell (i := 0) (v := .int .u64 c.left) rfl
            have g2 := hrr.2.1.cell (i := 0) (v := v3) rfl
            have g3 := hrr.2.2.cell (i := 0) (v := .int .i64 c.place) rfl
            have f1 := hrr.1.free 0
            have f2 := hrr.2.1.free 0
            have f3 := hrr.2.2.free 0
            obtain ⟨k, hk⟩ : ∃ k, k = min (beginS c s).left 488 := ⟨_, rfl⟩
            have hcl : (beginS c s).left = 4 + m := by unfold beginS; rw [if_pos hl, hm]
            have hmin : (if (488 : Int) < 4 + (m : Int) then (488 : Int) else 4 + (m : Int)) = (k : Int) := by
              rw [hcl] at hk
              split <;> omega
            have HCL := Lib.hid hcl
            have HMM := Lib.hid hm
            have HK9 := Lib.hid hk
            clear hi3 hl6 em0 e0 e4 eG eG1 eG3 hrr hv3 fG hcl hk hm
            gi_wp2_with fail
            have hl1 : (beginS c s).left ≠ 0 := by rw [HCL.out]; omega
            have hbeg := HBK.out.2.2.begin (W6 := W6) (by omega) HP0.out HD0.out s hl (by rw [← HR.out, ← HW4.out]; exact hb6)
            have hcast : ((4 + le ((s.drop 12).take 4) : Nat) : Int) = 4 + (m : Int) := by rw [← HMM.out]; omega
            rw [hcast] at hbeg
            have hkw : KeepsOthers W ((W6.setCell ⟨G + 1, 0, none⟩ (.int .u64 (4 + (m : Int)))).setCell ⟨G + 1 + 1, 0, none⟩ (.slice none 0 0)) ∧ Kept (fun k => k < w8.heap.size ∨ w9.heap.size ≤ k) W ((W6.setCell ⟨G + 1, 0, none⟩ (.int .u64 (4 + (m : Int)))).setCell ⟨G + 1 + 1, 0, none⟩ (.slice none 0 0)) := by
              have h4 := HW4.out
              subst h4
              exact ⟨(((HBK.out.1.trans (KeepsOthers.setCell _ _ _)).trans (KeepsOthers.of_below hb6)).trans (KeepsOthers.setCell _ _ _)).trans (KeepsOthers.setCell _ _ _),
                (((HBK.out.2.1.trans' ((Kept.cell W3 G 0 _).mono fun k _ e => .inl (by omega))).trans' hb6.kept).trans' ((Kept.cell W6 (G + 1) 0 _).mono fun k _ e => .inl (by omega))).trans' ((Kept.cell _ (G + 1 + 1) 0 _).mono fun k _ e => .inl (by omega))⟩
            have hbt : Bytes ((W6.setCell ⟨G + 1, 0, none⟩ (.int .u64 (4 + (m : Int)))).setCell ⟨G + 1 + 1, 0, none⟩ (.slice none 0 0)) (some ⟨g, io, none⟩) 512 s := by
              have hgG : g < G := by have h2 := HI.out.size; have h3 := HG.out; omega
              exact ((HS4.out.below hb6).kept (Kept.cell W6 (G + 1) 0 _) (fun _ x e hx => by injection e with e; subst e; have hx : g = G + 1 := hx; omega)).kept (Kept.cell _ (G + 1 + 1) 0 _) (fun _ x e hx => by injection e with e; subst e; have hx : g = G + 1 + 1 := hx; omega)
            generalize (W6.setCell ⟨G + 1, 0, none⟩ (.int .u64 (4 + (m : Int)))).setCell ⟨G + 1 + 1, 0, none⟩ (.slice none 0 0) = Wt at *
            have HKW := Lib.hid hkw
            clear hkw hcast g1 g2 g3 f1 f2 f3 hmin hb6
            obtain ⟨c1, hc1⟩ : ∃ c1, c1 = beginS c s := ⟨_, rfl⟩
            have hpc : c1.place = c.place := by rw [hc1]; exact beginS_place c s
            rw [← hc1] at hbeg
            have HGG1 : Hid (scanAll l.base sc0 ((pre ++ [i]).map fun x => f ((l.from_ : Int) + 2 + (x.val : Int))) = some (partS c1 s)) := Lib.hid (by rw [hc1]; exact HGG.out)
            have hkk : k = min c1.left 488 := by rw [hc1]; exact HK9.out
            have HF4 : Hid (4 ≤ c1.left + c1.batch.length) := Lib.hid (by rw [hc1]; exact (partS_four HF40.out HSM.out.1).1)
            have hbnd := partS_bounds HSM.out.2 HBD.out.1 HBD.out.2.1 HBD.out.2.2
            rw [← hc1] at hbnd
            have hl1 : c1.left ≠ 0 := by rw [hc1]; exact hl1
            obtain ⟨FL', v, hcm⟩ := hbeg.open_ hl1
            obtain ⟨A0, c0, hv, hc0, hc0m⟩ := hcm.lies.form
            subst hv
            have hpl1 : ((c.place : Int) + 1) = ((c1.place + 1 : Nat) : Int) := by omega
            rw [hpl1]
            have hx : ∃ X, X = Wt.setCell ⟨G + 1 + 1 + 1, 0, none⟩ (.int .i64 ((c1.place + 1 : Nat) : Int)) := ⟨_, rfl⟩
            obtain ⟨X, hX⟩ := hx
            rw [← hX]
            have hxr : Row X (G + 1 + 1) 41 #[.slice A0 c1.batch.length c0] := by
              subst hX
              exact hcm.cell.far (p := ⟨G + 1 + 1 + 1, 0, none⟩) (by show G + 1 + 1 ≠ G + 1 + 1 + 1; omega) _
            have hgG : g < G := by
              have h2 := HI.out.size
              have h3 := HG.out
              omega
            have hbx : Bytes X (some ⟨g, io, none⟩) 512 s := by
              subst hX
              exact hbt.kept (Kept.cell Wt _ 0 _) (fun _ x e hx => by
                injection e with e; subst e
                have hx : g = G + 1 + 1 + 1 := hx
                omega)
            have hk0 : 0 < k := by omega
            have hk8 : k ≤ 488 := by omega
            have hpart := ((hbx.drop (k := 12) (by decide)).take (k := k) (by omega)).below ((Below.refl _ _).drew)
            have hls : Lies X.drew (fun k => w9.heap.size ≤ k ∧ ¬ FL' k) 5 1 (.slice A0 c1.batch.length c0) c1.batch.length (cellsOf c1.batch) := by
              subst hX
              exact (hcm.lies.kept (Kept.cell Wt (G + 1 + 1 + 1) 0 _) (fun j hj e => by have := hj.1; omega)).below ((Below.refl _ _).drew)
            have e2 := hxr.cell (i := 0) (v := .slice A0 c1.batch.length c0) rfl
            have HPART := Lib.hid hpart
            have HLS := Lib.hid hls
            have HXR := Lib.hid hxr
            have HSL : Hid ((cellsOf ((s.drop 12).take k)).length = k * 1) := Lib.hid (by rw [cellsOf_length, hpart.len, Nat.mul_one])
            have hbl : c1.batch.length ≤ 100000000 := by have := hbnd.2.1; have := HPL.out; omega
            have HCM := Lib.hid hcm
            have HKK := Lib.hid hkk
            have HPC := Lib.hid hpc
            have HBN := Lib.hid hbnd
            have HXX := Lib.hid hX
            clear hpart hls hxr hbx hcm hkk hbnd hX hbeg hbt hgG hpl1 hc1 hpc
            obtain ⟨kk, hk12⟩ : ∃ kk, kk = 12 + k := ⟨_, rfl⟩
            have h85 : (12 : Int) + (k : Int) = (kk : Int) := by omega
            have h86 : kk - 12 = k := by omega
            have h87 : kk ≤ 512 := by omega
            have h88 : 12 ≤ kk := by omega
            clear hk12
            have hmix : Tryd.prog.follows .mixedOrders = true := by kernel_rfl
            refine wpIn_toE (fun b : Value × World => [(82, .slice A0 c1.batch.length c0), (83, slc g io 512 512), (84, .int .u64 k), (85, .int .u64 kk), (86, .slice (some ⟨g, io + 12, none⟩) k 500), (87, b.1)])
              (fun b w' => w' = b.2.setCell ⟨G + 1 + 1, 0, none⟩ b.1 ∧ Lies b.2 (grow (fun k => w9.heap.size ≤ k ∧ ¬ FL' k) X.drew) 5 1 b.1 (c1.batch.length + k) (cellsOf c1.batch ++ cellsOf ((s.drop 12).take k)) ∧ Kept (fun k => w9.heap.size ≤ k ∧ ¬ FL' k) X.drew b.2 ∧ KeepsOthers X.drew b.2) ?_ ?_
            · refine wpIn_region_held (S := fun _ => True) hmix (by kernel_rfl) ?_
              refine wpP_take (i := 1) (v := slc g io 512 512) rfl (by kernel_rfl) (by kernel_rfl) (by kernel_rfl) ⟨by rfl, (by intro Wy _; go_simp), fun _ => rfl⟩ trivial ?_
              refine wpP_take (i := 2) (v := .int .u64 k) rfl (by kernel_rfl) (by kernel_rfl) (by kernel_rfl) ⟨by rfl, (by intro Wy _; go_simp), fun _ => rfl⟩ trivial ?_
              refine wpP_take (i := 3) (v := .int .u64 kk) rfl (by kernel_rfl) (by kernel_rfl) (by kernel_rfl) ⟨by rfl, (by intro Wy _; go_simp; rw [IntKind.wrap_u64]; omega), fun _ => rfl⟩ trivial ?_
              refine wpP_take (i := 4) (v := .slice (some ⟨g, io + 12, none⟩) k 500) rfl (by kernel_rfl) (by kernel_rfl) (by kernel_rfl) ⟨by rfl, (fun Wy _ => exec_slice2 41 5 (.tmp 83) (.const (.int .i64 12)) (.tmp 85) rfl Tryd.underlying41 sizeU8 g io 512 512 12 kk .i64 .u64 rfl rfl rfl h88 h87 (by decide) h86), fun _ => rfl⟩ trivial ?_
              refine wpP_one (i := 0) (by kernel_rfl) ?_
              refine opP_run (x := .slice A0 c1.batch.length c0) (w' := X.drew) rfl rfl (by rfl) (by go_simp) ⟨trivial, ?_⟩
              refine wpP_one (i := 5) (by kernel_rfl) ?_
              refine opP_append (o := ?_) ?_ ?_ (fun k => w9.heap.size ≤ k ∧ ¬ FL' k) (.tmp 82) (.tmp 86) 41 ?_ 5 1 1 (.int .u8 0) Tryd.underlying41 infoU8s rfl (by decide) (.slice A0 c1.batch.length c0) c1.batch.length (cellsOf c1.batch) ?_ HLS.out (some ⟨g, io + 12, none⟩) k 500 (cellsOf ((s.drop 12).take k)) ?_ HSL.out HPART.out.source (cellsOf_one _) (by omega) (by decide) ?_
              rotate_left 1
              · simp only [List.getElem?_toArray, List.getElem?_cons_succ, List.getElem?_cons_zero]; with_reducible rfl
              · with_reducible rfl
              · with_reducible rfl
              · kernel_rfl
              · kernel_rfl
              intro v6 W6' hl6' hk6'
              refine ⟨trivial, ?_⟩
              obtain ⟨A6, c6, rfl, hc6, hc6m⟩ := hl6'.form
              have hx6 : Row W6' (G + 1 + 1) 41 #[.slice A0 c1.batch.length c0] := Row.kept (a := X.drew) HXR.out hk6' (fun hn => by have := hn.1.1; omega)
              have e26 := hx6.cell (i := 0) (v := .slice A0 c1.batch.length c0) rfl
              have f26 := hx6.free 0
              refine wpP_one (i := 6) (by kernel_rfl) ?_
              refine opP_skip (w' := W6'.setCell ⟨G + 1 + 1, 0, none⟩ (.slice A6 (c1.batch.length + k) c6)) rfl rfl (by rfl) (by go_simp) ⟨trivial, ?_⟩
              refine wpP_done (by kernel_rfl) ?_
              exact ⟨(.slice A6 (c1.batch.length + k) c6, W6'), by kernel_rfl, rfl, hl6', hk6'.mono (fun j _ hj => hj.1), KeepsOthers.of_kept hk6' (fun j hj _ => by obtain ⟨_, _, cur, hc⟩ := hj; exact ⟨_, _, _, hc⟩)⟩
            · rintro ⟨v2, w2⟩ Wb ⟨rfl, hl2, hk2, hko2⟩
              simp only [puts, List.foldl, Act.put, List.setIfInBounds_toArray, List.set_cons_zero, List.set_cons_succ]
              simp only [] at hl2 hk2 hko2
              obtain ⟨A2, c2, rfl, hc2, hc2m⟩ := hl2.form
              have hkx : Kept (fun k => w9.heap.size ≤ k ∧ ¬ FL' k) X w2 := ⟨hk2.os, hk2.tape, hk2.output, hk2.size, hk2.block⟩
              have hlx : Lies w2 (grow (fun k => w9.heap.size ≤ k ∧ ¬ FL' k) X) 5 1 (.slice A2 (c1.batch.length + k) c2) (c1.batch.length + k) (cellsOf c1.batch ++ cellsOf ((s.drop 12).take k)) := hl2.mono fun k hk => hk
              have hkoX : KeepsOthers Wt X := by rw [HXX.out]; exact KeepsOthers.setCell _ _ _
              have hkX : Kept (fun k => k < w8.heap.size ∨ w9.heap.size ≤ k) Wt X := by rw [HXX.out]; exact (Kept.cell Wt (G + 1 + 1 + 1) 0 _).mono fun k _ e => .inl (by omega)
              have hko4 : KeepsOthers W w2 := ((HKW.out.1.trans hkoX).trans (KeepsOthers.drew X)).trans hko2
              have hk4 : Kept (fun k => k < w8.heap.size ∨ w9.heap.size ≤ k) W w2 := (HKW.out.2.trans' hkX).trans' (hkx.mono fun k _ hk => .inr hk.1)
              rw [HXX.out] at hkx hlx
              have hplen : ((s.drop 12).take k).length = k := HPART.out.len
              have hm2 := HCM.out.part (by omega) HP0.out HD0.out ((s.drop 12).take k) k hplen ((HSM.out.2.drop 12).take k) hlx hkx
              have hkl : k ≤ c1.left := by have := HKK.out; omega
              obtain ⟨lf, hlf⟩ : ∃ lf, lf = c1.left - k := ⟨_, rfl⟩
              rw [← hlf] at hm2
              have hsub : (c1.left : Int) - (k : Int) = (lf : Int) := by omega
              have hlb : lf ≤ 4294967299 := by have := HBN.out.1; omega
              have r1 : Row (w2.setCell ⟨G + 1 + 1, 0, none⟩ (.slice A2 (c1.batch.length + k) c2)) (G + 1) 40 #[.int .u64 c1.left] := ((HCM.out.left.far (p := ⟨G + 1 + 1 + 1, 0, none⟩) (by show G + 1 ≠ G + 1 + 1 + 1; omega) _).kept hkx (fun hn => by have := hn.1; omega)).far (p := ⟨G + 1 + 1, 0, none⟩) (by show G + 1 ≠ G + 1 + 1; omega) _
              have e1 := r1.cell (i := 0) (v := .int .u64 c1.left) rfl
              have f1 := r1.free 0
              have hpe : partS c1 s = if lf = 0 then { place := c1.place + 1, used := c1.place + 1, run := c1.run, left := 0, batch := c1.batch ++ (s.drop 12).take k, bs := c1.bs ++ [(c1.batch ++ (s.drop 12).take k).drop 4] } else { c1 with place := c1.place + 1, left := lf, batch := c1.batch ++ (s.drop 12).take k } := by
                unfold partS
                simp only [← HKK.out, ← hlf]
              have HKO5 : Hid (KeepsOthers W ((w2.setCell ⟨G + 1 + 1, 0, none⟩ (.slice A2 (c1.batch.length + k) c2)).setCell ⟨G + 1, 0, none⟩ (.int .u64 lf)) ∧ Kept (fun k => k < w8.heap.size ∨ w9.heap.size ≤ k) W ((w2.setCell ⟨G + 1 + 1, 0, none⟩ (.slice A2 (c1.batch.length + k) c2)).setCell ⟨G + 1, 0, none⟩ (.int .u64 lf))) :=
                Lib.hid ⟨(hko4.trans (KeepsOthers.setCell _ _ _)).trans (KeepsOthers.setCell _ _ _), (hk4.trans' ((Kept.cell _ _ 0 _).mono fun k _ e => .inl (by omega))).trans' ((Kept.cell _ _ 0 _).mono fun k _ e => .inl (by omega))⟩
              have HM2 := Lib.hid hm2
              have HPE := Lib.hid hpe
              have HLF := Lib.hid hlf
              have hmix : Tryd.prog.follows .mixedOrders = true := by kernel_rfl
              clear hl2 hk2 hko2 hkx hlx hkoX hkX hko4 hk4 hplen hm2 r1 hpe hlf h85 h86 h87 h88 e2 HPART HSL HLS HXR
              by_cases hz : lf = 0
              · have HZ := Lib.hid hz
                have hz2 : ((lf : Int) == 0) = true := by rw [hz]; rfl
                have hm2 := HM2.out
                obtain ⟨Wd, hWd⟩ : ∃ Wd, Wd = (w2.setCell ⟨G + 1 + 1, 0, none⟩ (.slice A2 (c1.batch.length + k) c2)).setCell ⟨G + 1, 0, none⟩ (.int .u64 lf) := ⟨_, rfl⟩
                rw [← hWd] at hm2
                have hFp : FL p := (HC.out w9 HBW9.out).2.2.2.1.mem
                have hpw := HLT.out.1 p hFp
                have hGW := HGW.out
                have ht2 := (HC.out w9 HBW9.out).2.2.2.2.kept hm2.kept (by
                  rintro (h9 | h9)
                  · have := HLT.out.1 _ h9; omega
                  · have := HI.out.size; have := HG.out; omega)
                have hwG : w.heap.size < G := by have := HI.out.size; have := HG.out; omega
                obtain ⟨vb, xs, hxl⟩ := hm2.log.log
                obtain ⟨Av, cv, hvb, _, _⟩ := hxl.list.form
                subst hvb
                have e0 := ht2.cell (i := 0) (v := .pointer (some ⟨p, 0, none⟩)) rfl
                have e3 := hm2.place.cell (i := 0) (v := .int .i64 ((c1.place + 1 : Nat) : Int)) rfl
                obtain ⟨pl, hpl⟩ : ∃ pl, pl = c1.place + 1 := ⟨_, rfl⟩
                rw [← hpl] at e3
                have HPL1 := Lib.hid hpl
                clear hpl
                have e5 := hxl.c5
                have f5 := hxl.row.free 5
                have HKO6 : Hid (KeepsOthers W Wd ∧ Kept (fun k => k < w8.heap.size ∨ w9.heap.size ≤ k) W Wd) := Lib.hid (by rw [hWd]; exact HKO5.out)
                have HMD := Lib.hid hm2
                have HXL := Lib.hid hxl
                have HT2 := Lib.hid ht2
                rw [hWd] at e0 e3 e5 f5
                clear hz hm2 hxl ht2 HM2 HKO5
                gi_wp2_with fail
                rw [← hWd]
                clear e0 e3 e5 f5 hWd e1 f1 hz2 hsub
                obtain ⟨We, hWe⟩ : ∃ We, We = Wd.setCell ⟨p, 5, none⟩ (.int .i64 (pl : Int)) := ⟨_, rfl⟩
                rw [← hWe]
                have hxe : LogIs We FL' p { l with used := pl, bs := c1.bs } (.slice Av xs.length cv) xs := by subst hWe; exact HXL.out.setUsed pl
                have hte : Row We w.heap.size 33 #[.pointer (some ⟨p, 0, none⟩)] := by subst hWe; exact HT2.out.far (p := ⟨p, 5, none⟩) (by show w.heap.size ≠ p; omega) _
                have hce : Row We (G + 1 + 1) 41 #[.slice A2 (c1.batch.length + k) c2] := by subst hWe; exact HMD.out.cell.far (p := ⟨p, 5, none⟩) (by show G + 1 + 1 ≠ p; omega) _
                have hplen : ((s.drop 12).take k).length = k := by rw [List.length_take, List.length_drop, HSM.out.1]; omega
                have hn4 : 4 ≤ c1.batch.length + k := by
                  have h1 := HF4.out
                  have h2 := HLF.out
                  have h3 := HZ.out
                  omega
                obtain ⟨x, hxv, hxl2, hxs⟩ := cut_bat HMD.out.lies (by rw [List.length_append, hplen]) hn4
                obtain ⟨cut, hcut⟩ : ∃ v, v = cutFrom A2 (c1.batch.length + k) c2 4 1 := ⟨_, rfl⟩
                obtain ⟨cA, cn, cc, hcs⟩ : ∃ A n c, cut = .slice A n c := ⟨_, _, _, by rw [hcut]; rfl⟩
                subst hcs
                have HCUT := Lib.hid hcut
                clear hcut
                have hxn : xs.length ≤ 65536 := by
                  have h1 := HBN.out.2.2.1
                  have h4 := HPC.out
                  have h2 := congrArg List.length hxe.same
                  rw [List.length_map] at h2
                  have h3 := hpb
                  have h2 : xs.length = c1.bs.length := h2
                  omega
                have hsv : ∀ Wy : World, Below We.heap.size We Wy → (Wy.cell? ⟨w.heap.size, 0, none⟩ = some (.pointer (some ⟨p, 0, none⟩)) ∧ Wy.cell? ⟨G + 1 + 1, 0, none⟩ = some (.slice A2 (c1.batch.length + k) c2)) := fun Wy hb => ⟨(hte.call hb).cell (i := 0) rfl, (hce.call hb).cell (i := 0) rfl⟩
                have hb0 : Below We.heap.size We We.drew := (Below.refl _ _).drew
                have hS0 := hsv _ hb0
                have hbV : Below We.heap.size We (We.drew.alloc (.cells #[.slice cA cn cc] 41)) := hb0.alloc (Nat.le_refl _) _
                have hSV := hsv _ hbV
                have e6 := hxe.c6
                have e6V := (hxe.below ((Below.refl _ _).alloc (Nat.le_refl _) (.cells #[.slice cA cn cc] 41) : Below We.heap.size We (We.alloc (.cells #[.slice cA cn cc] 41)))).c6
                have hlv := (hxe.below hbV).list
                have HWE := Lib.hid hWe
                clear hWe
                have hsrc : Source (We.drew.alloc (.cells #[.slice cA cn cc] 41)) (some ⟨We.heap.size, 0, none⟩) 1 [.slice cA cn cc] := .inr ⟨_, rfl, World.news_of_block (heap_alloc_new _ _)⟩
                refine wpIn_region_held (S := fun Wy => Wy.cell? ⟨w.heap.size, 0, none⟩ = some (.pointer (some ⟨p, 0, none⟩)) ∧ Wy.cell? ⟨G + 1 + 1, 0, none⟩ = some (.slice A2 (c1.batch.length + k) c2)) hmix (by kernel_rfl) ?_
                refine wpP_take (i := 0) (v := .pointer (some ⟨p, 0, none⟩)) rfl (by kernel_rfl) (by kernel_rfl) (by kernel_rfl) ⟨by rfl, (by rintro Wy ⟨y0, y1⟩; go_simp), fun _ => rfl⟩ hS0 ?_
                refine wpP_take (i := 1) (v := .pointer (some ⟨p, 0, none⟩)) rfl (by kernel_rfl) (by kernel_rfl) (by kernel_rfl) ⟨by rfl, (by rintro Wy ⟨y0, y1⟩; go_simp), fun _ => rfl⟩ hS0 ?_
                refine wpP_take (i := 2) (v := .pointer (some ⟨p, 0, none⟩)) rfl (by kernel_rfl) (by kernel_rfl) (by kernel_rfl) ⟨by rfl, (by rintro Wy ⟨y0, y1⟩; go_simp), fun _ => rfl⟩ hS0 ?_
                refine wpP_take (i := 3) (v := .pointer (some ⟨p, 6, none⟩)) rfl (by kernel_rfl) (by kernel_rfl) (by kernel_rfl) ⟨by rfl, (by rintro Wy ⟨y0, y1⟩; go_simp), fun _ => rfl⟩ hS0 ?_
                refine wpP_take (i := 5) (v := .slice A2 (c1.batch.length + k) c2) rfl (by kernel_rfl) (by kernel_rfl) (by kernel_rfl) ⟨by rfl, (by rintro Wy ⟨y0, y1⟩; go_simp), fun _ => rfl⟩ hS0 ?_
                refine wpP_take (i := 6) (v := .slice cA cn cc) rfl (by kernel_rfl) (by kernel_rfl) (by kernel_rfl) ⟨by rfl, (fun Wy _ => by rw [HCUT.out]; exact exec_from 41 5 (.tmp 102) (.const (.int .i64 4)) (by rfl) Tryd.underlying41 sizeU8 A2 (c1.batch.length + k) c2 4 .i64 (by kernel_rfl) (by kernel_rfl) hn4), fun _ => rfl⟩ hS0 ?_
                refine wpP_two (i := 4) (j := 7) (by kernel_rfl) (opP_run (x := .slice Av xs.length cv) (w' := We.drew) rfl rfl (by rfl) (by go_simp) ⟨hS0, wpP_one (i := 7) (by kernel_rfl) (opP_run (x := .slice (some ⟨We.heap.size, 0, none⟩) 1 1) (w' := We.drew.alloc (.cells #[.slice cA cn cc] 41)) rfl rfl (by rfl) ?_ ⟨hSV, ?_⟩)⟩)
                  (opP_run (x := .slice (some ⟨We.heap.size, 0, none⟩) 1 1) (w' := We.drew.alloc (.cells #[.slice cA cn cc] 41)) rfl rfl (by rfl) ?_ ⟨hSV, wpP_one (i := 4) (by kernel_rfl) (opP_run (x := .slice Av xs.length cv) (w' := We.drew.alloc (.cells #[.slice cA cn cc] 41)) rfl rfl (by rfl) (by go_simp) ⟨hSV, ?_⟩)⟩)
                · go_simp
                rotate_left 1
                · go_simp
                all_goals (
                  refine wpP_one (i := 8) (by kernel_rfl) ?_
                  refine opP_append (o := ?_) ?_ ?_ FL' (.tmp 101) (.tmp 104) 36 ?_ 41 1 24 (.slice none 0 0) Tryd.underlying36 infoBats rfl (by decide) (.slice Av xs.length cv) xs.length (bvs xs) ?_ hlv (some ⟨We.heap.size, 0, none⟩) 1 1 [.slice cA cn cc] ?_ rfl hsrc (by intro u hu; simp at hu; subst hu; rfl) (by omega) (by decide) ?_
                  rotate_left 1
                  · simp only [List.getElem?_toArray, List.getElem?_cons_succ, List.getElem?_cons_zero]; with_reducible rfl
                  · with_reducible rfl
                  · with_reducible rfl
                  · kernel_rfl
                  · kernel_rfl
                  intro v8 w8' hl8 hk8
                  obtain ⟨A8, c8, rfl, _, _⟩ := hl8.form
                  have hn8 : ∀ q, ¬ FL' q → ¬ (FL' q ∧ Spare (.slice Av xs.length cv) q ∧ ∃ cur, (We.drew.alloc (.cells #[.slice cA cn cc] 41)).heap[q]? = some (.cells cur 41 (0, 0))) := fun q hq h => hq h.1
                  have hFw : ¬ FL' w.heap.size := fun h9 => by
                    rcases HMD.out.from_ _ h9 with h9 | h9
                    · have := HLT.out.1 _ h9; omega
                    · omega
                  have hFG : ¬ FL' (G + 1 + 1) := fun h9 => by
                    rcases HMD.out.from_ _ h9 with h9 | h9
                    · have := HP0.out _ h9; omega
                    · omega
                  have ht8 := (hte.call hbV).kept hk8 (hn8 _ hFw)
                  have hc8 := (hce.call hbV).kept hk8 (hn8 _ hFG)
                  have hr8 := (hxe.below hbV).rowKept hk8
                  have f68 := hr8.free 6
                  have e68 := hr8.cell (i := 6) (v := .slice Av xs.length cv) (by simp [logCells])
                  have hS8 : w8'.cell? ⟨w.heap.size, 0, none⟩ = some (.pointer (some ⟨p, 0, none⟩)) ∧ w8'.cell? ⟨G + 1 + 1, 0, none⟩ = some (.slice A2 (c1.batch.length + k) c2) := ⟨ht8.cell (i := 0) rfl, hc8.cell (i := 0) rfl⟩
                  have hS9 : (w8'.setCell ⟨p, 6, none⟩ (.slice A8 (xs.length + 1) c8)).cell? ⟨w.heap.size, 0, none⟩ = some (.pointer (some ⟨p, 0, none⟩)) ∧ (w8'.setCell ⟨p, 6, none⟩ (.slice A8 (xs.length + 1) c8)).cell? ⟨G + 1 + 1, 0, none⟩ = some (.slice A2 (c1.batch.length + k) c2) :=
                    ⟨(ht8.far (p := ⟨p, 6, none⟩) (by show w.heap.size ≠ p; omega) _).cell (i := 0) rfl, (hc8.far (p := ⟨p, 6, none⟩) (by show G + 1 + 1 ≠ p; omega) _).cell (i := 0) rfl⟩
                  refine ⟨hS8, ?_⟩
                  refine wpP_take (i := 9) (v := .pointer (some ⟨p, 0, none⟩)) rfl (by kernel_rfl) (by kernel_rfl) (by kernel_rfl) ⟨by rfl, (by rintro Wy ⟨y0, y1⟩; go_simp), fun _ => rfl⟩ hS8 ?_
                  refine wpP_take (i := 10) (v := .pointer (some ⟨p, 6, none⟩)) rfl (by kernel_rfl) (by kernel_rfl) (by kernel_rfl) ⟨by rfl, (by rintro Wy ⟨y0, y1⟩; go_simp), fun _ => rfl⟩ hS8 ?_
                  refine wpP_one (i := 11) (by kernel_rfl) ?_
                  refine opP_skip (w' := w8'.setCell ⟨p, 6, none⟩ (.slice A8 (xs.length + 1) c8)) rfl rfl (by rfl) (by go_simp) ⟨hS9, ?_⟩
                  refine wpP_done (by kernel_rfl) ?_
                  have hbW : Below (Wd.setCell ⟨p, 5, none⟩ (.int .i64 ((c1.place + 1 : Nat) : Int))).heap.size (Wd.setCell ⟨p, 5, none⟩ (.int .i64 ((c1.place + 1 : Nat) : Int))) (We.drew.alloc (.cells #[.slice cA cn cc] 41)) := by
                    rw [← HPL1.out, ← HWE.out]; exact hbV
                  have hk8x := hk8
                  rw [HCUT.out, ← hxv] at hl8 hbW hk8x
                  have hfin := HMD.out.whole (by omega) HP0.out HD0.out hFp HZ.out (by show c1.place + 1 + 2 ≤ l.n; have := HPL.out; have := HPC.out; have := HN.out; omega) HXL.out hxs (by rw [hxl2]; exact Small.drop HMD.out.small 4) hbW hl8 hk8x
                  have hpn := HPE.out
                  rw [if_pos HZ.out] at hpn
                  have HFN : Hid (∃ c', scanAll l.base sc0 ((pre ++ [i]).map fun x => f ((l.from_ : Int) + 2 + (x.val : Int))) = some c' ∧ CountI w9 FL FD p G l d c' (w8'.setCell ⟨p, 6, none⟩ (.slice A8 (xs.length + 1) c8))) := Lib.hid ⟨_, HGG1.out, by
                    rw [hpn]
                    have h0 := HZ.out
                    simp only [h0, hxl2] at hfin
                    exact hfin⟩
                  have HKZ : Hid (KeepsOthers W (w8'.setCell ⟨p, 6, none⟩ (.slice A8 (xs.length + 1) c8)) ∧ Kept (fun k => k < w8.heap.size ∨ w9.heap.size ≤ k) W (w8'.setCell ⟨p, 6, none⟩ (.slice A8 (xs.length + 1) c8))) := Lib.hid (by
                    have k1 : KeepsOthers Wd We := by rw [HWE.out]; exact KeepsOthers.setCell _ _ _
                    have k2 : Kept (fun k => k < w8.heap.size ∨ w9.heap.size ≤ k) Wd We := by rw [HWE.out]; exact (Kept.cell Wd p 5 _).mono fun k _ e => .inl (by omega)
                    exact ⟨(((HKO6.out.1.trans k1).trans (KeepsOthers.of_below hbV)).trans (KeepsOthers.of_kept hk8 (fun j hj _ => by obtain ⟨_, _, cur, hc⟩ := hj; exact ⟨_, _, _, hc⟩))).trans (KeepsOthers.setCell _ _ _),
                      (((HKO6.out.2.trans' k2).trans' hbV.kept).trans' (hk8.mono fun j _ hj => by
                        rcases HMD.out.from_ _ hj.1 with h9 | h9
                        · exact .inl (by have := HP0.out _ h9; omega)
                        · exact .inr h9)).trans' ((Kept.cell _ p 6 _).mono fun k _ e => .inl (by omega))⟩)
                  clear hfin hpn hl8 hk8 hk8x hbW hS8 hS9 ht8 hc8 hr8 f68 e68
                  gi_wp2_with fail
                  exact ⟨HKZ.out.1, (by first | exact HKZ.out.2 | (rw [← HZ9.out]; exact HKZ.out.2)), HFN.out⟩)
              · have hz2 : ((lf : Int) == 0) = false := by simp; omega
                have hpn := HPE.out
                rw [if_neg hz] at hpn
                have HFN : Hid (∃ c', scanAll l.base sc0 ((pre ++ [i]).map fun x => f ((l.from_ : Int) + 2 + (x.val : Int))) = some c' ∧ CountI w9 FL FD p G l d c' ((w2.setCell ⟨G + 1 + 1, 0, none⟩ (.slice A2 (c1.batch.length + k) c2)).setCell ⟨G + 1, 0, none⟩ (.int .u64 lf))) := Lib.hid ⟨_, HGG1.out, by rw [hpn]; exact HM2.out.close⟩
                clear hpn
                gi_wp2_with fail
                exact ⟨HKO5.out.1, HKO5.out.2, HFN.out⟩
        · by_cases hrr : r = c.run
          · have HGG := Lib.hid (HGO.out (by unfold stopsB; rw [← HR.out, HCB.out]; simp [hrr]))
            have f3 := HBK.out.2.2.place.free 0
            obtain ⟨k, hk⟩ : ∃ k, k = min (beginS c s).left 488 := ⟨_, rfl⟩
            have hcl : (beginS c s).left = c.left := by unfold beginS; rw [if_neg hl]
            have hmin : (if (488 : Int) < (c.left : Int) then (488 : Int) else (c.left : Int)) = (k : Int) := by
              rw [hcl] at hk
              split <;> omega
            have hmin2 : (if 488 < c.left then (488 : Int) else (c.left : Int)) = (k : Int) := by
              rw [hcl] at hk
              split <;> omega
            have HCL := Lib.hid hcl
            have HK9 := Lib.hid hk
            clear hcl hk
            gi_wp2_with fail
            have hl1 : (beginS c s).left ≠ 0 := by rw [HCL.out]; exact hl
            have hbeg : CountI w9 FL FD p G l d (beginS c s) W3 := by
              have : beginS c s = c := by unfold beginS; rw [if_neg hl]
              rw [this]
              exact HBK.out.2.2
            have hbt := HS.out.below HB3.out
            have HKW := Lib.hid (And.intro HBK.out.1 HBK.out.2.1)
            clear e0 e4 eG eG1 eG3 em0 f3 hmin hmin2 HBK HB3
            generalize W3 = Wt at *
            obtain ⟨c1, hc1⟩ : ∃ c1, c1 = beginS c s := ⟨_, rfl⟩
            have hpc : c1.place = c.place := by rw [hc1]; exact beginS_place c s
            rw [← hc1] at hbeg
            have HGG1 : Hid (scanAll l.base sc0 ((pre ++ [i]).map fun x => f ((l.from_ : Int) + 2 + (x.val : Int))) = some (partS c1 s)) := Lib.hid (by rw [hc1]; exact HGG.out)
            have hkk : k = min c1.left 488 := by rw [hc1]; exact HK9.out
            have HF4 : Hid (4 ≤ c1.left + c1.batch.length) := Lib.hid (by rw [hc1]; exact (partS_four HF40.out HSM.out.1).1)
            have hbnd := partS_bounds HSM.out.2 HBD.out.1 HBD.out.2.1 HBD.out.2.2
            rw [← hc1] at hbnd
            have hl1 : c1.left ≠ 0 := by rw [hc1]; exact hl1
            obtain ⟨FL', v, hcm⟩ := hbeg.open_ hl1
            obtain ⟨A0, c0, hv, hc0, hc0m⟩ := hcm.lies.form
            subst hv
            have hpl1 : ((c.place : Int) + 1) = ((c1.place + 1 : Nat) : Int) := by omega
            rw [hpl1]
            have hx : ∃ X, X = Wt.setCell ⟨G + 1 + 1 + 1, 0, none⟩ (.int .i64 ((c1.place + 1 : Nat) : Int)) := ⟨_, rfl⟩
            obtain ⟨X, hX⟩ := hx
            rw [← hX]
            have hxr : Row X (G + 1 + 1) 41 #[.slice A0 c1.batch.length c0] := by
              subst hX
              exact hcm.cell.far (p := ⟨G + 1 + 1 + 1, 0, none⟩) (by show G + 1 + 1 ≠ G + 1 + 1 + 1; omega) _
            have hgG : g < G := by
              have h2 := HI.out.size
              have h3 := HG.out
              omega
            have hbx : Bytes X (some ⟨g, io, none⟩) 512 s := by
              subst hX
              exact hbt.kept (Kept.cell Wt _ 0 _) (fun _ x e hx => by
                injection e with e; subst e
                have hx : g = G + 1 + 1 + 1 := hx
                omega)
            have hk0 : 0 < k := by omega
            have hk8 : k ≤ 488 := by omega
            have hpart := ((hbx.drop (k := 12) (by decide)).take (k := k) (by omega)).below ((Below.refl _ _).drew)
            have hls : Lies X.drew (fun k => w9.heap.size ≤ k ∧ ¬ FL' k) 5 1 (.slice A0 c1.batch.length c0) c1.batch.length (cellsOf c1.batch) := by
              subst hX
              exact (hcm.lies.kept (Kept.cell Wt (G + 1 + 1 + 1) 0 _) (fun j hj e => by have := hj.1; omega)).below ((Below.refl _ _).drew)
            have e2 := hxr.cell (i := 0) (v := .slice A0 c1.batch.length c0) rfl
            have HPART := Lib.hid hpart
            have HLS := Lib.hid hls
            have HXR := Lib.hid hxr
            have HSL : Hid ((cellsOf ((s.drop 12).take k)).length = k * 1) := Lib.hid (by rw [cellsOf_length, hpart.len, Nat.mul_one])
            have hbl : c1.batch.length ≤ 100000000 := by have := hbnd.2.1; have := HPL.out; omega
            have HCM := Lib.hid hcm
            have HKK := Lib.hid hkk
            have HPC := Lib.hid hpc
            have HBN := Lib.hid hbnd
            have HXX := Lib.hid hX
            clear hpart hls hxr hbx hcm hkk hbnd hX hbeg hbt hgG hpl1 hc1 hpc
            obtain ⟨kk, hk12⟩ : ∃ kk, kk = 12 + k := ⟨_, rfl⟩
            have h85 : (12 : Int) + (k : Int) = (kk : Int) := by omega
            have h86 : kk - 12 = k := by omega
            have h87 : kk ≤ 512 := by omega
            have h88 : 12 ≤ kk := by omega
            clear hk12
            have hmix : Tryd.prog.follows .mixedOrders = true := by kernel_rfl
            refine wpIn_toE (fun b : Value × World => [(82, .slice A0 c1.batch.length c0), (83, slc g io 512 512), (84, .int .u64 k), (85, .int .u64 kk), (86, .slice (some ⟨g, io + 12, none⟩) k 500), (87, b.1)])
              (fun b w' => w' = b.2.setCell ⟨G + 1 + 1, 0, none⟩ b.1 ∧ Lies b.2 (grow (fun k => w9.heap.size ≤ k ∧ ¬ FL' k) X.drew) 5 1 b.1 (c1.batch.length + k) (cellsOf c1.batch ++ cellsOf ((s.drop 12).take k)) ∧ Kept (fun k => w9.heap.size ≤ k ∧ ¬ FL' k) X.drew b.2 ∧ KeepsOthers X.drew b.2) ?_ ?_
            · refine wpIn_region_held (S := fun _ => True) hmix (by kernel_rfl) ?_
              refine wpP_take (i := 1) (v := slc g io 512 512) rfl (by kernel_rfl) (by kernel_rfl) (by kernel_rfl) ⟨by rfl, (by intro Wy _; go_simp), fun _ => rfl⟩ trivial ?_
              refine wpP_take (i := 2) (v := .int .u64 k) rfl (by kernel_rfl) (by kernel_rfl) (by kernel_rfl) ⟨by rfl, (by intro Wy _; go_simp), fun _ => rfl⟩ trivial ?_
              refine wpP_take (i := 3) (v := .int .u64 kk) rfl (by kernel_rfl) (by kernel_rfl) (by kernel_rfl) ⟨by rfl, (by intro Wy _; go_simp; rw [IntKind.wrap_u64]; omega), fun _ => rfl⟩ trivial ?_
              refine wpP_take (i := 4) (v := .slice (some ⟨g, io + 12, none⟩) k 500) rfl (by kernel_rfl) (by kernel_rfl) (by kernel_rfl) ⟨by rfl, (fun Wy _ => exec_slice2 41 5 (.tmp 83) (.const (.int .i64 12)) (.tmp 85) rfl Tryd.underlying41 sizeU8 g io 512 512 12 kk .i64 .u64 rfl rfl rfl h88 h87 (by decide) h86), fun _ => rfl⟩ trivial ?_
              refine wpP_one (i := 0) (by kernel_rfl) ?_
              refine opP_run (x := .slice A0 c1.batch.length c0) (w' := X.drew) rfl rfl (by rfl) (by go_simp) ⟨trivial, ?_⟩
              refine wpP_one (i := 5) (by kernel_rfl) ?_
              refine opP_append (o := ?_) ?_ ?_ (fun k => w9.heap.size ≤ k ∧ ¬ FL' k) (.tmp 82) (.tmp 86) 41 ?_ 5 1 1 (.int .u8 0) Tryd.underlying41 infoU8s rfl (by decide) (.slice A0 c1.batch.length c0) c1.batch.length (cellsOf c1.batch) ?_ HLS.out (some ⟨g, io + 12, none⟩) k 500 (cellsOf ((s.drop 12).take k)) ?_ HSL.out HPART.out.source (cellsOf_one _) (by omega) (by decide) ?_
              rotate_left 1
              · simp only [List.getElem?_toArray, List.getElem?_cons_succ, List.getElem?_cons_zero]; with_reducible rfl
              · with_reducible rfl
              · with_reducible rfl
              · kernel_rfl
              · kernel_rfl
              intro v6 W6' hl6' hk6'
              refine ⟨trivial, ?_⟩
              obtain ⟨A6, c6, rfl, hc6, hc6m⟩ := hl6'.form
              have hx6 : Row W6' (G + 1 + 1) 41 #[.slice A0 c1.batch.length c0] := Row.kept (a := X.drew) HXR.out hk6' (fun hn => by have := hn.1.1; omega)
              have e26 := hx6.cell (i := 0) (v := .slice A0 c1.batch.length c0) rfl
              have f26 := hx6.free 0
              refine wpP_one (i := 6) (by kernel_rfl) ?_
              refine opP_skip (w' := W6'.setCell ⟨G + 1 + 1, 0, none⟩ (.slice A6 (c1.batch.length + k) c6)) rfl rfl (by rfl) (by go_simp) ⟨trivial, ?_⟩
              refine wpP_done (by kernel_rfl) ?_
              exact ⟨(.slice A6 (c1.batch.length + k) c6, W6'), by kernel_rfl, rfl, hl6', hk6'.mono (fun j _ hj => hj.1), KeepsOthers.of_kept hk6' (fun j hj _ => by obtain ⟨_, _, cur, hc⟩ := hj; exact ⟨_, _, _, hc⟩)⟩
            · rintro ⟨v2, w2⟩ Wb ⟨rfl, hl2, hk2, hko2⟩
              simp only [puts, List.foldl, Act.put, List.setIfInBounds_toArray, List.set_cons_zero, List.set_cons_succ]
              simp only [] at hl2 hk2 hko2
              obtain ⟨A2, c2, rfl, hc2, hc2m⟩ := hl2.form
              have hkx : Kept (fun k => w9.heap.size ≤ k ∧ ¬ FL' k) X w2 := ⟨hk2.os, hk2.tape, hk2.output, hk2.size, hk2.block⟩
              have hlx : Lies w2 (grow (fun k => w9.heap.size ≤ k ∧ ¬ FL' k) X) 5 1 (.slice A2 (c1.batch.length + k) c2) (c1.batch.length + k) (cellsOf c1.batch ++ cellsOf ((s.drop 12).take k)) := hl2.mono fun k hk => hk
              have hkoX : KeepsOthers Wt X := by rw [HXX.out]; exact KeepsOthers.setCell _ _ _
              have hkX : Kept (fun k => k < w8.heap.size ∨ w9.heap.size ≤ k) Wt X := by rw [HXX.out]; exact (Kept.cell Wt (G + 1 + 1 + 1) 0 _).mono fun k _ e => .inl (by omega)
              have hko4 : KeepsOthers W w2 := ((HKW.out.1.trans hkoX).trans (KeepsOthers.drew X)).trans hko2
              have hk4 : Kept (fun k => k < w8.heap.size ∨ w9.heap.size ≤ k) W w2 := (HKW.out.2.trans' hkX).trans' (hkx.mono fun k _ hk => .inr hk.1)
              rw [HXX.out] at hkx hlx
              have hplen : ((s.drop 12).take k).length = k := HPART.out.len
              have hm2 := HCM.out.part (by omega) HP0.out HD0.out ((s.drop 12).take k) k hplen ((HSM.out.2.drop 12).take k) hlx hkx
              have hkl : k ≤ c1.left := by have := HKK.out; omega
              obtain ⟨lf, hlf⟩ : ∃ lf, lf = c1.left - k := ⟨_, rfl⟩
              rw [← hlf] at hm2
              have hsub : (c1.left : Int) - (k : Int) = (lf : Int) := by omega
              have hlb : lf ≤ 4294967299 := by have := HBN.out.1; omega
              have r1 : Row (w2.setCell ⟨G + 1 + 1, 0, none⟩ (.slice A2 (c1.batch.length + k) c2)) (G + 1) 40 #[.int .u64 c1.left] := ((HCM.out.left.far (p := ⟨G + 1 + 1 + 1, 0, none⟩) (by show G + 1 ≠ G + 1 + 1 + 1; omega) _).kept hkx (fun hn => by have := hn.1; omega)).far (p := ⟨G + 1 + 1, 0, none⟩) (by show G + 1 ≠ G + 1 + 1; omega) _
              have e1 := r1.cell (i := 0) (v := .int .u64 c1.left) rfl
              have f1 := r1.free 0
              have hpe : partS c1 s = if lf = 0 then { place := c1.place + 1, used := c1.place + 1, run := c1.run, left := 0, batch := c1.batch ++ (s.drop 12).take k, bs := c1.bs ++ [(c1.batch ++ (s.drop 12).take k).drop 4] } else { c1 with place := c1.place + 1, left := lf, batch := c1.batch ++ (s.drop 12).take k } := by
                unfold partS
                simp only [← HKK.out, ← hlf]
              have HKO5 : Hid (KeepsOthers W ((w2.setCell ⟨G + 1 + 1, 0, none⟩ (.slice A2 (c1.batch.length + k) c2)).setCell ⟨G + 1, 0, none⟩ (.int .u64 lf)) ∧ Kept (fun k => k < w8.heap.size ∨ w9.heap.size ≤ k) W ((w2.setCell ⟨G + 1 + 1, 0, none⟩ (.slice A2 (c1.batch.length + k) c2)).setCell ⟨G + 1, 0, none⟩ (.int .u64 lf))) :=
                Lib.hid ⟨(hko4.trans (KeepsOthers.setCell _ _ _)).trans (KeepsOthers.setCell _ _ _), (hk4.trans' ((Kept.cell _ _ 0 _).mono fun k _ e => .inl (by omega))).trans' ((Kept.cell _ _ 0 _).mono fun k _ e => .inl (by omega))⟩
              have HM2 := Lib.hid hm2
              have HPE := Lib.hid hpe
              have HLF := Lib.hid hlf
              have hmix : Tryd.prog.follows .mixedOrders = true := by kernel_rfl
              clear hl2 hk2 hko2 hkx hlx hkoX hkX hko4 hk4 hplen hm2 r1 hpe hlf h85 h86 h87 h88 e2 HPART HSL HLS HXR
              by_cases hz : lf = 0
              · have HZ := Lib.hid hz
                have hz2 : ((lf : Int) == 0) = true := by rw [hz]; rfl
                have hm2 := HM2.out
                obtain ⟨Wd, hWd⟩ : ∃ Wd, Wd = (w2.setCell ⟨G + 1 + 1, 0, none⟩ (.slice A2 (c1.batch.length + k) c2)).setCell ⟨G + 1, 0, none⟩ (.int .u64 lf) := ⟨_, rfl⟩
                rw [← hWd] at hm2
                have hFp : FL p := (HC.out w9 HBW9.out).2.2.2.1.mem
                have hpw := HLT.out.1 p hFp
                have hGW := HGW.out
                have ht2 := (HC.out w9 HBW9.out).2.2.2.2.kept hm2.kept (by
                  rintro (h9 | h9)
                  · have := HLT.out.1 _ h9; omega
                  · have := HI.out.size; have := HG.out; omega)
                have hwG : w.heap.size < G := by have := HI.out.size; have := HG.out; omega
                obtain ⟨vb, xs, hxl⟩ := hm2.log.log
                obtain ⟨Av, cv, hvb, _, _⟩ := hxl.list.form
                subst hvb
                have e0 := ht2.cell (i := 0) (v := .pointer (some ⟨p, 0, none⟩)) rfl
                have e3 := hm2.place.cell (i := 0) (v := .int .i64 ((c1.place + 1 : Nat) : Int)) rfl
                obtain ⟨pl, hpl⟩ : ∃ pl, pl = c1.place + 1 := ⟨_, rfl⟩
                rw [← hpl] at e3
                have HPL1 := Lib.hid hpl
                clear hpl
                have e5 := hxl.c5
                have f5 := hxl.row.free 5
                have HKO6 : Hid (KeepsOthers W Wd ∧ Kept (fun k => k < w8.heap.size ∨ w9.heap.size ≤ k) W Wd) := Lib.hid (by rw [hWd]; exact HKO5.out)
                have HMD := Lib.hid hm2
                have HXL := Lib.hid hxl
                have HT2 := Lib.hid ht2
                rw [hWd] at e0 e3 e5 f5
                clear hz hm2 hxl ht2 HM2 HKO5
                gi_wp2_with fail
                rw [← hWd]
                clear e0 e3 e5 f5 hWd e1 f1 hz2 hsub
                obtain ⟨We, hWe⟩ : ∃ We, We = Wd.setCell ⟨p, 5, none⟩ (.int .i64 (pl : Int)) := ⟨_, rfl⟩
                rw [← hWe]
                have hxe : LogIs We FL' p { l with used := pl, bs := c1.bs } (.slice Av xs.length cv) xs := by subst hWe; exact HXL.out.setUsed pl
                have hte : Row We w.heap.size 33 #[.pointer (some ⟨p, 0, none⟩)] := by subst hWe; exact HT2.out.far (p := ⟨p, 5, none⟩) (by show w.heap.size ≠ p; omega) _
                have hce : Row We (G + 1 + 1) 41 #[.slice A2 (c1.batch.length + k) c2] := by subst hWe; exact HMD.out.cell.far (p := ⟨p, 5, none⟩) (by show G + 1 + 1 ≠ p; omega) _
                have hplen : ((s.drop 12).take k).length = k := by rw [List.length_take, List.length_drop, HSM.out.1]; omega
                have hn4 : 4 ≤ c1.batch.length + k := by
                  have h1 := HF4.out
                  have h2 := HLF.out
                  have h3 := HZ.out
                  omega
                obtain ⟨x, hxv, hxl2, hxs⟩ := cut_bat HMD.out.lies (by rw [List.length_append, hplen]) hn4
                obtain ⟨cut, hcut⟩ : ∃ v, v = cutFrom A2 (c1.batch.length + k) c2 4 1 := ⟨_, rfl⟩
                obtain ⟨cA, cn, cc, hcs⟩ : ∃ A n c, cut = .slice A n c := ⟨_, _, _, by rw [hcut]; rfl⟩
                subst hcs
                have HCUT := Lib.hid hcut
                clear hcut
                have hxn : xs.length ≤ 65536 := by
                  have h1 := HBN.out.2.2.1
                  have h4 := HPC.out
                  have h2 := congrArg List.length hxe.same
                  rw [List.length_map] at h2
                  have h3 := hpb
                  have h2 : xs.length = c1.bs.length := h2
                  omega
                have hsv : ∀ Wy : World, Below We.heap.size We Wy → (Wy.cell? ⟨w.heap.size, 0, none⟩ = some (.pointer (some ⟨p, 0, none⟩)) ∧ Wy.cell? ⟨G + 1 + 1, 0, none⟩ = some (.slice A2 (c1.batch.length + k) c2)) := fun Wy hb => ⟨(hte.call hb).cell (i := 0) rfl, (hce.call hb).cell (i := 0) rfl⟩
                have hb0 : Below We.heap.size We We.drew := (Below.refl _ _).drew
                have hS0 := hsv _ hb0
                have hbV : Below We.heap.size We (We.drew.alloc (.cells #[.slice cA cn cc] 41)) := hb0.alloc (Nat.le_refl _) _
                have hSV := hsv _ hbV
                have e6 := hxe.c6
                have e6V := (hxe.below ((Below.refl _ _).alloc (Nat.le_refl _) (.cells #[.slice cA cn cc] 41) : Below We.heap.size We (We.alloc (.cells #[.slice cA cn cc] 41)))).c6
                have hlv := (hxe.below hbV).list
                have HWE := Lib.hid hWe
                clear hWe
                have hsrc : Source (We.drew.alloc (.cells #[.slice cA cn cc] 41)) (some ⟨We.heap.size, 0, none⟩) 1 [.slice cA cn cc] := .inr ⟨_, rfl, World.news_of_block (heap_alloc_new _ _)⟩
                refine wpIn_region_held (S := fun Wy => Wy.cell? ⟨w.heap.size, 0, none⟩ = some (.pointer (some ⟨p, 0, none⟩)) ∧ Wy.cell? ⟨G + 1 + 1, 0, none⟩ = some (.slice A2 (c1.batch.length + k) c2)) hmix (by kernel_rfl) ?_
                refine wpP_take (i := 0) (v := .pointer (some ⟨p, 0, none⟩)) rfl (by kernel_rfl) (by kernel_rfl) (by kernel_rfl) ⟨by rfl, (by rintro Wy ⟨y0, y1⟩; go_simp), fun _ => rfl⟩ hS0 ?_
                refine wpP_take (i := 1) (v := .pointer (some ⟨p, 0, none⟩)) rfl (by kernel_rfl) (by kernel_rfl) (by kernel_rfl) ⟨by rfl, (by rintro Wy ⟨y0, y1⟩; go_simp), fun _ => rfl⟩ hS0 ?_
                refine wpP_take (i := 2) (v := .pointer (some ⟨p, 0, none⟩)) rfl (by kernel_rfl) (by kernel_rfl) (by kernel_rfl) ⟨by rfl, (by rintro Wy ⟨y0, y1⟩; go_simp), fun _ => rfl⟩ hS0 ?_
                refine wpP_take (i := 3) (v := .pointer (some ⟨p, 6, none⟩)) rfl (by kernel_rfl) (by kernel_rfl) (by kernel_rfl) ⟨by rfl, (by rintro Wy ⟨y0, y1⟩; go_simp), fun _ => rfl⟩ hS0 ?_
                refine wpP_take (i := 5) (v := .slice A2 (c1.batch.length + k) c2) rfl (by kernel_rfl) (by kernel_rfl) (by kernel_rfl) ⟨by rfl, (by rintro Wy ⟨y0, y1⟩; go_simp), fun _ => rfl⟩ hS0 ?_
                refine wpP_take (i := 6) (v := .slice cA cn cc) rfl (by kernel_rfl) (by kernel_rfl) (by kernel_rfl) ⟨by rfl, (fun Wy _ => by rw [HCUT.out]; exact exec_from 41 5 (.tmp 102) (.const (.int .i64 4)) (by rfl) Tryd.underlying41 sizeU8 A2 (c1.batch.length + k) c2 4 .i64 (by kernel_rfl) (by kernel_rfl) hn4), fun _ => rfl⟩ hS0 ?_
                refine wpP_two (i := 4) (j := 7) (by kernel_rfl) (opP_run (x := .slice Av xs.length cv) (w' := We.drew) rfl rfl (by rfl) (by go_simp) ⟨hS0, wpP_one (i := 7) (by kernel_rfl) (opP_run (x := .slice (some ⟨We.heap.size, 0, none⟩) 1 1) (w' := We.drew.alloc (.cells #[.slice cA cn cc] 41)) rfl rfl (by rfl) ?_ ⟨hSV, ?_⟩)⟩)
                  (opP_run (x := .slice (some ⟨We.heap.size, 0, none⟩) 1 1) (w' := We.drew.alloc (.cells #[.slice cA cn cc] 41)) rfl rfl (by rfl) ?_ ⟨hSV, wpP_one (i := 4) (by kernel_rfl) (opP_run (x := .slice Av xs.length cv) (w' := We.drew.alloc (.cells #[.slice cA cn cc] 41)) rfl rfl (by rfl) (by go_simp) ⟨hSV, ?_⟩)⟩)
                · go_simp
                rotate_left 1
                · go_simp
                all_goals (
                  refine wpP_one (i := 8) (by kernel_rfl) ?_
                  refine opP_append (o := ?_) ?_ ?_ FL' (.tmp 101) (.tmp 104) 36 ?_ 41 1 24 (.slice none 0 0) Tryd.underlying36 infoBats rfl (by decide) (.slice Av xs.length cv) xs.length (bvs xs) ?_ hlv (some ⟨We.heap.size, 0, none⟩) 1 1 [.slice cA cn cc] ?_ rfl hsrc (by intro u hu; simp at hu; subst hu; rfl) (by omega) (by decide) ?_
                  rotate_left 1
                  · simp only [List.getElem?_toArray, List.getElem?_cons_succ, List.getElem?_cons_zero]; with_reducible rfl
                  · with_reducible rfl
                  · with_reducible rfl
                  · kernel_rfl
                  · kernel_rfl
                  intro v8 w8' hl8 hk8
                  obtain ⟨A8, c8, rfl, _, _⟩ := hl8.form
                  have hn8 : ∀ q, ¬ FL' q → ¬ (FL' q ∧ Spare (.slice Av xs.length cv) q ∧ ∃ cur, (We.drew.alloc (.cells #[.slice cA cn cc] 41)).heap[q]? = some (.cells cur 41 (0, 0))) := fun q hq h => hq h.1
                  have hFw : ¬ FL' w.heap.size := fun h9 => by
                    rcases HMD.out.from_ _ h9 with h9 | h9
                    · have := HLT.out.1 _ h9; omega
                    · omega
                  have hFG : ¬ FL' (G + 1 + 1) := fun h9 => by
                    rcases HMD.out.from_ _ h9 with h9 | h9
                    · have := HP0.out _ h9; omega
                    · omega
                  have ht8 := (hte.call hbV).kept hk8 (hn8 _ hFw)
                  have hc8 := (hce.call hbV).kept hk8 (hn8 _ hFG)
                  have hr8 := (hxe.below hbV).rowKept hk8
                  have f68 := hr8.free 6
                  have e68 := hr8.cell (i := 6) (v := .slice Av xs.length cv) (by simp [logCells])
                  have hS8 : w8'.cell? ⟨w.heap.size, 0, none⟩ = some (.pointer (some ⟨p, 0, none⟩)) ∧ w8'.cell? ⟨G + 1 + 1, 0, none⟩ = some (.slice A2 (c1.batch.length + k) c2) := ⟨ht8.cell (i := 0) rfl, hc8.cell (i := 0) rfl⟩
                  have hS9 : (w8'.setCell ⟨p, 6, none⟩ (.slice A8 (xs.length + 1) c8)).cell? ⟨w.heap.size, 0, none⟩ = some (.pointer (some ⟨p, 0, none⟩)) ∧ (w8'.setCell ⟨p, 6, none⟩ (.slice A8 (xs.length + 1) c8)).cell? ⟨G + 1 + 1, 0, none⟩ = some (.slice A2 (c1.batch.length + k) c2) :=
                    ⟨(ht8.far (p := ⟨p, 6, none⟩) (by show w.heap.size ≠ p; omega) _).cell (i := 0) rfl, (hc8.far (p := ⟨p, 6, none⟩) (by show G + 1 + 1 ≠ p; omega) _).cell (i := 0) rfl⟩
                  refine ⟨hS8, ?_⟩
                  refine wpP_take (i := 9) (v := .pointer (some ⟨p, 0, none⟩)) rfl (by kernel_rfl) (by kernel_rfl) (by kernel_rfl) ⟨by rfl, (by rintro Wy ⟨y0, y1⟩; go_simp), fun _ => rfl⟩ hS8 ?_
                  refine wpP_take (i := 10) (v := .pointer (some ⟨p, 6, none⟩)) rfl (by kernel_rfl) (by kernel_rfl) (by kernel_rfl) ⟨by rfl, (by rintro Wy ⟨y0, y1⟩; go_simp), fun _ => rfl⟩ hS8 ?_
                  refine wpP_one (i := 11) (by kernel_rfl) ?_
                  refine opP_skip (w' := w8'.setCell ⟨p, 6, none⟩ (.slice A8 (xs.length + 1) c8)) rfl rfl (by rfl) (by go_simp) ⟨hS9, ?_⟩
                  refine wpP_done (by kernel_rfl) ?_
                  have hbW : Below (Wd.setCell ⟨p, 5, none⟩ (.int .i64 ((c1.place + 1 : Nat) : Int))).heap.size (Wd.setCell ⟨p, 5, none⟩ (.int .i64 ((c1.place + 1 : Nat) : Int))) (We.drew.alloc (.cells #[.slice cA cn cc] 41)) := by
                    rw [← HPL1.out, ← HWE.out]; exact hbV
                  have hk8x := hk8
                  rw [HCUT.out, ← hxv] at hl8 hbW hk8x
                  have hfin := HMD.out.whole (by omega) HP0.out HD0.out hFp HZ.out (by show c1.place + 1 + 2 ≤ l.n; have := HPL.out; have := HPC.out; have := HN.out; omega) HXL.out hxs (by rw [hxl2]; exact Small.drop HMD.out.small 4) hbW hl8 hk8x
                  have hpn := HPE.out
                  rw [if_pos HZ.out] at hpn
                  have HFN : Hid (∃ c', scanAll l.base sc0 ((pre ++ [i]).map fun x => f ((l.from_ : Int) + 2 + (x.val : Int))) = some c' ∧ CountI w9 FL FD p G l d c' (w8'.setCell ⟨p, 6, none⟩ (.slice A8 (xs.length + 1) c8))) := Lib.hid ⟨_, HGG1.out, by
                    rw [hpn]
                    have h0 := HZ.out
                    simp only [h0, hxl2] at hfin
                    exact hfin⟩
                  have HKZ : Hid (KeepsOthers W (w8'.setCell ⟨p, 6, none⟩ (.slice A8 (xs.length + 1) c8)) ∧ Kept (fun k => k < w8.heap.size ∨ w9.heap.size ≤ k) W (w8'.setCell ⟨p, 6, none⟩ (.slice A8 (xs.length + 1) c8))) := Lib.hid (by
                    have k1 : KeepsOthers Wd We := by rw [HWE.out]; exact KeepsOthers.setCell _ _ _
                    have k2 : Kept (fun k => k < w8.heap.size ∨ w9.heap.size ≤ k) Wd We := by rw [HWE.out]; exact (Kept.cell Wd p 5 _).mono fun k _ e => .inl (by omega)
                    exact ⟨(((HKO6.out.1.trans k1).trans (KeepsOthers.of_below hbV)).trans (KeepsOthers.of_kept hk8 (fun j hj _ => by obtain ⟨_, _, cur, hc⟩ := hj; exact ⟨_, _, _, hc⟩))).trans (KeepsOthers.setCell _ _ _),
                      (((HKO6.out.2.trans' k2).trans' hbV.kept).trans' (hk8.mono fun j _ hj => by
                        rcases HMD.out.from_ _ hj.1 with h9 | h9
                        · exact .inl (by have := HP0.out _ h9; omega)
                        · exact .inr h9)).trans' ((Kept.cell _ p 6 _).mono fun k _ e => .inl (by omega))⟩)
                  clear hfin hpn hl8 hk8 hk8x hbW hS8 hS9 ht8 hc8 hr8 f68 e68
                  gi_wp2_with fail
                  exact ⟨HKZ.out.1, (by first | exact HKZ.out.2 | (rw [← HZ9.out]; exact HKZ.out.2)), HFN.out⟩)
              · have hz2 : ((lf : Int) == 0) = false := by simp; omega
                have hpn := HPE.out
                rw [if_neg hz] at hpn
                have HFN : Hid (∃ c', scanAll l.base sc0 ((pre ++ [i]).map fun x => f ((l.from_ : Int) + 2 + (x.val : Int))) = some c' ∧ CountI w9 FL FD p G l d c' ((w2.setCell ⟨G + 1 + 1, 0, none⟩ (.slice A2 (c1.batch.length + k) c2)).setCell ⟨G + 1, 0, none⟩ (.int .u64 lf))) := Lib.hid ⟨_, HGG1.out, by rw [hpn]; exact HM2.out.close⟩
                clear hpn
                gi_wp2_with fail
                exact ⟨HKO5.out.1, HKO5.out.2, HFN.out⟩
          · have HSS := Lib.hid (HSTOP.out (by unfold stopsB; rw [← HR.out]; simp [hrr]; omega))
            gi_wp2_with fail
            exact ⟨HBK.out.1, c, ⟨rfl, HSS.out⟩, HBK.out.2.2⟩
    case done2 =>
      rintro D2 ys W2 hD2 rfl ⟨c, hc, hI⟩ hK2
      simp only [Exit.inBlock, Exit.then]
      have hGX : w.heap.size + 1 < G := by have := HI.out.size; have := HG.out; omega
      have hnq : ¬ (FL (w.heap.size + 1) ∨ (G ≤ w.heap.size + 1 ∧ w.heap.size + 1 ≤ G + 3)) := by
        rintro (h9 | h9)
        · have := HLT.out.1 _ h9; omega
        · omega
      have hnk : ¬ (FL Dk ∨ (G ≤ Dk ∧ Dk ≤ G + 3)) := by
        have h1 := HDK.out.1
        have h2 := HDK.out.2.1
        rintro (h9 | h9)
        · have := HLT.out.1 _ h9; omega
        · omega
      have hres := (HC.out w9 HBW9.out).2.2.1.kept hI.kept hnq
      have c4 := hres.cell (i := 0) (v := .int .i64 0) rfl
      have f4 := hres.free 0
      obtain ⟨V, hV⟩ : ∃ V, V = W2.setCell ⟨w.heap.size + 1, 0, none⟩ (.int .i64 0) := ⟨_, rfl⟩
      have HFIN : Hid (V.heap[D2]? = some (.deferred (some [])) ∧ (V.putObj D2 (.deferred none)).heap[Dk]? = some (.deferred (some [])) ∧ ((V.putObj D2 (.deferred none)).putObj Dk (.deferred none)).cell? ⟨w.heap.size + 1, 0, none⟩ = some (.int .i64 0) ∧ BodyL w FL FD p l d f N (.returned (.int .i64 0)) ((V.putObj D2 (.deferred none)).putObj Dk (.deferred none))) := Lib.hid (by
        subst hV
        have hko := KeepsOthers.setCell W2 ⟨w.heap.size + 1, 0, none⟩ (.int .i64 0)
        have hV2 := hko.same D2 _ hK2 rfl
        have hVk := hko.same Dk _ (hI.kept.heap HDK.out.2.2 hnk) rfl
        have hDk9 := lt_of_heap HDK.out.2.2
        have hne : D2 ≠ Dk := by omega
        have hVk2 := (World.putObj_heap_other (o := .deferred none) hne.symm).trans hVk
        have hr0 := (hres.set_ 0 (.int .i64 0)).cell (i := 0) (v := .int .i64 0) rfl
        have hr1 := cell_kept hr0 (grownBy_putObj' _ D2 (.deferred none)) (fun r e => by cases e; exact ⟨_, hV2, rfl⟩)
        have hr2 := cell_kept hr1 (grownBy_putObj' _ Dk (.deferred none)) (fun r e => by cases e; exact ⟨_, hVk2, rfl⟩)
        refine ⟨hV2, hVk2, hr2, .inr ⟨fun j hj => ?_, rfl, ?_⟩⟩
        · have hm : j ∈ (frTo N N).map Fin.val := by rw [frTo_map (Nat.le_refl _)]; exact List.mem_range.2 hj
          obtain ⟨x, hx, rfl⟩ := List.mem_map.1 hm
          exact HALL.out x hx
        · rw [count_all hc]
          exact count_left hI HBWW.out HGW.out HLT.out.1 HLT.out.2 (Kept.cell W2 (w.heap.size + 1) 0 _) (Nat.le_succ _) (by omega) hV2 rfl (by have := HBWW.out.size; omega) hVk2 rfl (by have := HDK.out.1; omega))
      clear hres hI hc hK2 HCS HC9 HROW9 HALL
      go_wp2_with fail
      rw [← hV]
      refine ⟨by simp, .inl ⟨_, _, rfl, run_takeDeferred HFIN.out.1, ⟨by simp, .inl ⟨_, _, rfl, run_takeDeferred HFIN.out.2.1, ?_⟩⟩⟩⟩
      refine ⟨.int .i64 0, ?_, HFIN.out.2.2.2⟩
      have hr9 := HFIN.out.2.2.1
      simp [results, Tryd.f56, go_sem, hr9]
    case stop2 =>
      rintro D2 cd pre W2 hD2 ⟨j, hj, hpre⟩ ⟨c, ⟨rfl, pre', x, rfl, hc, hs⟩, hI⟩ hK2
      have hGX : w.heap.size + 1 < G := by have := HI.out.size; have := HG.out; omega
      have hnq : ¬ (FL (w.heap.size + 1) ∨ (G ≤ w.heap.size + 1 ∧ w.heap.size + 1 ≤ G + 3)) := by
        rintro (h9 | h9)
        · have := HLT.out.1 _ h9; omega
        · omega
      have hnk : ¬ (FL Dk ∨ (G ≤ Dk ∧ Dk ≤ G + 3)) := by
        have h1 := HDK.out.1
        have h2 := HDK.out.2.1
        rintro (h9 | h9)
        · have := HLT.out.1 _ h9; omega
        · omega
      have hres := (HC.out w9 HBW9.out).2.2.1.kept hI.kept hnq
      have c4 := hres.cell (i := 0) (v := .int .i64 0) rfl
      have f4 := hres.free 0
      obtain ⟨V, hV⟩ : ∃ V, V = W2.setCell ⟨w.heap.size + 1, 0, none⟩ (.int .i64 0) := ⟨_, rfl⟩
      have HFIN : Hid (V.heap[D2]? = some (.deferred (some [])) ∧ (V.putObj D2 (.deferred none)).heap[Dk]? = some (.deferred (some [])) ∧ ((V.putObj D2 (.deferred none)).putObj Dk (.deferred none)).cell? ⟨w.heap.size + 1, 0, none⟩ = some (.int .i64 0) ∧ BodyL w FL FD p l d f N (.returned (.int .i64 0)) ((V.putObj D2 (.deferred none)).putObj Dk (.deferred none))) := Lib.hid (by
        subst hV
        have hko := KeepsOthers.setCell W2 ⟨w.heap.size + 1, 0, none⟩ (.int .i64 0)
        have hV2 := hko.same D2 _ hK2 rfl
        have hVk := hko.same Dk _ (hI.kept.heap HDK.out.2.2 hnk) rfl
        have hDk9 := lt_of_heap HDK.out.2.2
        have hne : D2 ≠ Dk := by omega
        have hVk2 := (World.putObj_heap_other (o := .deferred none) hne.symm).trans hVk
        have hr0 := (hres.set_ 0 (.int .i64 0)).cell (i := 0) (v := .int .i64 0) rfl
        have hr1 := cell_kept hr0 (grownBy_putObj' _ D2 (.deferred none)) (fun r e => by cases e; exact ⟨_, hV2, rfl⟩)
        have hr2 := cell_kept hr1 (grownBy_putObj' _ Dk (.deferred none)) (fun r e => by cases e; exact ⟨_, hVk2, rfl⟩)
        refine ⟨hV2, hVk2, hr2, .inr ⟨fun j hj => ?_, rfl, ?_⟩⟩
        · have hm : j ∈ (frTo N N).map Fin.val := by rw [frTo_map (Nat.le_refl _)]; exact List.mem_range.2 hj
          obtain ⟨x, hx, rfl⟩ := List.mem_map.1 hm
          exact HALL.out x hx
        · rw [count_stop hj hpre hc hs]
          exact count_left hI HBWW.out HGW.out HLT.out.1 HLT.out.2 (Kept.cell W2 (w.heap.size + 1) 0 _) (Nat.le_succ _) (by omega) hV2 rfl (by have := HBWW.out.size; omega) hVk2 rfl (by have := HDK.out.1; omega))
      clear hres hI hc hK2 HCS HC9 HROW9 HALL hs hpre
      refine wpIn_exit ?_
      simp only [Exit.inBlock, Exit.then]
      go_wp2_with fail
      rw [← hV]
      refine ⟨by simp, .inl ⟨_, _, rfl, run_takeDeferred HFIN.out.1, ⟨by simp, .inl ⟨_, _, rfl, run_takeDeferred HFIN.out.2.1, ?_⟩⟩⟩⟩
      refine ⟨.int .i64 0, ?_, HFIN.out.2.2.2⟩
      have hr9 := HFIN.out.2.2.1
      simp [results, Tryd.f56, go_sem, hr9]
end Go.Proofs.YtljlkmmeedlaiaaDoor
