/- Layer 8: words. -/
import Derived.Test.YtfdodndagakmmaaGreatDoorPt09
import Derived.Test.YtfdodndagakmmaaGreatDoorPt05
import Derived.Test.YtfdodndagakmmaaGreatDoorPt04
import Derived.OrdersHeld
import Derived.OrdersIn
namespace Go.Proofs.YtfdodndagakmmaaGreatDoor
open Go.RowKit

set_option maxRecDepth 100000 in
set_option maxHeartbeats 2000000 in
theorem bequal_ok (A B : Option Addr) (c d n m : Nat) (l q : List UInt8) (hn : l.length = n) (hm : q.length = m) (w : World) (hA : Holds w A l.length 1 (u8s l)) (hB : Holds w B q.length 1 (u8s q)) :
    Calls Tryz.prog 176 #[.slice A n c, .slice B m d] w fun e w' => e = .returned (.bool (l == q)) ∧ w = w' := by
  have h1 : ∀ W : World, Below w.heap.size w W → (convert 22 9 (.slice A n c)).run Tryz.prog W = .ok (.string (bs l)) W := fun W hb => by
    rw [← hn]
    exact run_text_bs (hA.below hb) 22 9 5 c Tryz.underlying22 Tryz.underlying5 Tryz.underlying9
  have h2 : ∀ W : World, Below w.heap.size w W → (convert 22 9 (.slice B m d)).run Tryz.prog W = .ok (.string (bs q)) W := fun W hb => by
    rw [← hm]
    exact run_text_bs (hB.below hb) 22 9 5 d Tryz.underlying22 Tryz.underlying5 Tryz.underlying9
  have e1 := h1 w (Below.refl _ _)
  have e2 := h2 w (Below.refl _ _)
  have hl : (bs l).toList = l := bs_toList l
  have hq : (bs q).toList = q := bs_toList q
  clear h1 h2 hA hB hn hm
  go_enter Tryz.func176, Tryz.ntmps176
  go_wp2_with fail
  go_ret
  exact ⟨rfl, rfl⟩
theorem pfx_take (q l : List UInt8) : pfx q l = (decide (q.length ≤ l.length) && (l.take q.length == q)) := by
  unfold pfx
  rw [Bool.eq_iff_iff, List.isPrefixOf_iff_prefix, Bool.and_eq_true, decide_eq_true_eq, beq_iff_eq]
  constructor
  · rintro ⟨t, rfl⟩
    exact ⟨by simp, by simp⟩
  · rintro ⟨_, h⟩
    exact ⟨l.drop q.length, by have h9 := List.take_append_drop q.length l; rw [h] at h9; exact h9⟩
theorem Holds.take1 {w : World} {A : Option Addr} {l : List UInt8} (h : Holds w A l.length 1 (u8s l)) (m : Nat) : Holds w A (l.take m).length 1 (u8s (l.take m)) := by
  refine ⟨by rw [u8s_length, Nat.mul_one], fun h0 => ?_⟩
  have hl : 0 < l.length := by rw [List.length_take] at h0; omega
  obtain ⟨b, off, e, hb, hr⟩ := h.2 hl
  refine ⟨b, off, e, hb, fun j v hv => hr j v ?_⟩
  have e2 : u8s (l.take m) = (u8s l).take m := by unfold u8s; rw [List.map_take]
  rw [e2] at hv
  by_cases hj : j < m
  · rwa [List.getElem?_take_of_lt hj] at hv
  · rw [List.getElem?_eq_none (by rw [List.length_take]; omega)] at hv; cases hv
set_option maxRecDepth 100000 in
set_option maxHeartbeats 2000000 in
theorem bprefix_ok (A B : Option Addr) (c d n m : Nat) (l q : List UInt8) (hn : l.length = n) (hm : q.length = m) (h0 : 0 < m) (hc : n ≤ c) (w : World) (hA : Holds w A l.length 1 (u8s l)) (hB : Holds w B q.length 1 (u8s q)) :
    Calls Tryz.prog 139 #[.slice A n c, .slice B m d] w fun e w' => e = .returned (.bool (pfx q l)) ∧ w = w' := by
  rw [pfx_take, hm, hn]
  by_cases hle : m ≤ n
  · obtain ⟨g, off, rfl, _, _⟩ := hA.2 (by omega)
    have HE := Lib.hid (bequal_ok (some ⟨g, off, none⟩) B c d m m (l.take m) q (by rw [List.length_take]; omega) hm w (hA.take1 m) hB)
    rw [decide_eq_true hle, Bool.true_and]
    have hd : decide ((m : Int) ≤ (n : Int)) = true := by simp; omega
    clear hA hB hn hm
    generalize (l.take m == q) = b at *
    go_enter Tryz.func139, Tryz.ntmps139
    go_wp2_with fail
    refine HE.out.mono ?_
    rintro e w2 ⟨rfl, rfl⟩
    go_wp2
    go_ret
    exact ⟨rfl, rfl⟩
  · rw [decide_eq_false hle, Bool.false_and]
    have hd : decide ((m : Int) ≤ (n : Int)) = false := by simp; omega
    clear hA hB hn hm
    go_enter Tryz.func139, Tryz.ntmps139
    go_wp2
    go_ret
    exact ⟨rfl, rfl⟩
end Go.Proofs.YtfdodndagakmmaaGreatDoor
/- Of no program: a region whose operations come in an order that is drawn, in a round of a range over a function (as wip/wal's WalHeld, for seats without wal). -/
namespace Go.Proofs.YtfdodndagakmmaaGreatDoor
open Go.RowKit Go.Shelf
attribute [local go_sem] Oper.semAt_some

section
variable {F₁ : Fence} {n₁ : Nat} {P : Program} {ops : Array Oper} {rest : List Oper} {o : Oper} {a : Act} {w : World} {Q : Exit → Act → World → Prop}
theorem run_slice2 {P : Program} (w : World) (t e : TypeId) (ht : P.underlying t = some (.slice e)) (hi1 : (P.info? e).map (·.size) = some 1) (g off n c a1 b1 : Nat) (ka kb : IntKind) (h1 : a1 ≤ b1) (h2 : b1 ≤ c) (h3 : a1 < c) :
    (Instr.sliceAt t (.slice (some ⟨g, off, none⟩) n c) (some (.int ka a1)) (some (.int kb b1)) none).run P w = .ok (.slice (some ⟨g, off + a1, none⟩) (b1 - a1) (c - a1)) w := by
  obtain ⟨i, hi, hs⟩ : ∃ i, P.info? e = some i ∧ i.size = 1 := by
    cases h : P.info? e with
    | none => rw [h] at hi1; cases hi1
    | some i => rw [h] at hi1; exact ⟨i, rfl, Option.some.inj hi1⟩
  have e1 : ¬ c = a1 := by omega
  simp [Instr.sliceAt, Instr.slice, Instr.sliceBounds, Instr.sliceBound, asIntOf, go_sem, run_underlying ht, sizeOf, typeInfo, hi, hs, h1, h2, e1, Addr.add]
end
open Go Go.RowKit

/-- The operation yields its value in every world that meets S, and calls no function. -/
structure YieldsS (P : Program) (ops : Array Oper) (S : World → Prop) (o : Oper) (v : Value) (a : Act) : Prop where
  wanted : Region.wanted o (yielded ops a.tmps) = true
  val : ∀ w, S w → (execOp a.eval o).run P w = .ok (.value v) w
  about : ∀ w, o.about P w a.eval = none
/-- One operation of a region, which yields a value or none. -/
def opP (P : Program) (ops : Array Oper) (i : Nat) (K : Act → World → Prop) (a : Act) (w : World) : Prop :=
  ∃ o, ops[i]? = some o ∧ o.about P w a.eval = none ∧ Region.wanted o (yielded ops a.tmps) = true ∧ ∃ x w', ((execOp a.eval o).run P w = .ok (.value x) w' ∨ ((execOp a.eval o).run P w = .ok .skip w' ∧ x = undef)) ∧ K (a.put o.dst x) w'
section
variable {P : Program} {md : Region.Mode} {ops : Array Oper} {S : World → Prop} {Q : Act → World → Prop}
theorem YieldsS.op {i : Nat} {o : Oper} {v : Value} {a : Act} (hi : ops[i]? = some o) (hy : YieldsS P ops S o v a) {K : Act → World → Prop} {w : World} (hS : S w) (h : K (a.put o.dst v) w) : opP P ops i K a w :=
  ⟨o, hi, hy.about w, hy.wanted, v, w, .inl (hy.val w hS), h⟩
theorem run_from {P : Program} (w : World) (t e : TypeId) (ht : P.underlying t = some (.slice e)) (hi1 : (P.info? e).map (·.size) = some 1) (A : Option Addr) (n c a1 : Nat) (ka : IntKind) (h1 : a1 ≤ n) :
    (Instr.sliceAt t (.slice A n c) (some (.int ka a1)) none none).run P w = .ok (cutFrom A n c a1 1) w := by
  obtain ⟨i, hi, hs⟩ : ∃ i, P.info? e = some i ∧ i.size = 1 := by
    cases h : P.info? e with
    | none => rw [h] at hi1; cases hi1
    | some i => rw [h] at hi1; exact ⟨i, rfl, Option.some.inj hi1⟩
  simp [Instr.sliceAt, Instr.slice, Instr.sliceBounds, Instr.sliceBound, asIntOf, go_sem, run_underlying ht, sizeOf, typeInfo, hi, hs, h1, cutFrom]
end

end Go.Proofs.YtfdodndagakmmaaGreatDoor
/- Layer 8: word. -/
namespace Go.Proofs.YtfdodndagakmmaaGreatDoor
open Go.RowKit

theorem u8s_get (l : List UInt8) (j : Nat) : (u8s l)[j]? = (l[j]?).map fun b => Value.int .u8 (b.toNat : Int) := by unfold u8s; rw [List.getElem?_map]
/-- The text from a place on, as a slice. -/
theorem JRd.rest {w : World} {p : Nat} {X : Txt} {k : Nat} {E O : Value} {f : Fl} (h : JRd w p X k E O f) (hk : k ≤ X.l.length) (hc : X.l.length ≤ X.c) :
    ∃ A, cutFrom X.A X.l.length X.c k 1 = .slice A (X.l.length - k) (X.c - k) ∧ Holds w A (X.l.drop k).length 1 (u8s (X.l.drop k)) := by
  refine ⟨_, rfl, by rw [u8s_length, Nat.mul_one], fun h0 => ?_⟩
  rw [List.length_drop] at h0
  obtain ⟨g, off, hA, _, hg, _⟩ := h.txt 0 (by omega)
  refine ⟨g, off + k, ?_, hg, fun j v hv => ?_⟩
  · rw [if_neg (by omega), hA]
    simp [Addr.add]
  · rw [u8s_get, List.getElem?_drop] at hv
    have hj : k + j < X.l.length := by
      rcases Nat.lt_or_ge (k + j) X.l.length with h9 | h9
      · exact h9
      · rw [List.getElem?_eq_none h9] at hv; cases hv
    obtain ⟨g2, off2, hA2, _, _, hc2⟩ := h.txt (k + j) hj
    rw [hA] at hA2
    injection hA2 with hA2
    injection hA2 with e1 e2 _
    subst e1 e2
    rw [← Nat.add_assoc] at hc2
    rw [hc2]
    rw [List.getElem?_eq_getElem hj] at hv
    rw [← hv]
    unfold byteAt
    simp [List.getD, List.getElem?_eq_getElem hj]
theorem keptOf_below {F : Nat → Prop} {w w' : World} (h : Below w.heap.size w w') : Kept F w w' := ⟨h.os, h.tape, h.output, h.size, fun k hk _ => h.block k hk⟩
theorem bytesRow_holds (W : World) (q : List UInt8) (cp : Nat) (e : TypeId) (fr : Nat × Nat) : Holds ((W.alloc (.cells (bytesRow (bs q) cp) e fr)).drew) (some ⟨W.heap.size, 0, none⟩) q.length 1 (u8s q) := by
  have h0 : ((W.alloc (.cells (bytesRow (bs q) cp) e fr)).drew).heap[W.heap.size]? = some (.cells (bytesRow (bs q) cp) e fr) := heap_alloc_new W _
  refine ⟨by rw [u8s_length, Nat.mul_one], fun _ => ⟨W.heap.size, 0, rfl, lt_of_heap h0, fun j v hv => ?_⟩⟩
  rw [Nat.zero_add, cell_of_row _ _ _ _ _ _ h0]
  rw [u8s_get] at hv
  have hj : j < q.length := by
    rcases Nat.lt_or_ge j q.length with h9 | h9
    · exact h9
    · rw [List.getElem?_eq_none h9] at hv; cases hv
  rw [List.getElem?_eq_getElem hj] at hv
  unfold bytesRow
  rw [Array.getElem?_append_left (by simp [bs]; exact hj), ← hv]
  simp [bs, hj]
set_option maxRecDepth 100000 in
set_option maxHeartbeats 4000000 in
theorem jwordK_ok (p : Nat) (X : Txt) (q : List UInt8) (k : Nat) (E O : Value) (f : Fl) (w : World) (h : JRd w p X k E O f) (hk : k ≤ X.l.length) (hl : X.l.length ≤ 9223372036854775806) (hc : X.l.length ≤ X.c) (hq : 0 < q.length) :
    Calls Tryz.prog 117 #[.pointer (some ⟨p, 0, none⟩), .string (bs q)] w fun e w' => e = .returned (.bool (pfx q (X.l.drop k))) ∧ (if pfx q (X.l.drop k) then JRd w' p X (k + q.length) E O f else JRd w' p X k E O f) ∧ Kept (· = p) w w' := by
  have H := Lib.hid h
  have hqs : (bs q).size = q.length := bs_size q
  have HLE := Lib.hid (fun hb : pfx q (X.l.drop k) = true => pfx_len hb)
  have hcv : ∀ W : World, (convert 9 22 (.string (bs q))).run Tryz.prog W = .ok (.slice (some ⟨W.heap.size, 0, none⟩) q.length (grownCap W q.length 0 5)) ((W.alloc (.cells (bytesRow (bs q) (grownCap W q.length 0 5)) 5 ((bytesRow (bs q) (grownCap W q.length 0 5)).size, (bytesRow (bs q) (grownCap W q.length 0 5)).size + 1))).drew) := fun W => by
    have h9 := run_bytes_of_string (P := Tryz.prog) W 9 22 5 (bs q) Tryz.underlying9 Tryz.underlying22 Tryz.underlying5
    rw [hqs] at h9
    exact h9
  obtain ⟨A, hA, hHo⟩ := h.rest hk hc
  have hsl : ∀ W : World, (Instr.sliceAt 22 (.slice X.A X.l.length X.c) (some (.int .i64 (k : Int))) none none).run Tryz.prog W = .ok (.slice A (X.l.length - k) (X.c - k)) W := fun W => by
    rw [← hA]
    exact run_from (P := Tryz.prog) W 22 5 Tryz.underlying22 (by kernel_rfl) X.A X.l.length X.c k .i64 hk
  have HPF : Hid (∀ (W : World) (B : Option Addr) (d : Nat), Below w.heap.size w W → Holds W B q.length 1 (u8s q) → Calls Tryz.prog 139 #[.slice A (X.l.length - k) (X.c - k), .slice B q.length d] W fun e w' => e = .returned (.bool (pfx q (X.l.drop k))) ∧ Below W.heap.size W w') :=
    Lib.hid fun W B d hb hB => (bprefix_ok A B (X.c - k) d (X.l.length - k) q.length (X.l.drop k) q (by rw [List.length_drop]) rfl hq (by omega) W (hHo.below hb) hB).mono fun e w' hx => ⟨hx.1, hx.2 ▸ Below.refl _ _⟩
  have HRW := Lib.hid (fun (W : World) cp e fr => bytesRow_holds W q cp e fr)
  clear hA hHo h
  generalize pfx q (X.l.drop k) = b at *
  generalize hm : q.length = m at *
  generalize hn : X.l.length - k = nk at *
  generalize hck : X.c - k = ck at *
  have c0 := H.out.row.cell (i := 0) (v := .slice X.A X.l.length X.c) rfl
  have c1 := H.out.row.cell (i := 1) (v := .int .i64 (k : Int)) rfl
  go_enter Tryz.func117, Tryz.ntmps117
  clear hn hck hm
  go_upto_region 1 with fail
  refine wp_region_held_drew (S := (fun W => Below w.heap.size w W ∧ JRd W p X k E O f)) (by kernel_rfl) (⟨(Below.refl _ _).drew, H.out.below (Below.refl _ _).drew⟩) (fun hHeld => ?_)
  refine wpAnyH_take (i := 0) (oi := ?_) (v := ?_) ?_ (by kernel_rfl) (by kernel_rfl) (by kernel_rfl) ?_ ?_ (by assumption) ?_
  rotate_left 2
  · simp only [List.getElem?_toArray, List.getElem?_cons_zero]; with_reducible rfl
  · exact fun _ _ _ h => h
  · refine Or.inl ⟨by rfl, ?_⟩; intro W hSw; go_simp; try with_reducible rfl
  try simp only [Act.put, List.setIfInBounds_toArray, List.set_cons_zero, List.set_cons_succ]
  refine wpAnyH_take (i := 1) (oi := ?_) (v := ?_) ?_ (by kernel_rfl) (by kernel_rfl) (by kernel_rfl) ?_ ?_ (by assumption) ?_
  rotate_left 2
  · simp only [List.getElem?_toArray, List.getElem?_cons_succ, List.getElem?_cons_zero]; with_reducible rfl
  · exact fun _ _ _ h => h
  · refine Or.inl ⟨by rfl, ?_⟩; intro W hSw; go_simp; try with_reducible rfl
  try simp only [Act.put, List.setIfInBounds_toArray, List.set_cons_zero, List.set_cons_succ]
  refine wpAnyH_take (i := 2) (oi := ?_) (v := ?_) ?_ (by kernel_rfl) (by kernel_rfl) (by kernel_rfl) ?_ ?_ (by assumption) ?_
  rotate_left 2
  · simp only [List.getElem?_toArray, List.getElem?_cons_succ, List.getElem?_cons_zero]; with_reducible rfl
  · exact fun _ _ _ h => h
  · refine Or.inl ⟨by rfl, ?_⟩; intro W hSw; go_simp; try with_reducible rfl
  try simp only [Act.put, List.setIfInBounds_toArray, List.set_cons_zero, List.set_cons_succ]
  refine wpAnyH_take (i := 3) (oi := ?_) (v := ?_) ?_ (by kernel_rfl) (by kernel_rfl) (by kernel_rfl) ?_ ?_ (by assumption) ?_
  rotate_left 2
  · simp only [List.getElem?_toArray, List.getElem?_cons_succ, List.getElem?_cons_zero]; with_reducible rfl
  · exact fun _ _ _ h => h
  · refine Or.inl ⟨by rfl, ?_⟩; intro W hSw; have q0 := hSw.2.row.cell (i := 0) (v := .slice X.A X.l.length X.c) rfl; go_simp; try with_reducible rfl
  try simp only [Act.put, List.setIfInBounds_toArray, List.set_cons_zero, List.set_cons_succ]
  refine wpAnyH_take (i := 4) (oi := ?_) (v := ?_) ?_ (by kernel_rfl) (by kernel_rfl) (by kernel_rfl) ?_ ?_ (by assumption) ?_
  rotate_left 2
  · simp only [List.getElem?_toArray, List.getElem?_cons_succ, List.getElem?_cons_zero]; with_reducible rfl
  · exact fun _ _ _ h => h
  · refine Or.inl ⟨by rfl, ?_⟩; intro W hSw; go_simp; try with_reducible rfl
  try simp only [Act.put, List.setIfInBounds_toArray, List.set_cons_zero, List.set_cons_succ]
  refine wpAnyH_take (i := 5) (oi := ?_) (v := ?_) ?_ (by kernel_rfl) (by kernel_rfl) (by kernel_rfl) ?_ ?_ (by assumption) ?_
  rotate_left 2
  · simp only [List.getElem?_toArray, List.getElem?_cons_succ, List.getElem?_cons_zero]; with_reducible rfl
  · exact fun _ _ _ h => h
  · refine Or.inl ⟨by rfl, ?_⟩; intro W hSw; go_simp; try with_reducible rfl
  try simp only [Act.put, List.setIfInBounds_toArray, List.set_cons_zero, List.set_cons_succ]
  refine wpAnyH_take (i := 6) (oi := ?_) (v := ?_) ?_ (by kernel_rfl) (by kernel_rfl) (by kernel_rfl) ?_ ?_ (by assumption) ?_
  rotate_left 2
  · simp only [List.getElem?_toArray, List.getElem?_cons_succ, List.getElem?_cons_zero]; with_reducible rfl
  · exact fun _ _ _ h => h
  · refine Or.inl ⟨by rfl, ?_⟩; intro W hSw; go_simp; try with_reducible rfl
  try simp only [Act.put, List.setIfInBounds_toArray, List.set_cons_zero, List.set_cons_succ]
  refine wpAnyH_take (i := 7) (oi := ?_) (v := ?_) ?_ (by kernel_rfl) (by kernel_rfl) (by kernel_rfl) ?_ ?_ (by assumption) ?_
  rotate_left 2
  · simp only [List.getElem?_toArray, List.getElem?_cons_succ, List.getElem?_cons_zero]; with_reducible rfl
  · exact fun _ _ _ h => h
  · refine Or.inl ⟨by rfl, ?_⟩; intro W hSw; have q1 := hSw.2.row.cell (i := 1) (v := .int .i64 (k : Int)) rfl; go_simp; try with_reducible rfl
  try simp only [Act.put, List.setIfInBounds_toArray, List.set_cons_zero, List.set_cons_succ]
  refine wpAnyH_take (i := 8) (oi := ?_) (v := ?_) ?_ (by kernel_rfl) (by kernel_rfl) (by kernel_rfl) ?_ ?_ (by assumption) ?_
  rotate_left 2
  · simp only [List.getElem?_toArray, List.getElem?_cons_succ, List.getElem?_cons_zero]; with_reducible rfl
  · exact fun _ _ _ h => h
  · refine Or.inl ⟨by rfl, ?_⟩; intro W hSw; go_simp; try with_reducible rfl
  try simp only [Act.put, List.setIfInBounds_toArray, List.set_cons_zero, List.set_cons_succ]
  refine wpAnyH_take (i := 9) (oi := ?_) (v := ?_) ?_ (by kernel_rfl) (by kernel_rfl) (by kernel_rfl) ?_ ?_ (by assumption) ?_
  rotate_left 2
  · simp only [List.getElem?_toArray, List.getElem?_cons_succ, List.getElem?_cons_zero]; with_reducible rfl
  · exact fun _ _ _ h => h
  · refine Or.inl ⟨by rfl, ?_⟩; intro W hSw; go_simp; try with_reducible rfl
  try simp only [Act.put, List.setIfInBounds_toArray, List.set_cons_zero, List.set_cons_succ]
  refine wpAnyH_ready (rs := [10]) (by kernel_rfl) (by simp) ?_
  refine AllReadyH.cons (o := ?_) ?_ (fun K1 hK1 => ?_) AllReadyH.nil
  rotate_left 1
  · simp only [List.getElem?_toArray, List.getElem?_cons_succ, List.getElem?_cons_zero]; with_reducible rfl
  rw [if_pos (by rfl)]
  go_simp
  refine hK1.out _ _ (⟨(hHeld.1.alloc hHeld.1.size _).drew, hHeld.2.below ((Below.refl _ _).alloc (Nat.le_refl _) _).drew⟩) (fun hHeld1 => ?_)
  clear hK1 K1
  try simp only [Act.put, List.setIfInBounds_toArray, List.set_cons_zero, List.set_cons_succ]
  refine wpAnyH_ready (rs := [11]) (by kernel_rfl) (by simp) ?_
  refine AllReadyH.cons (o := ?_) ?_ (fun K2 hK2 => ?_) AllReadyH.nil
  rotate_left 1
  · simp only [List.getElem?_toArray, List.getElem?_cons_succ, List.getElem?_cons_zero]; with_reducible rfl
  rw [if_pos (by rfl)]
  go_simp
  refine (HPF.out _ _ _ hHeld1.1 (HRW.out _ _ _ _)).mono ?_
  rintro e5 w5 ⟨rfl, hb5⟩
  go_wp2_with fail
  refine hK2.out _ _ (⟨hHeld1.1.call hb5, hHeld1.2.below hb5⟩) (fun hHeld2 => ?_)
  clear hK2 K2
  try simp only [Act.put, List.setIfInBounds_toArray, List.set_cons_zero, List.set_cons_succ]
  refine wpAnyH_take (i := 12) (oi := ?_) (v := ?_) ?_ (by kernel_rfl) (by kernel_rfl) (by kernel_rfl) ?_ ?_ (by assumption) ?_
  rotate_left 2
  · simp only [List.getElem?_toArray, List.getElem?_cons_succ, List.getElem?_cons_zero]; with_reducible rfl
  · exact fun _ _ _ h => h
  · refine Or.inl ⟨by rfl, ?_⟩; intro W hSw; go_simp; try with_reducible rfl
  try simp only [Act.put, List.setIfInBounds_toArray, List.set_cons_zero, List.set_cons_succ]
  refine wpAnyH_done (by kernel_rfl) ?_ _
  have HJ := Lib.hid hHeld2.2
  have HB := Lib.hid hHeld2.1
  have d1 := HJ.out.row.cell (i := 1) (v := .int .i64 (k : Int)) rfl
  have g1 := HJ.out.row.free 1
  clear hHeld hHeld1 hHeld2 hb5 hcv hsl c0 c1
  have HK := Lib.hid (keptOf_below (F := (· = p)) HB.out)
  cases b with
  | false =>
    go_wp2
    go_ret
    exact ⟨rfl, HJ.out, HK.out⟩
  | true =>
    have hle := HLE.out rfl
    rw [List.length_drop] at hle
    go_wp2
    go_ret
    have hkk : Kept (· = p) w5 (w5.setCell ⟨p, 1, none⟩ (.int .i64 ((k + m : Nat) : Int))) := Kept.cell _ _ _ _
    exact ⟨rfl, HJ.out.step hkk (by simpa [rdCells] using HJ.out.row.set_ 1 (.int .i64 ((k + m : Nat) : Int))), HK.out.trans' hkk⟩
theorem jword_ok (p : Nat) (X : Txt) (q s : List UInt8) (E O : Value) (f : Fl) (w : World) (h : JAt w p X s E O f) (hq : 0 < q.length) :
    Calls Tryz.prog 117 #[.pointer (some ⟨p, 0, none⟩), .string (bs q)] w fun e w' => e = .returned (.bool (pfx q s)) ∧ JTo p X (if pfx q s then s.drop q.length else s) E O f w w' := by
  obtain ⟨hl, k, hr, rfl, hk⟩ := h
  refine (jwordK_ok p X q k E O f w hr hk hl.1 hl.2 hq).mono ?_
  rintro e w' ⟨rfl, hj, hkp⟩
  refine ⟨rfl, ?_, hkp⟩
  split
  · rename_i hb
    rw [if_pos hb] at hj
    have := pfx_len hb
    rw [List.length_drop] at this
    exact ⟨hl, _, hj, by rw [List.drop_drop], by omega⟩
  · rename_i hb
    rw [if_neg hb] at hj
    exact ⟨hl, _, hj, rfl, hk⟩
end Go.Proofs.YtfdodndagakmmaaGreatDoor
