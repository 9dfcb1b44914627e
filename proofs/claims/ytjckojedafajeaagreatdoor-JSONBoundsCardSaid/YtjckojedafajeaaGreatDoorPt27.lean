/- Layer 8: enter: a list, or an object, is opened. -/
import Derived.Test.YtjckojedafajeaaGreatDoorPt26
namespace Go.Proofs.YtjckojedafajeaaGreatDoor
open Go.RowKit

def lvZ : Array Value := #[.int .i64 0, .bool false, .bool false, .string ⟨#[]⟩, .int .i64 0, .string ⟨#[]⟩, .slice none 0 0, .slice none 0 0, .map none]
theorem infoLv : (Tryz.prog.info? 118).map (fun i => (i.zero, i.size, i.bytes)) = some (some (.agg lvZ), 9, 120) := by kernel_rfl
/-- What the reader, and the stack, may turn. -/
def StkG (own : Nat → Nat) (base p q : Nat) : Prop := q = p ∨ StkF own base q
/-- The reader's row turns. -/
theorem JAt.turn {w w' : World} {p : Nat} {X : Txt} {s : List UInt8} {E O E' O' : Value} {f f' : Fl} (h : JAt w p X s E O f) (hk : Kept (· = p) w w') (hr : ∀ k, Row w p 56 (rdCells X k E O f) → Row w' p 56 (rdCells X k E' O' f')) : JAt w' p X s E' O' f' := by
  obtain ⟨hl, k, hrd, hs, hk2⟩ := h
  exact ⟨hl, k, hrd.step hk (hr k hrd.row), hs, hk2⟩
theorem JAt.row {w : World} {p : Nat} {X : Txt} {s : List UInt8} {E O : Value} {f : Fl} (h : JAt w p X s E O f) : ∃ k, Row w p 56 (rdCells X k E O f) := by
  obtain ⟨_, k, hrd, _, _⟩ := h
  exact ⟨k, hrd.row⟩
/-- Another owner for what is new. -/
def ownNew (own : Nat → Nat) (n i q : Nat) : Nat := if q < n then own q else i
theorem still_new {w w' : World} {own : Nat → Nat} {i : Nat} {G : Nat → Prop} (hk : Kept G w w') : Still w w' G own (ownNew own w.heap.size i) := ⟨hk, fun q hq => by unfold ownNew; rw [if_pos hq]⟩
/-- What an append hands back is its owner's. -/
theorem lies_new {w w' : World} {own : Nat → Nat} {base i : Nat} {e : TypeId} {size n : Nat} {v : Value} {xs : List Value} (h : Lies w' (grow (FB own base i) w) e size v n xs) (hb : base ≤ w.heap.size) : Lies w' (FB (ownNew own w.heap.size i) base i) e size v n xs :=
  h.mono fun q hq => by
    rcases hq with hq | hq
    · refine ⟨?_, hq.2⟩
      show (if q < w.heap.size then own q else i) = i
      split
      · exact hq.1
      · rfl
    · exact ⟨if_neg (by omega), Nat.le_trans hb hq⟩
theorem still_trans {w w1 w2 : World} {G : Nat → Prop} {own own1 own2 : Nat → Nat} (h : Still w w1 G own own1) (k : Still w1 w2 (grow G w) own1 own2) : Still w w2 G own own2 := ⟨h.kept.trans k.kept, fun q hq => (k.own q (Nat.lt_of_lt_of_le hq h.kept.size)).trans (h.own q hq)⟩
theorem still_mono {w w1 : World} {G H : Nat → Prop} {own own1 : Nat → Nat} (h : Still w w1 G own own1) (hg : ∀ q, G q → H q) : Still w w1 H own own1 := ⟨kept_mono h.kept hg, h.own⟩
set_option maxRecDepth 1000000 in
set_option maxHeartbeats 40000000 in
theorem jenter_ok (p : Nat) (X : Txt) (s s0 : List UInt8) (E O E0 O0 : Value) (f f0 : Fl) (w0 w : World) (own : Nat → Nat) (K : List Fr) (obj : Bool)
    (h0 : JAt w0 p X s0 E0 O0 f0) (h : JAt w p X s E O f) (hs : Stk w own w0.heap.size K E O) (hb : w0.heap.size ≤ w.heap.size) (hl : K.length ≤ 1048576) :
    Calls Tryz.prog 58 #[.pointer (some ⟨p, 0, none⟩), .int .i64 (if obj then 5 else 4), .int .u8 (if obj then 125 else 93)] w fun e w' => e = .returned (.tuple #[]) ∧
      ∃ own' E' O', Stk w' own' w0.heap.size (enterK obj K) E' O' ∧ JAt w' p X s E' O' (enterF (enterK obj K) f) ∧ Still w w' (StkG own w0.heap.size p) own own' := by
  obtain ⟨A, c, hE, hc1, hc2⟩ := hs.ends.form
  subst hE
  obtain ⟨k, hrow⟩ := h.row
  have c2 := hrow.cell (i := 2) (v := .slice A K.length c) rfl
  have hp0 := h0.lt
  obtain ⟨eb, heb⟩ : ∃ eb : Int, eb = if obj then 125 else 93 := ⟨_, rfl⟩
  obtain ⟨kd, hkd⟩ : ∃ kd : Int, kd = if obj then 5 else 4 := ⟨_, rfl⟩
  rw [← heb, ← hkd]
  have hb1 : Below w.heap.size w (w.alloc (.cells #[.int .u8 eb] 5)) := (Below.refl _ _).alloc (Nat.le_refl _) _
  have HB1 := Lib.hid hb1
  have HL1 := Lib.hid (hs.ends.below hb1)
  have hsrc : Hid (Source (w.alloc (.cells #[.int .u8 eb] 5)) (some ⟨w.heap.size, 0, none⟩) 1 [.int .u8 eb]) := Lib.hid (.inr ⟨_, rfl, World.news_of_block (w := w.alloc (.cells #[.int .u8 eb] 5)) (heap_alloc_new w _)⟩)
  have H := Lib.hid h
  have H0 := Lib.hid h0
  have HS := Lib.hid hs
  have HB := Lib.hid hb
  have HEB := Lib.hid heb
  have HKD := Lib.hid hkd
  have HL := Lib.hid hl
  have HROW := Lib.hid hrow
  clear hb1 h h0 hs hb heb hkd hl hrow hc1 hc2
  go_enter Tryz.func58, Tryz.ntmps58
  go_upto_region 1 with (
    at_builtin
    refine wpList_append_any ?_ (FB own w0.heap.size 1) (.tmp 10) (.tmp 12) 22 ?_ 5 1 1 (.int .u8 0) Tryz.underlying22 infoByte rfl (by decide) (.slice A K.length c) K.length (u8s (K.reverse.map endB)) ?_ HL1.out _ 1 1 [.int .u8 eb] ?_ rfl hsrc.out ?_ (by have := HL.out; omega) (by decide) ?_
    · with_reducible rfl
    · with_reducible rfl
    · rfl
    · rfl
    · intro u hu; simp at hu; subst hu; rfl
    intro v2 w2 hl2 hk2
    have hr2 : Row w2 p 56 (rdCells X k (.slice A K.length c) O f) := Row.kept (HROW.out.call HB1.out) hk2 (fun h9 => by have := h9.1.2; omega)
    have d2 := hr2.cell (i := 2) (v := .slice A K.length c) rfl
    have z2 := hr2.free 2
    obtain ⟨A2, c3, rfl, _, _⟩ := hl2.form
    have HL2 := Lib.hid hl2
    have HK2 := Lib.hid hk2
    have HR2 := Lib.hid hr2
    clear hl2 hk2 hr2)
  clear d2 z2
  obtain ⟨w3, hw3⟩ : ∃ w3, w3 = w2.setCell ⟨p, 2, none⟩ (.slice A2 (K.length + 1) c3) := ⟨_, rfl⟩
  rw [← hw3]
  have hrow3 : Row w3 p 56 (rdCells X k (.slice A2 (K.length + 1) c3) O f) := by rw [hw3]; simpa [rdCells] using HR2.out.set_ 2 (.slice A2 (K.length + 1) c3)
  obtain ⟨own1, ho1⟩ : ∃ own1, own1 = ownNew own (w.alloc (.cells #[.int .u8 eb] 5)).heap.size 1 := ⟨_, rfl⟩
  have hkA : Kept (StkG own w0.heap.size p) w w2 := (keptOf_below HB1.out).trans' (kept_mono HK2.out fun q hq => .inr ⟨hq.1.2, by rw [hq.1.1]; omega, by rw [hq.1.1]; omega⟩)
  have hkp : Kept (· = p) w2 w3 := by rw [hw3]; exact Kept.cell _ _ _ _
  have ho1' : ∀ q, q < w.heap.size → own1 q = own q := fun q hq => by rw [ho1]; unfold ownNew; rw [if_pos (Nat.lt_of_lt_of_le hq HB1.out.size)]
  have HS3 : Hid (Still w w3 (StkG own w0.heap.size p) own own1) := Lib.hid ⟨hkA.trans' (kept_mono hkp fun q e => .inl e), ho1'⟩
  have hE3 : Lies w3 (FB own1 w0.heap.size 1) 5 1 (.slice A2 (K.length + 1) c3) (K.length + 1) (u8s ((enterK obj K).reverse.map endB)) := by
    have h1 := lies_new HL2.out (Nat.le_trans HB.out HB1.out.size)
    rw [← ho1] at h1
    have h2 := Lies.still (own' := own1) h1 ⟨hkp, fun _ _ => rfl⟩ (fun q e hq => by omega)
    have e1 : u8s ((enterK obj K).reverse.map endB) = u8s (K.reverse.map endB) ++ [.int .u8 eb] := by
      unfold enterK u8s
      rw [List.reverse_cons, List.map_append, List.map_append, HEB.out]
      cases obj <;> rfl
    rw [e1]
    exact h2
  have hO3 : ∃ css, Lies w3 (FB own1 w0.heap.size 2) 118 9 O (keptK K).length css.flatten ∧ LvsAt w3 own1 w0.heap.size 0 (keptK K) css := by
    obtain ⟨css, h1, h2⟩ := HS.out.open_
    have sB : Still w (w.alloc (.cells #[.int .u8 eb] 5)) (fun _ => False) own own := ⟨keptOf_below HB1.out, fun _ _ => rfl⟩
    have sC : Still (w.alloc (.cells #[.int .u8 eb] 5)) w3 (fun q => FB own w0.heap.size 1 q ∨ q = p) own own1 := ⟨(kept_mono HK2.out fun q hq => .inl hq.1).trans' (kept_mono hkp fun q e => .inr e), fun q hq => by rw [ho1]; unfold ownNew; rw [if_pos hq]⟩
    refine ⟨css, (h1.still sB (fun _ h => h.elim)).still sC (fun q hq hb => ?_), LvsAt.still sC 0 _ _ (LvsAt.still sB 0 _ _ h2 fun _ h => h.elim) fun q hq hb => ?_⟩
    · rcases hq with hq | hq
      · rw [hq.1]; omega
      · omega
    · rcases hq with hq | hq
      · rw [hq.1]; omega
      · omega
  have hJ3 : JAt w3 p X s (.slice A2 (K.length + 1) c3) O f := by
    have h1 := H0.out.above H.out (w' := w2) ((keptOf_below HB1.out).trans' (kept_mono HK2.out fun q hq => hq.1.2))
    refine h1.turn hkp fun k' hr' => ?_
    rw [hw3]
    simpa [rdCells] using hr'.set_ 2 (.slice A2 (K.length + 1) c3)
  have HE3 := Lib.hid hE3
  have HO3 := Lib.hid hO3
  have HJ3 := Lib.hid hJ3
  have HSZ : Hid (w.heap.size ≤ w3.heap.size) := Lib.hid HS3.out.kept.size
  have HD := Lib.hid (jisDeep_ok p X k A2 (K.length + 1) c3 O f w3 (by
    obtain ⟨_, k', hr', hs', hk'⟩ := hJ3
    exact ⟨hrow3, hr'.txt⟩))
  have c4 := hrow3.cell (i := 4) (v := .bool f.deep) rfl
  have c5 := hrow3.cell (i := 3) (v := O) rfl
  have z4 := hrow3.free 4
  have HR3 := Lib.hid hrow3
  clear hw3 hrow3 ho1 hkA hkp ho1' hE3 hO3 hJ3 HL2 HK2 HR2
  by_cases hd : 64 < K.length + 1
  · rw [decide_eq_true hd] at HD
    have hF : enterF (enterK obj K) f = { f with deep := true } := if_pos (by unfold isDeepK maxDeep enterK; exact decide_eq_true hd)
    have FI : Hid (∃ own' E' O', Stk (w3.setCell ⟨p, 4, none⟩ (.bool true)) own' w0.heap.size (enterK obj K) E' O' ∧ JAt (w3.setCell ⟨p, 4, none⟩ (.bool true)) p X s E' O' (enterF (enterK obj K) f) ∧ Still w (w3.setCell ⟨p, 4, none⟩ (.bool true)) (StkG own w0.heap.size p) own own') := Lib.hid (by
      have s4 : Still w3 (w3.setCell ⟨p, 4, none⟩ (.bool true)) (· = p) own1 own1 := ⟨Kept.cell _ _ _ _, fun _ _ => rfl⟩
      refine ⟨own1, _, O, ⟨HE3.out.still s4 (fun q e hq => by omega), ?_⟩, ?_, still_trans HS3.out (still_mono s4 fun q e => .inl (.inl e))⟩
      · obtain ⟨css, h1, h2⟩ := HO3.out
        have hkk : keptK (enterK obj K) = keptK K := keptK_deep (by omega)
        rw [hkk]
        exact ⟨css, h1.still s4 (fun q e hq => by omega), LvsAt.still s4 0 _ _ h2 fun q e hq => by omega⟩
      · rw [hF]
        exact HJ3.out.turn (Kept.cell _ _ _ _) fun k' hr' => by simpa [rdCells] using hr'.set_ 4 (.bool true))
    clear hd hF
    go_wp2_with fail
    refine HD.out.mono ?_
    rintro e w4 ⟨rfl, rfl⟩
    go_wp2_with fail
    refine bodyPost_ret (results_none rfl _ _ _) rfl ?_
    exact ⟨rfl, FI.out⟩
  · rw [decide_eq_false hd] at HD
    have hF : enterF (enterK obj K) f = f := if_neg (by unfold isDeepK maxDeep enterK; rw [Bool.not_eq_true]; exact decide_eq_false hd)
    have hk1 : keptK K = K.reverse := keptK_all (by omega)
    have hk2 : keptK (enterK obj K) = K.reverse ++ [⟨obj, [], []⟩] := keptK_cons (by omega)
    obtain ⟨css, hO1, hO2⟩ := HO3.out
    rw [hk1, List.length_reverse] at hO1
    rw [hk1] at hO2
    have hb5 : Below w3.heap.size w3 (w3.alloc (.cells #[.int .i64 kd, .bool false, .bool false, .string ⟨#[]⟩, .int .i64 0, .string ⟨#[]⟩, .slice none 0 0, .slice none 0 0, .map none] 118)) := (Below.refl _ _).alloc (Nat.le_refl _) _
    have HB5 := Lib.hid hb5
    have HO5 := Lib.hid (hO1.below hb5)
    have hsr5 : Hid (Source (w3.alloc (.cells #[.int .i64 kd, .bool false, .bool false, .string ⟨#[]⟩, .int .i64 0, .string ⟨#[]⟩, .slice none 0 0, .slice none 0 0, .map none] 118)) (some ⟨w3.heap.size, 0, none⟩) 1 [.int .i64 kd, .bool false, .bool false, .string ⟨#[]⟩, .int .i64 0, .string ⟨#[]⟩, .slice none 0 0, .slice none 0 0, .map none]) := Lib.hid (.inr ⟨_, rfl, World.news_of_block (heap_alloc_new w3 _)⟩)
    obtain ⟨AO, cO, hvO, _, _⟩ := hO1.form
    subst hvO
    have HLV := Lib.hid hO2
    have HF := Lib.hid hF
    have HKK := Lib.hid hk2
    have hm : K.length ≤ 63 := by omega
    clear hd hF hk1 hk2 hO1 hO2 hb5 HO3
    go_wp2_with fail
    refine HD.out.mono ?_
    rintro e w4 ⟨rfl, rfl⟩
    go_upto_region 4 with (
      at_builtin
      refine wpList_append_any ?_ (FB own1 w0.heap.size 2) (.tmp 25) (.tmp 29) 54 ?_ 118 9 120 (.agg lvZ) Tryz.underlying54 infoLv rfl (by decide) (.slice AO K.length cO) K.length css.flatten ?_ HO5.out _ 1 1 [.int .i64 kd, .bool false, .bool false, .string ⟨#[]⟩, .int .i64 0, .string ⟨#[]⟩, .slice none 0 0, .slice none 0 0, .map none] ?_ rfl hsr5.out ?_ (by omega) (by decide) ?_
      · with_reducible rfl
      · with_reducible rfl
      · rfl
      · rfl
      · intro u hu; simp at hu; rcases hu with rfl | rfl | rfl | rfl | rfl | rfl | rfl | rfl | rfl <;> rfl
      intro v6 w6 hl6 hk6
      have hr6 : Row w6 p 56 (rdCells X k (.slice A2 (K.length + 1) c3) (.slice AO K.length cO) f) := Row.kept (HR3.out.call HB5.out) hk6 (fun h9 => by have := h9.1.2; omega)
      have d3 := hr6.cell (i := 3) (v := .slice AO K.length cO) rfl
      have z3 := hr6.free 3
      obtain ⟨A6, c6, rfl, _, _⟩ := hl6.form
      have HL6 := Lib.hid hl6
      have HK6 := Lib.hid hk6
      clear hl6 hk6 hr6)
    go_end0
    obtain ⟨w5, hw5⟩ : ∃ w5, w5 = w3.alloc (.cells #[.int .i64 kd, .bool false, .bool false, .string ⟨#[]⟩, .int .i64 0, .string ⟨#[]⟩, .slice none 0 0, .slice none 0 0, .map none] 118) := ⟨_, rfl⟩
    rw [← hw5] at HB5 HK6 HL6
    obtain ⟨w7, hw7⟩ : ∃ w7, w7 = w6.setCell ⟨p, 3, none⟩ (.slice A6 (K.length + 1) c6) := ⟨_, rfl⟩
    rw [← hw7]
    obtain ⟨own2, ho2⟩ : ∃ own2, own2 = ownNew own1 w5.heap.size 2 := ⟨_, rfl⟩
    have hkp : Kept (· = p) w6 w7 := by rw [hw7]; exact Kept.cell _ _ _ _
    have sB : Still w3 w5 (fun _ => False) own1 own1 := ⟨keptOf_below HB5.out, fun _ _ => rfl⟩
    have sC : Still w5 w7 (fun q => FB own1 w0.heap.size 2 q ∨ q = p) own1 own2 := ⟨(kept_mono HK6.out fun q hq => .inl hq.1).trans' (kept_mono hkp fun q e => .inr e), fun q hq => by rw [ho2]; unfold ownNew; rw [if_pos hq]⟩
    have hd2 : ∀ i, i ≠ 2 → ∀ q, (FB own1 w0.heap.size 2 q ∨ q = p) → w0.heap.size ≤ q → own1 q ≠ i := fun i hi q hq hb e => by
      rcases hq with hq | hq
      · exact hi (e.symm.trans hq.1)
      · omega
    have hs5 := HSZ.out
    have hbs := HB.out
    refine ⟨rfl, own2, .slice A2 (K.length + 1) c3, .slice A6 (K.length + 1) c6, ⟨(HE3.out.still sB (fun _ h => h.elim)).still sC (hd2 1 (by omega)), ?_⟩, ?_, ?_⟩
    · rw [HKK.out, List.length_append, List.length_reverse, List.length_singleton]
      refine ⟨css ++ [lvC obj (.slice none 0 0) (.slice none 0 0) (.map none)], ?_, ?_⟩
      · have h1 := lies_new HL6.out (by have := HB5.out.size; omega)
        rw [← ho2] at h1
        have h2 := Lies.still (own' := own2) h1 ⟨hkp, fun _ _ => rfl⟩ (fun q e hq => by omega)
        have e1 : (css ++ [lvC obj (.slice none 0 0) (.slice none 0 0) (.map none)]).flatten = css.flatten ++ [.int .i64 kd, .bool false, .bool false, .string ⟨#[]⟩, .int .i64 0, .string ⟨#[]⟩, .slice none 0 0, .slice none 0 0, .map none] := by
          rw [HKD.out]; simp [lvC]
        rw [e1]
        exact h2
      · refine LvsAt.snoc 0 _ css (LvsAt.still sC 0 _ _ (LvsAt.still sB 0 _ _ HLV.out fun _ h => h.elim) fun q hq hb => ?_) ⟨_, _, _, [], rfl, trivial, Lies.empty _ _ _ _ _, Lies.empty _ _ _ _ _, .inl ⟨rfl, rfl⟩⟩
        rcases hq with hq | hq
        · rw [hq.1]; omega
        · omega
    · rw [HF.out]
      have h1 := H0.out.above HJ3.out (w' := w6) ((keptOf_below HB5.out).trans' (kept_mono HK6.out fun q hq => hq.1.2))
      refine h1.turn hkp fun k' hr' => ?_
      rw [hw7]
      simpa [rdCells] using hr'.set_ 3 (.slice A6 (K.length + 1) c6)
    · refine still_trans HS3.out (still_trans (still_mono sB fun _ h => h.elim) (still_mono sC fun q hq => .inl ?_))
      rcases hq with hq | hq
      · by_cases hlt : q < w.heap.size
        · have h9 := HS3.out.own q hlt
          have h8 := hq.1
          exact .inl (.inr ⟨hq.2, by omega, by omega⟩)
        · exact .inr (by omega)
      · exact .inl (.inl hq)
end Go.Proofs.YtjckojedafajeaaGreatDoor
/- Layer 8: leave: the innermost one that is open is closed, and told. -/
namespace Go.Proofs.YtjckojedafajeaaGreatDoor
open Go.RowKit

theorem run_sliceTo {P : Program} (W : World) (t e : TypeId) (ht : P.underlying t = some (.slice e)) (hi : (P.info? e).isSome = true) (g off n c b : Nat) (h : b ≤ c) :
    (Instr.sliceAt t (.slice (some ⟨g, off, none⟩) n c) none (some (.int .i64 (b : Int))) none).run P W = .ok (.slice (some ⟨g, off, none⟩) b c) W := by
  obtain ⟨i, hi⟩ := Option.isSome_iff_exists.1 hi
  simp [Instr.sliceAt, Instr.slice, Instr.sliceBounds, Instr.sliceBound, asIntOf, go_sem, run_underlying ht, sizeOf, typeInfo, hi, h, Addr.add]
/-- A level's things are done. -/
def ownDone (own : Nat → Nat) (m q : Nat) : Nat := if own q = 4 + 3 * m ∨ own q = 5 + 3 * m ∨ own q = 6 + 3 * m then 0 else own q
theorem ownDone_3 {own : Nat → Nat} {m q : Nat} (h : own q = 3) : ownDone own m q = 3 := by unfold ownDone; rw [if_neg (by omega)]; exact h
section
variable {W : World} {own own' : Nat → Nat} {base : Nat}
theorem LvAt.relabel {i : Nat} {t : Fr} {cs : List Value} (h : LvAt W own base i t cs) (h0 : ∀ q, own q = 0 → own' q = 0) (h1 : ∀ q, 4 + 3 * i ≤ own q → own q < 7 + 3 * i → own' q = own q) : LvAt W own' base i t cs := by
  obtain ⟨L, N, M, css, e, a1, a2, a3, a4⟩ := h
  have f : ∀ j, 4 + 3 * i ≤ j → j < 7 + 3 * i → ∀ k, FB own base j k → FB own' base j k := fun j h2 h3 k hk => ⟨(h1 k (by have := hk.1; omega) (by have := hk.1; omega)).trans hk.1, hk.2⟩
  exact ⟨L, N, M, css, e, JsAt.mono (fun k hk _ => ⟨h0 k hk.1, hk.2⟩) _ _ a1, a2.mono (f _ (by omega) (by omega)), a3.mono (f _ (by omega) (by omega)), a4.imp id fun ⟨b, e1, e2, e3⟩ => ⟨b, e1, f _ (by omega) (by omega) b e2, e3⟩⟩
theorem LvsAt.relabel (h0 : ∀ q, own q = 0 → own' q = 0) : ∀ (i : Nat) (l : List Fr) (css : List (List Value)), LvsAt W own base i l css → (∀ q, 4 + 3 * i ≤ own q → own q < 4 + 3 * (i + l.length) → own' q = own q) → LvsAt W own' base i l css
  | _, [], [], _, _ => trivial
  | i, t :: r, c :: cs, h, hd => ⟨h.1.relabel h0 fun q a b => hd q a (by simp only [List.length_cons]; omega), LvsAt.relabel h0 (i + 1) r cs h.2 fun q a b => hd q (by omega) (by simp only [List.length_cons]; omega)⟩
  | _, [], _ :: _, h, _ => h.elim
  | _, _ :: _, [], h, _ => h.elim
end
/-- A level as a value. -/
theorem TopW.val {W : World} {own : Nat → Nat} {base : Nat} {t : Fr} {r : List Fr} {g off cap : Nat} {cs0 : List (List Value)} {L N M : Value} {css : List (List Value)} (h : TopW W own base t r g off cap cs0 L N M css) :
    JIs W (FB (ownDone own r.length) base 0) t.val ((lvC t.obj L N M).take 8) := by
  obtain ⟨A, c, hL, h1, h2⟩ := h.list.form
  obtain ⟨A', c', hN, h3, h4⟩ := h.names.form
  unfold Fr.val JIs
  refine ⟨A, c, A', c', by rw [hL, hN]; rfl, h1, h2, h3, h4, fun i hi => ?_, ?_⟩
  · obtain ⟨g2, off2, cap2, hv, hf, _, _, hlt, hr⟩ := h.names.cells (by omega)
    rw [hN] at hv
    injection hv with e1 _ _
    refine ⟨g2, off2, e1, ⟨?_, hf.2⟩, hlt, ?_⟩
    · unfold ownDone; rw [if_pos (.inr (.inl hf.1))]
    · have := hr i (keyV (t.names.getD i [])) (by simp [List.getD, List.getElem?_eq_getElem hi])
      exact this
  · by_cases h0 : t.list = []
    · rw [h0]; unfold KidsAt; trivial
    · have hpos : 0 < t.list.length := by
        cases hq : t.list with
        | nil => exact absurd hq h0
        | cons x y => simp
      obtain ⟨g2, off2, cap2, hv, hf, _, _, hlt, hr⟩ := h.list.cells hpos
      rw [hL] at hv
      injection hv with e1 _ _
      rw [e1]
      refine JsAt.kids (F := FB own base 0) ⟨?_, hf.2⟩ hlt (fun k hk _ => ⟨?_, hk.2⟩) t.list css 0 h.vals (by simpa using hr)
      · unfold ownDone; rw [if_pos (.inl hf.1)]
      · unfold ownDone; rw [if_neg (by have := hk.1; omega)]; exact hk.1
theorem row_setCells {g : Nat} {T : TypeId} {cs : Array Value} : ∀ (vs : List Value) (o : Nat) (W : World), Row W g T cs → (∀ j v, vs[j]? = some v → cs[o + j]? = some v) → Row (W.setCells g o vs) g T cs
  | [], _, _, h, _ => h
  | v :: vs, o, W, h, hv => by
    rw [World.setCells]
    refine row_setCells vs (o + 1) _ ?_ fun j u hu => ?_
    · have h1 := h.set_ o v
      have h2 := hv 0 v rfl
      rw [Nat.add_zero] at h2
      have e : cs.setIfInBounds o v = cs := by
        refine Array.ext_getElem? fun i => ?_
        rw [Array.getElem?_setIfInBounds]
        by_cases hi : o = i
        · subst hi
          rw [if_pos rfl, if_pos (Array.getElem?_eq_some_iff.1 h2).1, ← h2]
        · rw [if_neg hi]
      rwa [e] at h1
    · rw [Nat.add_assoc, Nat.add_comm 1 j]
      exact hv (j + 1) u (by simpa using hu)
/-- Any 8 cells are laid into a row of 8. -/
theorem row_laid {g : Nat} {T : TypeId} : ∀ (vs done rest : List Value) (W : World), Row W g T (done ++ rest).toArray → rest.length = vs.length → Row (W.setCells g done.length vs) g T (done ++ vs).toArray
  | [], done, rest, W, h, hl => by
    obtain rfl : rest = [] := List.eq_nil_of_length_eq_zero hl
    exact h
  | v :: vs, done, rest, W, h, hl => by
    obtain ⟨y, ys, rfl⟩ : ∃ y t, rest = y :: t := by
      cases rest with
      | nil => cases hl
      | cons y t => exact ⟨y, t, rfl⟩
    rw [World.setCells]
    have h1 := h.set_ done.length v
    have e : (done ++ y :: ys).toArray.setIfInBounds done.length v = ((done ++ [v]) ++ ys).toArray := by simp
    rw [e] at h1
    have h2 := row_laid vs (done ++ [v]) ys _ h1 (by simpa using hl)
    rw [List.length_append, List.length_singleton] at h2
    simpa using h2
/-- The signs that end are one fewer, the value is laid once more. -/
theorem lea_fin {w w9 w10 wf : World} {p : Nat} {X : Txt} {s s0 : List UInt8} {O E0 O0 : Value} {f f0 : Fl} {w0 : World} {own own1 : Nat → Nat} {t : Fr} {r : List Fr} {g0 offE c rv : Nat} {CS : Array Value} {v : JV} (h0 : JAt w0 p X s0 E0 O0 f0)
    (hrv : own1 rv = 3) (hrb : w.heap.size ≤ rv) (hE : Lies w9 (FB own1 w0.heap.size 1) 5 1 (.slice (some ⟨g0, offE, none⟩) (r.length + 1) c) (r.length + 1) (u8s ((t :: r).reverse.map endB)))
    (hO : ∃ css, Lies w9 (FB own1 w0.heap.size 2) 118 9 O (keptK r).length css.flatten ∧ LvsAt w9 own1 w0.heap.size 0 (keptK r) css) (hv : JIs w9 (FB own1 w0.heap.size 0) v CS.toList)
    (hj : JAt w9 p X s (.slice (some ⟨g0, offE, none⟩) (r.length + 1) c) O f) (hk : Kept (StkG own w0.heap.size p) w w9) (hb : w0.heap.size ≤ w.heap.size)
    (h10 : w10 = w9.setCell ⟨p, 2, none⟩ (.slice (some ⟨g0, offE, none⟩) r.length c)) (hf : wf = w10.setCells rv 0 CS.toList) (ho : ∀ q, q < w.heap.size → own q = 3 → own1 q = 3) :
    ∃ own' E' O' cs, Ending.returned (.agg CS) = .returned (.agg cs.toArray) ∧ JIs wf (FB own' w0.heap.size 0) v cs ∧ Stk wf own' w0.heap.size r E' O' ∧ JAt wf p X s E' O' f ∧ Kept (StkG own w0.heap.size p) w wf ∧ ∀ q, q < w.heap.size → own q = 3 → own' q = 3 := by
  have hp := h0.lt
  have k1 : Kept (· = p) w9 w10 := by rw [h10]; exact Kept.cell _ _ _ _
  have k2 : Kept (· = rv) w10 wf := by rw [hf]; exact kept_setCells _ _ _ _ _ (Kept.refl _ _)
  have s1 : Still w9 w10 (· = p) own1 own1 := ⟨k1, fun _ _ => rfl⟩
  have s2 : Still w10 wf (· = rv) own1 own1 := ⟨k2, fun _ _ => rfl⟩
  have d1 : ∀ i q, q = p → w0.heap.size ≤ q → own1 q ≠ i := fun i q e hq => by omega
  have d2 : ∀ i, i ≠ 3 → ∀ q, q = rv → w0.heap.size ≤ q → own1 q ≠ i := fun i hi q e _ => by rw [e, hrv]; omega
  have e1 : u8s ((t :: r).reverse.map endB) = u8s (r.reverse.map endB) ++ [.int .u8 (endB t).toNat] := by unfold u8s; simp
  refine ⟨own1, .slice (some ⟨g0, offE, none⟩) r.length c, O, CS.toList, by simp, (hv.still s1 (d1 0)).still s2 (d2 0 (by omega)), ⟨?_, ?_⟩, ?_, ?_, ho⟩
  · have h1 := hE.take (k := r.length) (by omega)
    rw [e1, List.take_left' (by simp [u8s])] at h1
    exact (h1.still s1 (d1 1)).still s2 (d2 1 (by omega))
  · obtain ⟨css, a1, a2⟩ := hO
    exact ⟨css, (a1.still s1 (d1 2)).still s2 (d2 2 (by omega)), LvsAt.still s2 0 _ _ (LvsAt.still s1 0 _ _ a2 fun q e hq => by omega) fun q e hq => by rw [e, hrv]; omega⟩
  · have h1 := hj.turn (E' := .slice (some ⟨g0, offE, none⟩) r.length c) (O' := O) (f' := f) k1 fun k' hr' => by rw [h10]; simpa [rdCells] using hr'.set_ 2 (.slice (some ⟨g0, offE, none⟩) r.length c)
    exact h0.above h1 (kept_mono k2 fun q e => by show w0.heap.size ≤ q; rw [e]; omega)
  · exact (hk.trans' (kept_mono k1 fun q e => .inl e)).trans (kept_mono k2 fun q e => .inr (by rw [e]; exact hrb))
theorem row_there {W : World} {g n : Nat} {T : TypeId} {cs : Array Value} (h : Row W g T cs) (hn : n ≤ cs.size) : W.there g 0 n := fun j hj =>
  ⟨by rw [Nat.zero_add, h.cell (i := j) (v := cs[j]'(by omega)) (Array.getElem?_eq_getElem _)]; rfl, by rw [Nat.zero_add]; exact h.free j⟩
/-- What leave ends with. -/
def LeaPost (w : World) (p : Nat) (X : Txt) (s : List UInt8) (f : Fl) (base : Nat) (own : Nat → Nat) (t : Fr) (r : List Fr) (e : Ending) (w' : World) : Prop :=
  ∃ own' E' O' cs, e = .returned (.agg cs.toArray) ∧ JIs w' (FB own' base 0) (if isDeepK (t :: r) then JV.null else t.val) cs ∧ Stk w' own' base r E' O' ∧ JAt w' p X s E' O' f ∧ Kept (StkG own base p) w w' ∧ ∀ q, q < w.heap.size → own q = 3 → own' q = 3
set_option maxRecDepth 1000000 in
set_option maxHeartbeats 40000000 in
theorem jleave_ok (p : Nat) (X : Txt) (s s0 : List UInt8) (E O E0 O0 : Value) (f f0 : Fl) (w0 w : World) (own : Nat → Nat) (t : Fr) (r : List Fr)
    (h0 : JAt w0 p X s0 E0 O0 f0) (h : JAt w p X s E O f) (hs : Stk w own w0.heap.size (t :: r) E O) (hb : w0.heap.size ≤ w.heap.size) :
    Calls Tryz.prog 62 #[.pointer (some ⟨p, 0, none⟩)] w (LeaPost w p X s f w0.heap.size own t r) := by
  obtain ⟨g0, offE, c, hE, _, hc1, hc2, hg0, _⟩ := hs.ends.cells (by simp)
  subst hE
  obtain ⟨w1, hw1⟩ : ∃ w1, w1 = w.alloc (.cells zeroJ 30) := ⟨_, rfl⟩
  have hb1 : Below w.heap.size w w1 := by subst hw1; exact (Below.refl _ _).alloc (Nat.le_refl _) _
  have hrv : Row w1 w.heap.size 30 zeroJ := by subst hw1; exact Row.new _ _ _
  have hp0 := h0.lt
  obtain ⟨k, hrow⟩ := h.row
  have HD := Lib.hid (jisDeep_ok p X k (some ⟨g0, offE, none⟩) (t :: r).length c O f w1 (by
    obtain ⟨_, k', hr', _, _⟩ := h
    exact ⟨hrow.call hb1, (hr'.below hb1).txt⟩))
  have HROW := Lib.hid (hrow.call hb1)
  have H := Lib.hid h
  have H0 := Lib.hid h0
  have HS := Lib.hid hs
  have HB := Lib.hid hb
  have HB1 := Lib.hid hb1
  have HRV := Lib.hid hrv
  obtain ⟨Post, hPost⟩ : ∃ Post, Post = LeaPost w p X s f w0.heap.size own t r := ⟨_, rfl⟩
  rw [← hPost]
  have HPost := Lib.hid hPost
  obtain ⟨m, hm⟩ : ∃ m, m = r.length := ⟨_, rfl⟩
  have hlen : (t :: r).length = m + 1 := by rw [hm]; rfl
  rw [hlen] at HD hc1
  have h9 : ((m + 1 : Nat) : Int) - 1 = (m : Int) := by omega
  have hlt : m < m + 1 := by omega
  have hslE := fun W => run_sliceTo (P := Tryz.prog) W 22 5 Tryz.underlying22 (by kernel_rfl) g0 offE (m + 1) c m (by omega)
  have hmb : m ≤ 9223372036854775806 := by unfold maxLen at hc2; omega
  have hwr : IntKind.i64.wrap (m : Int) = (m : Int) := IntWalk.i64_in _ (by omega)
  have HM := Lib.hid hm
  have HLEN := Lib.hid hlen
  have hrowE := hrow
  rw [hlen] at hrowE
  have HROWE := Lib.hid (hrowE.call hb1)
  clear h h0 hs hb hb1 hrow hPost hm hlen hc1 hc2 hg0 hrowE hrv
  generalize hn1 : m + 1 = n1 at *
  have HN1 := Lib.hid hn1
  clear hn1
  unfold zeroJ at hw1
  go_enter Tryz.func62, Tryz.ntmps62
  go_upto_region 1 with fail
  rw [← hw1]
  have HW1 := Lib.hid hw1
  clear hw1
  by_cases hd : 64 < n1
  · rw [decide_eq_true hd] at HD
    have HRR : Hid (Row w1 p 56 (rdCells X k (.slice (some ⟨g0, offE, none⟩) n1 c) O f)) := HROWE
    have HRV9 := HRV
    have H8 : Hid (zeroJ.size = 8) := Lib.hid rfl
    have HONE : Hid (zeroJ.all (·.oneCell') = true) := Lib.hid (by kernel_rfl)
    have FF : Hid (∀ w10 wf, w10 = w1.drew.setCell ⟨p, 2, none⟩ (.slice (some ⟨g0, offE, none⟩) m c) → wf = w10.setCells w.heap.size 0 zeroJ.toList → LeaPost w p X s f w0.heap.size own t r (.returned (.agg zeroJ)) wf) := Lib.hid (by
      intro w10 wf e1 e2
      have hm := HM.out
      subst hm
      have sA : Still w w1.drew (fun _ => False) own (ownNew own w.heap.size 3) := still_new (keptOf_below HB1.out).drew
      have hdp : isDeepK (t :: r) = true := by unfold isDeepK maxDeep; rw [HLEN.out]; exact decide_eq_true hd
      have hkk : keptK (t :: r) = keptK r := keptK_deep (by have := HN1.out; omega)
      obtain ⟨css, a1, a2⟩ := HS.out.open_
      rw [hkk] at a1 a2
      have hj := H0.out.above H.out (w' := w1.drew) (keptOf_below HB1.out).drew
      unfold LeaPost
      rw [if_pos hdp]
      refine lea_fin (w10 := w10) (t := t) H0.out ?_ (Nat.le_refl _) (HS.out.ends.still sA (fun _ h => h.elim)) ⟨css, a1.still sA (fun _ h => h.elim), LvsAt.still sA 0 _ _ a2 fun _ h => h.elim⟩ ?_ hj (keptOf_below HB1.out).drew HB.out e1 e2 ?_
      · unfold ownNew; rw [if_neg (Nat.lt_irrefl _)]
      · unfold JV.null JIs
        exact ⟨none, 0, none, 0, rfl, by simp, by unfold maxLen; omega, by simp, by unfold maxLen; omega, fun i hi => by simp at hi, by unfold KidsAt; trivial⟩
      · intro q hq h3; unfold ownNew; rw [if_pos hq]; exact h3)
    go_wp2_with fail
    refine HD.out.mono ?_
    rintro e w2 ⟨rfl, rfl⟩
    have c2 := HROWE.out.cell (i := 2) (v := .slice (some ⟨g0, offE, none⟩) n1 c) rfl
    have z2 := HROWE.out.free 2
    go_wp2_with fail
    go_still_tail 12, (by kernel_rfl)
    change wpList _ _ _ _ _ w1.drew
    have HR9 : Hid (Row w1.drew p 56 (rdCells X k (.slice (some ⟨g0, offE, none⟩) n1 c) O f)) := Lib.hid HRR.out.drew
    have HV9 : Hid (Row w1.drew w.heap.size 30 zeroJ) := Lib.hid HRV9.out.drew
    have FIN : Hid (∀ w10 wf, w10 = w1.drew.setCell ⟨p, 2, none⟩ (.slice (some ⟨g0, offE, none⟩) m c) → wf = w10.setCells w.heap.size 0 zeroJ.toList → LeaPost w p X s f w0.heap.size own t r (.returned (.agg zeroJ)) wf) := Lib.hid FF.out
    clear FF HRR HRV9 c2 z2
    generalize w1.drew = w9 at *
    have c2 := HR9.out.cell (i := 2) (v := .slice (some ⟨g0, offE, none⟩) n1 c) rfl
    have z2 := HR9.out.free 2
    go_upto_region 5 with fail
    obtain ⟨w10, hw10⟩ : ∃ w10, w10 = w9.setCell ⟨p, 2, none⟩ (.slice (some ⟨g0, offE, none⟩) m c) := ⟨_, rfl⟩
    rw [← hw10]
    have HW10 := Lib.hid hw10
    have HV10 : Hid (Row w10 w.heap.size 30 zeroJ) := Lib.hid (by rw [hw10]; exact HV9.out.far (by show w.heap.size ≠ p; have := HB.out; omega) _)
    clear hw10 c2 z2
    have HRA : Hid (w10.rangeAt w.heap.size 0 zeroJ.toList) := Lib.hid (fun j u hu => by rw [Nat.zero_add]; exact HV10.out.cell (by simpa using hu))
    have HTH : Hid (w10.there w.heap.size 0 zeroJ.size) := Lib.hid (row_there HV10.out (Nat.le_refl _))
    have HIN : Hid ((Tryz.prog.info? 30).map (·.size) = some zeroJ.size) := Lib.hid (by rw [H8.out]; exact infoJ)
    go_wp2_with (first
      | (refine wpList_load_mid ?_ 30 (.tmp 2) ?_ w.heap.size 0 ?_ zeroJ.toList _ HRA.out Tryz.underlying30 rfl (by rw [Array.length_toList]; exact HIN.out) ?_
         · with_reducible rfl
         · with_reducible rfl
         · rfl)
      | (refine wpList_store_mid ?_ 30 (.tmp 2) (.tmp 47) ?_ w.heap.size 0 zeroJ ?_ ?_ HTH.out HIN.out HONE.out ?_
         · with_reducible rfl
         · with_reducible rfl
         · rfl
         · rfl))
    have HWF := row_setCells zeroJ.toList 0 w10 HV10.out (fun j u hu => by rw [Nat.zero_add]; simpa using hu)
    refine bodyPost_ret_by (results_oneJ rfl _ _ w.heap.size zeroJ ?_ (load_jv HWF H8.out)) rfl ?_
    · rfl
    · rw [HPost.out]
      exact FIN.out _ _ HW10.out rfl
  · rw [decide_eq_false hd] at HD
    have hdp : isDeepK (t :: r) = false := by unfold isDeepK maxDeep; rw [HLEN.out]; exact decide_eq_false hd
    obtain ⟨g, off, cap, cs0, L, N, M, css, hO, htop⟩ := HS.out.top (by have := HM.out; have := HN1.out; omega)
    subst hO
    rw [← HM.out, HN1.out] at H HS
    have sA : Still w w1 (fun _ => False) own (ownNew own w.heap.size 3) := still_new (keptOf_below HB1.out)
    obtain ⟨ownA, hoA⟩ : ∃ ownA, ownA = ownNew own w.heap.size 3 := ⟨_, rfl⟩
    rw [← hoA] at sA
    have HA3 : Hid (ownA w.heap.size = 3) := Lib.hid (by rw [hoA]; unfold ownNew; rw [if_neg (Nat.lt_irrefl _)])
    have htop1 : Top w1 ownA w0.heap.size t r g off cap cs0 L N M css := htop.still sA (fun _ h => h.elim)
    have hc3 := HROW.out.cell (i := 3) (v := .slice (some ⟨g, off, none⟩) (r.length + 1) cap) rfl
    rw [← HM.out, HN1.out] at hc3
    have hra : w1.rangeAt g (off + m * 9) ((lvC t.obj L N M).take 8) := fun j u hu => by
      rw [HM.out]
      refine htop1.cell j u ?_
      by_cases hj : j < 8
      · rwa [List.getElem?_take_of_lt hj] at hu
      · rw [List.getElem?_eq_none (by simp [lvC]; omega)] at hu; cases hu
    obtain ⟨kd, hkd⟩ : ∃ kd : Int, kd = if t.obj then 5 else 4 := ⟨_, rfl⟩
    obtain ⟨c8, hc8⟩ : ∃ c8 : Array Value, c8 = #[.int .i64 kd, .bool false, .bool false, .string ⟨#[]⟩, .int .i64 0, .string ⟨#[]⟩, L, N] := ⟨_, rfl⟩
    have hc8' : c8.toList = (lvC t.obj L N M).take 8 := by rw [hc8, hkd]; rfl
    rw [← hc8', hc8] at hra
    have h8 : c8.size = 8 := by rw [hc8]; rfl
    have x0 := hra 0 _ rfl
    have x1 := hra 1 _ rfl
    have x2 := hra 2 _ rfl
    have x3 := hra 3 _ rfl
    have x4 := hra 4 _ rfl
    have x5 := hra 5 _ rfl
    have x6 := hra 6 _ rfl
    have x7 := hra 7 _ rfl
    rw [Nat.add_zero] at x0
    have HC9 := Lib.hid hc8'
    have HC8 := Lib.hid hc8
    have H8 := Lib.hid h8
    have HONE : Hid (c8.all (·.oneCell') = true) := Lib.hid (by have := all_oneCell_toArray (jv_one htop1.toTopW.val); rw [← hc8'] at this; simpa using this)
    have HTOP := Lib.hid htop1
    have HSA := Lib.hid sA
    have HDP := Lib.hid hdp
    have HOA := Lib.hid hoA
    have hslO := fun W => run_sliceTo (P := Tryz.prog) W 54 118 Tryz.underlying54 (by kernel_rfl) g off n1 cap m
    have HD64 := Lib.hid hd
    have HMC : Hid (m ≤ cap) := Lib.hid (by
      obtain ⟨g', off', cap', hv, _, hle, _⟩ := htop1.all.cells (by omega)
      injection hv with _ _ e3
      have := HM.out
      omega)
    clear hra hc8' h8 htop1 sA hdp hoA htop hd hkd
    go_wp2_with fail
    refine HD.out.mono ?_
    rintro e w2 ⟨rfl, rfl⟩
    go_wp2_with fail
    go_still_tail 13, (by kernel_rfl)
    rw [← hc8]
    clear hc8 x0 x1 x2 x3 x4 x5 x6 x7
    change wpList _ _ _ _ _ w1.drew
    have HTH2 : Hid (w1.drew.there w.heap.size 0 c8.size) := Lib.hid (row_there HRV.out.drew (by rw [H8.out]; exact Nat.le_refl _))
    have HIN2 : Hid ((Tryz.prog.info? 30).map (·.size) = some c8.size) := Lib.hid (by rw [H8.out]; exact infoJ)
    go_upto_region 3 with (
      refine wpList_store_mid ?_ 30 (.tmp 2) (.tmp 18) ?_ w.heap.size 0 c8 ?_ ?_ HTH2.out HIN2.out HONE.out ?_
      · with_reducible rfl
      · with_reducible rfl
      · rfl
      · rfl)
    simp only [Act.put]
    obtain ⟨w2, hw2⟩ : ∃ w2, w2 = w1.drew.setCells w.heap.size 0 c8.toList := ⟨_, rfl⟩
    rw [← hw2]
    have HK2 : Hid (Kept (· = w.heap.size) w1 w2) := Lib.hid (by rw [hw2]; exact kept_setCells _ _ _ _ _ (Kept.refl _ _).drew)
    have HR2 : Hid (Row w2 p 56 (rdCells X k (.slice (some ⟨g0, offE, none⟩) n1 c) (.slice (some ⟨g, off, none⟩) n1 cap) f)) := Lib.hid (by
      have h9 := HROWE.out
      rw [← HM.out, HN1.out] at h9
      exact h9.kept HK2.out (by show ¬ p = w.heap.size; have := HB.out; omega))
    have HV2 : Hid (Row w2 w.heap.size 30 c8) := Lib.hid (by
      rw [hw2]
      have h9 := row_laid c8.toList [] zeroJ.toList w1.drew HRV.out.drew (by rw [Array.length_toList, Array.length_toList, H8.out]; rfl)
      simpa using h9)
    clear hw2 HTH2 hc3
    have c3 := HR2.out.cell (i := 3) (v := .slice (some ⟨g, off, none⟩) n1 cap) rfl
    have z3 := HR2.out.free 3
    have hslO2 := fun W => hslO W HMC.out
    clear hslO
    go_still_tail 12, (by kernel_rfl)
    change wpList _ _ _ _ _ w2.drew
    have c3' : w2.drew.cell? ⟨p, 3, none⟩ = some (.slice (some ⟨g, off, none⟩) n1 cap) := c3
    have z3' : w2.drew.frozen? ⟨p, 3, none⟩ = false := z3
    clear c3 z3
    go_upto_region 4 with fail
    obtain ⟨w3, hw3⟩ : ∃ w3, w3 = (w2.setCell ⟨p, 3, none⟩ (.slice (some ⟨g, off, none⟩) m cap)).drew := ⟨_, rfl⟩
    rw [← hw3]
    have hk3 : Kept (· = p) w2 w3 := by rw [hw3]; exact (Kept.cell _ _ _ _).drew
    have HRR : Hid (Row w3 p 56 (rdCells X k (.slice (some ⟨g0, offE, none⟩) n1 c) (.slice (some ⟨g, off, none⟩) m cap) f)) := Lib.hid (by rw [hw3]; exact Row.drew (by simpa [rdCells] using HR2.out.set_ 3 (.slice (some ⟨g, off, none⟩) m cap)))
    have HRV9 : Hid (Row w3 w.heap.size 30 c8) := Lib.hid (HV2.out.kept hk3 (by show ¬ w.heap.size = p; have := HB.out; omega))
    have FF : Hid (∀ w10 wf, w10 = w3.drew.setCell ⟨p, 2, none⟩ (.slice (some ⟨g0, offE, none⟩) m c) → wf = w10.setCells w.heap.size 0 c8.toList → LeaPost w p X s f w0.heap.size own t r (.returned (.agg c8)) wf) := Lib.hid (by
      intro w10 wf e1 e2
      have hm := HM.out
      subst hm
      have hn1 := HN1.out
      subst hn1
      have hbs := HB.out
      have s1 : Still w1 w2 (· = w.heap.size) ownA ownA := ⟨HK2.out, fun _ _ => rfl⟩
      have s2 : Still w2 w3.drew (· = p) ownA ownA := ⟨hk3.drew, fun _ _ => rfl⟩
      have d1 : ∀ i, i ≠ 3 → ∀ q, q = w.heap.size → w0.heap.size ≤ q → ownA q ≠ i := fun i hi q e _ => by rw [e, HA3.out]; omega
      have d2 : ∀ i q, q = p → w0.heap.size ≤ q → ownA q ≠ i := fun i q e hq => by omega
      have T2 : Top w2 ownA w0.heap.size t r g off cap cs0 L N M css := HTOP.out.still s1 (fun q e _ => by rw [e, HA3.out])
      have T3 : Top w3.drew ownA w0.heap.size t r g off cap cs0 L N M css := T2.still s2 (fun q e hq => by omega)
      have hE3 := ((HS.out.ends.still HSA.out (fun _ h => h.elim)).still s1 (d1 1 (by omega))).still s2 (d2 1)
      have hr64 : r.length < 64 := by have := HD64.out; omega
      unfold LeaPost
      rw [if_neg (by rw [HDP.out]; simp)]
      refine lea_fin (w10 := w10) (t := t) (O := .slice (some ⟨g, off, none⟩) r.length cap) (own1 := ownDone ownA r.length) H0.out (ownDone_3 HA3.out) (Nat.le_refl _) (hE3.mono fun q hq => ⟨?_, hq.2⟩) ⟨cs0, ?_, ?_⟩ ?_ ?_ ?_ HB.out e1 e2 ?_
      · unfold ownDone; rw [if_neg (by have := hq.1; omega)]; exact hq.1
      · rw [keptK_all (by omega), List.length_reverse]
        have h9 := T3.all.take (k := r.length) (by omega)
        rw [List.take_left' (by rw [T3.len])] at h9
        exact h9.mono fun q hq => ⟨by unfold ownDone; rw [if_neg (by have := hq.1; omega)]; exact hq.1, hq.2⟩
      · rw [keptK_all (by omega)]
        exact LvsAt.relabel (fun q hq => by unfold ownDone; rw [if_neg (by omega)]; exact hq) 0 _ _ T3.rest fun q a b => by
          rw [List.length_reverse] at b
          unfold ownDone; rw [if_neg (by omega)]
      · rw [HC9.out]; exact T3.toTopW.val
      · have h1 := H0.out.above H.out (w' := w2) ((keptOf_below HB1.out).trans' (kept_mono HK2.out fun q e => by show w0.heap.size ≤ q; rw [e]; exact hbs))
        exact h1.turn hk3.drew fun k' hr' => by
          rw [hw3]
          exact Row.drew (Row.drew (by simpa [rdCells] using hr'.set_ 3 (.slice (some ⟨g, off, none⟩) r.length cap)))
      · exact (keptOf_below HB1.out).trans ((kept_mono HK2.out fun q e => .inr (by rw [e]; exact Nat.le_refl _)).trans' (kept_mono hk3.drew fun q e => .inl (.inl e)))
      · intro q hq h3
        refine ownDone_3 ?_
        rw [HOA.out]; unfold ownNew; rw [if_pos hq]; exact h3)
    clear hw3 hk3 c3' z3' hslO2 HR2 HV2
    have c2 := HRR.out.cell (i := 2) (v := .slice (some ⟨g0, offE, none⟩) n1 c) rfl
    go_wp2_with fail
    go_still_tail 12, (by kernel_rfl)
    clear c2
    change wpList _ _ _ _ _ w3.drew
    have HR9 : Hid (Row w3.drew p 56 (rdCells X k (.slice (some ⟨g0, offE, none⟩) n1 c) (.slice (some ⟨g, off, none⟩) m cap) f)) := Lib.hid HRR.out.drew
    have HV9 : Hid (Row w3.drew w.heap.size 30 c8) := Lib.hid HRV9.out.drew
    have FIN : Hid (∀ w10 wf, w10 = w3.drew.setCell ⟨p, 2, none⟩ (.slice (some ⟨g0, offE, none⟩) m c) → wf = w10.setCells w.heap.size 0 c8.toList → LeaPost w p X s f w0.heap.size own t r (.returned (.agg c8)) wf) := Lib.hid FF.out
    clear FF HRR HRV9
    generalize w3.drew = w9 at *
    have c2 := HR9.out.cell (i := 2) (v := .slice (some ⟨g0, offE, none⟩) n1 c) rfl
    have z2 := HR9.out.free 2
    go_upto_region 5 with fail
    obtain ⟨w10, hw10⟩ : ∃ w10, w10 = w9.setCell ⟨p, 2, none⟩ (.slice (some ⟨g0, offE, none⟩) m c) := ⟨_, rfl⟩
    rw [← hw10]
    have HW10 := Lib.hid hw10
    have HV10 : Hid (Row w10 w.heap.size 30 c8) := Lib.hid (by rw [hw10]; exact HV9.out.far (by show w.heap.size ≠ p; have := HB.out; omega) _)
    clear hw10 c2 z2
    have HRA : Hid (w10.rangeAt w.heap.size 0 c8.toList) := Lib.hid (fun j u hu => by rw [Nat.zero_add]; exact HV10.out.cell (by simpa using hu))
    have HTH : Hid (w10.there w.heap.size 0 c8.size) := Lib.hid (row_there HV10.out (Nat.le_refl _))
    have HIN : Hid ((Tryz.prog.info? 30).map (·.size) = some c8.size) := Lib.hid (by rw [H8.out]; exact infoJ)
    go_wp2_with (first
      | (refine wpList_load_mid ?_ 30 (.tmp 2) ?_ w.heap.size 0 ?_ c8.toList _ HRA.out Tryz.underlying30 rfl (by rw [Array.length_toList]; exact HIN.out) ?_
         · with_reducible rfl
         · with_reducible rfl
         · rfl)
      | (refine wpList_store_mid ?_ 30 (.tmp 2) (.tmp 47) ?_ w.heap.size 0 c8 ?_ ?_ HTH.out HIN.out HONE.out ?_
         · with_reducible rfl
         · with_reducible rfl
         · rfl
         · rfl))
    have HWF := row_setCells c8.toList 0 w10 HV10.out (fun j u hu => by rw [Nat.zero_add]; simpa using hu)
    refine bodyPost_ret_by (results_oneJ rfl _ _ w.heap.size c8 ?_ (load_jv HWF H8.out)) rfl ?_
    · rfl
    · rw [HPost.out]
      exact FIN.out _ _ HW10.out rfl
end Go.Proofs.YtjckojedafajeaaGreatDoor
