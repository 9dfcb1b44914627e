/- Layer 3's laws: bytes that a law makes for a call, with one behind them that the call may not see. -/
import Derived.Test.YtdaefhlfalhfnaaDoorPt46
import Derived.Test.YtdaefhlfalhfnaaDoorPt33
import Derived.Test.YtdaefhlfalhfnaaDoorPt47
import Derived.Test.YtdaefhlfalhfnaaDoorPt49
import Derived.Test.YtdaefhlfalhfnaaDoorPt40
import Derived.BigQuiet
namespace Go.Proofs.YtdaefhlfalhfnaaDoor
open Go.RowKit

/-- The beginning of a slice. -/
theorem Lies.pre {w : World} {F : Nat → Prop} {e : TypeId} {size n c k : Nat} {A : Option Addr} {xs : List Value} (h : Lies w F e size (.slice A n c) n xs) (hk : k ≤ n) : Lies w F e size (.slice A k c) k (xs.take (k * size)) := by
  have h9 : k * size ≤ n * size := Nat.mul_le_mul_right _ hk
  refine ⟨by rw [List.length_take, h.1, Nat.min_eq_left h9], ?_⟩
  rcases h.2 with ⟨A', hv, rfl⟩ | ⟨g, off, cap, cur, hv, hF, hg, h1, h2, h3, h4⟩
  · injection hv with hv1 _ hv3
    subst hv3
    obtain rfl : k = 0 := by omega
    exact .inl ⟨_, rfl, rfl⟩
  · injection hv with hv1 _ hv3
    subst hv1; subst hv3
    refine .inr ⟨g, off, c, cur, rfl, hF, hg, by omega, h2, h3, ?_⟩
    rw [← h4, List.take_take, Nat.min_eq_left h9]
theorem infoTxt : (Tryd.prog.info? 9).map (fun i => (i.zero, i.size, i.bytes)) = some (some (.string ⟨#[]⟩), 1, 16) := by kernel_rfl
theorem spare_nil (k : Nat) : ¬ Spare (.slice none 0 0) k := fun ⟨_, _, _, h, _⟩ => by
  injection h with h
  cases h
/-- The bytes l, and one more behind them. -/
structure MadeM (l : List Nat) (x g off nb cc : Nat) (X : Nat → Prop) (W : World) : Prop where
  lies : Lies W X 5 1 (.slice (some ⟨g, off, none⟩) (nb + 1) cc) (nb + 1) (cellsOf (l ++ [x]))
  len : l.length = nb
  small : Small (l ++ [x])
section
variable {l : List Nat} {x g off nb cc : Nat} {X : Nat → Prop} {W W' : World}
theorem MadeM.kept (h : MadeM l x g off nb cc X W) {F : Nat → Prop} (hk : Kept F W W') (hF : ∀ k, X k → ¬ F k) : MadeM l x g off nb cc X W' := ⟨h.lies.kept hk hF, h.len, h.small⟩
theorem MadeM.below (h : MadeM l x g off nb cc X W) (hb : Below W.heap.size W W') : MadeM l x g off nb cc X W' := ⟨h.lies.below hb, h.len, h.small⟩
theorem MadeM.own (h : MadeM l x g off nb cc X W) : X g := by
  rcases h.lies.2 with ⟨A', hv, h0⟩ | ⟨g', off', cap, cur, hv, hF, _⟩
  · omega
  · injection hv with e1 _ _
    injection e1 with e1
    injection e1 with e1 _ _
    rw [e1]; exact hF
theorem MadeM.cap (h : MadeM l x g off nb cc X W) : nb + 1 ≤ cc ∧ cc ≤ maxLen := by
  obtain ⟨A, c, hv, h1, h2⟩ := h.lies.form
  injection hv with _ _ e
  subst e
  exact ⟨h1, h2⟩
theorem MadeM.both (h : MadeM l x g off nb cc X W) : Bytes W (some ⟨g, off, none⟩) (nb + 1) (l ++ [x]) := by
  have hlen : (l ++ [x]).length = nb + 1 := by rw [List.length_append, h.len, List.length_singleton]
  have hl := h.lies
  rw [← hlen] at hl
  obtain ⟨A, c, hv, hb, _, _, _⟩ := lies_bytes hl h.small
  injection hv with e _ _
  subst e
  rwa [hlen] at hb
theorem MadeM.bytes (h : MadeM l x g off nb cc X W) : Bytes W (some ⟨g, off, none⟩) nb l := by
  have := h.both.take (k := nb) (Nat.le_succ _)
  rwa [List.take_left' h.len] at this
theorem MadeM.last (h : MadeM l x g off nb cc X W) : W.cell? ⟨g, off + nb, none⟩ = some (.int .u8 (x : Nat)) := by
  obtain ⟨g', off', cap, hv, _, _, _, _, hr⟩ := h.lies.cells (by omega)
  injection hv with e1 _ _
  injection e1 with e1
  injection e1 with e1 e2 _
  subst e1; subst e2
  refine hr nb _ ?_
  have h9 := h.len
  simp [cellsOf, h9]
theorem MadeM.bat (h : MadeM l x g off nb cc X W) : BatOk W X ⟨some ⟨g, off, none⟩, cc, l⟩ := by
  have h1 := h.lies.pre (k := nb) (Nat.le_succ _)
  have e : (cellsOf (l ++ [x])).take (nb * 1) = cellsOf l := by
    have h9 := h.len
    simp [cellsOf, Nat.mul_one, h9]
  rw [e, ← h.len] at h1
  refine ⟨?_, fun b hb => h.small b (List.mem_append_left _ hb)⟩
  have h2 := h1
  rw [h.len] at h2 ⊢
  show Lies W X _ 1 (.slice (some ⟨g, off, none⟩) l.length cc) nb _
  rw [h.len]
  exact h2
theorem MadeM.inc (h : MadeM l x g off nb cc X W) : IncI W g off nb W := by
  rcases h.lies.2 with ⟨A', hv, h0⟩ | ⟨g', off', cap, cur, hv, hF, hg, h1, h2, h3, h4⟩
  · omega
  · injection hv with e1 _ e2
    injection e1 with e1
    injection e1 with e1 e3 _
    subst e1; subst e2; subst e3
    refine ⟨fun _ => ⟨cur, hg, fun j hj => ⟨(l ++ [x]).getD j 0, ?_⟩⟩, Kept.refl _ _, KeepsOthers.refl _⟩
    have h9 : ((cur.toList.drop off).take ((nb + 1) * 1))[j]? = (cellsOf (l ++ [x]))[j]? := by rw [h4]
    rw [List.getElem?_take_of_lt (by omega), List.getElem?_drop] at h9
    have hjl : j < (l ++ [x]).length := by rw [List.length_append, h.len, List.length_singleton]; omega
    rw [← Array.getElem?_toList, h9]
    simp only [cellsOf, List.getElem?_map, List.getD_eq_getElem?_getD, List.getElem?_eq_getElem hjl]
    rfl
theorem MadeM.mono (h : MadeM l x g off nb cc X W) {Y : Nat → Prop} (hXY : ∀ k, X k → Y k) : MadeM l x g off nb cc Y W := ⟨h.lies.mono hXY, h.len, h.small⟩
end
section
variable {W W' : World} {O : Nat → Prop} {dp p size a n R B used : Nat} {bs : List (List Nat)}
/-- The caller's blocks are written, and more of them made. -/
theorem LogSt.grew {F O' : Nat → Prop} (h : LogSt W O dp p size a n R B used bs) (hk : Kept F W W') (hF : ∀ k, F k → O k ∨ W.heap.size ≤ k) (hO : ∀ k, O' k → O k ∨ (W.heap.size ≤ k ∧ k < W'.heap.size)) : LogSt W' O' dp p size a n R B used bs := by
  obtain ⟨FL, FD, d, f, h1, h2, h3, h4, h5, h6⟩ := h
  refine ⟨FL, FD, d, f, h1.kept hk (fun k hl hx => ?_) (fun k hl hx => ?_), h2, h3, h4, h5, fun k ho => ?_⟩
  · rcases hF k hx with h9 | h9
    · exact (h6 k h9).2.1 hl
    · have := h1.thereL k hl; omega
  · rcases hF k hx with h9 | h9
    · exact (h6 k h9).2.2 hl
    · have := h1.thereD k hl; omega
  · rcases hO k ho with h9 | h9
    · exact ⟨Nat.lt_of_lt_of_le (h6 k h9).1 hk.size, (h6 k h9).2⟩
    · exact ⟨h9.2, fun hl => by have := h1.thereL k hl; omega, fun hl => by have := h1.thereD k hl; omega⟩
end
/-- One text more is expected. -/
theorem PlayS.told {w W : World} {sz a n dp p R used : Nat} {bs ws : List (List Nat)} {Aw : Option Addr} {cw : Nat} (h : PlayS w sz a n dp p R used bs ws Aw cw noX W) :
    ∃ F : Nat → Prop, Lies W F 9 1 (.slice Aw ws.length cw) ws.length (txts ws) ∧ ∀ (o : Obj) (A' : Option Addr) (c' : Nat) (l : List Nat) (W' : World) (Y : Nat → Prop), (∀ k, Y k → F k) →
      Lies W' (grow F (W.alloc o)) 9 1 (.slice A' (ws.length + 1) c') (ws.length + 1) (txts ws ++ [txt l]) → Kept Y (W.alloc o) W' → PlayS w sz a n dp p R used bs (ws ++ [l]) A' c' noX W' := by
  obtain ⟨⟨O, B, h1, h2, h3, h4⟩, h5, h6⟩ := h
  refine ⟨_, h4, fun o A' c' l W' Y hY hl hk => ?_⟩
  have hbox := h5.lt
  have hsz : (W.alloc o).heap.size = W.heap.size + 1 := by simp
  have hk2 : Kept (fun k => (O k ∧ w.heap.size < k ∧ ¬ noX k) ∨ W.heap.size ≤ k) W W' := Kept.trans' ((Kept.refl _ W).alloc o) (hk.mono fun k _ hx => .inl (hY k hx))
  have hlen : (ws ++ [l]).length = ws.length + 1 := by simp
  have htx : txts (ws ++ [l]) = txts ws ++ [txt l] := by simp [txts]
  refine ⟨⟨fun k => O k ∨ (W.heap.size ≤ k ∧ k < W'.heap.size), B, h1.grew hk2 (fun k hx => ?_) (fun k hx => hx), fun k hk9 => .inl (h2 k hk9), fun k hk9 => hk9.elim, ?_⟩, ?_, ?_⟩
  · rcases hx with hx | hx
    · exact .inl hx.1
    · exact .inr hx
  · rw [hlen, htx]
    refine hl.there.mono fun k hx => ?_
    rcases hx.1 with h9 | h9
    · exact ⟨.inl h9.1, h9.2.1, fun h => h.elim⟩
    · exact ⟨.inr ⟨by omega, hx.2⟩, by omega, fun h => h.elim⟩
  · exact h5.kept hk2 (by rintro (h9 | h9) <;> omega)
  · exact h6.trans (hk2.below h6.size (by rintro k (h9 | h9) <;> omega))
end Go.Proofs.YtdaefhlfalhfnaaDoor
/- The law WalPlay. -/
namespace Go.Proofs.YtdaefhlfalhfnaaDoor
open Go.RowKit

def blend (g : Nat → Value) : List Bool → Nat → List Value → List Value
  | m :: ms, i, v :: vs => (bif m then g i else v) :: blend g ms (i + 1) vs
  | _, _, vs => vs
def playMask : List Bool := [false, false, false, false, false, false, false, false, false, false, false, false, false, true, false, false, false, false, false, true, true, true, true, true, true, true, false, false, false, false, false, false, false, false, false, false, false, false, false, false, false, false, false, false, false, false, false, false, false, false, false, false, false, false, false, false, false, false, false, false, false, false, false, false, false, false, false, false, false, false, false, false, false, false, false, false, false, false, false, false, false, false, false, false, false, false, false, false, false, false, false, false, false, false, false, false, false, false, false, false, false, false, false, false, false, false, true, true, true, true, true, true, true, true, true, true, true, true, true, true, true, true, true, true, true, true, true, true, true, true, true, true, true, true, true, true, true, true, true, true, true, true, true, true, true, true, true, true, true, true, true, true, true, true, true, true, true, true, true, true, true, true, true, true, true, true, true, true, true, true, true, true, true, true, true, true, true, true, true, true, true, true, true, true, true, true, true, true, true, true, true, true, true, true, true, true, true, true, true, true, true, true, true, true, true, true, true, true, true, true, true, true, true, true, true, true, true, true, true, true, true, true, true, true, true, true, true, true, true, true, true, true, true, true, true, true, true, true, true, true, true, true, true, true, true, true, true, true, true, true, true, true, true, true, true, true, true, true, true, true, true, true, true, true, true, true, true, true, false, false, false, false, false, false, false, false, false, false, false, false, false, false, false, false, false, false, false, false, false, false, false, false, false, false, false, false, false, false, false, false]
def MeetP {β : Type} (ms : List Bool) (l : β → List (Nat × Value)) (R : β → World → Prop) (vs : List Value) (a' : Act) (w' : World) : Prop := ∃ b g, a' = puts ⟨(blend g ms 0 vs).toArray, []⟩ (l b) ∧ R b w'
/-- Several ways through some code meet: the slots of the mask are whatever they are. -/
theorem wpIn_blend {F : Fence} {n : Nat} {P : Program} {c : Code} {K : Act → World → Prop} {Q : Exit → Act → World → Prop} {vs : List Value} {w : World} {β : Type} (ms : List Bool) (l : β → List (Nat × Value)) (R : β → World → Prop)
    (h : c.wpIn F n P (Exit.then (MeetP ms l R vs) (fun _ _ _ => False)) ⟨vs.toArray, []⟩ w)
    (h2 : ∀ b g w', R b w' → K (puts ⟨(blend g ms 0 vs).toArray, []⟩ (l b)) w') : c.wpIn F n P (Exit.then K Q) ⟨vs.toArray, []⟩ w := by
  refine wpIn_mono h fun e a' w' h => ?_
  cases e
  case normal =>
    obtain ⟨b, g, rfl, hr⟩ := h
    exact h2 b g w' hr
  all_goals exact h.elim
theorem blend_end {vs : List Value} {ms : List Bool} {β : Type} {a' : Act} {l : β → List (Nat × Value)} {R : β → World → Prop} {w' : World} (b : β) (h : a' = puts ⟨(blend (fun k => a'.tmps.getD k undef) ms 0 vs).toArray, []⟩ (l b)) (hr : R b w') :
    MeetP ms l R vs a' w' := ⟨b, _, h, hr⟩
abbrev PlayB := Nat × Int × Int × List (List Nat) × Option Addr × Nat × Nat
def playL (b : PlayB) : List (Nat × Value) := [(12, .pointer (some ⟨b.1, 0, none⟩)), (14, .slice b.2.2.2.2.1 b.2.2.2.2.2.2 b.2.2.2.2.2.1), (15, .int .i64 b.2.2.1), (16, .int .u64 b.2.1)]
def PlayR (w : World) (size a nn dp i : Nat) (b : PlayB) (wx : World) : Prop := ∃ R used : Nat, b.2.1 = (R : Int) ∧ b.2.2.1 = (used : Int) ∧ b.2.2.2.2.2.2 = b.2.2.2.1.length ∧ (R ≤ 2 + (i + 1) ∧ b.2.2.2.1.length ≤ i + 1) ∧ (∀ c ∈ b.2.2.2.1, c.length ≤ 20000) ∧ PlayS w size a nn dp b.1 R used b.2.2.2.1 b.2.2.2.1 b.2.2.2.2.1 b.2.2.2.2.2.1 noX wx
theorem playR_of {w wx : World} {size a nn dp i p R used cw len : Nat} {Ri Ui : Int} {bs : List (List Nat)} {Aw : Option Addr} (h1 : R ≤ 2 + (i + 1)) (h2 : bs.length ≤ i + 1) (h3 : ∀ c ∈ bs, c.length ≤ 20000) (h4 : PlayS w size a nn dp p R used bs bs Aw cw noX wx) (hl : len = bs.length) (hR : Ri = (R : Int)) (hU : Ui = (used : Int)) : PlayR w size a nn dp i (p, Ri, Ui, bs, Aw, cw, len) wx := ⟨R, used, hR, hU, hl, ⟨h1, h2⟩, h3, h4⟩
set_option maxRecDepth 100000 in
set_option maxHeartbeats 20000000 in
theorem play_law (sz fr n : Int) (A : Option Addr) (c : Nat) (l : List WStep) (w : World) (h : WScriptOk w A l) (_ : l.length ≤ c ∧ c ≤ 9223372036854775807) (w1 : (Lit.int .i64 sz).wf = true) (w2 : (Lit.int .i64 fr).wf = true) (w3 : (Lit.int .i64 n).wf = true) :
    Calls Tryd.prog 3 #[.agg #[.int .i64 sz, .int .i64 fr, .int .i64 n], .slice A l.length c] w fun e w' => e = .returned (.bool true) ∧ Below w.heap.size w w' := by
  obtain ⟨wb, hwb⟩ : ∃ wb, wb = w.alloc (.cells #[.int .i64 sz, .int .i64 fr, .int .i64 n] 23) := ⟨_, rfl⟩
  have hbox : Row wb w.heap.size 23 #[.int .i64 sz, .int .i64 fr, .int .i64 n] := by subst hwb; exact Row.new _ _ _
  have hbb : Below w.heap.size w wb := by subst hwb; exact (Below.refl _ _).alloc (Nat.le_refl _) _
  have hsb : wb.heap.size = w.heap.size + 1 := by subst hwb; simp
  have HBOX := Lib.hid hbox
  have HBB := Lib.hid hbb
  have HSC := Lib.hid h
  clear h hbb
  go_enter Tryd.func3, Tryd.ntmps3
  go_upto_region 1 with fail
  change Code.wp _ _ _ _ (w.alloc _)
  rw [← hwb]
  have hc0 := hbox.cell (i := 0) (v := .int .i64 sz) rfl
  have hc1 := hbox.cell (i := 1) (v := .int .i64 fr) rfl
  have hc2 := hbox.cell (i := 2) (v := .int .i64 n) rfl
  clear hwb
  by_cases hgood : 1 ≤ sz ∧ sz ≤ 65536
  case neg =>
    go_wp2_with fail
    refine (new_bad sz wb (by omega)).mono ?_
    rintro e w4 ⟨rfl, rfl⟩
    go_wp2_with fail
    refine (wvast_ok sz fr n A c l _ (HSC.out.below HBB.out)).mono ?_
    rintro e w5 ⟨hb5, hv⟩
    have hb5 := HBB.out.trans (hb5.mono HBB.out.size)
    have HB5 := Lib.hid hb5
    clear hc0 hc1 hc2 hbox hb5
    rcases hv with rfl | ⟨rfl, _⟩
    all_goals
      go_wp2_with fail
      refine (known_ok _).mono ?_
      rintro e w6 ⟨rfl, hb6⟩
      have HF := Lib.hid (HB5.out.trans (hb6.mono HB5.out.size))
      clear hb6
      go_wp2
      go_ret
      exact ⟨rfl, HF.out⟩
  case pos =>
    obtain ⟨size, rfl⟩ : ∃ s : Nat, sz = (s : Int) := ⟨sz.toNat, by omega⟩
    go_wp2_with fail
    refine (new_ok none 0 size [] _ (Holds.nil _ _ _) (by simp) (by omega) (by omega) rfl).mono ?_
    rintro e w4 ⟨dp, rfl, hd4, hb4⟩
    have hbox4 := hbox.call hb4
    have hb04 : Below w.heap.size w w4 := HBB.out.trans (hb4.mono HBB.out.size)
    clear hc0 hc1 hc2 hbox
    have hc0 := hbox4.cell (i := 0) (v := .int .i64 size) rfl
    have hc1 := hbox4.cell (i := 1) (v := .int .i64 fr) rfl
    have hc2 := hbox4.cell (i := 2) (v := .int .i64 n) rfl
    have HD4 := Lib.hid hd4
    have HB4 := Lib.hid hb4
    have HX4 := Lib.hid hbox4
    have HB04 := Lib.hid hb04
    clear hd4 hb4 hbox4 hb04
    go_wp2_with fail
    refine (wvast_ok size fr n A c l _ (HSC.out.below HB04.out)).mono ?_
    rintro e w5 ⟨hb5, hv⟩
    clear hc0 hc1 hc2
    have hx5 := HX4.out.call hb5
    have HD5 := Lib.hid (HD4.out.below hb5)
    have HX5 := Lib.hid hx5
    have HB5 := Lib.hid (HB04.out.call hb5)
    have HDB := Lib.hid (show ∀ k, k ≤ w.heap.size → k < w5.heap.size ∧ ¬ grow noBlock wb k from fun k hk => ⟨by have := HB4.out.size; have := hb5.size; omega, fun hx => by
      rcases hx with hx | hx
      · exact hx
      · omega⟩)
    have HDL := Lib.hid (show ∀ k, grow noBlock wb k ∧ k < w4.heap.size → k < w5.heap.size from fun k hk => Nat.lt_of_lt_of_le hk.2 hb5.size)
    have hc0 := hx5.cell (i := 0) (v := .int .i64 size) rfl
    have hc1 := hx5.cell (i := 1) (v := .int .i64 fr) rfl
    have hc2 := hx5.cell (i := 2) (v := .int .i64 n) rfl
    clear HD4 HB4 HX4 HB04 hx5
    rcases hv with rfl | ⟨rfl, hsz60, hl50, hsmall⟩
    · go_wp2_with fail
      refine (known_ok _).mono ?_
      rintro e w6 ⟨rfl, hb6⟩
      have HF := Lib.hid (HB5.out.trans (hb6.mono HB5.out.size))
      clear hb6
      go_wp2
      go_ret
      exact ⟨rfl, HF.out⟩
    have HSM := Lib.hid hsmall
    clear hsmall hb5
    go_wp2_with fail
    refine (wright_ok size fr n w5 (by omega) (by omega) w2).mono ?_
    rw [Int.toNat_natCast]
    rintro e w6 ⟨rfl, hb6⟩
    clear hc0 hc1 hc2
    have hx6 := HX5.out.call hb6
    have HD6 := Lib.hid (HD5.out.below hb6)
    have HX6 := Lib.hid hx6
    have HB6 := Lib.hid (HB5.out.call hb6)
    have HDB6 : Hid (∀ k, k ≤ w.heap.size → k < w6.heap.size ∧ ¬ grow noBlock wb k) := Lib.hid fun k hk => ⟨Nat.lt_of_lt_of_le (HDB.out k hk).1 hb6.size, (HDB.out k hk).2⟩
    have hc0 := hx6.cell (i := 0) (v := .int .i64 size) rfl
    have hc1 := hx6.cell (i := 1) (v := .int .i64 fr) rfl
    have hc2 := hx6.cell (i := 2) (v := .int .i64 n) rfl
    clear hx6 hb6 HX5 HD5 HB5 HDB HDL
    by_cases hp : placeE size fr n = 0
    case neg =>
      have HP : Hid (placeE (newD size []).size fr n ≠ 0) := Lib.hid hp
      obtain ⟨no, hno⟩ : ∃ no, no = placeE size fr n := ⟨_, rfl⟩
      have HF0 := Lib.hid (format_not w6 _ dp _ fr n HD6.out w2 HP.out)
      have HF1 := Lib.hid (open_not w6 _ dp _ fr n HD6.out w2 HP.out)
      change Hid (Calls _ _ _ _ fun e w' => e = .returned (.int .i64 (placeE size fr n)) ∧ _) at HF0
      change Hid (Calls _ _ _ _ fun e w' => e = .returned (.tuple #[.pointer none, .int .i64 (placeE size fr n)]) ∧ _) at HF1
      have HLK : Hid (∀ w7, Below w6.heap.size w6 w7 → Calls Tryd.prog 12 #[.pointer (some ⟨dp, 0, none⟩), .int .i64 fr, .int .i64 n] w7 (LookPost w7 [] (placeE size fr n))) := Lib.hid fun w7 hb => look_not w7 _ dp _ fr n (HD6.out.below hb) w2 HP.out
      rw [← hno] at hp HF0 HF1 HLK ⊢
      clear hno HP
      have hne0 : (no != 0) = true := by simpa using hp
      have hnn : (no != no) = false := by simp
      have heq : (no == no) = true := by simp
      go_wp2_with fail
      refine HF0.out.mono ?_
      rintro e w7 ⟨rfl, rfl⟩
      go_wp2_with fail
      refine HF1.out.mono ?_
      rintro e w7 ⟨rfl, hb7⟩
      have hx7 := HX6.out.call hb7
      have HLK7 := Lib.hid (HLK.out w7 hb7)
      have HB7 := Lib.hid (HB6.out.call hb7)
      clear hc0 hc1 hc2 HF0 HF1 HLK hb7
      have hc0 := hx7.cell (i := 0) (v := .int .i64 size) rfl
      have hc1 := hx7.cell (i := 1) (v := .int .i64 fr) rfl
      have hc2 := hx7.cell (i := 2) (v := .int .i64 n) rfl
      clear hx7
      go_wp2_with fail
      refine HLK7.out.mono ?_
      rintro e w8 ⟨v, ys, rfl, _, _, _, hb8⟩
      have HB8 := Lib.hid (HB7.out.call hb8)
      clear hc0 hc1 hc2 hb8
      go_wp2_with fail
      refine (known_ok _).mono ?_
      rintro e w9 ⟨rfl, hb9⟩
      have HF := Lib.hid (HB8.out.trans (hb9.mono HB8.out.size))
      clear hb9
      go_wp2
      go_ret
      exact ⟨rfl, HF.out⟩
    case pos =>
      obtain ⟨a, nn, rfl, rfl, hn4, hfit⟩ : ∃ a nn : Nat, fr = (a : Int) ∧ n = (nn : Int) ∧ 4 ≤ nn ∧ a + nn ≤ size := by
        unfold placeE at hp
        split at hp
        · omega
        · split at hp
          · omega
          · exact ⟨fr.toNat, n.toNat, by omega, by omega, by omega, by omega⟩
      rw [hp]
      have hnn : nn ≤ 60 := by omega
      have HDS : Hid (DiskSt w6 (fun k => k ≤ w.heap.size) dp size (fun _ => zsec)) := Lib.hid ⟨_, _, HD6.out.there, fun k hk => hk.2, rfl, ⟨rfl, rfl, rfl, fun _ => Sec.zero⟩, rfl, fun k hk => ⟨(HDB6.out k hk).1, fun h9 => (HDB6.out k hk).2 h9.1⟩⟩
      have HF0 := Lib.hid (PlayD.of (w := w) HDS.out (fun k hk => hk) HX6.out HB6.out (fun _ => Sec.zero) hn4 (by omega) hfit)
      clear hp HDS HD6 HX6 HB6 HDB6
      go_wp2_with fail
      refine HF0.out.mono ?_
      rintro e w7 ⟨rfl, hd7⟩
      clear hc0 hc1 hc2 HF0
      have hc0 := hd7.box.cell (i := 0) (v := .int .i64 size) rfl
      have hc1 := hd7.box.cell (i := 1) (v := .int .i64 a) rfl
      have hc2 := hd7.box.cell (i := 2) (v := .int .i64 nn) rfl
      have HO7 := Lib.hid hd7.open_
      clear hd7
      go_wp2_with fail
      refine HO7.out.mono ?_
      rintro e w8 ⟨p, rfl, hp8⟩
      have HP8 := Lib.hid hp8
      clear hc0 hc1 hc2 HO7 hp8
      go_wp2_with fail
      go_loopw [12, 14, 15, 16, 17] (fun v12 v14 v15 v16 v17 wr => ∃ (i p R used : Nat) (bs : List (List Nat)) (Aw : Option Addr) (cw : Nat), i ≤ l.length ∧ v12 = .pointer (some ⟨p, 0, none⟩) ∧ v14 = .slice Aw bs.length cw ∧ v15 = .int .i64 used ∧ v16 = .int .u64 R ∧ v17 = .int .i64 i ∧ (R ≤ 2 + i ∧ bs.length ≤ i) ∧ (∀ b ∈ bs, b.length ≤ 20000) ∧ PlayS w size a nn dp p R used bs bs Aw cw noX wr) (fun _ _ _ _ v17 _ => l.length - (intOf v17).toNat)
      case atStart => exact ⟨0, p, 2, 0, [], none, 0, Nat.zero_le _, rfl, rfl, rfl, rfl, rfl, ⟨by omega, by simp⟩, fun b hb => (List.not_mem_nil hb).elim, HP8.out⟩
      case round =>
        clear HP8
        obtain ⟨i, p, R, used, bs, Aw, cw, hi, rfl, rfl, rfl, rfl, rfl, ⟨hR, hbl⟩, hsm, hP⟩ := hrel
        by_cases hlt : i < l.length
        case neg =>
          obtain rfl : i = l.length := by omega
          have HB := Lib.hid hP.below
          clear hP hsm
          go_wp2_with fail
          refine (known_ok _).mono ?_
          rintro e w9 ⟨rfl, hb9⟩
          have HF := Lib.hid (HB.out.trans (hb9.mono HB.out.size))
          clear hb9
          go_wp2
          go_ret
          exact ⟨rfl, HF.out⟩
        case pos =>
          obtain ⟨b0, off, hA, hb0, hcells⟩ := (HSC.out.below hP.below).cells hlt
          subst hA
          have hso := HSC.out.get hlt
          have hbig := HSM.out.get hlt
          generalize l.getD i noWStep = s at *
          have k0 := hcells 0 _ rfl
          have k1 := hcells 1 _ rfl
          have k2 := hcells 2 _ rfl
          rw [Nat.add_zero] at k0
          clear hcells
          go_upto_region 20 with fail
          obtain ⟨W1, hW1⟩ : ∃ W1, W1 = wr.alloc (.cells #[.int .i64 s.kind, .slice s.ab s.nb s.cb, .slice s.af s.nf s.cf] 44) := ⟨_, rfl⟩
          have hp1 : PlayS w size a nn dp p R used bs bs Aw cw noX W1 := by rw [hW1]; exact hP.call ((Below.refl _ _).alloc (Nat.le_refl _) _)
          have hrT : Row W1 wr.heap.size 44 #[.int .i64 s.kind, .slice s.ab s.nb s.cb, .slice s.af s.nf s.cf] := by rw [hW1]; exact Row.new _ _ _
          have hbB : Bytes W1 s.ab s.nb s.bytes := hso.bytes.below hp1.below
          have hbw1 : Below wr.heap.size wr W1 := by rw [hW1]; exact (Below.refl _ _).alloc (Nat.le_refl _) _
          have HBW1 := Lib.hid hbw1
          have HPW := Lib.hid hP
          have HBYW := Lib.hid hso.bytes
          have HBY := Lib.hid hbB
          have HNB := Lib.hid hso.nil
          have HCB := Lib.hid hso.capb
          have hTw : w.heap.size < wr.heap.size := hP.box.lt
          clear hbB hbw1
          have kT0 := hrT.cell (i := 0) rfl
          have kT1 := hrT.cell (i := 1) rfl
          have HP1 := Lib.hid hp1
          have HRT := Lib.hid hrT
          have hf9 := hp1.fits
          rw [← hW1]
          clear hP hso hp1 hrT hW1 k0 k1 k2 hb0
          rename_i K0 hK0
          have HK0 := Lib.hid hK0
          clear hK0
          go_wp2_with fail
          refine HK0.out _ _ ?_
          clear HK0
          refine (wpIn_wide (n := 0)).1 ?_
          refine wpIn_blend playMask playL (PlayR w size a nn dp i) ?ways ?fin
          case ways =>
            refine wpIn_wide.2 ?_
            have hm0 := HP1.out.box.cell (i := 0) (v := .int .i64 size) rfl
            have hm1 := HP1.out.box.cell (i := 1) (v := .int .i64 a) rfl
            have hm2 := HP1.out.box.cell (i := 2) (v := .int .i64 nn) rfl
            rcases (by omega : s.kind = 1 ∨ s.kind = 2 ∨ s.kind = 3 ∨ s.kind = 6 ∨ s.kind = 4 ∨ (s.kind ≠ 1 ∧ s.kind ≠ 2 ∧ s.kind ≠ 3 ∧ s.kind ≠ 6 ∧ s.kind ≠ 4)) with hk | hk | hk | hk | hk | ⟨h1, h2, h3, h6, h4⟩
            · have e1 : (s.kind == 1) = true := by rw [hk]; rfl
              have hnb : s.nb ≤ 20000 := by unfold wbig at hbig; have := of_decide_eq_false (Bool.or_eq_false_iff.1 hbig).1; omega
              have hmix : Tryd.prog.follows .mixedOrders = true := by kernel_rfl
              have HLB : Hid (s.bytes.length = s.nb) := Lib.hid HBY.out.len
              have HSB : Hid (Small (s.bytes ++ [77])) := Lib.hid (by intro b hb; rcases List.mem_append.1 hb with hb | hb; exact HBY.out.2.1 b hb; obtain rfl := List.mem_singleton.1 hb; decide)
              have HCE : Hid ((cellsOf s.bytes).length = s.nb * 1) := Lib.hid (by rw [cellsOf_length, HLB.out, Nat.mul_one])
              have hd1 : Below W1.heap.size W1 W1.drew := (Below.refl _ _).drew
              have HSa : Hid (Row W1.drew wr.heap.size 44 #[.int .i64 s.kind, .slice s.ab s.nb s.cb, .slice s.af s.nf s.cf] ∧ Bytes W1.drew s.ab s.nb s.bytes ∧ Below W1.heap.size W1 W1.drew) := Lib.hid ⟨HRT.out.call hd1, HBY.out.below hd1, hd1⟩
              have hTW : wr.heap.size < W1.heap.size := HRT.out.lt
              go_upto_region 22 with fail
              refine (wpIn_wide (n := 0)).1 ?_
              refine wpIn_toE (fun b : Nat × Nat × Nat × Value × Value => [(114, .pointer (some ⟨wr.heap.size, 1, none⟩)), (115, .slice s.ab s.nb s.cb), (116, b.2.2.2.1), (117, b.2.2.2.2), (118, .slice (some ⟨b.1, b.2.1, none⟩) (s.nb + 1) b.2.2.1), (119, .pointer (some ⟨wr.heap.size, 1, none⟩)), (120, .slice s.ab s.nb s.cb), (121, .int .i64 s.nb), (122, .slice (some ⟨b.1, b.2.1, none⟩) s.nb b.2.2.1), (19, .slice (some ⟨b.1, b.2.1, none⟩) s.nb b.2.2.1)])
                (fun b w' => MadeM s.bytes 77 b.1 b.2.1 s.nb b.2.2.1 (fun k => W1.heap.size ≤ k ∧ k < w'.heap.size) w' ∧ Below W1.heap.size W1 w') ?reg22 ?aft22
              case reg22 =>
                refine wpIn_region_held (S := fun Wy => Row Wy wr.heap.size 44 #[.int .i64 s.kind, .slice s.ab s.nb s.cb, .slice s.af s.nf s.cf] ∧ Bytes Wy s.ab s.nb s.bytes ∧ Below W1.heap.size W1 Wy) hmix (by kernel_rfl) ?_
                refine wpP_take (i := 0) (oi := ?oqa0) (v := .pointer (some ⟨wr.heap.size, 1, none⟩)) ?gqa0 (by kernel_rfl) ?fqa0 (by kernel_rfl) ⟨?nqa0, ?yqa0, ?bqa0⟩ HSa.out ?_
                case gqa0 => simp only [List.getElem?_toArray, List.getElem?_cons_zero]; with_reducible rfl
                case fqa0 => kernel_rfl
                case nqa0 => kernel_rfl
                case yqa0 => rintro Wy ⟨h1, h2, h3⟩; go_simp
                case bqa0 => exact fun _ => rfl
                simp only [Act.put, List.setIfInBounds_toArray, List.set_cons_zero, List.set_cons_succ]
                refine wpP_take (i := 1) (oi := ?oqa1) (v := .slice s.ab s.nb s.cb) ?gqa1 (by kernel_rfl) ?fqa1 (by kernel_rfl) ⟨?nqa1, ?yqa1, ?bqa1⟩ HSa.out ?_
                case gqa1 => simp only [List.getElem?_toArray, List.getElem?_cons_succ, List.getElem?_cons_zero]; with_reducible rfl
                case fqa1 => kernel_rfl
                case nqa1 => kernel_rfl
                case yqa1 => rintro Wy ⟨h1, h2, h3⟩; have j1 := h1.cell (i := 1) (v := .slice s.ab s.nb s.cb) rfl; go_simp
                case bqa1 => exact fun _ => rfl
                simp only [Act.put, List.setIfInBounds_toArray, List.set_cons_zero, List.set_cons_succ]
                refine wpP_take (i := 5) (oi := ?oqa5) (v := .pointer (some ⟨wr.heap.size, 1, none⟩)) ?gqa5 (by kernel_rfl) ?fqa5 (by kernel_rfl) ⟨?nqa5, ?yqa5, ?bqa5⟩ HSa.out ?_
                case gqa5 => simp only [List.getElem?_toArray, List.getElem?_cons_succ, List.getElem?_cons_zero]; with_reducible rfl
                case fqa5 => kernel_rfl
                case nqa5 => kernel_rfl
                case yqa5 => rintro Wy ⟨h1, h2, h3⟩; go_simp
                case bqa5 => exact fun _ => rfl
                simp only [Act.put, List.setIfInBounds_toArray, List.set_cons_zero, List.set_cons_succ]
                refine wpP_take (i := 6) (oi := ?oqa6) (v := .slice s.ab s.nb s.cb) ?gqa6 (by kernel_rfl) ?fqa6 (by kernel_rfl) ⟨?nqa6, ?yqa6, ?bqa6⟩ HSa.out ?_
                case gqa6 => simp only [List.getElem?_toArray, List.getElem?_cons_succ, List.getElem?_cons_zero]; with_reducible rfl
                case fqa6 => kernel_rfl
                case nqa6 => kernel_rfl
                case yqa6 => rintro Wy ⟨h1, h2, h3⟩; have j1 := h1.cell (i := 1) (v := .slice s.ab s.nb s.cb) rfl; go_simp
                case bqa6 => exact fun _ => rfl
                simp only [Act.put, List.setIfInBounds_toArray, List.set_cons_zero, List.set_cons_succ]
                refine wpP_take (i := 7) (oi := ?oqa7) (v := .int .i64 s.nb) ?gqa7 (by kernel_rfl) ?fqa7 (by kernel_rfl) ⟨?nqa7, ?yqa7, ?bqa7⟩ HSa.out ?_
                case gqa7 => simp only [List.getElem?_toArray, List.getElem?_cons_succ, List.getElem?_cons_zero]; with_reducible rfl
                case fqa7 => kernel_rfl
                case nqa7 => kernel_rfl
                case yqa7 => rintro Wy ⟨h1, h2, h3⟩; go_simp
                case bqa7 => exact fun _ => rfl
                simp only [Act.put, List.setIfInBounds_toArray, List.set_cons_zero, List.set_cons_succ]
                refine wpP_two (i := 2) (j := 3) (by kernel_rfl) ?_ ?_
                · refine opP_append (o := ?_) ?_ ?_ (fun k => W1.heap.size ≤ k) (.const (.slice none 0 0)) (.tmp 115) 41 ?_ 5 1 1 (.int .u8 0) Tryd.underlying41 infoU8s rfl (by decide) (.slice none 0 0) 0 ([]) ?_ (Lies.empty _ _ _ _ _) (s.ab) s.nb s.cb (cellsOf s.bytes) ?_ HCE.out HSa.out.2.1.source (cellsOf_one _) (by omega) (by decide) ?_
                  rotate_left 1
                  · simp only [List.getElem?_toArray, List.getElem?_cons_succ, List.getElem?_cons_zero]; with_reducible rfl
                  · with_reducible rfl
                  · with_reducible rfl
                  · kernel_rfl
                  · kernel_rfl
                  intro v2 W2 hl2 hk2
                  rw [Nat.zero_add, List.nil_append] at hl2
                  have hb2 : Below W1.drew.heap.size W1.drew W2 := hk2.below (Nat.le_refl _) (fun k hk => (by obtain ⟨_, hsp, _⟩ := hk; exact absurd hsp (spare_nil k)))
                  have HSb := Lib.hid (show _ ∧ _ ∧ _ from ⟨HSa.out.1.call hb2, HSa.out.2.1.below hb2, HSa.out.2.2.call hb2⟩)
                  have hl2 := hl2.mono (G := fun k => W1.heap.size ≤ k) (fun k hk => by rcases hk with hk | hk; exact hk; exact hk)
                  refine ⟨HSb.out, ?_⟩
                  simp only [Act.put, List.setIfInBounds_toArray, List.set_cons_zero, List.set_cons_succ]
                  refine wpP_one (i := 3) (by kernel_rfl) ?_
                  refine opP_run (x := .slice (some ⟨W2.heap.size, 0, none⟩) 1 1) (w' := W2.alloc (.cells #[.int .u8 77] 5)) rfl rfl (by rfl) (by go_simp) ?_
                  have hb3 : Below W2.heap.size W2 (W2.alloc (.cells #[.int .u8 77] 5)) := (Below.refl _ _).alloc (Nat.le_refl _) _
                  have HSc := Lib.hid (show _ ∧ _ ∧ _ from ⟨HSb.out.1.call hb3, HSb.out.2.1.below hb3, HSb.out.2.2.call hb3⟩)
                  have hl3 := hl2.below hb3
                  have hsrc : Source (W2.alloc (.cells #[.int .u8 77] 5)) (some ⟨W2.heap.size, 0, none⟩) 1 [.int .u8 77] := .inr ⟨_, rfl, World.news_of_block (heap_alloc_new _ _)⟩
                  refine ⟨HSc.out, ?_⟩
                  simp only [Act.put, List.setIfInBounds_toArray]
                  generalize W2.alloc (.cells #[.int .u8 77] 5) = W3 at *
                  generalize W2.heap.size = h9 at *
                  refine wpP_one (i := 4) (by kernel_rfl) ?_
                  refine opP_append (o := ?_) ?_ ?_ (fun k => W1.heap.size ≤ k) (.tmp 116) (.tmp 117) 41 ?_ 5 1 1 (.int .u8 0) Tryd.underlying41 infoU8s rfl (by decide) (v2) s.nb (cellsOf s.bytes) ?_ hl3 (some ⟨h9, 0, none⟩) 1 1 ([.int .u8 77]) ?_ rfl hsrc (by intro u hu; simp at hu; subst hu; rfl) (by omega) (by decide) ?_
                  rotate_left 1
                  · simp only [List.getElem?_toArray, List.getElem?_cons_succ, List.getElem?_cons_zero]; with_reducible rfl
                  · with_reducible rfl
                  · with_reducible rfl
                  · kernel_rfl
                  · kernel_rfl
                  intro v4 W4 hl4 hk4
                  have hb4 : Below W1.heap.size W3 W4 := hk4.below (HSc.out.2.2.size) (fun k hk => hk.1)
                  have HSd := Lib.hid (show _ ∧ _ ∧ _ from ⟨HSc.out.1.below hb4 hTW, HBY.out.below (HSc.out.2.2.trans hb4), HSc.out.2.2.trans hb4⟩)
                  obtain ⟨A4, c4, rfl, hc4, hm4⟩ := hl4.form
                  obtain ⟨g, off, cap, hv, _, _, _, _, _⟩ := hl4.cells (by omega)
                  injection hv with hv _ hcc
                  subst hv
                  subst hcc
                  have hMD : MadeM s.bytes 77 g off s.nb c4 (fun k => W1.heap.size ≤ k ∧ k < W4.heap.size) W4 := ⟨by rw [show cellsOf (s.bytes ++ [77]) = cellsOf s.bytes ++ [.int .u8 77] by simp [cellsOf]]; exact hl4.there.mono (fun k hk => ⟨by rcases hk.1 with h | h; exact h; exact Nat.le_trans HSc.out.2.2.size h, hk.2⟩), HLB.out, HSB.out⟩
                  have hbn : (s.nb : Int) ≤ (c4 : Int) := by omega
                  refine ⟨HSd.out, ?_⟩
                  simp only [Act.put]
                  refine wpP_take (i := 8) (oi := ?oqdA8) (v := .slice (some ⟨g, off, none⟩) s.nb c4) ?gqdA8 (by kernel_rfl) ?fqdA8 (by kernel_rfl) ⟨?nqdA8, ?yqdA8, ?bqdA8⟩ HSd.out ?_
                  case gqdA8 => simp only [List.getElem?_toArray, List.getElem?_cons_succ, List.getElem?_cons_zero]; with_reducible rfl
                  case fqdA8 => kernel_rfl
                  case nqdA8 => kernel_rfl
                  case yqdA8 => rintro Wy ⟨h1, h2, h3⟩; go_simp
                  case bqdA8 => exact fun _ => rfl
                  simp only [Act.put]
                  refine wpP_one (i := 9) (by kernel_rfl) ?_
                  refine opP_run (x := .slice (some ⟨g, off, none⟩) s.nb c4) (w' := W4) rfl rfl (by rfl) (by go_simp) ⟨HSd.out, ?_⟩
                  simp only [Act.put]
                  refine wpP_done (by kernel_rfl) ?_
                  exact ⟨(g, off, c4, v2, .slice (some ⟨h9, 0, none⟩) 1 1), by kernel_rfl, hMD, HSd.out.2.2⟩
                · refine opP_run (x := .slice (some ⟨W1.drew.heap.size, 0, none⟩) 1 1) (w' := W1.drew.alloc (.cells #[.int .u8 77] 5)) rfl rfl (by rfl) (by go_simp) ?_
                  have hb2 : Below W1.drew.heap.size W1.drew (W1.drew.alloc (.cells #[.int .u8 77] 5)) := (Below.refl _ _).alloc (Nat.le_refl _) _
                  have HSb := Lib.hid (show _ ∧ _ ∧ _ from ⟨HSa.out.1.call hb2, HSa.out.2.1.below hb2, HSa.out.2.2.call hb2⟩)
                  have hrow : Row (W1.drew.alloc (.cells #[.int .u8 77] 5)) W1.drew.heap.size 5 #[.int .u8 77] := Row.new _ _ _
                  refine ⟨HSb.out, ?_⟩
                  simp only [Act.put, List.setIfInBounds_toArray]
                  obtain ⟨W2, hW2⟩ : ∃ W2, W2 = W1.drew.alloc (.cells #[.int .u8 77] 5) := ⟨_, rfl⟩
                  rw [← hW2] at HSb hrow hb2 ⊢
                  refine wpP_one (i := 2) (by kernel_rfl) ?_
                  refine opP_append (o := ?_) ?_ ?_ (fun k => W1.heap.size + 1 ≤ k) (.const (.slice none 0 0)) (.tmp 115) 41 ?_ 5 1 1 (.int .u8 0) Tryd.underlying41 infoU8s rfl (by decide) (.slice none 0 0) 0 ([]) ?_ (Lies.empty _ _ _ _ _) (s.ab) s.nb s.cb (cellsOf s.bytes) ?_ HCE.out HSb.out.2.1.source (cellsOf_one _) (by omega) (by decide) ?_
                  rotate_left 1
                  · simp only [List.getElem?_toArray, List.getElem?_cons_succ, List.getElem?_cons_zero]; with_reducible rfl
                  · with_reducible rfl
                  · with_reducible rfl
                  · kernel_rfl
                  · kernel_rfl
                  intro v2 W3 hl2 hk2
                  rw [Nat.zero_add, List.nil_append] at hl2
                  have hb3 : Below W2.heap.size W2 W3 := hk2.below (Nat.le_refl _) (fun k hk => (by obtain ⟨_, hsp, _⟩ := hk; exact absurd hsp (spare_nil k)))
                  have HSc := Lib.hid (show _ ∧ _ ∧ _ from ⟨HSb.out.1.call hb3, HSb.out.2.1.below hb3, HSb.out.2.2.call hb3⟩)
                  have hl3 := hl2.mono (G := fun k => W1.heap.size ≤ k) (fun k hk => by rcases hk with hk | hk; exact Nat.le_of_succ_le hk; have := hb2.size; exact Nat.le_trans this hk)
                  have hsrc : Source W3 (some ⟨W1.drew.heap.size, 0, none⟩) 1 [.int .u8 77] := .inr ⟨_, rfl, World.news_of_block (hrow.call hb3)⟩
                  refine ⟨HSc.out, ?_⟩
                  simp only [Act.put]
                  generalize W1.drew.heap.size = h9 at *
                  refine wpP_one (i := 4) (by kernel_rfl) ?_
                  refine opP_append (o := ?_) ?_ ?_ (fun k => W1.heap.size ≤ k) (.tmp 116) (.tmp 117) 41 ?_ 5 1 1 (.int .u8 0) Tryd.underlying41 infoU8s rfl (by decide) (v2) s.nb (cellsOf s.bytes) ?_ hl3 (some ⟨h9, 0, none⟩) 1 1 ([.int .u8 77]) ?_ rfl hsrc (by intro u hu; simp at hu; subst hu; rfl) (by omega) (by decide) ?_
                  rotate_left 1
                  · simp only [List.getElem?_toArray, List.getElem?_cons_succ, List.getElem?_cons_zero]; with_reducible rfl
                  · with_reducible rfl
                  · with_reducible rfl
                  · kernel_rfl
                  · kernel_rfl
                  intro v4 W4 hl4 hk4
                  have hb4 : Below W1.heap.size W3 W4 := hk4.below (HSc.out.2.2.size) (fun k hk => hk.1)
                  have HSd := Lib.hid (show _ ∧ _ ∧ _ from ⟨HSc.out.1.below hb4 hTW, HBY.out.below (HSc.out.2.2.trans hb4), HSc.out.2.2.trans hb4⟩)
                  obtain ⟨A4, c4, rfl, hc4, hm4⟩ := hl4.form
                  obtain ⟨g, off, cap, hv, _, _, _, _, _⟩ := hl4.cells (by omega)
                  injection hv with hv _ hcc
                  subst hv
                  subst hcc
                  have hMD : MadeM s.bytes 77 g off s.nb c4 (fun k => W1.heap.size ≤ k ∧ k < W4.heap.size) W4 := ⟨by rw [show cellsOf (s.bytes ++ [77]) = cellsOf s.bytes ++ [.int .u8 77] by simp [cellsOf]]; exact hl4.there.mono (fun k hk => ⟨by rcases hk.1 with h | h; exact h; exact Nat.le_trans HSc.out.2.2.size h, hk.2⟩), HLB.out, HSB.out⟩
                  have hbn : (s.nb : Int) ≤ (c4 : Int) := by omega
                  refine ⟨HSd.out, ?_⟩
                  simp only [Act.put]
                  refine wpP_take (i := 8) (oi := ?oqdB8) (v := .slice (some ⟨g, off, none⟩) s.nb c4) ?gqdB8 (by kernel_rfl) ?fqdB8 (by kernel_rfl) ⟨?nqdB8, ?yqdB8, ?bqdB8⟩ HSd.out ?_
                  case gqdB8 => simp only [List.getElem?_toArray, List.getElem?_cons_succ, List.getElem?_cons_zero]; with_reducible rfl
                  case fqdB8 => kernel_rfl
                  case nqdB8 => kernel_rfl
                  case yqdB8 => rintro Wy ⟨h1, h2, h3⟩; go_simp
                  case bqdB8 => exact fun _ => rfl
                  simp only [Act.put]
                  refine wpP_one (i := 9) (by kernel_rfl) ?_
                  refine opP_run (x := .slice (some ⟨g, off, none⟩) s.nb c4) (w' := W4) rfl rfl (by rfl) (by go_simp) ⟨HSd.out, ?_⟩
                  simp only [Act.put]
                  refine wpP_done (by kernel_rfl) ?_
                  exact ⟨(g, off, c4, v2, .slice (some ⟨h9, 0, none⟩) 1 1), by kernel_rfl, hMD, HSd.out.2.2⟩
              case aft22 =>
                rintro ⟨g, off, cc, v2, v3⟩ W2 ⟨hMDa, hb12⟩
                simp only [puts, List.foldl, Act.put, List.setIfInBounds_toArray, List.set_cons_zero, List.set_cons_succ]
                have hMD : MadeM s.bytes 77 g off s.nb cc (fun k => W1.heap.size ≤ k ∧ k < W2.heap.size) W2 := hMDa
                have hbw2 : Below wr.heap.size wr W2 := HBW1.out.call hb12
                have hPM := HPW.out.more hbw2
                have hMD := hMD.mono (Y := fun k => wr.heap.size ≤ k ∧ k < W2.heap.size) (fun k hk => ⟨Nat.le_trans HBW1.out.size hk.1, hk.2⟩)
                have hXT0 : wr.heap.size ≤ wr.heap.size ∧ wr.heap.size < W2.heap.size := ⟨Nat.le_refl _, Nat.lt_of_lt_of_le hTW hb12.size⟩
                have hgT : g ≠ wr.heap.size := by have := hMDa.own; omega
                obtain ⟨X, hX⟩ : ∃ X : Nat → Prop, X = fun k => wr.heap.size ≤ k ∧ k < W2.heap.size := ⟨_, rfl⟩
                have hXT : X wr.heap.size := by rw [hX]; exact hXT0
                rw [← hX] at hMD hPM
                have hgX := hMD.own
                have HRT2 := Lib.hid (HRT.out.call hb12)
                have HMD := Lib.hid hMD
                have HPM := Lib.hid hPM
                have hcap := hMD.cap
                have hmx : cc ≤ 9223372036854775807 := by have := hcap.2; unfold maxLen at this; exact this
                have hcn : (s.nb : Int) + 1 ≤ (cc : Int) := by omega
                have HXG := Lib.hid hgX
                have HXT := Lib.hid hXT
                clear hMD hPM hX hgX hXT HRT HP1 HPW hm0 hm1 hm2 kT0 kT1 hb12 hbw2 hMDa HSa hd1 hXT0
                by_cases hfit : used + costN s.nb + 2 ≤ nn
                · have HAP := Lib.hid (HPM.out.append (c := cc) HMD.out.bytes HXG.out hfit (by omega))
                  go_wp2_with fail
                  refine HAP.out.mono ?_
                  rintro e w3 ⟨rfl, hp3, hk3⟩
                  have HP3 := Lib.hid hp3
                  have HMD3 := Lib.hid (HMD.out.kept hk3 (fun k hk hn => hn hk))
                  have HRT3 := Lib.hid (HRT2.out.kept hk3 (fun hn => hn HXT.out))
                  clear HAP hp3 hk3 HMD HPM HRT2
                  have hm2 := HP3.out.box.cell (i := 2) (v := .int .i64 nn) rfl
                  have hcost : costN s.nb ≤ 50 := by unfold costN; omega
                  obtain ⟨cst, hcst⟩ : ∃ cst, cst = costN s.nb := ⟨_, rfl⟩
                  have HCO : Hid (∀ W, Calls Tryd.prog 14 #[.int .i64 s.nb] W fun e w' => e = .returned (.int .i64 (cst : Nat)) ∧ W = w') := Lib.hid (fun W => by rw [hcst]; exact wcost_ok s.nb W (by omega))
                  rw [← hcst] at hcost hfit HP3
                  clear hcst
                  go_upto_region 24 with fail
                  go_quiet ((go_at_call 14; exact Calls.quiet_of_same ((HCO.out _).mono fun _ _ h => ⟨h.1, h.2.symm⟩)))
                  have hbq : Below w3.heap.size w3 (w3.drewN nq) := below_drewN (Below.refl _ _) nq
                  have hle : decide ((used : Int) + (cst : Int) ≤ (nn : Int) - 2) = true := by simp; omega
                  have hp4 := HP3.out.call hbq
                  have hMD4 := HMD3.out.below hbq
                  have hRT4 := HRT3.out.call hbq
                  clear HP3 HMD3 HRT3 hm2 hbq
                  generalize w3.drewN nq = W4 at hp4 hMD4 hRT4 ⊢
                  have kT1 := hRT4.cell (i := 1) (v := .slice s.ab s.nb s.cb) rfl
                  have hlast := hMD4.last
                  have HCV : Hid (∀ W, Below w.heap.size w W → (convert 41 9 (.slice s.ab s.nb s.cb)).run Tryd.prog W = .ok (.string (textOf s.bytes)) W) := Lib.hid (fun W hb => run_text (HBYW.out.below hb) 41 9 5 s.cb Tryd.underlying41 Tryd.underlying5 Tryd.underlying9)
                  have hconv1 : (convert 41 9 (.slice (some ⟨g, off, none⟩) s.nb cc)).run Tryd.prog W4 = .ok (.string (textOf s.bytes)) W4 := run_text hMD4.bytes 41 9 5 cc Tryd.underlying41 Tryd.underlying5 Tryd.underlying9
                  have hconv2 := HCV.out W4 hp4.below
                  have HI0 := Lib.hid hMD4.inc
                  have HP4 := Lib.hid hp4
                  have HRT4 := Lib.hid hRT4
                  have HTX : Hid (Value.string (textOf s.bytes) = txt s.bytes) := Lib.hid rfl
                  clear hp4 hMD4 hRT4
                  generalize textOf s.bytes = tx at HCV hconv1 hconv2 HTX
                  go_wp2_with fail
                  go_loopw [22] (fun v22 wx => ∃ j : Nat, j ≤ s.nb ∧ v22 = .int .i64 j ∧ IncI W4 g off s.nb wx) (fun v22 _ => s.nb - (intOf v22).toNat)
                  case atStart => exact ⟨0, Nat.zero_le _, rfl, HI0.out⟩
                  case round =>
                    obtain ⟨j, hj, rfl, hI⟩ := hrel
                    by_cases hltj : j < s.nb
                    · obtain ⟨u, hcu, hfu, hI2⟩ := hI.cell hltj
                      clear hI
                      go_wp2
                      go_roundw
                      case rel => exact ⟨j + 1, by omega, by go_num, hI2⟩
                      case measure => simp [intOf]; omega
                    · obtain rfl : j = s.nb := by omega
                      have hp5 := (HP4.out.wrote (hI.kept.mono fun k _ hk => hk ▸ HXG.out)).done
                      have hRT5 := HRT4.out.kept hI.kept (fun h => hgT h.symm)
                      have kT1 := hRT5.cell (i := 1) (v := .slice s.ab s.nb s.cb) rfl
                      have HP5 := Lib.hid hp5
                      have hconv5 := HCV.out _ hp5.below
                      obtain ⟨F, hF1, hF2⟩ := hp5.told
                      have HF1 := Lib.hid hF1
                      have HF2 := Lib.hid hF2
                      clear hI hp5 hRT5 hF1 hF2
                      go_wp2_with (first
                        | (at_builtin
                           (
                           refine wpList_append_any ?_ F (.tmp 180) (.tmp 184) 39 ?_ 9 1 16 (.string ⟨#[]⟩) Tryd.underlying39 infoTxt rfl (by decide) (.slice Aw bs.length cw) bs.length (txts bs) ?_ (HF1.out.below ((Below.refl _ _).alloc (Nat.le_refl _) _)) _ 1 1 [.string tx] ?_ rfl (.inr ⟨_, rfl, World.news_of_block (heap_alloc_new _ _)⟩) (by intro u hu; simp at hu; subst hu; rfl) (by omega) (by decide) ?_
                           · with_reducible rfl
                           · with_reducible rfl
                           · rfl
                           · rfl
                           intro v6 w6 hl6 hk6
                           obtain ⟨A6, c6, rfl, _, _⟩ := hl6.form
                           rw [HTX.out] at hl6 hk6
                           have HP6 := Lib.hid (HF2.out _ A6 c6 s.bytes w6 _ (fun k hk => hk.1) hl6 hk6)
                           clear hl6 hk6))
                        | (go_at_call 14; refine (HCO.out _).mono ?_; rintro e w9 ⟨rfl, rfl⟩))
                      have hs1 : ∀ b ∈ bs ++ [s.bytes], b.length ≤ 20000 := by intro b hb; rcases List.mem_append.1 hb with hb | hb; exact hsm b hb; obtain rfl := List.mem_singleton.1 hb; have := HLB.out; omega
                      go_wp2_with fail
                      refine blend_end (b := (p, ((R : Nat) : Int), ((used : Int) + (cst : Int)), (bs ++ [s.bytes]), A6, c6, (bs.length + 1))) ?_ ?_
                      · kernel_rfl
                      · exact playR_of (R := R) (used := (used + cst)) (by omega) (by simp; omega) hs1 HP6.out (by simp) (by omega) (by omega)
                · have HAP := Lib.hid (HPM.out.full (A := some ⟨g, off, none⟩) (c := cc) (len := s.nb) (by omega))
                  go_wp2_with fail
                  refine HAP.out.mono ?_
                  rintro e w3 ⟨rfl, hp3, hb3⟩
                  have HP3 := Lib.hid hp3
                  have HMD3 := Lib.hid (HMD.out.below hb3)
                  have HRT3 := Lib.hid (HRT2.out.call hb3)
                  clear HAP hp3 hb3 HMD HPM HRT2
                  have hm2 := HP3.out.box.cell (i := 2) (v := .int .i64 nn) rfl
                  have hcost : costN s.nb ≤ 50 := by unfold costN; omega
                  obtain ⟨cst, hcst⟩ : ∃ cst, cst = costN s.nb := ⟨_, rfl⟩
                  have HCO : Hid (∀ W, Calls Tryd.prog 14 #[.int .i64 s.nb] W fun e w' => e = .returned (.int .i64 (cst : Nat)) ∧ W = w') := Lib.hid (fun W => by rw [hcst]; exact wcost_ok s.nb W (by omega))
                  rw [← hcst] at hcost hfit
                  clear hcst
                  go_upto_region 24 with fail
                  go_quiet ((go_at_call 14; exact Calls.quiet_of_same ((HCO.out _).mono fun _ _ h => ⟨h.1, h.2.symm⟩)))
                  have hbq : Below w3.heap.size w3 (w3.drewN nq) := below_drewN (Below.refl _ _) nq
                  have hle : decide ((used : Int) + (cst : Int) ≤ (nn : Int) - 2) = false := by simp; omega
                  have hp4 := HP3.out.call hbq
                  have hMD4 := HMD3.out.below hbq
                  have hRT4 := HRT3.out.call hbq
                  clear HP3 HMD3 HRT3 hm2 hbq
                  generalize w3.drewN nq = W4 at hp4 hMD4 hRT4 ⊢
                  have kT1 := hRT4.cell (i := 1) (v := .slice s.ab s.nb s.cb) rfl
                  have hlast := hMD4.last
                  have HCV : Hid (∀ W, Below w.heap.size w W → (convert 41 9 (.slice s.ab s.nb s.cb)).run Tryd.prog W = .ok (.string (textOf s.bytes)) W) := Lib.hid (fun W hb => run_text (HBYW.out.below hb) 41 9 5 s.cb Tryd.underlying41 Tryd.underlying5 Tryd.underlying9)
                  have hconv1 : (convert 41 9 (.slice (some ⟨g, off, none⟩) s.nb cc)).run Tryd.prog W4 = .ok (.string (textOf s.bytes)) W4 := run_text hMD4.bytes 41 9 5 cc Tryd.underlying41 Tryd.underlying5 Tryd.underlying9
                  have hconv2 := HCV.out W4 hp4.below
                  have HI0 := Lib.hid hMD4.inc
                  have HP4 := Lib.hid hp4
                  have HRT4 := Lib.hid hRT4
                  have HTX : Hid (Value.string (textOf s.bytes) = txt s.bytes) := Lib.hid rfl
                  clear hp4 hMD4 hRT4
                  generalize textOf s.bytes = tx at HCV hconv1 hconv2 HTX
                  go_wp2_with fail
                  go_loopw [22] (fun v22 wx => ∃ j : Nat, j ≤ s.nb ∧ v22 = .int .i64 j ∧ IncI W4 g off s.nb wx) (fun v22 _ => s.nb - (intOf v22).toNat)
                  case atStart => exact ⟨0, Nat.zero_le _, rfl, HI0.out⟩
                  case round =>
                    obtain ⟨j, hj, rfl, hI⟩ := hrel
                    by_cases hltj : j < s.nb
                    · obtain ⟨u, hcu, hfu, hI2⟩ := hI.cell hltj
                      clear hI
                      go_wp2
                      go_roundw
                      case rel => exact ⟨j + 1, by omega, by go_num, hI2⟩
                      case measure => simp [intOf]; omega
                    · obtain rfl : j = s.nb := by omega
                      have hp5 := (HP4.out.wrote (hI.kept.mono fun k _ hk => hk ▸ HXG.out)).done
                      have hRT5 := HRT4.out.kept hI.kept (fun h => hgT h.symm)
                      have kT1 := hRT5.cell (i := 1) (v := .slice s.ab s.nb s.cb) rfl
                      have HP5 := Lib.hid hp5
                      clear hI hp5 hRT5
                      go_wp2_with fail
                      refine blend_end (b := (p, ((R : Nat) : Int), ((used : Nat) : Int), bs, Aw, cw, bs.length)) ?_ ?_
                      · kernel_rfl
                      · exact playR_of (R := R) (used := used) (by omega) (by omega) hsm HP5.out (rfl) (by omega) (by omega)
            · have e1 : (s.kind == 1) = false := by rw [hk]; rfl
              have e2 : (s.kind == 2) = true := by rw [hk]; rfl
              have HR := Lib.hid (HP1.out.reset (by omega))
              clear HP1
              go_wp2_with fail
              refine HR.out.mono ?_
              rintro e w2 ⟨rfl, hp2⟩
              have HP2 := Lib.hid hp2
              clear hp2 HR hm0 hm1 hm2 kT0 kT1
              have hs0 : ∀ b ∈ ([] : List (List Nat)), b.length ≤ 20000 := fun b hb => (List.not_mem_nil hb).elim
              go_wp2_with fail
              refine blend_end (b := (p, ((R : Int) + 1), 0, [], none, 0, 0)) ?_ ?_
              · kernel_rfl
              · exact playR_of (R := (R + 1)) (used := 0) (by omega) (by simp) hs0 HP2.out (rfl) (by omega) (by omega)
            · have e1 : (s.kind == 1) = false := by rw [hk]; rfl
              have e2 : (s.kind == 2) = false := by rw [hk]; rfl
              have e3 : (s.kind == 3) = true := by rw [hk]; rfl
              have HR := Lib.hid (HP1.out.again (by omega))
              clear HP1
              go_wp2_with fail
              refine HR.out.mono ?_
              rintro e w2 ⟨p1, rfl, hp2⟩
              have HP2 := Lib.hid hp2
              clear hp2 HR hm0 hm1 hm2 kT0 kT1
              go_wp2_with fail
              refine blend_end (b := (p1, ((R : Int) + 1), ((used : Nat) : Int), bs, Aw, cw, bs.length)) ?_ ?_
              · kernel_rfl
              · exact playR_of (R := (R + 1)) (used := used) (by omega) (by omega) hsm HP2.out (rfl) (by omega) (by omega)
            · have e1 : (s.kind == 1) = false := by rw [hk]; rfl
              have e2 : (s.kind == 2) = false := by rw [hk]; rfl
              have e3 : (s.kind == 3) = false := by rw [hk]; rfl
              have e6 : (s.kind == 6) = true := by rw [hk]; rfl
              have HR := Lib.hid HP1.out.format
              clear HP1
              go_wp2_with fail
              refine HR.out.mono ?_
              rintro e w2 ⟨rfl, hd2⟩
              have HR2 := Lib.hid hd2.open_
              clear HR hm0 hm1 hm2 kT0 kT1
              have hm0 := hd2.box.cell (i := 0) (v := .int .i64 size) rfl
              have hm1 := hd2.box.cell (i := 1) (v := .int .i64 a) rfl
              have hm2 := hd2.box.cell (i := 2) (v := .int .i64 nn) rfl
              clear hd2
              go_wp2_with fail
              refine HR2.out.mono ?_
              rintro e w3 ⟨p1, rfl, hp3⟩
              have HP3 := Lib.hid hp3
              clear hp3 HR2 hm0 hm1 hm2
              have hs0 : ∀ b ∈ ([] : List (List Nat)), b.length ≤ 20000 := fun b hb => (List.not_mem_nil hb).elim
              go_wp2_with fail
              refine blend_end (b := (p1, 2, 0, [], none, 0, 0)) ?_ ?_
              · kernel_rfl
              · exact playR_of (R := 2) (used := 0) (by omega) (by simp) hs0 HP3.out (rfl) (by omega) (by omega)
            · have e1 : (s.kind == 1) = false := by rw [hk]; rfl
              have e2 : (s.kind == 2) = false := by rw [hk]; rfl
              have e3 : (s.kind == 3) = false := by rw [hk]; rfl
              have e6 : (s.kind == 6) = false := by rw [hk]; rfl
              have e4 : (s.kind == 4) = true := by rw [hk]; rfl
              have HCP := Lib.hid HP1.out.copy
              go_wp2_with fail
              refine HCP.out.mono ?_
              rintro e w2 ⟨q, rfl, hb2, hsame⟩
              have HP2 := Lib.hid (HP1.out.call hb2)
              have HSM2 := Lib.hid hsame
              clear HCP HP1 hm0 hm1 hm2 kT0 kT1 hsame hb2
              have hm0 := HP2.out.box.cell (i := 0) (v := .int .i64 size) rfl
              have hm1 := HP2.out.box.cell (i := 1) (v := .int .i64 a) rfl
              have hm2 := HP2.out.box.cell (i := 2) (v := .int .i64 nn) rfl
              have HLK := Lib.hid (HP2.out.look (by omega) (fun b hb => Nat.le_trans (hsm b hb) (by decide)))
              go_wp2_with fail
              refine HLK.out.mono ?_
              rintro e w3 ⟨v, ys, rfl, hys, hly, hby, hb3⟩
              obtain ⟨Ay, cy, rfl, _, _⟩ := hly.form
              have hp3 := HP2.out.call hb3
              have HB3 := Lib.hid hb3
              have HYL : Hid (ys.length = bs.length) := Lib.hid (by rw [← hys, List.length_map])
              have HSA := Lib.hid (same_wal_ok Ay cy ys Aw cw bs (grow noBlock w2) w3 hly hby hp3.want (fun b hb => by rw [← hys] at hb; obtain ⟨y, hy, rfl⟩ := List.mem_map.1 hb; exact (hby y hy).small) (by have := HYL.out; omega) (by omega))
              rw [decide_eq_true hys] at HSA
              have HP3 := Lib.hid hp3
              clear HLK HP2 hm0 hm1 hm2 hp3 hb3 hly hby hys
              go_wp2_with fail
              refine HSA.out.mono ?_
              rintro e w4 ⟨rfl, hb4⟩
              have HP4 := Lib.hid (HP3.out.call hb4)
              have HS4 := Lib.hid (HSM2.out w4 (HB3.out.call hb4))
              clear HP3 HSA HSM2 HB3 hb4
              go_wp2_with fail
              refine HS4.out.mono ?_
              rintro e w5 ⟨rfl, hb5⟩
              have HP5 := Lib.hid (HP4.out.call hb5)
              clear HP4 HS4 hb5
              go_wp2_with fail
              refine blend_end (b := (p, ((R : Nat) : Int), ((used : Nat) : Int), bs, Aw, cw, bs.length)) ?_ ?_
              · kernel_rfl
              · exact playR_of (R := R) (used := used) (by omega) (by omega) hsm HP5.out (rfl) (by omega) (by omega)
            · have e1 : (s.kind == 1) = false := by simpa using h1
              have e2 : (s.kind == 2) = false := by simpa using h2
              have e3 : (s.kind == 3) = false := by simpa using h3
              have e6 : (s.kind == 6) = false := by simpa using h6
              have e4 : (s.kind == 4) = false := by simpa using h4
              go_wp2_with fail
              refine blend_end (b := (p, ((R : Nat) : Int), ((used : Nat) : Int), bs, Aw, cw, bs.length)) ?_ ?_
              · kernel_rfl
              · exact playR_of (R := R) (used := used) (by omega) (by omega) hsm HP1.out (rfl) (by omega) (by omega)
          case fin =>
            rintro ⟨p1, Ri, Ui, bs1, A1, c1, len1⟩ g wx ⟨R1, U1, hRi, hUi, hlen1, ⟨hR1, hbl1⟩, hsm1, hP1⟩
            dsimp only at hRi hUi hlen1 hbl1 hsm1 hP1
            subst hlen1
            subst hRi
            subst hUi
            have HP1 := Lib.hid hP1
            have HST := Lib.hid hP1.state
            clear hP1
            dsimp only [playMask, playL, blend, cond_true, cond_false, Nat.reduceAdd]
            simp only [puts, List.foldl, Act.put, List.setIfInBounds_toArray, List.set_cons_zero, List.set_cons_succ]
            go_wp2_with fail
            refine HST.out.mono ?_
            rintro e w8 ⟨rfl, hb8⟩
            have HP8 := Lib.hid (HP1.out.call hb8)
            have HTL := Lib.hid (HP8.out.tells (by omega) (fun b hb => Nat.le_trans (hsm1 b hb) (by decide)))
            have hm2 := HP8.out.box.cell (i := 2) (v := .int .i64 nn) rfl
            have hrr : (((R1 : Nat) : Int) != ((R1 : Nat) : Int)) = false := by simp
            have hfu := HP8.out.fits
            clear hb8 HST HP1
            rcases Int.lt_or_le 4 (((nn : Int) - 2 - ((U1 : Nat) : Int)) * 488) with hz | hz
            · have hmx : max (((nn : Int) - 2 - ((U1 : Nat) : Int)) * 488 - 4) 0 = ((nn : Int) - 2 - ((U1 : Nat) : Int)) * 488 - 4 := by omega
              go_wp2_with fail
              refine HTL.out.mono ?_
              rintro e w9 ⟨rfl, hb9⟩
              have HP9 := Lib.hid (HP8.out.call hb9)
              clear hm2 HP8 HTL hb9 hmx hz
              go_wp2_with fail
              go_roundw
              case rel => exact ⟨i + 1, p1, R1, U1, bs1, A1, c1, by omega, rfl, rfl, rfl, rfl, by go_num, ⟨by omega, by omega⟩, hsm1, HP9.out⟩
              case measure => simp [intOf]; omega
            · have hmx : max (((nn : Int) - 2 - ((U1 : Nat) : Int)) * 488 - 4) 0 = 0 := by omega
              go_wp2_with fail
              refine HTL.out.mono ?_
              rintro e w9 ⟨rfl, hb9⟩
              have HP9 := Lib.hid (HP8.out.call hb9)
              clear hm2 HP8 HTL hb9 hmx hz
              go_wp2_with fail
              go_roundw
              case rel => exact ⟨i + 1, p1, R1, U1, bs1, A1, c1, by omega, rfl, rfl, rfl, rfl, by go_num, ⟨by omega, by omega⟩, hsm1, HP9.out⟩
              case measure => simp [intOf]; omega
end Go.Proofs.YtdaefhlfalhfnaaDoor
