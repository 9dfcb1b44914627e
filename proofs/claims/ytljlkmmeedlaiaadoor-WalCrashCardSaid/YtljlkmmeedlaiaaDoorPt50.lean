/- Layer 3's laws: bytes that a law makes for a call, with one behind them that the call may not see. -/
import Derived.Test.YtljlkmmeedlaiaaDoorPt44
import Derived.Test.YtljlkmmeedlaiaaDoorPt31
import Derived.Test.YtljlkmmeedlaiaaDoorPt47
import Derived.Test.YtljlkmmeedlaiaaDoorPt45
import Derived.Test.YtljlkmmeedlaiaaDoorPt49
import Derived.Test.YtljlkmmeedlaiaaDoorPt32
import Derived.BigQuiet
namespace Go.Proofs.YtljlkmmeedlaiaaDoor
open Go.RowKit

/-- The beginning of a slice. -/
theorem Lies.pre {w : World} {F : Nat → Prop} {e : TypeId} {size n c k : Nat} {A : Option Addr} {xs : List Value} (h : Lies w F e size (.slice A n c) n xs) (hk : k ≤ n) : Lies w F e size (.slice A k c) k (xs.take (k * size)) := by
  have h9 : k * size ≤ n * size := Nat.mul_le_mul_right _ hk
  refine ⟨by rw [List.length_take, h.1, Nat.min_eq_left h9], ?_⟩
  rcases h.2 with ⟨A', hv, rfl⟩ | ⟨g, off, cap, cur, hv, hF, hg, h1, h2, h3, h4⟩
  · injection hv with hv1 _ hv3
    subst hv3
    obtain rfl : k = 0 := by omega
    exact .inl ⟨_, rfl, rfl⟩
  · injection hv with hv1 _ hv3
    subst hv1; subst hv3
    refine .inr ⟨g, off, c, cur, rfl, hF, hg, by omega, h2, h3, ?_⟩
    rw [← h4, List.take_take, Nat.min_eq_left h9]
theorem infoTxt : (Tryd.prog.info? 9).map (fun i => (i.zero, i.size, i.bytes)) = some (some (.string ⟨#[]⟩), 1, 16) := by kernel_rfl
theorem spare_nil (k : Nat) : ¬ Spare (.slice none 0 0) k := fun ⟨_, _, _, h, _⟩ => by
  injection h with h
  cases h
/-- The bytes l, and one more behind them. -/
structure MadeM (l : List Nat) (x g off nb cc : Nat) (X : Nat → Prop) (W : World) : Prop where
  lies : Lies W X 5 1 (.slice (some ⟨g, off, none⟩) (nb + 1) cc) (nb + 1) (cellsOf (l ++ [x]))
  len : l.length = nb
  small : Small (l ++ [x])
section
variable {l : List Nat} {x g off nb cc : Nat} {X : Nat → Prop} {W W' : World}
theorem MadeM.kept (h : MadeM l x g off nb cc X W) {F : Nat → Prop} (hk : Kept F W W') (hF : ∀ k, X k → ¬ F k) : MadeM l x g off nb cc X W' := ⟨h.lies.kept hk hF, h.len, h.small⟩
theorem MadeM.below (h : MadeM l x g off nb cc X W) (hb : Below W.heap.size W W') : MadeM l x g off nb cc X W' := ⟨h.lies.below hb, h.len, h.small⟩
theorem MadeM.own (h : MadeM l x g off nb cc X W) : X g := by
  rcases h.lies.2 with ⟨A', hv, h0⟩ | ⟨g', off', cap, cur, hv, hF, _⟩
  · omega
  · injection hv with e1 _ _
    injection e1 with e1
    injection e1 with e1 _ _
    rw [e1]; exact hF
theorem MadeM.cap (h : MadeM l x g off nb cc X W) : nb + 1 ≤ cc ∧ cc ≤ maxLen := by
  obtain ⟨A, c, hv, h1, h2⟩ := h.lies.form
  injection hv with _ _ e
  subst e
  exact ⟨h1, h2⟩
theorem MadeM.both (h : MadeM l x g off nb cc X W) : Bytes W (some ⟨g, off, none⟩) (nb + 1) (l ++ [x]) := by
  have hlen : (l ++ [x]).length = nb + 1 := by rw [List.length_append, h.len, List.length_singleton]
  have hl := h.lies
  rw [← hlen] at hl
  obtain ⟨A, c, hv, hb, _, _, _⟩ := lies_bytes hl h.small
  injection hv with e _ _
  subst e
  rwa [hlen] at hb
theorem MadeM.bytes (h : MadeM l x g off nb cc X W) : Bytes W (some ⟨g, off, none⟩) nb l := by
  have := h.both.take (k := nb) (Nat.le_succ _)
  rwa [List.take_left' h.len] at this
theorem MadeM.last (h : MadeM l x g off nb cc X W) : W.cell? ⟨g, off + nb, none⟩ = some (.int .u8 (x : Nat)) := by
  obtain ⟨g', off', cap, hv, _, _, _, _, hr⟩ := h.lies.cells (by omega)
  injection hv with e1 _ _
  injection e1 with e1
  injection e1 with e1 e2 _
  subst e1; subst e2
  refine hr nb _ ?_
  have h9 := h.len
  simp [cellsOf, h9]
theorem MadeM.bat (h : MadeM l x g off nb cc X W) : BatOk W X ⟨some ⟨g, off, none⟩, cc, l⟩ := by
  have h1 := h.lies.pre (k := nb) (Nat.le_succ _)
  have e : (cellsOf (l ++ [x])).take (nb * 1) = cellsOf l := by
    have h9 := h.len
    simp [cellsOf, Nat.mul_one, h9]
  rw [e, ← h.len] at h1
  refine ⟨?_, fun b hb => h.small b (List.mem_append_left _ hb)⟩
  have h2 := h1
  rw [h.len] at h2 ⊢
  show Lies W X _ 1 (.slice (some ⟨g, off, none⟩) l.length cc) nb _
  rw [h.len]
  exact h2
theorem MadeM.inc (h : MadeM l x g off nb cc X W) : IncI W g off nb W := by
  rcases h.lies.2 with ⟨A', hv, h0⟩ | ⟨g', off', cap, cur, hv, hF, hg, h1, h2, h3, h4⟩
  · omega
  · injection hv with e1 _ e2
    injection e1 with e1
    injection e1 with e1 e3 _
    subst e1; subst e2; subst e3
    refine ⟨fun _ => ⟨cur, hg, fun j hj => ⟨(l ++ [x]).getD j 0, ?_⟩⟩, Kept.refl _ _, KeepsOthers.refl _⟩
    have h9 : ((cur.toList.drop off).take ((nb + 1) * 1))[j]? = (cellsOf (l ++ [x]))[j]? := by rw [h4]
    rw [List.getElem?_take_of_lt (by omega), List.getElem?_drop] at h9
    have hjl : j < (l ++ [x]).length := by rw [List.length_append, h.len, List.length_singleton]; omega
    rw [← Array.getElem?_toList, h9]
    simp only [cellsOf, List.getElem?_map, List.getD_eq_getElem?_getD, List.getElem?_eq_getElem hjl]
    rfl
theorem MadeM.mono (h : MadeM l x g off nb cc X W) {Y : Nat → Prop} (hXY : ∀ k, X k → Y k) : MadeM l x g off nb cc Y W := ⟨h.lies.mono hXY, h.len, h.small⟩
end
section
variable {W W' : World} {O : Nat → Prop} {dp p size a n R B used : Nat} {bs : List (List Nat)}
/-- The caller's blocks are written, and more of them made. -/
theorem LogSt.grew {F O' : Nat → Prop} (h : LogSt W O dp p size a n R B used bs) (hk : Kept F W W') (hF : ∀ k, F k → O k ∨ W.heap.size ≤ k) (hO : ∀ k, O' k → O k ∨ (W.heap.size ≤ k ∧ k < W'.heap.size)) : LogSt W' O' dp p size a n R B used bs := by
  obtain ⟨FL, FD, d, f, h1, h2, h3, h4, h5, h6⟩ := h
  refine ⟨FL, FD, d, f, h1.kept hk (fun k hl hx => ?_) (fun k hl hx => ?_), h2, h3, h4, h5, fun k ho => ?_⟩
  · rcases hF k hx with h9 | h9
    · exact (h6 k h9).2.1 hl
    · have := h1.thereL k hl; omega
  · rcases hF k hx with h9 | h9
    · exact (h6 k h9).2.2 hl
    · have := h1.thereD k hl; omega
  · rcases hO k ho with h9 | h9
    · exact ⟨Nat.lt_of_lt_of_le (h6 k h9).1 hk.size, (h6 k h9).2⟩
    · exact ⟨h9.2, fun hl => by have := h1.thereL k hl; omega, fun hl => by have := h1.thereD k hl; omega⟩
end
/-- One text more is expected. -/
theorem PlayS.told {w W : World} {sz a n dp p R used : Nat} {bs ws : List (List Nat)} {Aw : Option Addr} {cw : Nat} (h : PlayS w sz a n dp p R used bs ws Aw cw noX W) :
    ∃ F : Nat → Prop, Lies W F 9 1 (.slice Aw ws.length cw) ws.length (txts ws) ∧ ∀ (o : Obj) (A' : Option Addr) (c' : Nat) (l : List Nat) (W' : World) (Y : Nat → Prop), (∀ k, Y k → F k) →
      Lies W' (grow F (W.alloc o)) 9 1 (.slice A' (ws.length + 1) c') (ws.length + 1) (txts ws ++ [txt l]) → Kept Y (W.alloc o) W' → PlayS w sz a n dp p R used bs (ws ++ [l]) A' c' noX W' := by
  obtain ⟨⟨O, B, h1, h2, h3, h4⟩, h5, h6⟩ := h
  refine ⟨_, h4, fun o A' c' l W' Y hY hl hk => ?_⟩
  have hbox := h5.lt
  have hsz : (W.alloc o).heap.size = W.heap.size + 1 := by simp
  have hk2 : Kept (fun k => (O k ∧ w.heap.size < k ∧ ¬ noX k) ∨ W.heap.size ≤ k) W W' := Kept.trans' ((Kept.refl _ W).alloc o) (hk.mono fun k _ hx => .inl (hY k hx))
  have hlen : (ws ++ [l]).length = ws.length + 1 := by simp
  have htx : txts (ws ++ [l]) = txts ws ++ [txt l] := by simp [txts]
  refine ⟨⟨fun k => O k ∨ (W.heap.size ≤ k ∧ k < W'.heap.size), B, h1.grew hk2 (fun k hx => ?_) (fun k hx => hx), fun k hk9 => .inl (h2 k hk9), fun k hk9 => hk9.elim, ?_⟩, ?_, ?_⟩
  · rcases hx with hx | hx
    · exact .inl hx.1
    · exact .inr hx
  · rw [hlen, htx]
    refine hl.there.mono fun k hx => ?_
    rcases hx.1 with h9 | h9
    · exact ⟨.inl h9.1, h9.2.1, fun h => h.elim⟩
    · exact ⟨.inr ⟨by omega, hx.2⟩, by omega, fun h => h.elim⟩
  · exact h5.kept hk2 (by rintro (h9 | h9) <;> omega)
  · exact h6.trans (hk2.below h6.size (by rintro k (h9 | h9) <;> omega))
end Go.Proofs.YtljlkmmeedlaiaaDoor
/- The law WalCrash: one step of a life's script, and the script. -/
namespace Go.Proofs.YtljlkmmeedlaiaaDoor
open Go.RowKit

theorem txts_length (l : List (List Nat)) : (txts l).length = l.length := by simp [txts]
theorem txts_snoc (l : List (List Nat)) (b : List Nat) : txts (l ++ [b]) = txts l ++ [txt b] := by simp [txts]
theorem CrS.few {w W : World} {bx yc : Array Value} {yb sz a n dp p R B used : Nat} {bs ws : List (List Nat)} {Aw : Option Addr} {cw : Nat} {q : Bool} {Z : Nat → Prop} (h : CrS w bx yb yc sz a n dp p R B used bs ws Aw cw q Z W) : bs.length ≤ 65536 := by
  obtain ⟨⟨O, h1, _⟩, _⟩ := h
  obtain ⟨f, hf⟩ := h1.live
  obtain ⟨xs, last, hl, hbs, _⟩ := hf.laid
  have h2 := hl.count.1
  have := hf.fit
  have := hf.n9
  rw [← hbs, List.length_map]
  omega
/-- A part of a function's text: the block of a number. -/
def blockOf (i : Nat) : Code → Option Code
  | .block j c => if j = i then some (.block j c) else blockOf i c
  | .loop c => blockOf i c
  | .scope c => blockOf i c
  | .seq a b => match blockOf i a with
    | some c => some c
    | none => blockOf i b
  | .cond _ a b => match blockOf i a with
    | some c => some c
    | none => blockOf i b
  | _ => none
/-- The body of a loop that is a block's. -/
def roundOf (i : Nat) (c : Code) : Option Code := match blockOf i c with
  | some (.block _ (.loop b)) => some b
  | _ => none
noncomputable def stepCode : Code := (Tryd.f4.body.bind (roundOf 2)).getD .skip
noncomputable def scriptCode : Code := (Tryd.f4.body.bind (blockOf 2)).getD .skip
theorem script_is : scriptCode = Code.block 2 (Code.loop stepCode) := by kernel_rfl
set_option maxRecDepth 1000000 in
def frS (h : Nat → Value) (xv dv wv iv yv lv nv ov kv : Value) : List Value := [h 0, xv, h 2, dv, h 4, wv, iv, yv, lv, h 9, nv, ov, kv, h 13, h 14, h 15, h 16, h 17, h 18, h 19, h 20, h 21, h 22, h 23, h 24, h 25, h 26, h 27, h 28, h 29, h 30, h 31, h 32, h 33, h 34, h 35, h 36, h 37, h 38, h 39, h 40, h 41, h 42, h 43, h 44, h 45, h 46, h 47, h 48, h 49, h 50, h 51, h 52, h 53, h 54, h 55, h 56, h 57, h 58, h 59, h 60, h 61, h 62, h 63, h 64, h 65, h 66, h 67, h 68, h 69, h 70, h 71, h 72, h 73, h 74, h 75, h 76, h 77, h 78, h 79, h 80, h 81, h 82, h 83, h 84, h 85, h 86, h 87, h 88, h 89, h 90, h 91, h 92, h 93, h 94, h 95, h 96, h 97, h 98, h 99, h 100, h 101, h 102, h 103, h 104, h 105, h 106, h 107, h 108, h 109, h 110, h 111, h 112, h 113, h 114, h 115, h 116, h 117, h 118, h 119, h 120, h 121, h 122, h 123, h 124, h 125, h 126, h 127, h 128, h 129, h 130, h 131, h 132, h 133, h 134, h 135, h 136, h 137, h 138, h 139, h 140, h 141, h 142, h 143, h 144, h 145, h 146, h 147, h 148, h 149, h 150, h 151, h 152, h 153, h 154, h 155, h 156, h 157, h 158, h 159, h 160, h 161, h 162, h 163, h 164, h 165, h 166, h 167, h 168, h 169, h 170, h 171, h 172, h 173, h 174, h 175, h 176, h 177, h 178, h 179, h 180, h 181, h 182, h 183, h 184, h 185, h 186, h 187, h 188, h 189, h 190, h 191, h 192, h 193, h 194, h 195, h 196, h 197, h 198, h 199, h 200, h 201, h 202, h 203, h 204, h 205, h 206, h 207, h 208, h 209, h 210, h 211, h 212, h 213, h 214, h 215, h 216, h 217, h 218, h 219, h 220, h 221, h 222, h 223, h 224, h 225, h 226, h 227, h 228, h 229, h 230, h 231, h 232, h 233, h 234, h 235, h 236, h 237, h 238, h 239, h 240, h 241, h 242, h 243, h 244, h 245, h 246, h 247, h 248, h 249, h 250, h 251, h 252]
theorem frS_end {K : Act → World → Prop} {a' : Act} {W' : World} (xv dv wv iv yv lv nv ov kv : Value) (e : a' = ⟨(frS (fun k => a'.tmps.getD k undef) xv dv wv iv yv lv nv ov kv).toArray, []⟩) (h : K ⟨(frS (fun k => a'.tmps.getD k undef) xv dv wv iv yv lv nv ov kv).toArray, []⟩ W') : K a' W' := by
  rw [← e] at h
  exact h
def ycells (y : WLife) : Array Value := #[.slice y.af y.fates.length y.cf, .slice y.as_ y.script.length y.cs, .slice y.ap y.picks.length y.cp]
/-- What the script's next step begins with. -/
def CrI (w : World) (bx : Array Value) (yb : Nat) (y : WLife) (sz a n dp p D X k : Nat) (bs : List (List Nat)) (Aw : Option Addr) (cw : Nat) (W : World) : Prop :=
  ∃ R B used, CrS w bx yb (ycells y) sz a n dp p R B used bs bs Aw cw false noX W ∧ R ≤ B + D ∧ R ≤ X + k ∧ ∀ b ∈ bs, Small b
/-- What the script ends with. -/
def CrO (w : World) (bx : Array Value) (yb : Nat) (y : WLife) (sz a n dp D X : Nat) (ws ns : List (List Nat)) (Aw An : Option Addr) (no : Bool) (W : World) : Prop :=
  CrE w bx yb (ycells y) sz dp (EndP a n ws ns no D X) ws ns Aw An W ∧ (∀ b ∈ ws, Small b) ∧ (∀ b ∈ ns, Small b) ∧ ws.length ≤ 1000000 ∧ ns.length ≤ 1000000
set_option maxRecDepth 1000000 in
set_option maxHeartbeats 20000000 in
theorem cr_step (w : World) (bx : Array Value) (yb : Nat) (y : WLife) (sz a n dp p D X : Nat) (iv : Value) (hT : Tab w) (hy : WLifeOk w y) (hsmall : wsmall y.script) (hl50 : y.script.length ≤ 50) (hX : X ≤ 1000)
    (h : Nat → Value) (k : Nat) (bs : List (List Nat)) (Aw : Option Addr) (cw : Nat) (W : World) (hk : k ≤ y.script.length) (hI : CrI w bx yb y sz a n dp p D X k bs Aw cw W) (K : Act → World → Prop) (Q : Exit → Act → World → Prop)
    (hK : k < y.script.length → ∀ h' bs' Aw' cw' W', CrI w bx yb y sz a n dp p D X (k + 1) bs' Aw' cw' W' → K ⟨(frS h' (.pointer (some ⟨w.heap.size, 0, none⟩)) (.pointer (some ⟨dp, 0, none⟩)) (.slice Aw' bs'.length cw') iv (.pointer (some ⟨yb, 0, none⟩)) (.pointer (some ⟨p, 0, none⟩)) (.slice Aw' bs'.length cw') (.bool false) (.int .i64 ((k : Int) + 1))).toArray, []⟩ W')
    (hE : ∀ h' ws ns Aw' cw' An' cn' no W', CrO w bx yb y sz a n dp D (X + 50) ws ns Aw' An' no W' → Q (.exit 2) ⟨(frS h' (.pointer (some ⟨w.heap.size, 0, none⟩)) (.pointer (some ⟨dp, 0, none⟩)) (.slice Aw' ws.length cw') iv (.pointer (some ⟨yb, 0, none⟩)) (.pointer (some ⟨p, 0, none⟩)) (.slice An' ns.length cn') (.bool no) (.int .i64 k)).toArray, []⟩ W') :
    Code.wp Tryd.prog stepCode (Exit.then K Q) ⟨(frS h (.pointer (some ⟨w.heap.size, 0, none⟩)) (.pointer (some ⟨dp, 0, none⟩)) (.slice Aw bs.length cw) iv (.pointer (some ⟨yb, 0, none⟩)) (.pointer (some ⟨p, 0, none⟩)) (.slice Aw bs.length cw) (.bool false) (.int .i64 k)).toArray, []⟩ W := by
  obtain ⟨R, B, used, hP, hRD, hRX, hsm⟩ := hI
  have HE := Lib.hid hE
  have HSM := Lib.hid hsm
  have HT := Lib.hid hT
  clear hE hsm hT
  have hbel := hP.below
  have hcap := hy.caps
  have hcnt := hP.few
  conv => arg 2; whnf
  dsimp only [frS]
  rcases Nat.lt_or_ge k y.script.length with hk9 | hk9
  rotate_left 1
  · obtain rfl : k = y.script.length := by omega
    have y1 := hP.life.cell (i := 1) (v := .slice y.as_ y.script.length y.cs) rfl
    have HP := Lib.hid hP
    clear hP hbel hK hsmall
    go_wp2_with fail
    refine frS_end (K := Q (.exit 2)) (.pointer (some ⟨w.heap.size, 0, none⟩)) (.pointer (some ⟨dp, 0, none⟩)) (.slice Aw bs.length cw) iv (.pointer (some ⟨yb, 0, none⟩)) (.pointer (some ⟨p, 0, none⟩)) (.slice Aw bs.length cw) (.bool false) (.int .i64 y.script.length) ?_ ?_
    · kernel_rfl
    · exact HE.out _ bs bs Aw cw Aw cw false W ⟨HP.out.end_ (by omega) (by omega), HSM.out, HSM.out, by omega, by omega⟩
  have HK := Lib.hid (hK hk9)
  clear hK hk
  have hk := hk9
  clear hk9
  obtain ⟨b0, off, hA, hb0, hcells⟩ := (hy.script.below hbel).cells hk
  have hso := (hy.script).get hk
  have hbig := hsmall.get hk
  generalize y.script.getD k noWStep = s at *
  have k0 := hcells 0 _ rfl
  have k1 := hcells 1 _ rfl
  have k2 := hcells 2 _ rfl
  rw [Nat.add_zero] at k0
  clear hcells
  have y1 := hP.life.cell (i := 1) (v := .slice y.as_ y.script.length y.cs) rfl
  rw [hA] at y1
  have hnb : s.nb ≤ 20000 := by unfold wbig at hbig; have := of_decide_eq_false (Bool.or_eq_false_iff.1 hbig).1; omega
  clear hbig hsmall
  generalize y.script.length = sl at *
  go_upto_region 21 with fail
  obtain ⟨W1, hW1⟩ : ∃ W1, W1 = W.alloc (.cells #[.int .i64 s.kind, .slice s.ab s.nb s.cb, .slice s.af s.nf s.cf] 44) := ⟨_, rfl⟩
  have hbw1 : Below W.heap.size W W1 := by rw [hW1]; exact (Below.refl _ _).alloc (Nat.le_refl _) _
  have hrT : Row W1 W.heap.size 44 #[.int .i64 s.kind, .slice s.ab s.nb s.cb, .slice s.af s.nf s.cf] := by rw [hW1]; exact Row.new _ _ _
  obtain ⟨tb, htb⟩ : ∃ tb, tb = W.heap.size := ⟨_, rfl⟩
  have hsz1 : W1.heap.size = W.heap.size + 1 := by rw [hW1]; simp
  have HP1 := Lib.hid (hP.more hbw1 (Z' := (· = tb)) fun k hk => .inr ⟨by omega, by omega⟩)
  have HB0 := Lib.hid (show Bytes w s.ab s.nb s.bytes from hso.bytes)
  have HRT := Lib.hid hrT
  have HCV : Hid (∀ Wy, Bytes Wy s.ab s.nb s.bytes → (convert 41 9 (.slice s.ab s.nb s.cb)).run Tryd.prog Wy = .ok (.string (textOf s.bytes)) Wy) := Lib.hid (fun Wy hb => run_text hb 41 9 5 s.cb Tryd.underlying41 Tryd.underlying5 Tryd.underlying9)
  have HTX : Hid (Value.string (textOf s.bytes) = txt s.bytes) := Lib.hid rfl
  generalize textOf s.bytes = tx at HCV HTX
  have hblk : 0 < s.nb → ∀ x, s.ab = some x → x.block < w.heap.size := fun h0 x e => by obtain ⟨b, o, e2, hb, _⟩ := HB0.out.2.2 h0; rw [e2] at e; injection e with e; subst e; exact hb
  have HBLK := Lib.hid hblk
  have kT0 := hrT.cell (i := 0) rfl
  have kT1 := hrT.cell (i := 1) rfl
  have hfits := hP.fits
  rw [← hW1, ← htb]
  rw [← htb] at kT0 kT1 HRT
  clear hP hso hrT hW1 k0 k1 k2 y1 hb0 hbw1 hbel hblk hsz1 htb
  by_cases hkind : s.kind = 1
  · have e1 : (s.kind == 1) = true := by rw [hkind]; rfl
    by_cases hfit : used + costN s.nb + 2 ≤ n
    · have HAP := Lib.hid (HP1.out.append (c := s.cb) HT.out (HB0.out.below HP1.out.below) HBLK.out hfit)
      have HW1 := Lib.hid HP1.out.below
      clear HP1
      go_wp2_with fail
      refine HAP.out.mono ?_
      rintro e w3 (⟨rfl, hp3, hk3⟩ | ⟨rfl, hp3, hk3⟩)
      · have HRT3 := Lib.hid (HRT.out.kept hk3 (fun hn => hn rfl))
        have kT1 := HRT3.out.cell (i := 1) (v := .slice s.ab s.nb s.cb) rfl
        have HP3 := Lib.hid hp3
        have HB3 : Hid (Bytes w3 s.ab s.nb s.bytes) := Lib.hid (HB0.out.below hp3.below)
        have HH3 : Hid (Holds w3 Aw bs.length 1 (txts bs)) := Lib.hid (by obtain ⟨⟨O, _, _, _, _, h9⟩, _⟩ := hp3; exact lies_holds h9)
        clear HAP hp3 hk3 HRT kT0
        go_upto_region 24 with fail
        have hmix24 : Tryd.prog.follows .mixedOrders = true := by kernel_rfl
        have hd24 : Below w3.heap.size w3 w3.drew := (Below.refl _ _).drew
        have HSa : Hid (Row w3.drew tb 44 #[.int .i64 s.kind, .slice s.ab s.nb s.cb, .slice s.af s.nf s.cf] ∧ Bytes w3.drew s.ab s.nb s.bytes ∧ Holds w3.drew Aw bs.length 1 (txts bs) ∧ Below w3.heap.size w3 w3.drew) := Lib.hid ⟨HRT3.out.call hd24, HB3.out.below hd24, HH3.out.below hd24, hd24⟩
        have HTB24 : Hid (tb < w3.heap.size) := Lib.hid HRT3.out.lt
        refine (wpIn_wide (n := 0)).1 ?_
        refine wpIn_toE (fun b : Value × Value × Option Addr × Nat => [(148, .slice Aw bs.length cw), (149, b.1), (150, .pointer (some ⟨tb, 1, none⟩)), (151, .slice s.ab s.nb s.cb), (152, .string tx), (153, b.2.1), (154, .slice b.2.2.1 (bs.length + 1) b.2.2.2), (5, .slice b.2.2.1 (bs.length + 1) b.2.2.2)])
          (fun b w' => Lies w' (fun k => w3.heap.size ≤ k ∧ k < w'.heap.size) 9 1 (.slice b.2.2.1 (bs.length + 1) b.2.2.2) (bs.length + 1) (txts (bs ++ [s.bytes])) ∧ Below w3.heap.size w3 w') ?reg24 ?aft24
        case reg24 =>
          refine wpIn_region_held (S := fun Wy => Row Wy tb 44 #[.int .i64 s.kind, .slice s.ab s.nb s.cb, .slice s.af s.nf s.cf] ∧ Bytes Wy s.ab s.nb s.bytes ∧ Holds Wy Aw bs.length 1 (txts bs) ∧ Below w3.heap.size w3 Wy) hmix24 (by kernel_rfl) ?_
          refine wpP_take (i := 0) (oi := ?oq24a0) (v := .slice Aw bs.length cw) ?gq24a0 (by kernel_rfl) ?fq24a0 (by kernel_rfl) ⟨?nq24a0, ?yq24a0, ?bq24a0⟩ HSa.out ?_
          case gq24a0 => simp only [List.getElem?_toArray, List.getElem?_cons_zero]; with_reducible rfl
          case fq24a0 => kernel_rfl
          case nq24a0 => kernel_rfl
          case yq24a0 => rintro Wy ⟨h1, h2, h3, h4⟩; go_simp
          case bq24a0 => exact fun _ => rfl
          simp only [Act.put, List.setIfInBounds_toArray, List.set_cons_zero, List.set_cons_succ]
          refine wpP_take (i := 2) (oi := ?oq24a2) (v := .pointer (some ⟨tb, 1, none⟩)) ?gq24a2 (by kernel_rfl) ?fq24a2 (by kernel_rfl) ⟨?nq24a2, ?yq24a2, ?bq24a2⟩ HSa.out ?_
          case gq24a2 => simp only [List.getElem?_toArray, List.getElem?_cons_succ, List.getElem?_cons_zero]; with_reducible rfl
          case fq24a2 => kernel_rfl
          case nq24a2 => kernel_rfl
          case yq24a2 => rintro Wy ⟨h1, h2, h3, h4⟩; go_simp
          case bq24a2 => exact fun _ => rfl
          simp only [Act.put, List.setIfInBounds_toArray, List.set_cons_zero, List.set_cons_succ]
          refine wpP_take (i := 3) (oi := ?oq24a3) (v := .slice s.ab s.nb s.cb) ?gq24a3 (by kernel_rfl) ?fq24a3 (by kernel_rfl) ⟨?nq24a3, ?yq24a3, ?bq24a3⟩ HSa.out ?_
          case gq24a3 => simp only [List.getElem?_toArray, List.getElem?_cons_succ, List.getElem?_cons_zero]; with_reducible rfl
          case fq24a3 => kernel_rfl
          case nq24a3 => kernel_rfl
          case yq24a3 => rintro Wy ⟨h1, h2, h3, h4⟩; have j1 := h1.cell (i := 1) (v := .slice s.ab s.nb s.cb) rfl; go_simp
          case bq24a3 => exact fun _ => rfl
          simp only [Act.put, List.setIfInBounds_toArray, List.set_cons_zero, List.set_cons_succ]
          refine wpP_take (i := 4) (oi := ?oq24a4) (v := .string tx) ?gq24a4 (by kernel_rfl) ?fq24a4 (by kernel_rfl) ⟨?nq24a4, ?yq24a4, ?bq24a4⟩ HSa.out ?_
          case gq24a4 => simp only [List.getElem?_toArray, List.getElem?_cons_succ, List.getElem?_cons_zero]; with_reducible rfl
          case fq24a4 => kernel_rfl
          case nq24a4 => kernel_rfl
          case yq24a4 => rintro Wy ⟨h1, h2, h3, h4⟩; have j2 := HCV.out Wy h2; go_simp
          case bq24a4 => exact fun _ => rfl
          simp only [Act.put, List.setIfInBounds_toArray, List.set_cons_zero, List.set_cons_succ]
          refine wpP_two (i := 1) (j := 5) (by kernel_rfl) ?_ ?_
          · refine opP_append (o := ?_) ?_ ?_ (fun k => w3.heap.size ≤ k) (.const (.slice none 0 0)) (.tmp 148) 39 ?_ 9 1 16 (.string ⟨#[]⟩) Tryd.underlying39 infoTxt rfl (by decide) (.slice none 0 0) 0 ([]) ?_ (Lies.empty _ _ _ _ _) (Aw) bs.length cw (txts bs) ?_ (by rw [txts_length, Nat.mul_one]) HSa.out.2.2.1.source (txts_one _) (by omega) (by decide) ?_
            rotate_left 1
            · simp only [List.getElem?_toArray, List.getElem?_cons_succ, List.getElem?_cons_zero]; with_reducible rfl
            · with_reducible rfl
            · with_reducible rfl
            · kernel_rfl
            · kernel_rfl
            intro v2 W2 hl2 hk2
            rw [Nat.zero_add, List.nil_append] at hl2
            have hb2 : Below w3.drew.heap.size w3.drew W2 := hk2.below (Nat.le_refl _) (fun k hk => (by obtain ⟨_, hsp, _⟩ := hk; exact absurd hsp (spare_nil k)))
            have HSb := Lib.hid (show _ ∧ _ ∧ _ ∧ _ from ⟨HSa.out.1.call hb2, HSa.out.2.1.below hb2, HSa.out.2.2.1.below hb2, HSa.out.2.2.2.call hb2⟩)
            have hl2 := hl2.mono (G := fun k => w3.heap.size ≤ k) (fun k hk => by rcases hk with hk | hk; exact hk; exact hk)
            refine ⟨HSb.out, ?_⟩
            simp only [Act.put, List.setIfInBounds_toArray, List.set_cons_zero, List.set_cons_succ]
            refine wpP_one (i := 5) (by kernel_rfl) ?_
            refine opP_run (x := .slice (some ⟨W2.heap.size, 0, none⟩) 1 1) (w' := W2.alloc (.cells #[.string tx] 9)) rfl rfl (by rfl) (by go_simp) ?_
            have hb3 : Below W2.heap.size W2 (W2.alloc (.cells #[.string tx] 9)) := (Below.refl _ _).alloc (Nat.le_refl _) _
            have HSc := Lib.hid (show _ ∧ _ ∧ _ ∧ _ from ⟨HSb.out.1.call hb3, HSb.out.2.1.below hb3, HSb.out.2.2.1.below hb3, HSb.out.2.2.2.call hb3⟩)
            have hl3 := hl2.below hb3
            have hsrc : Source (W2.alloc (.cells #[.string tx] 9)) (some ⟨W2.heap.size, 0, none⟩) 1 [.string tx] := .inr ⟨_, rfl, World.news_of_block (heap_alloc_new _ _)⟩
            refine ⟨HSc.out, ?_⟩
            simp only [Act.put, List.setIfInBounds_toArray]
            generalize W2.alloc (.cells #[.string tx] 9) = W3 at *
            generalize W2.heap.size = h9 at *
            refine wpP_one (i := 6) (by kernel_rfl) ?_
            refine opP_append (o := ?_) ?_ ?_ (fun k => w3.heap.size ≤ k) (.tmp 149) (.tmp 153) 39 ?_ 9 1 16 (.string ⟨#[]⟩) Tryd.underlying39 infoTxt rfl (by decide) (v2) bs.length (txts bs) ?_ hl3 (some ⟨h9, 0, none⟩) 1 1 ([.string tx]) ?_ rfl hsrc (by intro u hu; simp at hu; subst hu; rfl) (by omega) (by decide) ?_
            rotate_left 1
            · simp only [List.getElem?_toArray, List.getElem?_cons_succ, List.getElem?_cons_zero]; with_reducible rfl
            · with_reducible rfl
            · with_reducible rfl
            · kernel_rfl
            · kernel_rfl
            intro v4 W4 hl4 hk4
            have hb4 : Below w3.heap.size W3 W4 := hk4.below (HSc.out.2.2.2.size) (fun k hk => hk.1)
            obtain ⟨A4, c4, rfl, hc4, hm4⟩ := hl4.form
            have hLF : Lies W4 (fun k => w3.heap.size ≤ k ∧ k < W4.heap.size) 9 1 (.slice A4 (bs.length + 1) c4) (bs.length + 1) (txts (bs ++ [s.bytes])) := by rw [txts_snoc, ← HTX.out]; exact hl4.there.mono (fun k hk => ⟨by rcases hk.1 with h | h; exact h; exact Nat.le_trans HSc.out.2.2.2.size h, hk.2⟩)
            have HSd := Lib.hid (show _ ∧ _ ∧ _ ∧ _ from ⟨HSc.out.1.below hb4 HTB24.out, HB3.out.below (HSc.out.2.2.2.trans hb4), HH3.out.below (HSc.out.2.2.2.trans hb4), HSc.out.2.2.2.trans hb4⟩)
            refine ⟨HSd.out, ?_⟩
            simp only [Act.put]
            refine wpP_one (i := 7) (by kernel_rfl) ?_
            refine opP_run (x := .slice A4 (bs.length + 1) c4) (w' := W4) rfl rfl (by rfl) (by go_simp) ⟨HSd.out, ?_⟩
            simp only [Act.put]
            refine wpP_done (by kernel_rfl) ?_
            exact ⟨(v2, .slice (some ⟨h9, 0, none⟩) 1 1, A4, c4), by kernel_rfl, hLF, HSd.out.2.2.2⟩
          · refine opP_run (x := .slice (some ⟨w3.drew.heap.size, 0, none⟩) 1 1) (w' := w3.drew.alloc (.cells #[.string tx] 9)) rfl rfl (by rfl) (by go_simp) ?_
            have hb2 : Below w3.drew.heap.size w3.drew (w3.drew.alloc (.cells #[.string tx] 9)) := (Below.refl _ _).alloc (Nat.le_refl _) _
            have HSb := Lib.hid (show _ ∧ _ ∧ _ ∧ _ from ⟨HSa.out.1.call hb2, HSa.out.2.1.below hb2, HSa.out.2.2.1.below hb2, HSa.out.2.2.2.call hb2⟩)
            have hrow : Row (w3.drew.alloc (.cells #[.string tx] 9)) w3.drew.heap.size 9 #[.string tx] := Row.new _ _ _
            refine ⟨HSb.out, ?_⟩
            simp only [Act.put, List.setIfInBounds_toArray]
            obtain ⟨W2, hW2⟩ : ∃ W2, W2 = w3.drew.alloc (.cells #[.string tx] 9) := ⟨_, rfl⟩
            rw [← hW2] at HSb hrow hb2 ⊢
            refine wpP_one (i := 1) (by kernel_rfl) ?_
            refine opP_append (o := ?_) ?_ ?_ (fun k => w3.heap.size + 1 ≤ k) (.const (.slice none 0 0)) (.tmp 148) 39 ?_ 9 1 16 (.string ⟨#[]⟩) Tryd.underlying39 infoTxt rfl (by decide) (.slice none 0 0) 0 ([]) ?_ (Lies.empty _ _ _ _ _) (Aw) bs.length cw (txts bs) ?_ (by rw [txts_length, Nat.mul_one]) HSb.out.2.2.1.source (txts_one _) (by omega) (by decide) ?_
            rotate_left 1
            · simp only [List.getElem?_toArray, List.getElem?_cons_succ, List.getElem?_cons_zero]; with_reducible rfl
            · with_reducible rfl
            · with_reducible rfl
            · kernel_rfl
            · kernel_rfl
            intro v2 W3 hl2 hk2
            rw [Nat.zero_add, List.nil_append] at hl2
            have hb3 : Below W2.heap.size W2 W3 := hk2.below (Nat.le_refl _) (fun k hk => (by obtain ⟨_, hsp, _⟩ := hk; exact absurd hsp (spare_nil k)))
            have HSc := Lib.hid (show _ ∧ _ ∧ _ ∧ _ from ⟨HSb.out.1.call hb3, HSb.out.2.1.below hb3, HSb.out.2.2.1.below hb3, HSb.out.2.2.2.call hb3⟩)
            have hl3 := hl2.mono (G := fun k => w3.heap.size ≤ k) (fun k hk => by rcases hk with hk | hk; exact Nat.le_of_succ_le hk; have := hb2.size; exact Nat.le_trans this hk)
            have hsrc : Source W3 (some ⟨w3.drew.heap.size, 0, none⟩) 1 [.string tx] := .inr ⟨_, rfl, World.news_of_block (hrow.call hb3)⟩
            refine ⟨HSc.out, ?_⟩
            simp only [Act.put]
            generalize w3.drew.heap.size = h9 at *
            refine wpP_one (i := 6) (by kernel_rfl) ?_
            refine opP_append (o := ?_) ?_ ?_ (fun k => w3.heap.size ≤ k) (.tmp 149) (.tmp 153) 39 ?_ 9 1 16 (.string ⟨#[]⟩) Tryd.underlying39 infoTxt rfl (by decide) (v2) bs.length (txts bs) ?_ hl3 (some ⟨h9, 0, none⟩) 1 1 ([.string tx]) ?_ rfl hsrc (by intro u hu; simp at hu; subst hu; rfl) (by omega) (by decide) ?_
            rotate_left 1
            · simp only [List.getElem?_toArray, List.getElem?_cons_succ, List.getElem?_cons_zero]; with_reducible rfl
            · with_reducible rfl
            · with_reducible rfl
            · kernel_rfl
            · kernel_rfl
            intro v4 W4 hl4 hk4
            have hb4 : Below w3.heap.size W3 W4 := hk4.below (HSc.out.2.2.2.size) (fun k hk => hk.1)
            obtain ⟨A4, c4, rfl, hc4, hm4⟩ := hl4.form
            have hLF : Lies W4 (fun k => w3.heap.size ≤ k ∧ k < W4.heap.size) 9 1 (.slice A4 (bs.length + 1) c4) (bs.length + 1) (txts (bs ++ [s.bytes])) := by rw [txts_snoc, ← HTX.out]; exact hl4.there.mono (fun k hk => ⟨by rcases hk.1 with h | h; exact h; exact Nat.le_trans HSc.out.2.2.2.size h, hk.2⟩)
            have HSd := Lib.hid (show _ ∧ _ ∧ _ ∧ _ from ⟨HSc.out.1.below hb4 HTB24.out, HB3.out.below (HSc.out.2.2.2.trans hb4), HH3.out.below (HSc.out.2.2.2.trans hb4), HSc.out.2.2.2.trans hb4⟩)
            refine ⟨HSd.out, ?_⟩
            simp only [Act.put]
            refine wpP_one (i := 7) (by kernel_rfl) ?_
            refine opP_run (x := .slice A4 (bs.length + 1) c4) (w' := W4) rfl rfl (by rfl) (by go_simp) ⟨HSd.out, ?_⟩
            simp only [Act.put]
            refine wpP_done (by kernel_rfl) ?_
            exact ⟨(v2, .slice (some ⟨h9, 0, none⟩) 1 1, A4, c4), by kernel_rfl, hLF, HSd.out.2.2.2⟩
        case aft24 =>
          rintro ⟨v2, v3, A4, c4⟩ w4 ⟨hl4, hb4⟩
          simp only [puts, List.foldl, Act.put, List.setIfInBounds_toArray, List.set_cons_zero, List.set_cons_succ]
          have hln : (bs ++ [s.bytes]).length = bs.length + 1 := by simp
          have HP4 := Lib.hid (HP3.out.want hb4 (ws' := bs ++ [s.bytes]) (A' := A4) (c' := c4) (by rw [hln]; exact hl4))
          have HST := Lib.hid HP4.out.state
          rw [hln] at HST
          have HS1 : Hid (∀ b ∈ bs ++ [s.bytes], Small b) := Lib.hid (by intro b hb; rcases List.mem_append.1 hb with hb | hb; exact HSM.out b hb; obtain rfl := List.mem_singleton.1 hb; exact HB0.out.2.1)
          have HLN := Lib.hid hln
          clear hl4 hb4 HSa hd24 HRT3 kT1 hln
          go_wp2_with fail
          refine HST.out.mono ?_
          rintro e w5 ⟨⟨rm, rfl⟩, hp5⟩
          have HP5 := Lib.hid hp5.done
          clear HP3 HP4 HST hp5
          go_wp2_with fail
          refine frS_end (K := K) (.pointer (some ⟨w.heap.size, 0, none⟩)) (.pointer (some ⟨dp, 0, none⟩)) (.slice A4 (bs.length + 1) c4) iv (.pointer (some ⟨yb, 0, none⟩)) (.pointer (some ⟨p, 0, none⟩)) (.slice A4 (bs.length + 1) c4) (.bool false) (.int .i64 ((k : Int) + 1)) ?_ ?_
          · kernel_rfl
          · have h9 := fun h9 => HK.out h9 (bs ++ [s.bytes]) A4 c4 w5 ⟨R, B, used + costN s.nb, HP5.out, by omega, by omega, HS1.out⟩
            rw [HLN.out] at h9
            exact h9 _
      · have HRT3 := Lib.hid (HRT.out.kept hk3 (fun hn => hn rfl))
        have kT1 := HRT3.out.cell (i := 1) (v := .slice s.ab s.nb s.cb) rfl
        have HP3 := Lib.hid hp3
        have HB3 : Hid (Bytes w3 s.ab s.nb s.bytes) := Lib.hid (HB0.out.below hp3.below)
        have HH3 : Hid (Holds w3 Aw bs.length 1 (txts bs)) := Lib.hid hp3.want
        clear HAP hp3 hk3 HRT kT0
        go_upto_region 27 with fail
        have hmix27 : Tryd.prog.follows .mixedOrders = true := by kernel_rfl
        have hd27 : Below w3.heap.size w3 w3.drew := (Below.refl _ _).drew
        have HSa : Hid (Row w3.drew tb 44 #[.int .i64 s.kind, .slice s.ab s.nb s.cb, .slice s.af s.nf s.cf] ∧ Bytes w3.drew s.ab s.nb s.bytes ∧ Holds w3.drew Aw bs.length 1 (txts bs) ∧ Below w3.heap.size w3 w3.drew) := Lib.hid ⟨HRT3.out.call hd27, HB3.out.below hd27, HH3.out.below hd27, hd27⟩
        have HTB27 : Hid (tb < w3.heap.size) := Lib.hid HRT3.out.lt
        refine (wpIn_wide (n := 0)).1 ?_
        refine wpIn_toE (fun b : Value × Value × Option Addr × Nat => [(158, .slice Aw bs.length cw), (159, b.1), (160, .pointer (some ⟨tb, 1, none⟩)), (161, .slice s.ab s.nb s.cb), (162, .string tx), (163, b.2.1), (164, .slice b.2.2.1 (bs.length + 1) b.2.2.2), (10, .slice b.2.2.1 (bs.length + 1) b.2.2.2)])
          (fun b w' => Lies w' (fun k => w3.heap.size ≤ k ∧ k < w'.heap.size) 9 1 (.slice b.2.2.1 (bs.length + 1) b.2.2.2) (bs.length + 1) (txts (bs ++ [s.bytes])) ∧ Below w3.heap.size w3 w') ?reg27 ?aft27
        case reg27 =>
          refine wpIn_region_held (S := fun Wy => Row Wy tb 44 #[.int .i64 s.kind, .slice s.ab s.nb s.cb, .slice s.af s.nf s.cf] ∧ Bytes Wy s.ab s.nb s.bytes ∧ Holds Wy Aw bs.length 1 (txts bs) ∧ Below w3.heap.size w3 Wy) hmix27 (by kernel_rfl) ?_
          refine wpP_take (i := 0) (oi := ?oq27a0) (v := .slice Aw bs.length cw) ?gq27a0 (by kernel_rfl) ?fq27a0 (by kernel_rfl) ⟨?nq27a0, ?yq27a0, ?bq27a0⟩ HSa.out ?_
          case gq27a0 => simp only [List.getElem?_toArray, List.getElem?_cons_zero]; with_reducible rfl
          case fq27a0 => kernel_rfl
          case nq27a0 => kernel_rfl
          case yq27a0 => rintro Wy ⟨h1, h2, h3, h4⟩; go_simp
          case bq27a0 => exact fun _ => rfl
          simp only [Act.put, List.setIfInBounds_toArray, List.set_cons_zero, List.set_cons_succ]
          refine wpP_take (i := 2) (oi := ?oq27a2) (v := .pointer (some ⟨tb, 1, none⟩)) ?gq27a2 (by kernel_rfl) ?fq27a2 (by kernel_rfl) ⟨?nq27a2, ?yq27a2, ?bq27a2⟩ HSa.out ?_
          case gq27a2 => simp only [List.getElem?_toArray, List.getElem?_cons_succ, List.getElem?_cons_zero]; with_reducible rfl
          case fq27a2 => kernel_rfl
          case nq27a2 => kernel_rfl
          case yq27a2 => rintro Wy ⟨h1, h2, h3, h4⟩; go_simp
          case bq27a2 => exact fun _ => rfl
          simp only [Act.put, List.setIfInBounds_toArray, List.set_cons_zero, List.set_cons_succ]
          refine wpP_take (i := 3) (oi := ?oq27a3) (v := .slice s.ab s.nb s.cb) ?gq27a3 (by kernel_rfl) ?fq27a3 (by kernel_rfl) ⟨?nq27a3, ?yq27a3, ?bq27a3⟩ HSa.out ?_
          case gq27a3 => simp only [List.getElem?_toArray, List.getElem?_cons_succ, List.getElem?_cons_zero]; with_reducible rfl
          case fq27a3 => kernel_rfl
          case nq27a3 => kernel_rfl
          case yq27a3 => rintro Wy ⟨h1, h2, h3, h4⟩; have j1 := h1.cell (i := 1) (v := .slice s.ab s.nb s.cb) rfl; go_simp
          case bq27a3 => exact fun _ => rfl
          simp only [Act.put, List.setIfInBounds_toArray, List.set_cons_zero, List.set_cons_succ]
          refine wpP_take (i := 4) (oi := ?oq27a4) (v := .string tx) ?gq27a4 (by kernel_rfl) ?fq27a4 (by kernel_rfl) ⟨?nq27a4, ?yq27a4, ?bq27a4⟩ HSa.out ?_
          case gq27a4 => simp only [List.getElem?_toArray, List.getElem?_cons_succ, List.getElem?_cons_zero]; with_reducible rfl
          case fq27a4 => kernel_rfl
          case nq27a4 => kernel_rfl
          case yq27a4 => rintro Wy ⟨h1, h2, h3, h4⟩; have j2 := HCV.out Wy h2; go_simp
          case bq27a4 => exact fun _ => rfl
          simp only [Act.put, List.setIfInBounds_toArray, List.set_cons_zero, List.set_cons_succ]
          refine wpP_two (i := 1) (j := 5) (by kernel_rfl) ?_ ?_
          · refine opP_append (o := ?_) ?_ ?_ (fun k => w3.heap.size ≤ k) (.const (.slice none 0 0)) (.tmp 158) 39 ?_ 9 1 16 (.string ⟨#[]⟩) Tryd.underlying39 infoTxt rfl (by decide) (.slice none 0 0) 0 ([]) ?_ (Lies.empty _ _ _ _ _) (Aw) bs.length cw (txts bs) ?_ (by rw [txts_length, Nat.mul_one]) HSa.out.2.2.1.source (txts_one _) (by omega) (by decide) ?_
            rotate_left 1
            · simp only [List.getElem?_toArray, List.getElem?_cons_succ, List.getElem?_cons_zero]; with_reducible rfl
            · with_reducible rfl
            · with_reducible rfl
            · kernel_rfl
            · kernel_rfl
            intro v2 W2 hl2 hk2
            rw [Nat.zero_add, List.nil_append] at hl2
            have hb2 : Below w3.drew.heap.size w3.drew W2 := hk2.below (Nat.le_refl _) (fun k hk => (by obtain ⟨_, hsp, _⟩ := hk; exact absurd hsp (spare_nil k)))
            have HSb := Lib.hid (show _ ∧ _ ∧ _ ∧ _ from ⟨HSa.out.1.call hb2, HSa.out.2.1.below hb2, HSa.out.2.2.1.below hb2, HSa.out.2.2.2.call hb2⟩)
            have hl2 := hl2.mono (G := fun k => w3.heap.size ≤ k) (fun k hk => by rcases hk with hk | hk; exact hk; exact hk)
            refine ⟨HSb.out, ?_⟩
            simp only [Act.put, List.setIfInBounds_toArray, List.set_cons_zero, List.set_cons_succ]
            refine wpP_one (i := 5) (by kernel_rfl) ?_
            refine opP_run (x := .slice (some ⟨W2.heap.size, 0, none⟩) 1 1) (w' := W2.alloc (.cells #[.string tx] 9)) rfl rfl (by rfl) (by go_simp) ?_
            have hb3 : Below W2.heap.size W2 (W2.alloc (.cells #[.string tx] 9)) := (Below.refl _ _).alloc (Nat.le_refl _) _
            have HSc := Lib.hid (show _ ∧ _ ∧ _ ∧ _ from ⟨HSb.out.1.call hb3, HSb.out.2.1.below hb3, HSb.out.2.2.1.below hb3, HSb.out.2.2.2.call hb3⟩)
            have hl3 := hl2.below hb3
            have hsrc : Source (W2.alloc (.cells #[.string tx] 9)) (some ⟨W2.heap.size, 0, none⟩) 1 [.string tx] := .inr ⟨_, rfl, World.news_of_block (heap_alloc_new _ _)⟩
            refine ⟨HSc.out, ?_⟩
            simp only [Act.put, List.setIfInBounds_toArray]
            generalize W2.alloc (.cells #[.string tx] 9) = W3 at *
            generalize W2.heap.size = h9 at *
            refine wpP_one (i := 6) (by kernel_rfl) ?_
            refine opP_append (o := ?_) ?_ ?_ (fun k => w3.heap.size ≤ k) (.tmp 159) (.tmp 163) 39 ?_ 9 1 16 (.string ⟨#[]⟩) Tryd.underlying39 infoTxt rfl (by decide) (v2) bs.length (txts bs) ?_ hl3 (some ⟨h9, 0, none⟩) 1 1 ([.string tx]) ?_ rfl hsrc (by intro u hu; simp at hu; subst hu; rfl) (by omega) (by decide) ?_
            rotate_left 1
            · simp only [List.getElem?_toArray, List.getElem?_cons_succ, List.getElem?_cons_zero]; with_reducible rfl
            · with_reducible rfl
            · with_reducible rfl
            · kernel_rfl
            · kernel_rfl
            intro v4 W4 hl4 hk4
            have hb4 : Below w3.heap.size W3 W4 := hk4.below (HSc.out.2.2.2.size) (fun k hk => hk.1)
            obtain ⟨A4, c4, rfl, hc4, hm4⟩ := hl4.form
            have hLF : Lies W4 (fun k => w3.heap.size ≤ k ∧ k < W4.heap.size) 9 1 (.slice A4 (bs.length + 1) c4) (bs.length + 1) (txts (bs ++ [s.bytes])) := by rw [txts_snoc, ← HTX.out]; exact hl4.there.mono (fun k hk => ⟨by rcases hk.1 with h | h; exact h; exact Nat.le_trans HSc.out.2.2.2.size h, hk.2⟩)
            have HSd := Lib.hid (show _ ∧ _ ∧ _ ∧ _ from ⟨HSc.out.1.below hb4 HTB27.out, HB3.out.below (HSc.out.2.2.2.trans hb4), HH3.out.below (HSc.out.2.2.2.trans hb4), HSc.out.2.2.2.trans hb4⟩)
            refine ⟨HSd.out, ?_⟩
            simp only [Act.put]
            refine wpP_one (i := 7) (by kernel_rfl) ?_
            refine opP_run (x := .slice A4 (bs.length + 1) c4) (w' := W4) rfl rfl (by rfl) (by go_simp) ⟨HSd.out, ?_⟩
            simp only [Act.put]
            refine wpP_done (by kernel_rfl) ?_
            exact ⟨(v2, .slice (some ⟨h9, 0, none⟩) 1 1, A4, c4), by kernel_rfl, hLF, HSd.out.2.2.2⟩
          · refine opP_run (x := .slice (some ⟨w3.drew.heap.size, 0, none⟩) 1 1) (w' := w3.drew.alloc (.cells #[.string tx] 9)) rfl rfl (by rfl) (by go_simp) ?_
            have hb2 : Below w3.drew.heap.size w3.drew (w3.drew.alloc (.cells #[.string tx] 9)) := (Below.refl _ _).alloc (Nat.le_refl _) _
            have HSb := Lib.hid (show _ ∧ _ ∧ _ ∧ _ from ⟨HSa.out.1.call hb2, HSa.out.2.1.below hb2, HSa.out.2.2.1.below hb2, HSa.out.2.2.2.call hb2⟩)
            have hrow : Row (w3.drew.alloc (.cells #[.string tx] 9)) w3.drew.heap.size 9 #[.string tx] := Row.new _ _ _
            refine ⟨HSb.out, ?_⟩
            simp only [Act.put, List.setIfInBounds_toArray]
            obtain ⟨W2, hW2⟩ : ∃ W2, W2 = w3.drew.alloc (.cells #[.string tx] 9) := ⟨_, rfl⟩
            rw [← hW2] at HSb hrow hb2 ⊢
            refine wpP_one (i := 1) (by kernel_rfl) ?_
            refine opP_append (o := ?_) ?_ ?_ (fun k => w3.heap.size + 1 ≤ k) (.const (.slice none 0 0)) (.tmp 158) 39 ?_ 9 1 16 (.string ⟨#[]⟩) Tryd.underlying39 infoTxt rfl (by decide) (.slice none 0 0) 0 ([]) ?_ (Lies.empty _ _ _ _ _) (Aw) bs.length cw (txts bs) ?_ (by rw [txts_length, Nat.mul_one]) HSb.out.2.2.1.source (txts_one _) (by omega) (by decide) ?_
            rotate_left 1
            · simp only [List.getElem?_toArray, List.getElem?_cons_succ, List.getElem?_cons_zero]; with_reducible rfl
            · with_reducible rfl
            · with_reducible rfl
            · kernel_rfl
            · kernel_rfl
            intro v2 W3 hl2 hk2
            rw [Nat.zero_add, List.nil_append] at hl2
            have hb3 : Below W2.heap.size W2 W3 := hk2.below (Nat.le_refl _) (fun k hk => (by obtain ⟨_, hsp, _⟩ := hk; exact absurd hsp (spare_nil k)))
            have HSc := Lib.hid (show _ ∧ _ ∧ _ ∧ _ from ⟨HSb.out.1.call hb3, HSb.out.2.1.below hb3, HSb.out.2.2.1.below hb3, HSb.out.2.2.2.call hb3⟩)
            have hl3 := hl2.mono (G := fun k => w3.heap.size ≤ k) (fun k hk => by rcases hk with hk | hk; exact Nat.le_of_succ_le hk; have := hb2.size; exact Nat.le_trans this hk)
            have hsrc : Source W3 (some ⟨w3.drew.heap.size, 0, none⟩) 1 [.string tx] := .inr ⟨_, rfl, World.news_of_block (hrow.call hb3)⟩
            refine ⟨HSc.out, ?_⟩
            simp only [Act.put]
            generalize w3.drew.heap.size = h9 at *
            refine wpP_one (i := 6) (by kernel_rfl) ?_
            refine opP_append (o := ?_) ?_ ?_ (fun k => w3.heap.size ≤ k) (.tmp 159) (.tmp 163) 39 ?_ 9 1 16 (.string ⟨#[]⟩) Tryd.underlying39 infoTxt rfl (by decide) (v2) bs.length (txts bs) ?_ hl3 (some ⟨h9, 0, none⟩) 1 1 ([.string tx]) ?_ rfl hsrc (by intro u hu; simp at hu; subst hu; rfl) (by omega) (by decide) ?_
            rotate_left 1
            · simp only [List.getElem?_toArray, List.getElem?_cons_succ, List.getElem?_cons_zero]; with_reducible rfl
            · with_reducible rfl
            · with_reducible rfl
            · kernel_rfl
            · kernel_rfl
            intro v4 W4 hl4 hk4
            have hb4 : Below w3.heap.size W3 W4 := hk4.below (HSc.out.2.2.2.size) (fun k hk => hk.1)
            obtain ⟨A4, c4, rfl, hc4, hm4⟩ := hl4.form
            have hLF : Lies W4 (fun k => w3.heap.size ≤ k ∧ k < W4.heap.size) 9 1 (.slice A4 (bs.length + 1) c4) (bs.length + 1) (txts (bs ++ [s.bytes])) := by rw [txts_snoc, ← HTX.out]; exact hl4.there.mono (fun k hk => ⟨by rcases hk.1 with h | h; exact h; exact Nat.le_trans HSc.out.2.2.2.size h, hk.2⟩)
            have HSd := Lib.hid (show _ ∧ _ ∧ _ ∧ _ from ⟨HSc.out.1.below hb4 HTB27.out, HB3.out.below (HSc.out.2.2.2.trans hb4), HH3.out.below (HSc.out.2.2.2.trans hb4), HSc.out.2.2.2.trans hb4⟩)
            refine ⟨HSd.out, ?_⟩
            simp only [Act.put]
            refine wpP_one (i := 7) (by kernel_rfl) ?_
            refine opP_run (x := .slice A4 (bs.length + 1) c4) (w' := W4) rfl rfl (by rfl) (by go_simp) ⟨HSd.out, ?_⟩
            simp only [Act.put]
            refine wpP_done (by kernel_rfl) ?_
            exact ⟨(v2, .slice (some ⟨h9, 0, none⟩) 1 1, A4, c4), by kernel_rfl, hLF, HSd.out.2.2.2⟩
        case aft27 =>
          rintro ⟨v2, v3, A4, c4⟩ w4 ⟨hl4, hb4⟩
          simp only [puts, List.foldl, Act.put, List.setIfInBounds_toArray, List.set_cons_zero, List.set_cons_succ]
          have hln : (bs ++ [s.bytes]).length = bs.length + 1 := by simp
          have HP4 := Lib.hid (HP3.out.call hb4)
          have HL4 : Hid (Holds w4 A4 (bs ++ [s.bytes]).length 1 (txts (bs ++ [s.bytes]))) := Lib.hid (by rw [hln]; exact lies_holds hl4)
          have HST := Lib.hid HP4.out.state
          have HS1 : Hid (∀ b ∈ bs ++ [s.bytes], Small b) := Lib.hid (by intro b hb; rcases List.mem_append.1 hb with hb | hb; exact HSM.out b hb; obtain rfl := List.mem_singleton.1 hb; exact HB0.out.2.1)
          have HLN := Lib.hid hln
          clear hl4 hb4 HSa hd27 HRT3 kT1 hln HP3
          go_wp2_with fail
          refine HST.out.mono ?_
          rintro e w5 ⟨⟨rm, rr, rfl⟩, hb5⟩
          have HP5 := Lib.hid (HP4.out.call hb5)
          have HL5 := Lib.hid (HL4.out.below hb5)
          clear HP4 HL4 HST hb5
          go_wp2_with fail
          refine HP5.out.append.mono ?_
          rintro e w6 ⟨rfl, rfl⟩
          go_wp2_with fail
          refine HP5.out.reset.mono ?_
          rintro e w7 ⟨rfl, rfl⟩
          go_wp2_with fail
          refine HP5.out.tells.mono ?_
          rintro e w8 ⟨rfl, hb8⟩
          have HP8 := Lib.hid (HP5.out.call hb8)
          have HL8 := Lib.hid (HL5.out.below hb8)
          clear HP5 HL5 hb8
          go_wp2_with fail
          refine frS_end (K := Q (.exit 2)) (.pointer (some ⟨w.heap.size, 0, none⟩)) (.pointer (some ⟨dp, 0, none⟩)) (.slice Aw bs.length cw) iv (.pointer (some ⟨yb, 0, none⟩)) (.pointer (some ⟨p, 0, none⟩)) (.slice A4 (bs.length + 1) c4) (.bool false) (.int .i64 k) ?_ ?_
          · kernel_rfl
          · have h9 := fun h9 => HE.out h9 bs (bs ++ [s.bytes]) Aw cw A4 c4 false w8 ⟨HP8.out.end_ (fun g hg => by
              rcases hg with hg | hg
              · exact ⟨R, B, used, bs, hg, by omega, by omega, .inl rfl⟩
              · exact ⟨R, B, used + costN s.nb, bs ++ [s.bytes], hg, by omega, by omega, .inr (.inl rfl)⟩) HL8.out, HSM.out, HS1.out, by omega, by rw [HLN.out]; omega⟩
            rw [HLN.out] at h9
            exact h9 _
    · have HAP := Lib.hid (HP1.out.full (A := s.ab) (c := s.cb) (len := s.nb) (by omega))
      clear HP1
      go_wp2_with fail
      refine HAP.out.mono ?_
      rintro e w3 ⟨rfl, hp3, hb3⟩
      have HP3 := Lib.hid hp3.state
      clear HAP hp3 hb3 kT0 kT1 HRT
      go_wp2_with fail
      refine HP3.out.mono ?_
      rintro e w4 ⟨⟨rm, rfl⟩, hp4⟩
      have HP4 := Lib.hid hp4.done
      clear HP3 hp4
      go_wp2_with fail
      refine frS_end (K := K) (.pointer (some ⟨w.heap.size, 0, none⟩)) (.pointer (some ⟨dp, 0, none⟩)) (.slice Aw bs.length cw) iv (.pointer (some ⟨yb, 0, none⟩)) (.pointer (some ⟨p, 0, none⟩)) (.slice Aw bs.length cw) (.bool false) (.int .i64 ((k : Int) + 1)) ?_ ?_
      · kernel_rfl
      · exact HK.out _ bs _ _ _ ⟨R, B, used, HP4.out, by omega, by omega, HSM.out⟩
  · have e1 : (s.kind == 1) = false := by simpa using hkind
    have HR := Lib.hid (HP1.out.reset (by omega))
    clear HP1 HRT
    go_wp2_with fail
    refine HR.out.mono ?_
    rintro e w3 (⟨rfl, hp3⟩ | ⟨rfl, hp3⟩)
    · have HST := Lib.hid hp3.state
      clear HR hp3 kT0 kT1
      go_wp2_with fail
      refine HST.out.mono ?_
      rintro e w5 ⟨⟨rm, rfl⟩, hp5⟩
      have HP5 := Lib.hid hp5
      clear HST hp5
      go_wp2_with fail
      refine frS_end (K := K) (.pointer (some ⟨w.heap.size, 0, none⟩)) (.pointer (some ⟨dp, 0, none⟩)) (.slice none 0 0) iv (.pointer (some ⟨yb, 0, none⟩)) (.pointer (some ⟨p, 0, none⟩)) (.slice none 0 0) (.bool false) (.int .i64 ((k : Int) + 1)) ?_ ?_
      · kernel_rfl
      · exact HK.out _ [] _ _ _ ⟨R + 1, R + 1, 0, HP5.out, by omega, by omega, fun b hb => (List.not_mem_nil hb).elim⟩
    · have HP3 := Lib.hid hp3
      have HST := Lib.hid hp3.state
      clear HR hp3 kT0 kT1
      go_wp2_with fail
      refine HST.out.mono ?_
      rintro e w5 ⟨⟨rm, rr, rfl⟩, hb5⟩
      have HP5 := Lib.hid (HP3.out.call hb5)
      clear HP3 HST hb5
      go_wp2_with fail
      refine HP5.out.append.mono ?_
      rintro e w6 ⟨rfl, rfl⟩
      go_wp2_with fail
      refine HP5.out.reset.mono ?_
      rintro e w7 ⟨rfl, rfl⟩
      go_wp2_with fail
      refine HP5.out.tells.mono ?_
      rintro e w8 ⟨rfl, hb8⟩
      have HP8 := Lib.hid (HP5.out.call hb8)
      clear HP5 hb8
      go_wp2_with fail
      refine frS_end (K := Q (.exit 2)) (.pointer (some ⟨w.heap.size, 0, none⟩)) (.pointer (some ⟨dp, 0, none⟩)) (.slice Aw bs.length cw) iv (.pointer (some ⟨yb, 0, none⟩)) (.pointer (some ⟨p, 0, none⟩)) (.slice Aw bs.length cw) (.bool true) (.int .i64 k) ?_ ?_
      · kernel_rfl
      · exact HE.out _ bs bs Aw cw Aw cw true w8 ⟨HP8.out.end_ (fun g hg => by
          rcases hg with hg | hg
          · exact ⟨R, B, used, bs, hg, by omega, by omega, .inl rfl⟩
          · exact ⟨R + 1, R + 1, 0, [], hg, by omega, by omega, .inr (.inr ⟨rfl, rfl⟩)⟩) HP8.out.want, HSM.out, HSM.out, by omega, by omega⟩
end Go.Proofs.YtljlkmmeedlaiaaDoor
/- The law WalCrash: lives, one after another. -/
namespace Go.Proofs.YtljlkmmeedlaiaaDoor
open Go.RowKit

noncomputable def lifeCode : Code := (Tryd.f4.body.bind (roundOf 0)).getD .skip
noncomputable def livesCode : Code := (Tryd.f4.body.bind (blockOf 0)).getD .skip
noncomputable def copyCode : Code := (Tryd.f4.body.bind (blockOf 4)).getD .skip
theorem lives_is : livesCode = Code.block 0 (Code.loop lifeCode) := by kernel_rfl
set_option maxRecDepth 1000000 in
def frO (h : Nat → Value) (xv dv wv iv : Value) : List Value := [h 0, xv, h 2, dv, h 4, wv, iv, h 7, h 8, h 9, h 10, h 11, h 12, h 13, h 14, h 15, h 16, h 17, h 18, h 19, h 20, h 21, h 22, h 23, h 24, h 25, h 26, h 27, h 28, h 29, h 30, h 31, h 32, h 33, h 34, h 35, h 36, h 37, h 38, h 39, h 40, h 41, h 42, h 43, h 44, h 45, h 46, h 47, h 48, h 49, h 50, h 51, h 52, h 53, h 54, h 55, h 56, h 57, h 58, h 59, h 60, h 61, h 62, h 63, h 64, h 65, h 66, h 67, h 68, h 69, h 70, h 71, h 72, h 73, h 74, h 75, h 76, h 77, h 78, h 79, h 80, h 81, h 82, h 83, h 84, h 85, h 86, h 87, h 88, h 89, h 90, h 91, h 92, h 93, h 94, h 95, h 96, h 97, h 98, h 99, h 100, h 101, h 102, h 103, h 104, h 105, h 106, h 107, h 108, h 109, h 110, h 111, h 112, h 113, h 114, h 115, h 116, h 117, h 118, h 119, h 120, h 121, h 122, h 123, h 124, h 125, h 126, h 127, h 128, h 129, h 130, h 131, h 132, h 133, h 134, h 135, h 136, h 137, h 138, h 139, h 140, h 141, h 142, h 143, h 144, h 145, h 146, h 147, h 148, h 149, h 150, h 151, h 152, h 153, h 154, h 155, h 156, h 157, h 158, h 159, h 160, h 161, h 162, h 163, h 164, h 165, h 166, h 167, h 168, h 169, h 170, h 171, h 172, h 173, h 174, h 175, h 176, h 177, h 178, h 179, h 180, h 181, h 182, h 183, h 184, h 185, h 186, h 187, h 188, h 189, h 190, h 191, h 192, h 193, h 194, h 195, h 196, h 197, h 198, h 199, h 200, h 201, h 202, h 203, h 204, h 205, h 206, h 207, h 208, h 209, h 210, h 211, h 212, h 213, h 214, h 215, h 216, h 217, h 218, h 219, h 220, h 221, h 222, h 223, h 224, h 225, h 226, h 227, h 228, h 229, h 230, h 231, h 232, h 233, h 234, h 235, h 236, h 237, h 238, h 239, h 240, h 241, h 242, h 243, h 244, h 245, h 246, h 247, h 248, h 249, h 250, h 251, h 252]
set_option maxRecDepth 1000000 in
def frR (h : Nat → Value) (rv : Value) : List Value := [h 0, h 1, rv, h 3, h 4, h 5, h 6, h 7, h 8, h 9, h 10, h 11, h 12, h 13, h 14, h 15, h 16, h 17, h 18, h 19, h 20, h 21, h 22, h 23, h 24, h 25, h 26, h 27, h 28, h 29, h 30, h 31, h 32, h 33, h 34, h 35, h 36, h 37, h 38, h 39, h 40, h 41, h 42, h 43, h 44, h 45, h 46, h 47, h 48, h 49, h 50, h 51, h 52, h 53, h 54, h 55, h 56, h 57, h 58, h 59, h 60, h 61, h 62, h 63, h 64, h 65, h 66, h 67, h 68, h 69, h 70, h 71, h 72, h 73, h 74, h 75, h 76, h 77, h 78, h 79, h 80, h 81, h 82, h 83, h 84, h 85, h 86, h 87, h 88, h 89, h 90, h 91, h 92, h 93, h 94, h 95, h 96, h 97, h 98, h 99, h 100, h 101, h 102, h 103, h 104, h 105, h 106, h 107, h 108, h 109, h 110, h 111, h 112, h 113, h 114, h 115, h 116, h 117, h 118, h 119, h 120, h 121, h 122, h 123, h 124, h 125, h 126, h 127, h 128, h 129, h 130, h 131, h 132, h 133, h 134, h 135, h 136, h 137, h 138, h 139, h 140, h 141, h 142, h 143, h 144, h 145, h 146, h 147, h 148, h 149, h 150, h 151, h 152, h 153, h 154, h 155, h 156, h 157, h 158, h 159, h 160, h 161, h 162, h 163, h 164, h 165, h 166, h 167, h 168, h 169, h 170, h 171, h 172, h 173, h 174, h 175, h 176, h 177, h 178, h 179, h 180, h 181, h 182, h 183, h 184, h 185, h 186, h 187, h 188, h 189, h 190, h 191, h 192, h 193, h 194, h 195, h 196, h 197, h 198, h 199, h 200, h 201, h 202, h 203, h 204, h 205, h 206, h 207, h 208, h 209, h 210, h 211, h 212, h 213, h 214, h 215, h 216, h 217, h 218, h 219, h 220, h 221, h 222, h 223, h 224, h 225, h 226, h 227, h 228, h 229, h 230, h 231, h 232, h 233, h 234, h 235, h 236, h 237, h 238, h 239, h 240, h 241, h 242, h 243, h 244, h 245, h 246, h 247, h 248, h 249, h 250, h 251, h 252]
set_option maxRecDepth 1000000 in
def frC (h : Nat → Value) (xv dv wv iv ov nv kv : Value) : List Value := [h 0, xv, h 2, dv, h 4, wv, iv, h 7, h 8, h 9, h 10, h 11, h 12, h 13, h 14, h 15, h 16, h 17, h 18, h 19, ov, h 21, nv, h 23, kv, h 25, h 26, h 27, h 28, h 29, h 30, h 31, h 32, h 33, h 34, h 35, h 36, h 37, h 38, h 39, h 40, h 41, h 42, h 43, h 44, h 45, h 46, h 47, h 48, h 49, h 50, h 51, h 52, h 53, h 54, h 55, h 56, h 57, h 58, h 59, h 60, h 61, h 62, h 63, h 64, h 65, h 66, h 67, h 68, h 69, h 70, h 71, h 72, h 73, h 74, h 75, h 76, h 77, h 78, h 79, h 80, h 81, h 82, h 83, h 84, h 85, h 86, h 87, h 88, h 89, h 90, h 91, h 92, h 93, h 94, h 95, h 96, h 97, h 98, h 99, h 100, h 101, h 102, h 103, h 104, h 105, h 106, h 107, h 108, h 109, h 110, h 111, h 112, h 113, h 114, h 115, h 116, h 117, h 118, h 119, h 120, h 121, h 122, h 123, h 124, h 125, h 126, h 127, h 128, h 129, h 130, h 131, h 132, h 133, h 134, h 135, h 136, h 137, h 138, h 139, h 140, h 141, h 142, h 143, h 144, h 145, h 146, h 147, h 148, h 149, h 150, h 151, h 152, h 153, h 154, h 155, h 156, h 157, h 158, h 159, h 160, h 161, h 162, h 163, h 164, h 165, h 166, h 167, h 168, h 169, h 170, h 171, h 172, h 173, h 174, h 175, h 176, h 177, h 178, h 179, h 180, h 181, h 182, h 183, h 184, h 185, h 186, h 187, h 188, h 189, h 190, h 191, h 192, h 193, h 194, h 195, h 196, h 197, h 198, h 199, h 200, h 201, h 202, h 203, h 204, h 205, h 206, h 207, h 208, h 209, h 210, h 211, h 212, h 213, h 214, h 215, h 216, h 217, h 218, h 219, h 220, h 221, h 222, h 223, h 224, h 225, h 226, h 227, h 228, h 229, h 230, h 231, h 232, h 233, h 234, h 235, h 236, h 237, h 238, h 239, h 240, h 241, h 242, h 243, h 244, h 245, h 246, h 247, h 248, h 249, h 250, h 251, h 252]
theorem frO_end {K : Act → World → Prop} {a' : Act} {W' : World} (xv dv wv iv : Value) (e : a' = ⟨(frO (fun k => a'.tmps.getD k undef) xv dv wv iv).toArray, []⟩) (h : K ⟨(frO (fun k => a'.tmps.getD k undef) xv dv wv iv).toArray, []⟩ W') : K a' W' := by
  rw [← e] at h
  exact h
theorem frR_end {K : Act → World → Prop} {a' : Act} {W' : World} (rv : Value) (e : a' = ⟨(frR (fun k => a'.tmps.getD k undef) rv).toArray, []⟩) (h : K ⟨(frR (fun k => a'.tmps.getD k undef) rv).toArray, []⟩ W') : K a' W' := by
  rw [← e] at h
  exact h
theorem frC_end {K : Act → World → Prop} {a' : Act} {W' : World} (xv dv wv iv ov nv kv : Value) (e : a' = ⟨(frC (fun k => a'.tmps.getD k undef) xv dv wv iv ov nv kv).toArray, []⟩) (h : K ⟨(frC (fun k => a'.tmps.getD k undef) xv dv wv iv ov nv kv).toArray, []⟩ W') : K a' W' := by
  rw [← e] at h
  exact h
theorem wp_code {P : Program} {c : Code} {Q : Exit → Act → World → Prop} {a : Act} {w : World} (c' : Code) (e : c = c') (h : c'.wp P Q a w) : c.wp P Q a w := e ▸ h
theorem inBlock_exit {K : Act → World → Prop} {Q : Exit → Act → World → Prop} {i : Nat} {a : Act} {w : World} (h : K a w) : Exit.inBlock i (Exit.then K Q) (.exit i) a w := by
  have h9 : if i = i then Exit.then K Q .normal a w else Exit.then K Q (.exit i) a w := by
    rw [if_pos rfl]
    exact h
  exact h9
theorem wlcs_get (l : List WLife) : ∀ (k j : Nat) (v : Value), k < l.length → (wlifeCells (l.getD k noWLife))[j]? = some v → (wlcs l)[k * 3 + j]? = some v := by
  induction l with
  | nil => intro k j v hk; simp at hk
  | cons s r ih =>
    intro k j v hk hv
    have h1 : wlcs (s :: r) = wlifeCells s ++ wlcs r := rfl
    rw [h1]
    have h6 : (wlifeCells s).length = 3 := rfl
    rcases k with _ | k
    · rw [Nat.zero_mul, Nat.zero_add, List.getElem?_append_left (by have := (List.getElem?_eq_some_iff.1 hv).1; simpa using this)]
      simpa using hv
    · rw [List.getElem?_append_right (by rw [h6]; omega), h6, show (k + 1) * 3 + j - 3 = k * 3 + j by omega]
      exact ih k j v (by simpa using hk) (by simpa using hv)
theorem WLivesOk.cells {w : World} {A : Option Addr} {l : List WLife} (h : WLivesOk w A l) {k : Nat} (hk : k < l.length) :
    ∃ b off, A = some ⟨b, off, none⟩ ∧ b < w.heap.size ∧ ∀ j v, (wlifeCells (l.getD k noWLife))[j]? = some v → w.cell? ⟨b, off + k * 3 + j, none⟩ = some v := by
  obtain ⟨b, off, e, hb, hr⟩ := h.holds.2 (by omega)
  exact ⟨b, off, e, hb, fun j v hv => by have := hr _ _ (wlcs_get l k j v hk hv); rwa [← Nat.add_assoc] at this⟩
theorem take_map_succ (ys : List Bat) {k : Nat} (hk : k < ys.length) : (ys.map (·.l)).take (k + 1) = (ys.map (·.l)).take k ++ [(ys.getD k ⟨none, 0, []⟩).l] := by
  rw [List.take_succ_eq_append_getElem (by rw [List.length_map]; exact hk), List.getElem_map, List.getD_eq_getElem?_getD, List.getElem?_eq_getElem hk]
  rfl
set_option maxRecDepth 1000000 in
set_option maxHeartbeats 20000000 in
/-- What a crash has left is expected from then on. -/
theorem cr_copy (W0 : World) (ys : List Bat) (An : Option Addr) (cn : Nat) (F : Nat → Prop) (ha : Lies W0 F 41 1 (.slice An ys.length cn) ys.length (bvs ys)) (hb : ∀ b ∈ ys, BatOk W0 F b) (hy : ys.length ≤ 1000000)
    (h : Nat → Value) (xv dv iv ov : Value) (K : Act → World → Prop) (Q : Exit → Act → World → Prop)
    (hK : ∀ h' A c kv W', Below W0.heap.size W0 W' → Lies W' (fun q => W0.heap.size ≤ q ∧ q < W'.heap.size) 9 1 (.slice A ys.length c) ys.length (txts (ys.map (·.l))) → K ⟨(frC h' xv dv (.slice A ys.length c) iv ov (.slice An ys.length cn) kv).toArray, []⟩ W') :
    Code.wp Tryd.prog copyCode (Exit.then K Q) ⟨(frC h xv dv (.slice none 0 0) iv ov (.slice An ys.length cn) (.int .i64 0)).toArray, []⟩ W0 := by
  have HK := Lib.hid hK
  have HA := Lib.hid ha
  have HB := Lib.hid hb
  clear hK ha hb
  conv => arg 2; whnf
  dsimp only [frC]
  go_wp2_with fail
  go_loopw [5, 24] (fun v5 v24 wr => ∃ (k : Nat) (A : Option Addr) (c : Nat), k ≤ ys.length ∧ v5 = .slice A k c ∧ v24 = .int .i64 k ∧ Lies wr (fun q => W0.heap.size ≤ q) 9 1 (.slice A k c) k (txts ((ys.map (·.l)).take k)) ∧ Below W0.heap.size W0 wr) (fun _ v24 _ => ys.length - (intOf v24).toNat)
  case atStart => exact ⟨0, none, 0, Nat.zero_le _, rfl, rfl, Lies.empty _ _ _ _ _, Below.refl _ _⟩
  case round =>
    obtain ⟨k, A, c, hk, rfl, rfl, hl, hbw⟩ := hrel
    have HL := Lib.hid hl
    have HBW := Lib.hid hbw
    by_cases hlt : k < ys.length
    · obtain ⟨g, off, cap, hvv, _, hk1, hk2, _, hrng⟩ := (HA.out.below hbw).cells (by omega)
      injection hvv with hA _ hcc
      subst hA
      subst hcc
      have hc1 : wr.cell? ⟨g, off + k, none⟩ = some (ys.getD k ⟨none, 0, []⟩).v := hrng k _ (by simp [bvs, List.getD_eq_getElem?_getD, hlt])
      have hmem : ys.getD k ⟨none, 0, []⟩ ∈ ys := by rw [List.getD_eq_getElem?_getD, List.getElem?_eq_getElem hlt]; exact List.getElem_mem hlt
      have hbk := (HB.out _ hmem).below hbw
      obtain ⟨bA, bc, hbv, hbb, _, _, _⟩ := lies_bytes hbk.lies hbk.small
      have HTK := Lib.hid (take_map_succ ys hlt)
      rw [hbv] at hc1
      have hconv : (convert 41 9 (.slice bA (ys.getD k ⟨none, 0, []⟩).l.length bc)).run Tryd.prog wr = .ok (.string (textOf (ys.getD k ⟨none, 0, []⟩).l)) wr := run_text hbb 41 9 5 bc Tryd.underlying41 Tryd.underlying5 Tryd.underlying9
      have HTX : Hid (Value.string (textOf (ys.getD k ⟨none, 0, []⟩).l) = txt (ys.getD k ⟨none, 0, []⟩).l) := Lib.hid rfl
      clear hrng hmem hbk hbv hbb hl hbw
      generalize (ys.getD k ⟨none, 0, []⟩).l = la at *
      generalize textOf la = tx at *
      go_wp2_with (at_builtin
                   refine wpList_append_any ?_ (fun q => W0.heap.size ≤ q) (.tmp 243) (.tmp 249) 39 ?_ 9 1 16 (.string ⟨#[]⟩) Tryd.underlying39 infoTxt rfl (by decide) (.slice A k c) k (txts ((ys.map (·.l)).take k)) ?_ (HL.out.below ((Below.refl _ _).alloc (Nat.le_refl _) _)) _ 1 1 [.string tx] ?_ rfl (.inr ⟨_, rfl, World.news_of_block (heap_alloc_new _ _)⟩) (by intro u hu; simp at hu; subst hu; rfl) (by omega) (by decide) ?_
                   · with_reducible rfl
                   · with_reducible rfl
                   · rfl
                   · rfl
                   intro v6 w6 hl6 hk6
                   obtain ⟨A6, c6, rfl, _, _⟩ := hl6.form
                   rw [HTX.out, ← txts_snoc, ← HTK.out] at hl6
                   have HB6 := Lib.hid ((HBW.out.alloc HBW.out.size _).trans (hk6.below (Nat.le_trans HBW.out.size (by simp)) fun q hq => hq.1))
                   have HL6 := Lib.hid (hl6.mono (G := fun q => W0.heap.size ≤ q) fun q hq => by
                     rcases hq with hq | hq
                     · exact hq
                     · exact Nat.le_trans (HBW.out.alloc HBW.out.size _).size hq)
                   clear hl6 hk6)
      go_roundw
      case rel => exact ⟨k + 1, A6, c6, by omega, rfl, by go_num, HL6.out, HB6.out⟩
      case measure => simp [intOf]; omega
    · obtain rfl : k = ys.length := by omega
      have hlen : (ys.map (·.l)).take ys.length = ys.map (·.l) := List.take_of_length_le (by rw [List.length_map]; exact Nat.le_refl _)
      rw [hlen] at hl
      have HL9 := Lib.hid hl.there
      clear hl hbw hlen HL
      go_wp2_with fail
      refine frC_end (K := K) xv dv (.slice A ys.length c) iv ov (.slice An ys.length cn) (.int .i64 ys.length) ?_ ?_
      · kernel_rfl
      · exact HK.out _ A c _ wr HBW.out HL9.out
/-- A life's script is played. -/
theorem script_ok (w : World) (bx : Array Value) (yb : Nat) (y : WLife) (sz a n dp p D X : Nat) (iv : Value) (hT : Tab w) (hy : WLifeOk w y) (hsmall : wsmall y.script) (hl50 : y.script.length ≤ 50) (hX : X ≤ 1000)
    (h : Nat → Value) (bs : List (List Nat)) (Aw : Option Addr) (cw : Nat) (W : World) (hI : CrI w bx yb y sz a n dp p D X 0 bs Aw cw W) (K : Act → World → Prop) (Q : Exit → Act → World → Prop)
    (hK : ∀ h' kv ws ns Aw' cw' An' cn' no W', CrO w bx yb y sz a n dp D (X + 50) ws ns Aw' An' no W' → K ⟨(frS h' (.pointer (some ⟨w.heap.size, 0, none⟩)) (.pointer (some ⟨dp, 0, none⟩)) (.slice Aw' ws.length cw') iv (.pointer (some ⟨yb, 0, none⟩)) (.pointer (some ⟨p, 0, none⟩)) (.slice An' ns.length cn') (.bool no) kv).toArray, []⟩ W') :
    Code.wp Tryd.prog scriptCode (Exit.then K Q) ⟨(frS h (.pointer (some ⟨w.heap.size, 0, none⟩)) (.pointer (some ⟨dp, 0, none⟩)) (.slice Aw bs.length cw) iv (.pointer (some ⟨yb, 0, none⟩)) (.pointer (some ⟨p, 0, none⟩)) (.slice Aw bs.length cw) (.bool false) (.int .i64 0)).toArray, []⟩ W := by
  rw [script_is]
  refine wp_block ?_
  refine wp_loop (fun a' W' => ∃ h' k bs' Aw' cw', k ≤ y.script.length ∧ a' = ⟨(frS h' (.pointer (some ⟨w.heap.size, 0, none⟩)) (.pointer (some ⟨dp, 0, none⟩)) (.slice Aw' bs'.length cw') iv (.pointer (some ⟨yb, 0, none⟩)) (.pointer (some ⟨p, 0, none⟩)) (.slice Aw' bs'.length cw') (.bool false) (.int .i64 (k : Nat))).toArray, []⟩ ∧ CrI w bx yb y sz a n dp p D X k bs' Aw' cw' W') (fun a' _ => y.script.length - (intOf (a'.tmps.getD 12 undef)).toNat) ⟨h, 0, bs, Aw, cw, Nat.zero_le _, rfl, hI⟩ ?_
  rintro a' W' ⟨h', k, bs', Aw', cw', hk, rfl, hI'⟩
  refine cr_step w bx yb y sz a n dp p D X iv hT hy hsmall hl50 hX h' k bs' Aw' cw' W' hk hI' _ _ (fun hlt h2 bs2 Aw2 cw2 W2 hI2 => ⟨⟨h2, k + 1, bs2, Aw2, cw2, hlt, rfl, hI2⟩, ?_⟩) (fun h2 ws ns Aw2 cw2 An2 cn2 no W2 hO => ?_)
  · show y.script.length - ((k : Int) + 1).toNat < y.script.length - ((k : Int)).toNat
    omega
  · exact inBlock_exit (hK h2 _ ws ns Aw2 cw2 An2 cn2 no W2 hO)
/-- A life. -/
def BxIs (bx : Array Value) (sz a n : Nat) (A : Option Addr) (m c : Nat) : Prop := bx = #[.int .i64 sz, .int .i64 a, .int .i64 n, .slice A m c]
set_option maxRecDepth 1000000 in
set_option maxHeartbeats 20000000 in
theorem cr_life (w : World) (bx : Array Value) (sz a n : Nat) (A : Option Addr) (c : Nat) (l : List WLife) (hT : Tab w) (hL : WLivesOk w A l) (h6 : l.length ≤ 6) (hfit : a + n ≤ sz) (hbx : BxIs bx sz a n A l.length c)
    (h : Nat → Value) (i dp R B used : Nat) (bs : List (List Nat)) (Aw : Option Addr) (cw : Nat) (W : World) (hi : i ≤ l.length) (hD : CrD w bx sz a n dp R B used bs Aw cw W) (hRB : R ≤ B + i) (hRX : R ≤ 1 + 52 * i) (hsm : ∀ b ∈ bs, Small b) (K : Act → World → Prop) (Q : Exit → Act → World → Prop)
    (hK : i < l.length → ∀ h' dp' R' B' used' bs' Aw' cw' W', CrD w bx sz a n dp' R' B' used' bs' Aw' cw' W' → R' ≤ B' + (i + 1) → R' ≤ 1 + 52 * (i + 1) → (∀ b ∈ bs', Small b) → K ⟨(frO h' (.pointer (some ⟨w.heap.size, 0, none⟩)) (.pointer (some ⟨dp', 0, none⟩)) (.slice Aw' bs'.length cw') (.int .i64 ((i : Int) + 1))).toArray, []⟩ W')
    (hE : i = l.length → ∀ h' W', Below w.heap.size w W' → Q (.exit 0) ⟨(frO h' (.pointer (some ⟨w.heap.size, 0, none⟩)) (.pointer (some ⟨dp, 0, none⟩)) (.slice Aw bs.length cw) (.int .i64 i)).toArray, []⟩ W')
    (hR : ∀ h' W', Below w.heap.size w W' → Q .ret ⟨(frR h' (.bool true)).toArray, []⟩ W') :
    Code.wp Tryd.prog lifeCode (Exit.then K Q) ⟨(frO h (.pointer (some ⟨w.heap.size, 0, none⟩)) (.pointer (some ⟨dp, 0, none⟩)) (.slice Aw bs.length cw) (.int .i64 i)).toArray, []⟩ W := by
  have HE := Lib.hid hE
  have HR := Lib.hid hR
  have HT := Lib.hid hT
  have HSM := Lib.hid hsm
  have HL := Lib.hid hL
  have HD := Lib.hid hD
  clear hE hR hT hsm hL
  unfold BxIs at hbx
  subst hbx
  have x0 := hD.box.cell (i := 0) (v := .int .i64 sz) rfl
  have x1 := hD.box.cell (i := 1) (v := .int .i64 a) rfl
  have x2 := hD.box.cell (i := 2) (v := .int .i64 n) rfl
  have x3 := hD.box.cell (i := 3) (v := .slice A l.length c) rfl
  conv => arg 2; whnf
  dsimp only [frO]
  rcases Nat.lt_or_ge i l.length with hi9 | hi9
  rotate_left 1
  · have HX := Lib.hid (HE.out (by omega))
    obtain rfl : i = l.length := by omega
    clear hD hK HE
    go_wp2_with fail
    refine frO_end (K := Q (.exit 0)) (.pointer (some ⟨w.heap.size, 0, none⟩)) (.pointer (some ⟨dp, 0, none⟩)) (.slice Aw bs.length cw) (.int .i64 l.length) ?_ ?_
    · kernel_rfl
    · exact HX.out _ W HD.out.below
  have HK := Lib.hid (hK hi9)
  clear hK hi HE
  obtain ⟨b0, off, hA, hb0, hcells⟩ := (HL.out.below hD.below).cells hi9
  subst hA
  have hyo := HL.out.get hi9
  generalize l.getD i noWLife = y at *
  have k0 := hcells 0 _ rfl
  have k1 := hcells 1 _ rfl
  have k2 := hcells 2 _ rfl
  rw [Nat.add_zero] at k0
  clear hcells HL
  go_upto_region 9 with fail
  obtain ⟨yb, hyb⟩ : ∃ yb, yb = W.heap.size := ⟨_, rfl⟩
  obtain ⟨W1, hW1⟩ : ∃ W1, W1 = W.alloc (.cells #[.slice y.af y.fates.length y.cf, .slice y.as_ y.script.length y.cs, .slice y.ap y.picks.length y.cp] 59) := ⟨_, rfl⟩
  have hb1 : Below W.heap.size W W1 := by rw [hW1]; exact (Below.refl _ _).alloc (Nat.le_refl _) _
  have hrY : Row W1 yb 59 (ycells y) := by rw [hW1, hyb]; exact Row.new _ _ _
  have HB1 := Lib.hid hb1
  have HRY := Lib.hid hrY
  have HYO := Lib.hid hyo
  have HYB := Lib.hid hyb
  rw [← hW1, ← hyb]
  have x0 := (hD.box.call hb1).cell (i := 0) (v := .int .i64 sz) rfl
  have x1 := (hD.box.call hb1).cell (i := 1) (v := .int .i64 a) rfl
  have x2 := (hD.box.call hb1).cell (i := 2) (v := .int .i64 n) rfl
  have y0 := hrY.cell (i := 0) (v := .slice y.af y.fates.length y.cf) rfl
  have y1 := hrY.cell (i := 1) (v := .slice y.as_ y.script.length y.cs) rfl
  have y2 := hrY.cell (i := 2) (v := .slice y.ap y.picks.length y.cp) rfl
  have hcf := hyo.capf
  have hcs := hyo.caps
  have hcp := hyo.capp
  clear hD hW1 hyb hb1 hrY hyo k0 k1 k2 hb0 x3
  go_wp2_with fail
  refine (wvast_ok sz a n y.as_ y.cs y.script _ (HYO.out.script.below (HD.out.call HB1.out).below)).mono ?_
  rintro e W2 ⟨hb2, hv⟩
  have HB2 := Lib.hid (HB1.out.call hb2)
  have HRY2 := Lib.hid (HRY.out.call hb2)
  have HBW := Lib.hid ((HD.out.call HB1.out).below.call hb2)
  clear x0 x1 x2 y0 y1 y2 hb2 HRY HB1
  have x0 := (HD.out.call HB2.out).box.cell (i := 0) (v := .int .i64 sz) rfl
  have x1 := (HD.out.call HB2.out).box.cell (i := 1) (v := .int .i64 a) rfl
  have x2 := (HD.out.call HB2.out).box.cell (i := 2) (v := .int .i64 n) rfl
  have y0 := HRY2.out.cell (i := 0) (v := .slice y.af y.fates.length y.cf) rfl
  have y2 := HRY2.out.cell (i := 2) (v := .slice y.ap y.picks.length y.cp) rfl
  rcases hv with rfl | ⟨rfl, _, hl50, hsmall⟩
  · go_wp2_with fail
    refine (known_ok _).mono ?_
    rintro e W9 ⟨rfl, hb9⟩
    have HF := Lib.hid (HBW.out.trans (hb9.mono HBW.out.size))
    clear hb9
    go_wp2
    refine frR_end (K := Q .ret) (.bool true) ?_ ?_
    · kernel_rfl
    · exact HR.out _ W9 HF.out
  by_cases hf60 : 60 < y.fates.length
  · go_wp2_with fail
    refine (known_ok _).mono ?_
    rintro e W9 ⟨rfl, hb9⟩
    have HF := Lib.hid (HBW.out.trans (hb9.mono HBW.out.size))
    clear hb9
    go_wp2
    refine frR_end (K := Q .ret) (.bool true) ?_ ?_
    · kernel_rfl
    · exact HR.out _ W9 HF.out
  by_cases hp200 : 200 < y.picks.length
  · go_wp2_with fail
    refine (known_ok _).mono ?_
    rintro e W9 ⟨rfl, hb9⟩
    have HF := Lib.hid (HBW.out.trans (hb9.mono HBW.out.size))
    clear hb9
    go_wp2
    refine frR_end (K := Q .ret) (.bool true) ?_ ?_
    · kernel_rfl
    · exact HR.out _ W9 HF.out
  rcases hkb : kindsB y.fates with _ | _
  · have hkr : kindsB y.fates = false := hkb
    have HRT := Lib.hid (right_ok y.af y.cf y.fates W2 (HYO.out.fates.below HBW.out) hcf.1 hcf.2)
    rw [hkr] at HRT
    go_wp2_with fail
    refine HRT.out.mono ?_
    rintro e W3 ⟨rfl, rfl⟩
    go_wp2_with fail
    refine (known_ok _).mono ?_
    rintro e W9 ⟨rfl, hb9⟩
    have HF := Lib.hid (HBW.out.trans (hb9.mono HBW.out.size))
    clear hb9
    go_wp2
    refine frR_end (K := Q .ret) (.bool true) ?_ ?_
    · kernel_rfl
    · exact HR.out _ W9 HF.out
  have HSL := Lib.hid hsmall
  have HKB := Lib.hid hkb
  have hkr : kindsB y.fates = true := hkb
  have HRT := Lib.hid (right_ok y.af y.cf y.fates W2 (HYO.out.fates.below HBW.out) hcf.1 hcf.2)
  rw [hkr] at HRT
  go_wp2_with fail
  refine HRT.out.mono ?_
  rintro e W3 ⟨rfl, rfl⟩
  clear HRT hkr hkb hsmall
  have HO := Lib.hid (HD.out.open_ HB2.out HRY2.out (Nat.le_of_eq HYB.out.symm) hfit (by omega) (by omega))
  go_wp2_with fail
  refine HO.out.mono ?_
  rintro e W4 ⟨p, rfl, hs4⟩
  have HS4 := Lib.hid hs4
  clear HO hs4 x0 x1 x2 y0 y2 HD HRY2 HB2
  go_wp2_with fail
  refine HS4.out.tells.mono ?_
  rintro e W5 ⟨rfl, hs5⟩
  have HS5 := Lib.hid hs5
  clear HS4
  have y0 := hs5.life.cell (i := 0) (v := .slice y.af y.fates.length y.cf) rfl
  clear hs5
  have HFD := Lib.hid (HS5.out.feed (c := y.cf) (HYO.out.fates.below HS5.out.below) (by omega) HKB.out)
  go_wp2_with fail
  refine HFD.out.mono ?_
  rintro e W6 ⟨rfl, hs6⟩
  have HS6 := Lib.hid hs6
  clear HFD HS5 hs6 y0
  go_upto_region 17 with fail
  rename_i K0 hK0
  have HK0 := Lib.hid hK0
  clear hK0
  go_wp2_with fail
  refine HK0.out _ _ ?_
  clear HK0
  refine wp_code scriptCode (by kernel_rfl) ?_
  refine frS_end (K := fun a9 W9 => Code.wp Tryd.prog scriptCode _ a9 W9) (.pointer (some ⟨w.heap.size, 0, none⟩)) (.pointer (some ⟨dp, 0, none⟩)) (.slice Aw bs.length cw) (.int .i64 i) (.pointer (some ⟨yb, 0, none⟩)) (.pointer (some ⟨p, 0, none⟩)) (.slice Aw bs.length cw) (.bool false) (.int .i64 0) (by kernel_rfl) ?_
  refine script_ok w _ yb y sz a n dp p (i + 1) (2 + 52 * i) (.int .i64 i) HT.out HYO.out HSL.out hl50 (by omega) _ bs Aw cw W6 ⟨R + 1, B, used, HS6.out, by omega, by omega, HSM.out⟩ _ _ ?_
  intro h' kv ws ns Aw1 cw1 An1 cn1 no W7 hO
  clear HS6 HSM
  dsimp only [frS]
  obtain ⟨hE7, hs1, hs2, hn1, hn2⟩ := hO
  have y2 := hE7.life.cell (i := 2) (v := .slice y.ap y.picks.length y.cp) rfl
  have HE7 := Lib.hid hE7
  have HN1 := Lib.hid hs1
  have HN2 := Lib.hid hs2
  clear hE7 hs1 hs2
  have HCR := Lib.hid (HE7.out.crash (c := y.cp) (HYO.out.picks.below HE7.out.below) hcp HYO.out.wf)
  go_wp2_with fail
  refine HCR.out.mono ?_
  rintro e W8 ⟨v, x, rfl, hb8, hx⟩
  have HW8 := Lib.hid (HE7.out.below.call hb8)
  have HE8 := Lib.hid (HE7.out.call hb8)
  have HLT : Hid (w.heap.size < W7.heap.size) := Lib.hid HE7.out.box.lt
  clear HCR y2 hb8 HE7
  rcases hx with rfl | ⟨rfl, p8, g, rfl, hP8, hd8⟩
  · go_wp2_with fail
    refine (known_ok _).mono ?_
    rintro e W9 ⟨rfl, hb9⟩
    have HF := Lib.hid (HW8.out.trans (hb9.mono HW8.out.size))
    clear hb9
    go_wp2
    refine frR_end (K := Q .ret) (.bool true) ?_ ?_
    · kernel_rfl
    · exact HR.out _ W9 HF.out
  obtain ⟨R8, B8, used8, bs8, hs8, hD8, hX8, hor⟩ := hP8
  have hsec8 : ∀ b ∈ bs8, b.length ≤ 140737488355328 := hs8.count.2
  have x1 := HE8.out.box.cell (i := 1) (v := .int .i64 a) rfl
  have x2 := HE8.out.box.cell (i := 2) (v := .int .i64 n) rfl
  have HD8 := Lib.hid hd8
  have HS8 := Lib.hid hs8
  have HLK := Lib.hid (ds_look hd8 hs8 hfit)
  clear hd8 hs8 hsec8
  go_wp2_with fail
  refine HLK.out.mono ?_
  rintro e W9 ⟨v9, ys, rfl, hys, hly, hby, hb9⟩
  obtain ⟨Ay, cy, rfl, _, _⟩ := hly.form
  have HE9 := Lib.hid (HE8.out.call hb9)
  have HD9 := Lib.hid (HD8.out.call hb9)
  have HLY := Lib.hid hly
  have HBY := Lib.hid hby
  have hyl : ys.length ≤ 1000000 := by have h1 := HS8.out.count.1; rw [← hys, List.length_map] at h1; exact h1
  have HSA : Hid (∀ (ws9 : List (List Nat)) (A9 : Option Addr) (c9 : Nat) (W : World), Below W9.heap.size W9 W → Holds W9 A9 ws9.length 1 (txts ws9) → (∀ b ∈ ws9, Small b) → ws9.length ≤ 1000000 → Calls Tryd.prog 17 #[.slice Ay ys.length cy, .slice A9 ws9.length c9] W fun e w' => e = .returned (.bool (decide (bs8 = ws9))) ∧ Below W.heap.size W w') := Lib.hid fun ws9 A9 c9 W hb h1 h2 h3 => by
    rw [← hys]
    exact same_wal_ok Ay cy ys A9 c9 ws9 (grow noBlock W8) W (hly.below hb) (fun b hb2 => (hby b hb2).below hb) (h1.below hb) h2 hyl h3
  have HYS := Lib.hid hys
  have HBS8 : Hid (∀ b ∈ bs8, Small b) := Lib.hid fun b hb => by rw [← hys] at hb; obtain ⟨z, hz, rfl⟩ := List.mem_map.1 hb; exact (hby z hz).small
  clear HLK HE8 HD8 hly hby hys hb9 x1 x2
  by_cases hcw : bs8 = ws
  · have hdt : decide (bs8 = ws) = true := decide_eq_true hcw
    have HC1 := Lib.hid (HSA.out ws Aw1 cw1 W9 (Below.refl _ _) HE9.out.want HN1.out (by omega))
    rw [hdt] at HC1
    clear hdt
    go_wp2_with fail
    refine HC1.out.mono ?_
    rintro e WX ⟨rfl, hbx9⟩
    have HBX := Lib.hid hbx9
    clear HC1 hbx9
    go_upto_region 45 with fail
    rename_i K1 hK1
    have HK1 := Lib.hid hK1
    clear hK1
    go_wp2_with fail
    refine HK1.out _ _ ?_
    clear HK1
    refine wp_code copyCode (by kernel_rfl) ?_
    refine frC_end (K := fun a9 W9 => Code.wp Tryd.prog copyCode _ a9 W9) (.pointer (some ⟨w.heap.size, 0, none⟩)) (.pointer (some ⟨dp, 0, none⟩)) (.slice none 0 0) (.int .i64 i) (.pointer (some ⟨p8, 0, none⟩)) (.slice Ay ys.length cy) (.int .i64 0) (by kernel_rfl) ?_
    refine cr_copy WX ys Ay cy (grow noBlock W8) (HLY.out.below HBX.out) (fun b hb => (HBY.out b hb).below HBX.out) hyl _ _ _ _ _ _ _ ?_
    intro h2 A2 c2 kv2 W2 hb2 hl2
    dsimp only [frC]
    have hylen : ys.length = bs8.length := by rw [← HYS.out, List.length_map]
    rw [HYS.out, hylen] at hl2
    have HDF := Lib.hid (CrD.of (w := w) (bx := #[.int .i64 sz, .int .i64 a, .int .i64 n, .slice (some ⟨b0, off, none⟩) l.length c]) (HD9.out.call HBX.out) HS8.out HLT.out ((HE9.out.call HBX.out).box) ((HE9.out.call HBX.out).below) hb2 hl2)
    have HYL := Lib.hid hylen
    clear hb2 hl2 hylen
    go_wp2_with fail
    rw [HYL.out]
    refine frO_end (K := K) (.pointer (some ⟨w.heap.size, 0, none⟩)) (.pointer (some ⟨p8, 0, none⟩)) (.slice A2 bs8.length c2) (.int .i64 ((i : Int) + 1)) ?_ ?_
    · kernel_rfl
    · exact HK.out _ p8 R8 B8 used8 bs8 A2 c2 W2 HDF.out (by omega) (by omega) HBS8.out
  · by_cases hcn : bs8 = ns
    · have hdf : decide (bs8 = ws) = false := decide_eq_false hcw
      have HC1 := Lib.hid (HSA.out ws Aw1 cw1 W9 (Below.refl _ _) HE9.out.want HN1.out (by omega))
      rw [hdf] at HC1
      clear hdf
      go_wp2_with fail
      refine HC1.out.mono ?_
      rintro e WY ⟨rfl, hby9⟩
      have HBYY := Lib.hid hby9
      clear HC1 hby9
      have hdt : decide (bs8 = ns) = true := decide_eq_true hcn
      have HC2 := Lib.hid (HSA.out ns An1 cn1 WY HBYY.out HE9.out.next HN2.out hn2)
      rw [hdt] at HC2
      clear hdt
      go_wp2_with fail
      refine HC2.out.mono ?_
      rintro e WX ⟨rfl, hbx9⟩
      have HBX := Lib.hid (HBYY.out.call hbx9)
      clear HC2 hbx9 HBYY
      go_upto_region 45 with fail
      rename_i K1 hK1
      have HK1 := Lib.hid hK1
      clear hK1
      go_wp2_with fail
      refine HK1.out _ _ ?_
      clear HK1
      refine wp_code copyCode (by kernel_rfl) ?_
      refine frC_end (K := fun a9 W9 => Code.wp Tryd.prog copyCode _ a9 W9) (.pointer (some ⟨w.heap.size, 0, none⟩)) (.pointer (some ⟨dp, 0, none⟩)) (.slice none 0 0) (.int .i64 i) (.pointer (some ⟨p8, 0, none⟩)) (.slice Ay ys.length cy) (.int .i64 0) (by kernel_rfl) ?_
      refine cr_copy WX ys Ay cy (grow noBlock W8) (HLY.out.below HBX.out) (fun b hb => (HBY.out b hb).below HBX.out) hyl _ _ _ _ _ _ _ ?_
      intro h2 A2 c2 kv2 W2 hb2 hl2
      dsimp only [frC]
      have hylen : ys.length = bs8.length := by rw [← HYS.out, List.length_map]
      rw [HYS.out, hylen] at hl2
      have HDF := Lib.hid (CrD.of (w := w) (bx := #[.int .i64 sz, .int .i64 a, .int .i64 n, .slice (some ⟨b0, off, none⟩) l.length c]) (HD9.out.call HBX.out) HS8.out HLT.out ((HE9.out.call HBX.out).box) ((HE9.out.call HBX.out).below) hb2 hl2)
      have HYL := Lib.hid hylen
      clear hb2 hl2 hylen
      go_wp2_with fail
      rw [HYL.out]
      refine frO_end (K := K) (.pointer (some ⟨w.heap.size, 0, none⟩)) (.pointer (some ⟨p8, 0, none⟩)) (.slice A2 bs8.length c2) (.int .i64 ((i : Int) + 1)) ?_ ?_
      · kernel_rfl
      · exact HK.out _ p8 R8 B8 used8 bs8 A2 c2 W2 HDF.out (by omega) (by omega) HBS8.out
    · obtain ⟨hno, hb80⟩ : no = true ∧ bs8 = [] := by rcases hor with h1 | h1 | h1; exact absurd h1 hcw; exact absurd h1 hcn; exact h1
      subst hno
      have hdf : decide (bs8 = ws) = false := decide_eq_false hcw
      have HC1 := Lib.hid (HSA.out ws Aw1 cw1 W9 (Below.refl _ _) HE9.out.want HN1.out (by omega))
      rw [hdf] at HC1
      clear hdf
      go_wp2_with fail
      refine HC1.out.mono ?_
      rintro e WY ⟨rfl, hby9⟩
      have HBYY := Lib.hid hby9
      clear HC1 hby9
      have hdt : decide (bs8 = ns) = false := decide_eq_false hcn
      have HC2 := Lib.hid (HSA.out ns An1 cn1 WY HBYY.out HE9.out.next HN2.out hn2)
      rw [hdt] at HC2
      clear hdt
      have hz0 : (((ys.length : Nat) : Int) == 0) = true := by have h1 : ys = [] := List.map_eq_nil_iff.1 (HYS.out.trans hb80); rw [h1]; rfl
      clear hb80
      go_wp2_with fail
      refine HC2.out.mono ?_
      rintro e WX ⟨rfl, hbx9⟩
      have HBX := Lib.hid (HBYY.out.call hbx9)
      clear HC2 hbx9 HBYY
      go_upto_region 45 with fail
      rename_i K1 hK1
      have HK1 := Lib.hid hK1
      clear hK1
      go_wp2_with fail
      refine HK1.out _ _ ?_
      clear HK1
      refine wp_code copyCode (by kernel_rfl) ?_
      refine frC_end (K := fun a9 W9 => Code.wp Tryd.prog copyCode _ a9 W9) (.pointer (some ⟨w.heap.size, 0, none⟩)) (.pointer (some ⟨dp, 0, none⟩)) (.slice none 0 0) (.int .i64 i) (.pointer (some ⟨p8, 0, none⟩)) (.slice Ay ys.length cy) (.int .i64 0) (by kernel_rfl) ?_
      refine cr_copy WX ys Ay cy (grow noBlock W8) (HLY.out.below HBX.out) (fun b hb => (HBY.out b hb).below HBX.out) hyl _ _ _ _ _ _ _ ?_
      intro h2 A2 c2 kv2 W2 hb2 hl2
      dsimp only [frC]
      have hylen : ys.length = bs8.length := by rw [← HYS.out, List.length_map]
      rw [HYS.out, hylen] at hl2
      have HDF := Lib.hid (CrD.of (w := w) (bx := #[.int .i64 sz, .int .i64 a, .int .i64 n, .slice (some ⟨b0, off, none⟩) l.length c]) (HD9.out.call HBX.out) HS8.out HLT.out ((HE9.out.call HBX.out).box) ((HE9.out.call HBX.out).below) hb2 hl2)
      have HYL := Lib.hid hylen
      clear hb2 hl2 hylen
      go_wp2_with fail
      rw [HYL.out]
      refine frO_end (K := K) (.pointer (some ⟨w.heap.size, 0, none⟩)) (.pointer (some ⟨p8, 0, none⟩)) (.slice A2 bs8.length c2) (.int .i64 ((i : Int) + 1)) ?_ ?_
      · kernel_rfl
      · exact HK.out _ p8 R8 B8 used8 bs8 A2 c2 W2 HDF.out (by omega) (by omega) HBS8.out
/-- All lives. -/
theorem lives_ok (w : World) (bx : Array Value) (sz a n : Nat) (A : Option Addr) (c : Nat) (l : List WLife) (hT : Tab w) (hL : WLivesOk w A l) (h6 : l.length ≤ 6) (hfit : a + n ≤ sz) (hbx : BxIs bx sz a n A l.length c)
    (h : Nat → Value) (dp : Nat) (W : World) (hD : CrD w bx sz a n dp 1 1 0 [] none 0 W) (K : Act → World → Prop) (Q : Exit → Act → World → Prop)
    (hK : ∀ (h' : Nat → Value) (dp' : Nat) (bs' : List (List Nat)) (Aw' : Option Addr) (cw' : Nat) (W' : World), Below w.heap.size w W' → K ⟨(frO h' (.pointer (some ⟨w.heap.size, 0, none⟩)) (.pointer (some ⟨dp', 0, none⟩)) (.slice Aw' bs'.length cw') (.int .i64 l.length)).toArray, []⟩ W')
    (hR : ∀ h' W', Below w.heap.size w W' → Q .ret ⟨(frR h' (.bool true)).toArray, []⟩ W') :
    Code.wp Tryd.prog livesCode (Exit.then K Q) ⟨(frO h (.pointer (some ⟨w.heap.size, 0, none⟩)) (.pointer (some ⟨dp, 0, none⟩)) (.slice none 0 0) (.int .i64 0)).toArray, []⟩ W := by
  rw [lives_is]
  refine wp_block ?_
  refine wp_loop (fun a' W' => ∃ (h' : Nat → Value) (i dp' R' B' used' : Nat) (bs' : List (List Nat)) (Aw' : Option Addr) (cw' : Nat), i ≤ l.length ∧ a' = ⟨(frO h' (.pointer (some ⟨w.heap.size, 0, none⟩)) (.pointer (some ⟨dp', 0, none⟩)) (.slice Aw' bs'.length cw') (.int .i64 (i : Nat))).toArray, []⟩ ∧ CrD w bx sz a n dp' R' B' used' bs' Aw' cw' W' ∧ R' ≤ B' + i ∧ R' ≤ 1 + 52 * i ∧ ∀ b ∈ bs', Small b) (fun a' _ => l.length - (intOf (a'.tmps.getD 6 undef)).toNat) ⟨h, 0, dp, 1, 1, 0, [], none, 0, Nat.zero_le _, rfl, hD, by omega, by omega, fun b hb => (List.not_mem_nil hb).elim⟩ ?_
  rintro a' W' ⟨h', i, dp', R', B', used', bs', Aw', cw', hi, rfl, hD', h1, h2, h3⟩
  refine cr_life w bx sz a n A c l hT hL h6 hfit hbx h' i dp' R' B' used' bs' Aw' cw' W' hi hD' h1 h2 h3 _ _ (fun hlt h4 dp4 R4 B4 used4 bs4 Aw4 cw4 W4 g1 g2 g3 g4 => ⟨⟨h4, i + 1, dp4, R4, B4, used4, bs4, Aw4, cw4, hlt, rfl, g1, g2, g3, g4⟩, ?_⟩) (fun he h4 W4 hb => ?_) (fun h4 W4 hb => hR h4 W4 hb)
  · show l.length - ((i : Int) + 1).toNat < l.length - ((i : Int)).toNat
    omega
  · subst he
    exact inBlock_exit (hK h4 dp' bs' Aw' cw' W4 hb)
end Go.Proofs.YtljlkmmeedlaiaaDoor
