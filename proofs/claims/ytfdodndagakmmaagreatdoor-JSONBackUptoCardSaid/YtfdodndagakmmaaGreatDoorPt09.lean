/- Layer 8: next, four digits. -/
import Derived.Test.YtfdodndagakmmaaGreatDoorPt08
import Derived.Test.YtfdodndagakmmaaGreatDoorPt02
namespace Go.Proofs.YtfdodndagakmmaaGreatDoor
open Go.RowKit

/-- What next ends with. -/
def JNext (p : Nat) (X : Txt) (E O : Value) (f : Fl) (w : World) : List UInt8 → Ending → World → Prop
  | b :: t, e, w' => e = .returned (.int .u8 (b.toNat : Int)) ∧ JTo p X t E O f w w'
  | [], e, w' => e = .panicked (panicOf 180) ∧ Kept (· = p) w w'
theorem dropJ_cons {l : List UInt8} {k : Nat} (h : k < l.length) : l.drop k = l.getD k 0 :: l.drop (k + 1) := by
  rw [List.drop_eq_getElem_cons h]
  congr 1
  simp [List.getD, List.getElem?_eq_getElem h]
set_option maxRecDepth 100000 in
set_option maxHeartbeats 2000000 in
theorem jnext_ok (p : Nat) (X : Txt) (s : List UInt8) (E O : Value) (f : Fl) (w : World) (h : JAt w p X s E O f) :
    Calls Tryz.prog 136 #[.pointer (some ⟨p, 0, none⟩)] w (JNext p X E O f w s) := by
  obtain ⟨hl9, k, h, rfl, hk⟩ := h
  have HL9 := Lib.hid hl9
  have hl := hl9.1
  clear hl9
  have c0 := h.row.cell (i := 0) (v := .slice X.A X.l.length X.c) rfl
  have c1 := h.row.cell (i := 1) (v := .int .i64 (k : Int)) rfl
  have f1 := h.row.free 1
  have H := Lib.hid h
  by_cases hlt : k < X.l.length
  · obtain ⟨g, off, hA, hg, hgl, hc⟩ := h.txt k hlt
    have HD := Lib.hid (dropJ_cons hlt)
    have HB : Hid (byteAt X.l k = (X.l.getD k 0).toNat) := Lib.hid rfl
    have HTX := Lib.hid h.txt
    rw [hA] at c0
    have he : ((k : Int) == (X.l.length : Int)) = false := by rw [beq_eq_false_iff_ne]; omega
    have HPK : Hid (JNext p X E O f w (X.l.drop k) = JNext p X E O f w (X.l.getD k 0 :: X.l.drop (k + 1))) := Lib.hid (by rw [HD.out])
    rw [HPK.out]
    clear h
    generalize hn : X.l.length = n at *
    have HN := Lib.hid hn
    have HA := Lib.hid hA
    clear hn hA HPK hk
    go_enter Tryz.func136, Tryz.ntmps136
    go_wp2_with fail
    go_quiet (fail)
    go_upto_region 4 with fail
    obtain ⟨w1, hw1⟩ : ∃ w1, w1 = (w.drewN nq).setCell ⟨p, 1, none⟩ (.int .i64 ((k : Int) + 1)) := ⟨_, rfl⟩
    rw [← hw1]
    have hkk : Kept (· = p) w w1 := by subst hw1; exact (Kept.refl _ _).drewN _ |>.trans' (Kept.cell _ _ _ _)
    have hj1 : JRd w1 p X (k + 1) E O f := H.out.step hkk (by subst hw1; simpa [rdCells] using (H.out.row.drewN nq).set_ 1 (.int .i64 ((k + 1 : Nat) : Int)))
    have HJ := Lib.hid hj1
    have HK := Lib.hid hkk
    have d0 := hj1.row.cell (i := 0) (v := .slice X.A X.l.length X.c) rfl
    rw [HA.out, HN.out] at d0
    have d1 := hj1.row.cell (i := 1) (v := .int .i64 ((k : Int) + 1)) rfl
    have dc := (World.cell?_of_block (a := ⟨g, off + k, none⟩) (hkk.block g hgl hg)).trans hc
    rw [HB.out] at dc
    have hkn : (k : Int) + 1 - 1 = (k : Int) := by omega
    clear hj1 hkk hw1 hc c0 c1 f1 he
    generalize X.l.getD k 0 = b at *
    obtain ⟨y, hy⟩ : ∃ y, b.toNat = y := ⟨_, rfl⟩
    have HY := Lib.hid hy
    rw [hy] at dc
    clear hy
    go_quiet (fail)
    go_wp2
    go_ret
    refine ⟨by rw [HY.out]; rfl, ⟨by rw [HN.out]; exact HL9.out, k + 1, HJ.out.drewN _, rfl, ?_⟩, HK.out.drewN _⟩
    rw [HN.out]
    omega
  · have HD : Hid (X.l.drop k = []) := Lib.hid (List.drop_of_length_le (by omega))
    rw [HD.out]
    have he : ((k : Int) == (X.l.length : Int)) = true := by rw [beq_iff_eq]; omega
    clear h
    generalize hn : X.l.length = n at *
    go_enter Tryz.func136, Tryz.ntmps136
    go_wp2_with fail
    go_quiet (fail)
    go_wp2
    exact ⟨rfl, rfl, (Kept.refl _ _).drewN _⟩
end Go.Proofs.YtfdodndagakmmaaGreatDoor
/- Layer 8: four digits to the base 16. -/
namespace Go.Proofs.YtfdodndagakmmaaGreatDoor
open Go.RowKit

/-- What a call ends with that reads something, or gives up by ErrJSON. -/
def JRes (p : Nat) (X : Txt) (E O : Value) (w : World) : Option (Value × Fl × List UInt8) → Ending → World → Prop
  | some (v, f, s), e, w' => e = .returned v ∧ JTo p X s E O f w w'
  | none, e, w' => e = .panicked (panicOf 180) ∧ Kept (· = p) w w'
def fourR (f : Fl) (s : List UInt8) : Option (Value × Fl × List UInt8) := (four s).map fun q => (.int .i32 (q.1 : Int), f, q.2)
def hexI (b : UInt8) : Int := match hexV b with
  | none => -1
  | some d => if 65 ≤ b.toNat ∧ b.toNat ≤ 70 then (d : Int) + 6 else d
theorem hexI_eq : ∀ b : Fin 256, Lib.indexByte hexDigits (UInt8.ofNat b.val) = hexI (UInt8.ofNat b.val) := by decide +kernel
theorem hexI_at (b : UInt8) : Lib.indexByte hexDigits b = hexI b := by
  have := hexI_eq ⟨b.toNat, b.toNat_lt⟩
  simpa using this
theorem hexI_none {b : UInt8} (h : hexV b = none) : hexI b = -1 := by unfold hexI; rw [h]
def hexOk (b : UInt8) : Bool := match hexV b with
  | none => true
  | some d => decide (d ≤ 15 ∧ 0 ≤ hexI b ∧ ((hexI b < 16 ∧ hexI b = d) ∨ (16 ≤ hexI b ∧ hexI b - 6 = d ∧ hexI b ≤ 21)))
theorem hexOk_all : ∀ b : Fin 256, hexOk (UInt8.ofNat b.val) = true := by decide +kernel
theorem hexI_of {b : UInt8} {d : Nat} (h : hexV b = some d) : d ≤ 15 ∧ 0 ≤ hexI b ∧ ((hexI b < 16 ∧ hexI b = d) ∨ (16 ≤ hexI b ∧ hexI b - 6 = d ∧ hexI b ≤ 21)) := by
  have := hexOk_all ⟨b.toNat, b.toNat_lt⟩
  simp only [UInt8.ofNat_toNat] at this
  unfold hexOk at this
  rw [h] at this
  exact of_decide_eq_true this
theorem jindex_ok (these : List UInt8) (b : UInt8) (W : World) :
    Calls Tryz.prog 135 #[.string (bs these), .int .u8 (b.toNat : Int)] W fun e w' => e = .returned (.int .i64 (Lib.indexByte these b)) ∧ w' = W := by
  have := Tryz.strings_IndexByte (bs these) (b.toNat : Int) W
  have e : ((b.toNat : Int)).toNat.toUInt8 = b := by simp
  rw [e] at this
  exact this
theorem hexN_nil (k x : Nat) : hexN (k + 1) x [] = none := rfl
theorem hexN_none {b : UInt8} (h : hexV b = none) (k x : Nat) (t : List UInt8) : hexN (k + 1) x (b :: t) = none := by rw [hexN]; simp only [h]
theorem hexN_some {b : UInt8} {d : Nat} (h : hexV b = some d) (k x : Nat) (t : List UInt8) : hexN (k + 1) x (b :: t) = hexN k (x * 16 + d) t := by rw [hexN]; simp only [h]
set_option maxRecDepth 100000 in
set_option maxHeartbeats 4000000 in
theorem jfour_ok (p : Nat) (X : Txt) (s : List UInt8) (E O : Value) (f : Fl) (w : World) (h : JAt w p X s E O f) :
    Calls Tryz.prog 206 #[.pointer (some ⟨p, 0, none⟩)] w (JRes p X E O w (fourR f s)) := by
  have H := Lib.hid h
  have HF : Hid (fourR f s = (hexN 4 0 s).map fun q => (.int .i32 (q.1 : Int), f, q.2)) := Lib.hid rfl
  clear h
  generalize fourR f s = R at *
  go_enter Tryz.func206, Tryz.ntmps206
  go_wp2_with fail
  go_loopw [3, 4, 5] (fun v3 v4 v5 wr => ∃ (i n : Nat) (r : List UInt8), i ≤ 4 ∧ v5 = .int .i64 (i : Int) ∧ v3 = .int .i64 (n : Int) ∧ Hid (n < 16 ^ i) ∧ Hid (JTo p X r E O f w wr) ∧ Hid (R = (hexN (4 - i) n r).map fun q => (.int .i32 (q.1 : Int), f, q.2))) (fun _ _ v5 _ => 4 - (intOf v5).toNat)
  case atStart => exact ⟨0, 0, s, by omega, rfl, rfl, Lib.hid (by decide), Lib.hid (JTo.refl H.out), HF⟩
  case round =>
    obtain ⟨i, n, r, hi, rfl, rfl, HN, HJ, HR⟩ := hrel
    by_cases hlt : i < 4
    · have HX := Lib.hid (jnext_ok p X r E O f _ HJ.out.1)
      have hn : n < 4096 := Nat.lt_of_lt_of_le HN.out (Nat.le_trans (Nat.pow_le_pow_right (by omega) (show i ≤ 3 by omega)) (by decide))
      obtain ⟨k, hk⟩ : ∃ k, 4 - i = k + 1 := ⟨3 - i, by omega⟩
      have HKI : Hid (4 - (i + 1) = k) := Lib.hid (by omega)
      rw [hk] at HR
      clear hk
      cases r with
      | nil =>
        obtain rfl : R = none := by rw [HR.out, hexN_nil]; rfl
        go_wp2_with fail
        refine HX.out.mono ?_
        rintro e w2 ⟨rfl, hkp⟩
        have HK := Lib.hid (HJ.out.2.trans' hkp)
        clear hkp
        go_wp2_with fail
        exact ⟨rfl, rfl, HK.out⟩
      | cons b t =>
        have HIB := Lib.hid (fun W => jindex_ok hexDigits b W)
        rw [hexI_at] at HIB
        cases hd : hexV b with
        | none =>
          obtain rfl : R = none := by rw [HR.out, hexN_none hd]; rfl
          rw [hexI_none hd] at HIB
          clear hd
          generalize hy : b.toNat = y at *
          go_wp2_with fail
          refine HX.out.mono ?_
          rintro e w2 ⟨rfl, hj, hkp⟩
          have HK := Lib.hid (HJ.out.2.trans' hkp)
          clear hkp hj
          rw [hy]
          clear hy
          go_wp2_with fail
          refine (HIB.out _).mono ?_
          rintro e w3 ⟨rfl, rfl⟩
          go_wp2_with fail
          exact ⟨rfl, rfl, HK.out⟩
        | some d =>
          have HR2 : Hid (R = (hexN k (n * 16 + d) t).map fun q => (.int .i32 (q.1 : Int), f, q.2)) := Lib.hid (by rw [HR.out, hexN_some hd])
          obtain ⟨hd1, hd2, hd3⟩ := hexI_of hd
          have HN2 : Hid (n * 16 + d < 16 ^ (i + 1)) := Lib.hid (by have := HN.out; rw [Nat.pow_succ]; omega)
          clear hd HR
          generalize hexI b = x at *
          generalize hy : b.toNat = y at *
          go_wp2_with fail
          refine HX.out.mono ?_
          rintro e w2 ⟨rfl, hj, hkp⟩
          have HJ2 := Lib.hid hj
          have HK := Lib.hid (HJ.out.2.trans' hkp)
          clear hkp hj
          rw [hy]
          clear hy
          go_wp2_with fail
          refine (HIB.out _).mono ?_
          rintro e w3 ⟨rfl, rfl⟩
          rcases hd3 with ⟨hx1, hx2⟩ | ⟨hx1, hx2, hx3⟩
          · go_wp2_with fail
            exact ⟨⟨i + 1, n * 16 + d, t, by omega, by go_num, by go_num, HN2, Lib.hid ⟨HJ2.out, HK.out⟩, by rw [HKI.out]; exact HR2⟩, by simp [intOf]; omega⟩
          · go_wp2_with fail
            exact ⟨⟨i + 1, n * 16 + d, t, by omega, by go_num, by go_num, HN2, Lib.hid ⟨HJ2.out, HK.out⟩, by rw [HKI.out]; exact HR2⟩, by simp [intOf]; omega⟩
    · obtain rfl : i = 4 := by omega
      obtain rfl : R = some (.int .i32 (n : Int), f, r) := HR.out
      have hn := HN.out
      have hn2 : (n : Int) < 65536 := by omega
      have hw : IntKind.i32.wrap (n : Int) = (n : Int) := by simp [IntKind.wrap, IntKind.bits, IntKind.signed]; omega
      go_wp2_with fail
      go_ret
      exact ⟨rfl, HJ.out.1, HJ.out.2⟩
end Go.Proofs.YtfdodndagakmmaaGreatDoor
/- Layer 8: pure: a text in quotes is read as it was. -/
namespace Go.Proofs.YtfdodndagakmmaaGreatDoor
open Go.RowKit

theorem hexV_hexD : ∀ x : Fin 16, hexV (hexD x.val) = some x.val := by decide
theorem hexV_at {x : Nat} (h : x < 16) : hexV (hexD x) = some x := hexV_hexD ⟨x, h⟩
theorem four_low {x y : Nat} (hx : x < 16) (hy : y < 16) (r : List UInt8) : four (48 :: 48 :: hexD x :: hexD y :: r) = some (x * 16 + y, r) := by
  have h0 : hexV 48 = some 0 := by decide
  unfold four
  rw [hexN]; simp only [h0]
  rw [hexN]; simp only [h0]
  rw [hexN]; simp only [hexV_at hx]
  rw [hexN]; simp only [hexV_at hy]
  rw [hexN]
  simp
theorem runeL_low {b : UInt8} (h : b.toNat < 128) : runeL b.toNat = [b] := by
  unfold runeL
  rw [if_pos h]
  simp
theorem letterL_low {b : UInt8} (h : b.toNat < 32) (r : List UInt8) : letterL (117 :: 48 :: 48 :: hexD (b.toNat / 16) :: hexD (b.toNat % 16) :: r) = some (b.toNat, false, r) := by
  unfold letterL
  simp only [if_true]
  unfold codedL
  rw [four_low (by omega) (by omega)]
  have e : b.toNat / 16 * 16 + b.toNat % 16 = b.toNat := by omega
  simp only [e]
  have h1 : isHi b.toNat = false := by unfold isHi; simp; omega
  have h2 : isLo b.toNat = false := by unfold isLo; simp; omega
  rw [if_pos ⟨h1, h2⟩]
theorem letsL_esc92 {t r : List UInt8} {x : Nat} {a : Bool} (h : letterL t = some (x, a, r)) : letsL (92 :: t) = (letsL r).map fun q => (runeL x ++ q.1, a || q.2.1, q.2.2) := by
  rw [letsL]
  rw [if_neg (by decide), if_pos rfl]
  split
  · rename_i h2; rw [h] at h2; cases h2
  · rename_i x2 a2 r2 h2
    rw [h] at h2
    injection h2 with h2; injection h2 with h3 h2; injection h2 with h4 h5
    subst h3 h4 h5
    cases letsL r <;> rfl
theorem letsL_plain {b : UInt8} (h1 : b ≠ 34) (h2 : b ≠ 92) (h3 : ¬ b.toNat < 32) (t : List UInt8) : letsL (b :: t) = (letsL t).map fun q => (b :: q.1, q.2.1, q.2.2) := by
  rw [letsL, if_neg h1, if_neg h2, if_neg h3]
  cases letsL t <;> rfl
/-- A byte as it stands in quotes is read as it was. -/
theorem letsL_esc (b : UInt8) (r : List UInt8) : letsL (escL b ++ r) = (letsL r).map fun q => (b :: q.1, q.2.1, q.2.2) := by
  have key : ∀ (t : List UInt8) (x : Nat), letterL t = some (x, false, r) → runeL x = [b] → letsL (92 :: t) = (letsL r).map fun q => (b :: q.1, q.2.1, q.2.2) := by
    intro t x h hx
    rw [letsL_esc92 h, hx]
    rfl
  unfold escL
  split
  · rename_i h; subst h; exact key _ 34 rfl rfl
  · split
    · rename_i h; subst h; exact key _ 92 rfl rfl
    · split
      · rename_i h; subst h; exact key _ 8 rfl rfl
      · split
        · rename_i h; subst h; exact key _ 12 rfl rfl
        · split
          · rename_i h; subst h; exact key _ 10 rfl rfl
          · split
            · rename_i h; subst h; exact key _ 13 rfl rfl
            · split
              · rename_i h; subst h; exact key _ 9 rfl rfl
              · split
                · rename_i h
                  exact key _ b.toNat (letterL_low h r) (runeL_low (by omega))
                · rename_i h1 h2 _ _ _ _ _ h3
                  exact letsL_plain h1 h2 h3 r
theorem letsL_quoted (s r : List UInt8) : letsL (s.flatMap escL ++ 34 :: r) = some (s, false, r) := by
  induction s with
  | nil => rw [List.flatMap_nil, List.nil_append, letsL, if_pos rfl]
  | cons b t ih => rw [List.flatMap_cons, List.append_assoc, letsL_esc, ih]; rfl
end Go.Proofs.YtfdodndagakmmaaGreatDoor
/- Layer 8: pure: a value's text is read as that value. -/
namespace Go.Proofs.YtfdodndagakmmaaGreatDoor
open Go.RowKit

/-- What may stand behind a value within one. -/
def okEnd (r : List UInt8) : Prop := r = [] ∨ ∃ b t, r = b :: t ∧ (b = 44 ∨ b = 93 ∨ b = 125)
theorem blk_cons {b : UInt8} (h : isBlank b = false) (t : List UInt8) : blk (b :: t) = b :: t := by
  unfold blk
  rw [List.dropWhile_cons, if_neg (by rw [h]; simp)]
theorem blk_end {r : List UInt8} (h : okEnd r) : blk r = r := by
  rcases h with h | ⟨b, t, h, h2⟩
  · rw [h]; rfl
  · rw [h]
    exact blk_cons (by rcases h2 with h2 | h2 | h2 <;> subst h2 <;> decide) t
/-- A number's text is read, whatever ends it. -/
def NumOk (d : Dec) : Prop := ∃ b t, txL d = b :: t ∧ isBlank b = false ∧ b ≠ 34 ∧ b ≠ 91 ∧ b ≠ 123 ∧ b ≠ 93 ∧ b ≠ 110 ∧ b ≠ 116 ∧ b ≠ 102 ∧ parseD (txL d) = d ∧ parseE (txL d) = 0 ∧ ∀ r, okEnd r → numEnd (txL d ++ r) = some r
mutual
/-- A value that may be, but for its letters, its depth and its text's length. -/
def MayJ : JV → Prop
  | .mk k b d t l ns =>
    (k = 0 ∧ b = false ∧ d = Dec.zero ∧ t = [] ∧ l = [] ∧ ns = []) ∨ (k = 1 ∧ d = Dec.zero ∧ t = [] ∧ l = [] ∧ ns = []) ∨
    (k = 2 ∧ b = false ∧ NumOk d ∧ t = [] ∧ l = [] ∧ ns = []) ∨ (k = 3 ∧ b = false ∧ d = Dec.zero ∧ l = [] ∧ ns = []) ∨
    (k = 4 ∧ b = false ∧ d = Dec.zero ∧ t = [] ∧ ns = [] ∧ MayKids l) ∨
    (k = 5 ∧ b = false ∧ d = Dec.zero ∧ t = [] ∧ ns.length = l.length ∧ ns.Nodup ∧ MayKids l)
def MayKids : List JV → Prop
  | [] => True
  | x :: l => MayJ x ∧ MayKids l
end
theorem pfx_self (p r : List UInt8) : pfx p (p ++ r) = true := List.isPrefixOf_iff_prefix.2 (List.prefix_append _ _)
theorem tkB_cons (these : List UInt8) (b : UInt8) (t : List UInt8) : tkB these (b :: t) = these.contains b := rfl
theorem enter_ok {obj : Bool} {K : List Fr} (h : K.length < 64) (f : Fl) : isDeepK (enterK obj K) = false ∧ enterF (enterK obj K) f = f := by
  have h1 : isDeepK (enterK obj K) = false := by unfold isDeepK enterK maxDeep; simp; omega
  exact ⟨h1, by unfold enterF; rw [h1]; rfl⟩
/-- The first byte of a value's text. -/
def Head (s : List UInt8) : Prop := ∃ b t, s = b :: t ∧ isBlank b = false ∧ b ≠ 93
theorem tell_head {v : JV} (h : MayJ v) : Head (tellJ v) := by
  obtain ⟨k, b, d, t, l, ns⟩ := v
  unfold MayJ at h
  unfold tellJ
  rcases h with ⟨rfl, _⟩ | ⟨rfl, _⟩ | ⟨rfl, _, ⟨x, y, hx, h1, _, _, _, h2, _⟩, _⟩ | ⟨rfl, _⟩ | ⟨rfl, _⟩ | ⟨rfl, _⟩
  · exact ⟨110, _, rfl, by decide, by decide⟩
  · cases b
    · exact ⟨102, _, rfl, by decide, by decide⟩
    · exact ⟨116, _, rfl, by decide, by decide⟩
  · exact ⟨x, y, by simpa using hx, h1, h2⟩
  · exact ⟨34, _, rfl, by decide, by decide⟩
  · exact ⟨91, _, rfl, by decide, by decide⟩
  · exact ⟨123, _, rfl, by decide, by decide⟩
theorem runJ_value (K : List Fr) (f : Fl) (s : List UInt8) : runJ .value K f s =
    if tkB [91] (blk s) = true then
      if tkB [93] (blk ((blk s).drop 1)) = true then runJ .leave (enterK false K) (enterF (enterK false K) f) ((blk ((blk s).drop 1)).drop 1)
      else runJ .value (enterK false K) (enterF (enterK false K) f) (blk ((blk s).drop 1))
    else if tkB [123] (blk s) = true then
      if tkB [125] (blk ((blk s).drop 1)) = true then runJ .leave (enterK true K) (enterF (enterK true K) f) ((blk ((blk s).drop 1)).drop 1)
      else runJ .name (enterK true K) (enterF (enterK true K) f) (blk ((blk s).drop 1))
    else match plainL (blk s) with
      | none => none
      | some (v, a, g, r) => runJ (.behind v) K { f with alone := f.alone || a, far := f.far || g } r := by
  conv => lhs; rw [runJ]
  simp only [dite_eq_ite]
  split
  · rfl
  · split
    · rfl
    · split <;> rename_i h <;> rw [h]
theorem runJ_name (K : List Fr) (f : Fl) (s : List UInt8) : runJ .name K f s =
    if tkB [34] (blk s) = true then match letsL ((blk s).drop 1) with
      | none => none
      | some (l, a, r) =>
        if tkB [58] (blk r) = true then runJ .value (nameK l K) (nameF l K { f with alone := f.alone || a }) ((blk r).drop 1)
        else none
    else none := by
  conv => lhs; rw [runJ]
  simp only [dite_eq_ite]
  split
  · split <;> rename_i h <;> rw [h]
  · rfl
theorem runJ_leave (t : Fr) (r : List Fr) (f : Fl) (s : List UInt8) : runJ .leave (t :: r) f s = runJ (.behind (if isDeepK (t :: r) then JV.null else t.val)) r f s := by
  conv => lhs; rw [runJ]
theorem runJ_behind0 (v : JV) (f : Fl) (s : List UInt8) : runJ (.behind v) [] f s = if blk s = [] then some (v, f) else none := by
  conv => lhs; rw [runJ]
theorem runJ_behind (v : JV) (t : Fr) (r : List Fr) (f : Fl) (s : List UInt8) : runJ (.behind v) (t :: r) f s =
    if tkB [44] (blk s) = true then runJ (if t.obj then .name else .value) (putK v (t :: r)) f ((blk s).drop 1)
    else if tkB [if t.obj then 125 else 93] (blk s) = true then runJ .leave (putK v (t :: r)) f ((blk s).drop 1)
    else none := by
  conv => lhs; rw [runJ]
  simp only [dite_eq_ite]
end Go.Proofs.YtfdodndagakmmaaGreatDoor
/- Layer 8: digits. -/
namespace Go.Proofs.YtfdodndagakmmaaGreatDoor
open Go.RowKit

def tenDigits : List UInt8 := [48, 49, 50, 51, 52, 53, 54, 55, 56, 57]
def tenOk (b : UInt8) : Bool := tenDigits.contains b == isDig b
theorem tenOk_all : ∀ b : Fin 256, tenOk (UInt8.ofNat b.val) = true := by decide +kernel
theorem ten_is (b : UInt8) : tenDigits.contains b = isDig b := by
  have := tenOk_all ⟨b.toNat, b.toNat_lt⟩
  simp only [UInt8.ofNat_toNat] at this
  unfold tenOk at this
  exact beq_iff_eq.1 this
theorem span_yes {r : List UInt8} (h : tkB tenDigits r = true) : (tkS tenDigits r).dropWhile isDig = r.dropWhile isDig := by
  rw [tkS_yes h]
  cases r with
  | nil => rfl
  | cons x t =>
    rw [tkB_cons, ten_is] at h
    rw [List.dropWhile_cons, if_pos h]
    rfl
theorem span_no {r : List UInt8} (h : tkB tenDigits r = false) : r.dropWhile isDig = r := by
  cases r with
  | nil => rfl
  | cons x t =>
    rw [tkB_cons, ten_is] at h
    rw [List.dropWhile_cons, if_neg (by rw [h]; simp)]
theorem dgs_yes {r : List UInt8} (h : tkB tenDigits r = true) : dgs r = some ((tkS tenDigits r).dropWhile isDig) := by
  rw [tkS_yes h]
  cases r with
  | nil => cases h
  | cons x t =>
    rw [tkB_cons, ten_is] at h
    unfold dgs
    simp only [h, if_true]
    rfl
theorem dgs_no {r : List UInt8} (h : tkB tenDigits r = false) : dgs r = none := by
  cases r with
  | nil => rfl
  | cons x t =>
    rw [tkB_cons, ten_is] at h
    unfold dgs
    simp [h]
def dgsR (f : Fl) (s : List UInt8) : Option (Value × Fl × List UInt8) := (dgs s).map fun q => (.tuple #[], f, q)
set_option maxRecDepth 100000 in
set_option maxHeartbeats 4000000 in
theorem jdigits_ok (p : Nat) (X : Txt) (s : List UInt8) (E O : Value) (f : Fl) (w : World) (h : JAt w p X s E O f) :
    Calls Tryz.prog 140 #[.pointer (some ⟨p, 0, none⟩)] w (JRes p X E O w (dgsR f s)) := by
  have HT := Lib.hid (jtake_ok p X tenDigits s E O f w h)
  have HF : Hid (dgsR f s = (dgs s).map fun q => (.tuple #[], f, q)) := Lib.hid rfl
  clear h
  generalize dgsR f s = R at *
  go_enter Tryz.func140, Tryz.ntmps140
  cases hb : tkB tenDigits s with
  | false =>
    obtain rfl : R = none := by rw [HF.out, dgs_no hb]; rfl
    rw [hb] at HT
    clear hb HF
    go_wp2_with fail
    refine HT.out.mono ?_
    rintro e w1 ⟨rfl, hj, hk⟩
    have HK := Lib.hid hk
    clear hj hk HT
    go_wp2_with fail
    exact ⟨rfl, rfl, HK.out⟩
  | true =>
    have HR : Hid (R = some (.tuple #[], f, (tkS tenDigits s).dropWhile isDig)) := Lib.hid (by rw [HF.out, dgs_yes hb]; rfl)
    rw [hb] at HT
    clear hb HF
    generalize tkS tenDigits s = s1 at *
    go_wp2_with fail
    refine HT.out.mono ?_
    rintro e w1 ⟨rfl, hj, hk⟩
    have HJ := Lib.hid hj
    have HK := Lib.hid hk
    clear hj hk HT
    go_wp2_with fail
    go_loopw [6] (fun _ wr => ∃ r, Hid (JTo p X r E O f w wr) ∧ Hid (r.dropWhile isDig = s1.dropWhile isDig)) (fun _ wr => leftOf X p wr)
    case atStart => exact ⟨s1, Lib.hid ⟨HJ.out, HK.out⟩, Lib.hid rfl⟩
    case round =>
      obtain ⟨r, HX, HB⟩ := hrel
      have HT := Lib.hid (jtake_ok p X tenDigits r E O f _ HX.out.1)
      have HL := Lib.hid HX.out.1.left
      cases hb : tkB tenDigits r with
      | true =>
        have HY1 := Lib.hid (span_yes hb)
        have HY := Lib.hid (tkS_lt hb)
        rw [hb] at HT
        clear hb
        go_wp2_with fail
        refine HT.out.mono ?_
        rintro e w2 ⟨rfl, hj, hkp⟩
        have HJ2 := Lib.hid hj
        have HK2 := Lib.hid (HX.out.2.trans' hkp)
        clear hj hkp
        go_wp2_with fail
        exact ⟨⟨_, Lib.hid ⟨HJ2.out, HK2.out⟩, Lib.hid (HY1.out.trans HB.out)⟩, by rw [HJ2.out.left, HL.out]; exact HY.out⟩
      | false =>
        have HY1 := Lib.hid (span_no hb)
        have HY := Lib.hid (tkS_no hb)
        rw [hb] at HT
        clear hb
        go_wp2_with fail
        refine HT.out.mono ?_
        rintro e w2 ⟨rfl, hj, hkp⟩
        rw [HY.out] at hj
        have HJ2 := Lib.hid hj
        have HK2 := Lib.hid (HX.out.2.trans' hkp)
        clear hj hkp
        go_wp2_with fail
        go_end0
        rw [HR.out]
        refine ⟨rfl, ?_, HK2.out⟩
        rw [← HB.out, HY1.out]
        exact HJ2.out
end Go.Proofs.YtfdodndagakmmaaGreatDoor
