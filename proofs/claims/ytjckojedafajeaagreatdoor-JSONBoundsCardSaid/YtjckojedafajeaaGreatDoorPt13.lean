/- Layer 8: four digits to the base 16. -/
import Derived.Test.YtjckojedafajeaaGreatDoorPt12
import Derived.Test.YtjckojedafajeaaGreatDoorPt03
namespace Go.Proofs.YtjckojedafajeaaGreatDoor
open Go.RowKit

/-- What a call ends with that reads something, or gives up by ErrJSON. -/
def JRes (p : Nat) (X : Txt) (E O : Value) (w : World) : Option (Value × Fl × List UInt8) → Ending → World → Prop
  | some (v, f, s), e, w' => e = .returned v ∧ JTo p X s E O f w w'
  | none, e, w' => e = .panicked (panicOf 180) ∧ Kept (· = p) w w'
def fourR (f : Fl) (s : List UInt8) : Option (Value × Fl × List UInt8) := (four s).map fun q => (.int .i32 (q.1 : Int), f, q.2)
def hexI (b : UInt8) : Int := match hexV b with
  | none => -1
  | some d => if 65 ≤ b.toNat ∧ b.toNat ≤ 70 then (d : Int) + 6 else d
theorem hexI_eq : ∀ b : Fin 256, Lib.indexByte hexDigits (UInt8.ofNat b.val) = hexI (UInt8.ofNat b.val) := by decide +kernel
theorem hexI_at (b : UInt8) : Lib.indexByte hexDigits b = hexI b := by
  have := hexI_eq ⟨b.toNat, b.toNat_lt⟩
  simpa using this
theorem hexI_none {b : UInt8} (h : hexV b = none) : hexI b = -1 := by unfold hexI; rw [h]
def hexOk (b : UInt8) : Bool := match hexV b with
  | none => true
  | some d => decide (d ≤ 15 ∧ 0 ≤ hexI b ∧ ((hexI b < 16 ∧ hexI b = d) ∨ (16 ≤ hexI b ∧ hexI b - 6 = d ∧ hexI b ≤ 21)))
theorem hexOk_all : ∀ b : Fin 256, hexOk (UInt8.ofNat b.val) = true := by decide +kernel
theorem hexI_of {b : UInt8} {d : Nat} (h : hexV b = some d) : d ≤ 15 ∧ 0 ≤ hexI b ∧ ((hexI b < 16 ∧ hexI b = d) ∨ (16 ≤ hexI b ∧ hexI b - 6 = d ∧ hexI b ≤ 21)) := by
  have := hexOk_all ⟨b.toNat, b.toNat_lt⟩
  simp only [UInt8.ofNat_toNat] at this
  unfold hexOk at this
  rw [h] at this
  exact of_decide_eq_true this
theorem jindex_ok (these : List UInt8) (b : UInt8) (W : World) :
    Calls Tryz.prog 112 #[.string (bs these), .int .u8 (b.toNat : Int)] W fun e w' => e = .returned (.int .i64 (Lib.indexByte these b)) ∧ w' = W := by
  have := Tryz.strings_IndexByte (bs these) (b.toNat : Int) W
  have e : ((b.toNat : Int)).toNat.toUInt8 = b := by simp
  rw [e] at this
  exact this
theorem hexN_zero (x : Nat) (s : List UInt8) : hexN 0 x s = some (x, s) := rfl
theorem hexN_nil (k x : Nat) : hexN (k + 1) x [] = none := rfl
theorem hexN_none {b : UInt8} (h : hexV b = none) (k x : Nat) (t : List UInt8) : hexN (k + 1) x (b :: t) = none := by rw [hexN]; simp only [h]
theorem hexN_some {b : UInt8} {d : Nat} (h : hexV b = some d) (k x : Nat) (t : List UInt8) : hexN (k + 1) x (b :: t) = hexN k (x * 16 + d) t := by rw [hexN]; simp only [h]
set_option maxRecDepth 100000 in
set_option maxHeartbeats 4000000 in
theorem jfour_ok (p : Nat) (X : Txt) (s : List UInt8) (E O : Value) (f : Fl) (w : World) (h : JAt w p X s E O f) :
    Calls Tryz.prog 180 #[.pointer (some ⟨p, 0, none⟩)] w (JRes p X E O w (fourR f s)) := by
  have H := Lib.hid h
  have HF : Hid (fourR f s = (hexN 4 0 s).map fun q => (.int .i32 (q.1 : Int), f, q.2)) := Lib.hid rfl
  clear h
  generalize fourR f s = R at *
  go_enter Tryz.func180, Tryz.ntmps180
  go_wp2_with fail
  go_loopw [3, 4, 5] (fun v3 v4 v5 wr => ∃ (i n : Nat) (r : List UInt8), i ≤ 4 ∧ v5 = .int .i64 (i : Int) ∧ v3 = .int .i64 (n : Int) ∧ Hid (n < 16 ^ i) ∧ Hid (JTo p X r E O f w wr) ∧ Hid (R = (hexN (4 - i) n r).map fun q => (.int .i32 (q.1 : Int), f, q.2))) (fun _ _ v5 _ => 4 - (intOf v5).toNat)
  case atStart => exact ⟨0, 0, s, by omega, rfl, rfl, Lib.hid (by decide), Lib.hid (JTo.refl H.out), HF⟩
  case round =>
    obtain ⟨i, n, r, hi, rfl, rfl, HN, HJ, HR⟩ := hrel
    by_cases hlt : i < 4
    · have HX := Lib.hid (jnext_ok p X r E O f _ HJ.out.1)
      have hn : n < 4096 := Nat.lt_of_lt_of_le HN.out (Nat.le_trans (Nat.pow_le_pow_right (by omega) (show i ≤ 3 by omega)) (by decide))
      obtain ⟨k, hk⟩ : ∃ k, 4 - i = k + 1 := ⟨3 - i, by omega⟩
      have HKI : Hid (4 - (i + 1) = k) := Lib.hid (by omega)
      rw [hk] at HR
      clear hk
      cases r with
      | nil =>
        obtain rfl : R = none := by rw [HR.out, hexN_nil]; rfl
        go_wp2_with fail
        refine HX.out.mono ?_
        rintro e w2 ⟨rfl, hkp⟩
        have HK := Lib.hid (HJ.out.2.trans' hkp)
        clear hkp
        go_wp2_with fail
        exact ⟨rfl, rfl, HK.out⟩
      | cons b t =>
        have HIB := Lib.hid (fun W => jindex_ok hexDigits b W)
        rw [hexI_at] at HIB
        cases hd : hexV b with
        | none =>
          obtain rfl : R = none := by rw [HR.out, hexN_none hd]; rfl
          rw [hexI_none hd] at HIB
          clear hd
          generalize hy : b.toNat = y at *
          go_wp2_with fail
          refine HX.out.mono ?_
          rintro e w2 ⟨rfl, hj, hkp⟩
          have HK := Lib.hid (HJ.out.2.trans' hkp)
          clear hkp hj
          rw [hy]
          clear hy
          go_wp2_with fail
          refine (HIB.out _).mono ?_
          rintro e w3 ⟨rfl, rfl⟩
          go_wp2_with fail
          exact ⟨rfl, rfl, HK.out⟩
        | some d =>
          have HR2 : Hid (R = (hexN k (n * 16 + d) t).map fun q => (.int .i32 (q.1 : Int), f, q.2)) := Lib.hid (by rw [HR.out, hexN_some hd])
          obtain ⟨hd1, hd2, hd3⟩ := hexI_of hd
          have HN2 : Hid (n * 16 + d < 16 ^ (i + 1)) := Lib.hid (by have := HN.out; rw [Nat.pow_succ]; omega)
          clear hd HR
          generalize hexI b = x at *
          generalize hy : b.toNat = y at *
          go_wp2_with fail
          refine HX.out.mono ?_
          rintro e w2 ⟨rfl, hj, hkp⟩
          have HJ2 := Lib.hid hj
          have HK := Lib.hid (HJ.out.2.trans' hkp)
          clear hkp hj
          rw [hy]
          clear hy
          go_wp2_with fail
          refine (HIB.out _).mono ?_
          rintro e w3 ⟨rfl, rfl⟩
          rcases hd3 with ⟨hx1, hx2⟩ | ⟨hx1, hx2, hx3⟩
          · go_wp2_with fail
            exact ⟨⟨i + 1, n * 16 + d, t, by omega, by go_num, by go_num, HN2, Lib.hid ⟨HJ2.out, HK.out⟩, by rw [HKI.out]; exact HR2⟩, by simp [intOf]; omega⟩
          · go_wp2_with fail
            exact ⟨⟨i + 1, n * 16 + d, t, by omega, by go_num, by go_num, HN2, Lib.hid ⟨HJ2.out, HK.out⟩, by rw [HKI.out]; exact HR2⟩, by simp [intOf]; omega⟩
    · obtain rfl : i = 4 := by omega
      obtain rfl : R = some (.int .i32 (n : Int), f, r) := HR.out
      have hn := HN.out
      have hn2 : (n : Int) < 65536 := by omega
      have hw : IntKind.i32.wrap (n : Int) = (n : Int) := by simp [IntKind.wrap, IntKind.bits, IntKind.signed]; omega
      go_wp2_with fail
      go_ret
      exact ⟨rfl, HJ.out.1, HJ.out.2⟩
end Go.Proofs.YtjckojedafajeaaGreatDoor
/- Layer 8: pure: a text in quotes is read as it was. -/
namespace Go.Proofs.YtjckojedafajeaaGreatDoor
open Go.RowKit

theorem hexV_hexD : ∀ x : Fin 16, hexV (hexD x.val) = some x.val := by decide
theorem hexV_at {x : Nat} (h : x < 16) : hexV (hexD x) = some x := hexV_hexD ⟨x, h⟩
theorem four_low {x y : Nat} (hx : x < 16) (hy : y < 16) (r : List UInt8) : four (48 :: 48 :: hexD x :: hexD y :: r) = some (x * 16 + y, r) := by
  have h0 : hexV 48 = some 0 := by decide
  unfold four
  rw [hexN]; simp only [h0]
  rw [hexN]; simp only [h0]
  rw [hexN]; simp only [hexV_at hx]
  rw [hexN]; simp only [hexV_at hy]
  rw [hexN]
  simp
theorem runeL_low {b : UInt8} (h : b.toNat < 128) : runeL b.toNat = [b] := by
  unfold runeL
  rw [if_pos h]
  simp
theorem letterL_low {b : UInt8} (h : b.toNat < 32) (r : List UInt8) : letterL (117 :: 48 :: 48 :: hexD (b.toNat / 16) :: hexD (b.toNat % 16) :: r) = some (b.toNat, false, r) := by
  unfold letterL
  simp only [if_true]
  unfold codedL
  rw [four_low (by omega) (by omega)]
  have e : b.toNat / 16 * 16 + b.toNat % 16 = b.toNat := by omega
  simp only [e]
  have h1 : isHi b.toNat = false := by unfold isHi; simp; omega
  have h2 : isLo b.toNat = false := by unfold isLo; simp; omega
  rw [if_pos ⟨h1, h2⟩]
theorem letsL_esc92 {t r : List UInt8} {x : Nat} {a : Bool} (h : letterL t = some (x, a, r)) : letsL (92 :: t) = (letsL r).map fun q => (runeL x ++ q.1, a || q.2.1, q.2.2) := by
  rw [letsL]
  rw [if_neg (by decide), if_pos rfl]
  split
  · rename_i h2; rw [h] at h2; cases h2
  · rename_i x2 a2 r2 h2
    rw [h] at h2
    injection h2 with h2; injection h2 with h3 h2; injection h2 with h4 h5
    subst h3 h4 h5
    cases letsL r <;> rfl
theorem letsL_plain {b : UInt8} (h1 : b ≠ 34) (h2 : b ≠ 92) (h3 : ¬ b.toNat < 32) (t : List UInt8) : letsL (b :: t) = (letsL t).map fun q => (b :: q.1, q.2.1, q.2.2) := by
  rw [letsL, if_neg h1, if_neg h2, if_neg h3]
  cases letsL t <;> rfl
/-- A byte as it stands in quotes is read as it was. -/
theorem letsL_esc (b : UInt8) (r : List UInt8) : letsL (escL b ++ r) = (letsL r).map fun q => (b :: q.1, q.2.1, q.2.2) := by
  have key : ∀ (t : List UInt8) (x : Nat), letterL t = some (x, false, r) → runeL x = [b] → letsL (92 :: t) = (letsL r).map fun q => (b :: q.1, q.2.1, q.2.2) := by
    intro t x h hx
    rw [letsL_esc92 h, hx]
    rfl
  unfold escL
  split
  · rename_i h; subst h; exact key _ 34 rfl rfl
  · split
    · rename_i h; subst h; exact key _ 92 rfl rfl
    · split
      · rename_i h; subst h; exact key _ 8 rfl rfl
      · split
        · rename_i h; subst h; exact key _ 12 rfl rfl
        · split
          · rename_i h; subst h; exact key _ 10 rfl rfl
          · split
            · rename_i h; subst h; exact key _ 13 rfl rfl
            · split
              · rename_i h; subst h; exact key _ 9 rfl rfl
              · split
                · rename_i h
                  exact key _ b.toNat (letterL_low h r) (runeL_low (by omega))
                · rename_i h1 h2 _ _ _ _ _ h3
                  exact letsL_plain h1 h2 h3 r
theorem letsL_quoted (s r : List UInt8) : letsL (s.flatMap escL ++ 34 :: r) = some (s, false, r) := by
  induction s with
  | nil => rw [List.flatMap_nil, List.nil_append, letsL, if_pos rfl]
  | cons b t ih => rw [List.flatMap_cons, List.append_assoc, letsL_esc, ih]; rfl
end Go.Proofs.YtjckojedafajeaaGreatDoor
/- Layer 8: pure: a value's text is read as that value. -/
namespace Go.Proofs.YtjckojedafajeaaGreatDoor
open Go.RowKit

/-- What may stand behind a value within one. -/
def okEnd (r : List UInt8) : Prop := r = [] ∨ ∃ b t, r = b :: t ∧ (b = 44 ∨ b = 93 ∨ b = 125)
theorem blk_cons {b : UInt8} (h : isBlank b = false) (t : List UInt8) : blk (b :: t) = b :: t := by
  unfold blk
  rw [List.dropWhile_cons, if_neg (by rw [h]; simp)]
theorem blk_end {r : List UInt8} (h : okEnd r) : blk r = r := by
  rcases h with h | ⟨b, t, h, h2⟩
  · rw [h]; rfl
  · rw [h]
    exact blk_cons (by rcases h2 with h2 | h2 | h2 <;> subst h2 <;> decide) t
/-- A number's text is read, whatever ends it. -/
def NumOk (d : Dec) : Prop := ∃ b t, txL d = b :: t ∧ isBlank b = false ∧ b ≠ 34 ∧ b ≠ 91 ∧ b ≠ 123 ∧ b ≠ 93 ∧ b ≠ 110 ∧ b ≠ 116 ∧ b ≠ 102 ∧ parseD (txL d) = d ∧ parseE (txL d) = 0 ∧ ∀ r, okEnd r → numEnd (txL d ++ r) = some r
mutual
/-- A value that may be, but for its letters, its depth and its text's length. -/
def MayJ : JV → Prop
  | .mk k b d t l ns =>
    (k = 0 ∧ b = false ∧ d = Dec.zero ∧ t = [] ∧ l = [] ∧ ns = []) ∨ (k = 1 ∧ d = Dec.zero ∧ t = [] ∧ l = [] ∧ ns = []) ∨
    (k = 2 ∧ b = false ∧ NumOk d ∧ t = [] ∧ l = [] ∧ ns = []) ∨ (k = 3 ∧ b = false ∧ d = Dec.zero ∧ l = [] ∧ ns = []) ∨
    (k = 4 ∧ b = false ∧ d = Dec.zero ∧ t = [] ∧ ns = [] ∧ MayKids l) ∨
    (k = 5 ∧ b = false ∧ d = Dec.zero ∧ t = [] ∧ ns.length = l.length ∧ ns.Nodup ∧ MayKids l)
def MayKids : List JV → Prop
  | [] => True
  | x :: l => MayJ x ∧ MayKids l
end
theorem pfx_self (p r : List UInt8) : pfx p (p ++ r) = true := List.isPrefixOf_iff_prefix.2 (List.prefix_append _ _)
theorem tkB_cons (these : List UInt8) (b : UInt8) (t : List UInt8) : tkB these (b :: t) = these.contains b := rfl
theorem enter_ok {obj : Bool} {K : List Fr} (h : K.length < 64) (f : Fl) : isDeepK (enterK obj K) = false ∧ enterF (enterK obj K) f = f := by
  have h1 : isDeepK (enterK obj K) = false := by unfold isDeepK enterK maxDeep; simp; omega
  exact ⟨h1, by unfold enterF; rw [h1]; rfl⟩
/-- The first byte of a value's text. -/
def Head (s : List UInt8) : Prop := ∃ b t, s = b :: t ∧ isBlank b = false ∧ b ≠ 93
theorem tell_head {v : JV} (h : MayJ v) : Head (tellJ v) := by
  obtain ⟨k, b, d, t, l, ns⟩ := v
  unfold MayJ at h
  unfold tellJ
  rcases h with ⟨rfl, _⟩ | ⟨rfl, _⟩ | ⟨rfl, _, ⟨x, y, hx, h1, _, _, _, h2, _⟩, _⟩ | ⟨rfl, _⟩ | ⟨rfl, _⟩ | ⟨rfl, _⟩
  · exact ⟨110, _, rfl, by decide, by decide⟩
  · cases b
    · exact ⟨102, _, rfl, by decide, by decide⟩
    · exact ⟨116, _, rfl, by decide, by decide⟩
  · exact ⟨x, y, by simpa using hx, h1, h2⟩
  · exact ⟨34, _, rfl, by decide, by decide⟩
  · exact ⟨91, _, rfl, by decide, by decide⟩
  · exact ⟨123, _, rfl, by decide, by decide⟩
theorem runJ_value (K : List Fr) (f : Fl) (s : List UInt8) : runJ .value K f s =
    if tkB [91] (blk s) = true then
      if tkB [93] (blk ((blk s).drop 1)) = true then runJ .leave (enterK false K) (enterF (enterK false K) f) ((blk ((blk s).drop 1)).drop 1)
      else runJ .value (enterK false K) (enterF (enterK false K) f) (blk ((blk s).drop 1))
    else if tkB [123] (blk s) = true then
      if tkB [125] (blk ((blk s).drop 1)) = true then runJ .leave (enterK true K) (enterF (enterK true K) f) ((blk ((blk s).drop 1)).drop 1)
      else runJ .name (enterK true K) (enterF (enterK true K) f) (blk ((blk s).drop 1))
    else match plainL (blk s) with
      | none => none
      | some (v, a, g, r) => runJ (.behind v) K { f with alone := f.alone || a, far := f.far || g } r := by
  conv => lhs; rw [runJ]
  simp only [dite_eq_ite]
  split
  · rfl
  · split
    · rfl
    · split <;> rename_i h <;> rw [h]
theorem runJ_name (K : List Fr) (f : Fl) (s : List UInt8) : runJ .name K f s =
    if tkB [34] (blk s) = true then match letsL ((blk s).drop 1) with
      | none => none
      | some (l, a, r) =>
        if tkB [58] (blk r) = true then runJ .value (nameK l K) (nameF l K { f with alone := f.alone || a }) ((blk r).drop 1)
        else none
    else none := by
  conv => lhs; rw [runJ]
  simp only [dite_eq_ite]
  split
  · split <;> rename_i h <;> rw [h]
  · rfl
theorem runJ_leave (t : Fr) (r : List Fr) (f : Fl) (s : List UInt8) : runJ .leave (t :: r) f s = runJ (.behind (if isDeepK (t :: r) then JV.null else t.val)) r f s := by
  conv => lhs; rw [runJ]
theorem runJ_behind0 (v : JV) (f : Fl) (s : List UInt8) : runJ (.behind v) [] f s = if blk s = [] then some (v, f) else none := by
  conv => lhs; rw [runJ]
theorem runJ_behind (v : JV) (t : Fr) (r : List Fr) (f : Fl) (s : List UInt8) : runJ (.behind v) (t :: r) f s =
    if tkB [44] (blk s) = true then runJ (if t.obj then .name else .value) (putK v (t :: r)) f ((blk s).drop 1)
    else if tkB [if t.obj then 125 else 93] (blk s) = true then runJ .leave (putK v (t :: r)) f ((blk s).drop 1)
    else none := by
  conv => lhs; rw [runJ]
  simp only [dite_eq_ite]
end Go.Proofs.YtjckojedafajeaaGreatDoor
