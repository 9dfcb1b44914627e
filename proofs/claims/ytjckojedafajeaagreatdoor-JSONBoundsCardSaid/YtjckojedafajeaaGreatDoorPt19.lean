/- Layer 8: a number. -/
import Derived.Test.YtjckojedafajeaaGreatDoorPt18
namespace Go.Proofs.YtjckojedafajeaaGreatDoor
open Go.RowKit

/-- What number ends with; s0: what was left when it began, r: what is left behind it. -/
def NPost (w : World) (p : Nat) (X : Txt) (E O : Value) (f : Fl) (s0 : List UInt8) : Option (List UInt8) → Ending → World → Prop
  | none, e, w' => e = .panicked (panicOf 180) ∧ Kept (· = p) w w'
  | some r, e, w' => e = .returned (decV (parseD (s0.take (s0.length - r.length)))) ∧ JAt w' p X r E O { f with far := f.far || decide (parseE (s0.take (s0.length - r.length)) ≠ 0) } ∧ Kept (· = p) w w'
/-- A number under way. -/
structure NumS (w W : World) (p : Nat) (X : Txt) (k0 : Nat) (s : List UInt8) (E O : Value) (f : Fl) (rv : Nat) : Prop where
  at_ : JAt W p X s E O f
  row : Row W rv 26 #[.bool false, .string ⟨#[]⟩, .int .i64 0]
  kept : Kept (TxF w p) w W
/-- What a number's walk starts from. -/
structure NumB (w : World) (p : Nat) (X : Txt) (k0 : Nat) (E O : Value) (f : Fl) (rv : Nat) : Prop where
  at_ : JRd w p X k0 E O f
  small : X.l.length ≤ 9223372036854775806 ∧ X.l.length ≤ X.c
  tab : ∀ V, Kept (TxF w p) w V → PowTab V
  new : w.heap.size ≤ rv
theorem NumS.to {w W W2 : World} {p : Nat} {X : Txt} {k0 : Nat} {s s2 : List UInt8} {E O : Value} {f f2 : Fl} {rv : Nat} (hb : NumB w p X k0 E O f2 rv) (h : NumS w W p X k0 s E O f rv) (hj : JTo p X s2 E O f W W2) : NumS w W2 p X k0 s2 E O f rv :=
  ⟨hj.1, (hj.2.block rv h.row.lt (by show ¬ rv = p; have h1 := hb.new; have h2 := hb.at_.row.lt; omega)).trans h.row, h.kept.trans' (kept_p hj.2)⟩
def ptr (p : Nat) : Value := .pointer (some ⟨p, 0, none⟩)
set_option maxRecDepth 1000000 in
set_option maxHeartbeats 40000000 in
theorem jnum10 (p : Nat) (X : Txt) (k0 : Nat) (s : List UInt8) (E O : Value) (f : Fl) (w W : World) (rv : Nat) (hb : NumB w p X k0 E O f rv) (hs : NumS w W p X k0 s E O f rv) (hlt : s.length < (X.l.drop k0).length) (h : Nat → Value) :
    Code.wp Tryz.prog (nmSuf 10) (bodyPost Tryz.prog Tryz.f93 (NPost w p X E O f (X.l.drop k0) (some s))) ⟨(frN h (.pointer (some ⟨p, 0, none⟩)) (.pointer (some ⟨rv, 0, none⟩)) (.int .i64 (k0 : Int))).toArray, []⟩ W := by
  obtain ⟨hl, k, hr, hk, hkl⟩ := hs.at_
  have hlen : s.length = X.l.length - k := by rw [← hk, List.length_drop]
  rw [List.length_drop] at hlt
  refine jnum_tail p X k0 k E O f w W (hb.tab _ hs.kept) hr (by omega) hkl hl.2 rv hs.row hb.new hb.at_.row.lt hs.kept E O f k0 hb.at_ _ ?_ h
  intro w' g1 g2
  have e : (X.l.drop k0).length - s.length = k - k0 := by rw [List.length_drop]; omega
  unfold NPost
  simp only
  rw [e]
  exact ⟨rfl, ⟨hl, k, g1, hk, hkl⟩, kept_cut g2⟩
/-- Behind the digits behind the point. -/
def numE (s : List UInt8) : Option (List UInt8) := if tkB [101, 69] s then dgs (tkS [43, 45] (s.drop 1)) else some s
theorem dgsR_none {f : Fl} {s : List UInt8} (h : dgs s = none) : dgsR f s = none := by unfold dgsR; rw [h]; rfl
theorem dgsR_some {f : Fl} {s r : List UInt8} (h : dgs s = some r) : dgsR f s = some (.tuple #[], f, r) := by unfold dgsR; rw [h]; rfl
set_option maxRecDepth 1000000 in
set_option maxHeartbeats 40000000 in
theorem jnum7 (p : Nat) (X : Txt) (k0 : Nat) (s : List UInt8) (E O : Value) (f : Fl) (w W : World) (rv : Nat) (hb : NumB w p X k0 E O f rv) (hs : NumS w W p X k0 s E O f rv) (hlt : s.length < (X.l.drop k0).length) (h : Nat → Value) :
    Code.wp Tryz.prog (nmSuf 7) (bodyPost Tryz.prog Tryz.f93 (NPost w p X E O f (X.l.drop k0) (numE s))) ⟨(frN h (.pointer (some ⟨p, 0, none⟩)) (.pointer (some ⟨rv, 0, none⟩)) (.int .i64 (k0 : Int))).toArray, []⟩ W := by
  have HT := Lib.hid (jtake_ok p X [101, 69] s E O f W hs.at_)
  have HB := Lib.hid hb
  have HS := Lib.hid hs
  have HLT := Lib.hid hlt
  have HE : Hid (numE s = if tkB [101, 69] s then dgs (tkS [43, 45] (s.drop 1)) else some s) := Lib.hid rfl
  clear hb hs hlt
  generalize numE s = R at *
  conv => arg 2; whnf
  dsimp only [frN]
  go_upto_region 7 with fail
  rename_i K2 hK2 K1 hK1
  have HK2 := Lib.hid hK2
  clear hK2
  cases hc : tkB [101, 69] s with
  | false =>
    obtain rfl : R = some s := by rw [HE.out, hc]; rfl
    have HN := Lib.hid (tkS_no hc)
    rw [hc] at HT
    clear hc HE
    go_wp2_with fail
    refine HT.out.mono ?_
    rintro e w1 ⟨rfl, hj⟩
    rw [HN.out] at hj
    have HS2 := Lib.hid (HS.out.to HB.out hj)
    clear hj HT
    go_wp2_with fail
    refine HK2.out _ _ ?_
    refine wp_code (nmSuf 10) (by kernel_rfl) ?_
    refine frN_end (K := fun a w => Code.wp Tryz.prog (nmSuf 10) _ a w) (.pointer (some ⟨p, 0, none⟩)) (.pointer (some ⟨rv, 0, none⟩)) (.int .i64 (k0 : Int)) ?_ ?_
    · kernel_rfl
    · exact jnum10 p X k0 s E O f w w1 rv HB.out HS2.out HLT.out _
  | true =>
    have HR : Hid (R = dgs (tkS [43, 45] (tkS [101, 69] s))) := Lib.hid (by rw [HE.out, hc, tkS_yes hc]; rfl)
    have HL1 := Lib.hid (tkS_le [101, 69] s)
    rw [hc] at HT
    clear hc HE
    generalize tkS [101, 69] s = s1 at *
    go_wp2_with fail
    refine HT.out.mono ?_
    rintro e w1 ⟨rfl, hj⟩
    have HS1 := Lib.hid (HS.out.to HB.out hj)
    have HT2 := Lib.hid (jtake_ok p X [43, 45] s1 E O f w1 hj.1)
    have HL2 := Lib.hid (tkS_le [43, 45] s1)
    clear hj HT
    generalize tkB [43, 45] s1 = bb at *
    generalize tkS [43, 45] s1 = s2 at *
    go_wp2_with fail
    refine HT2.out.mono ?_
    rintro e w2 ⟨rfl, hj⟩
    have HS2 := Lib.hid (HS1.out.to HB.out hj)
    have HD := Lib.hid (jdigits_ok p X s2 E O f w2 hj.1)
    clear hj HT2
    cases hd : dgs s2 with
    | none =>
      obtain rfl : R = none := by rw [HR.out, hd]
      rw [dgsR_none hd] at HD
      clear hd
      go_wp2_with fail
      refine HD.out.mono ?_
      rintro e w3 ⟨rfl, hk⟩
      have HK3 := Lib.hid (kept_cut (HS2.out.kept.trans' (kept_p hk)))
      clear hk
      go_wp2_with fail
      exact ⟨rfl, rfl, HK3.out⟩
    | some r =>
      obtain rfl : R = some r := by rw [HR.out, hd]
      have HL3 := Lib.hid (dgs_len hd)
      rw [dgsR_some hd] at HD
      clear hd
      go_wp2_with fail
      refine HD.out.mono ?_
      rintro e w3 ⟨rfl, hj⟩
      have HS3 := Lib.hid (HS2.out.to HB.out hj)
      clear hj HD
      go_wp2_with fail
      refine HK2.out _ _ ?_
      refine wp_code (nmSuf 10) (by kernel_rfl) ?_
      refine frN_end (K := fun a w => Code.wp Tryz.prog (nmSuf 10) _ a w) (.pointer (some ⟨p, 0, none⟩)) (.pointer (some ⟨rv, 0, none⟩)) (.int .i64 (k0 : Int)) ?_ ?_
      · kernel_rfl
      · exact jnum10 p X k0 r E O f w w3 rv HB.out HS3.out (by have h1 := HL1.out; have h2 := HL2.out; have h3 := HL3.out; have h4 := HLT.out; omega) _
/-- Behind the digits ahead of the point. -/
def numD (s : List UInt8) : Option (List UInt8) := match (if tkB [46] s then dgs (s.drop 1) else some s) with
  | none => none
  | some r => numE r
set_option maxRecDepth 1000000 in
set_option maxHeartbeats 40000000 in
theorem jnum5 (p : Nat) (X : Txt) (k0 : Nat) (s : List UInt8) (E O : Value) (f : Fl) (w W : World) (rv : Nat) (hb : NumB w p X k0 E O f rv) (hs : NumS w W p X k0 s E O f rv) (hlt : s.length < (X.l.drop k0).length) (h : Nat → Value) :
    Code.wp Tryz.prog (nmSuf 5) (bodyPost Tryz.prog Tryz.f93 (NPost w p X E O f (X.l.drop k0) (numD s))) ⟨(frN h (.pointer (some ⟨p, 0, none⟩)) (.pointer (some ⟨rv, 0, none⟩)) (.int .i64 (k0 : Int))).toArray, []⟩ W := by
  have HT := Lib.hid (jtake_ok p X [46] s E O f W hs.at_)
  have HB := Lib.hid hb
  have HS := Lib.hid hs
  have HLT := Lib.hid hlt
  have HE : Hid (numD s = match (if tkB [46] s then dgs (s.drop 1) else some s) with
    | none => none
    | some r => numE r) := Lib.hid rfl
  clear hb hs hlt
  generalize numD s = R at *
  conv => arg 2; whnf
  dsimp only [frN]
  go_upto_region 5 with fail
  rename_i K2 hK2 K1 hK1
  have HK2 := Lib.hid hK2
  clear hK2
  cases hc : tkB [46] s with
  | false =>
    obtain rfl : R = numE s := by rw [HE.out, hc]; rfl
    have HN := Lib.hid (tkS_no hc)
    rw [hc] at HT
    clear hc HE
    go_wp2_with fail
    refine HT.out.mono ?_
    rintro e w1 ⟨rfl, hj⟩
    rw [HN.out] at hj
    have HS2 := Lib.hid (HS.out.to HB.out hj)
    clear hj HT
    go_wp2_with fail
    refine HK2.out _ _ ?_
    refine wp_code (nmSuf 7) (by kernel_rfl) ?_
    refine frN_end (K := fun a w => Code.wp Tryz.prog (nmSuf 7) _ a w) (.pointer (some ⟨p, 0, none⟩)) (.pointer (some ⟨rv, 0, none⟩)) (.int .i64 (k0 : Int)) ?_ ?_
    · kernel_rfl
    · exact jnum7 p X k0 s E O f w w1 rv HB.out HS2.out HLT.out _
  | true =>
    have HL1 := Lib.hid (tkS_le [46] s)
    rw [hc, ← tkS_yes hc, if_pos rfl] at HE
    rw [hc] at HT
    clear hc
    generalize tkS [46] s = s2 at *
    go_wp2_with fail
    refine HT.out.mono ?_
    rintro e w2 ⟨rfl, hj⟩
    have HS2 := Lib.hid (HS.out.to HB.out hj)
    have HD := Lib.hid (jdigits_ok p X s2 E O f w2 hj.1)
    clear hj HT
    cases hd : dgs s2 with
    | none =>
      obtain rfl : R = none := by rw [HE.out, hd]
      rw [dgsR_none hd] at HD
      clear hd HE
      go_wp2_with fail
      refine HD.out.mono ?_
      rintro e w3 ⟨rfl, hk⟩
      have HK3 := Lib.hid (kept_cut (HS2.out.kept.trans' (kept_p hk)))
      clear hk
      go_wp2_with fail
      exact ⟨rfl, rfl, HK3.out⟩
    | some r =>
      obtain rfl : R = numE r := by rw [HE.out, hd]
      have HL3 := Lib.hid (dgs_len hd)
      rw [dgsR_some hd] at HD
      clear hd HE
      go_wp2_with fail
      refine HD.out.mono ?_
      rintro e w3 ⟨rfl, hj⟩
      have HS3 := Lib.hid (HS2.out.to HB.out hj)
      clear hj HD
      go_wp2_with fail
      refine HK2.out _ _ ?_
      refine wp_code (nmSuf 7) (by kernel_rfl) ?_
      refine frN_end (K := fun a w => Code.wp Tryz.prog (nmSuf 7) _ a w) (.pointer (some ⟨p, 0, none⟩)) (.pointer (some ⟨rv, 0, none⟩)) (.int .i64 (k0 : Int)) ?_ ?_
      · kernel_rfl
      · exact jnum7 p X k0 r E O f w w3 rv HB.out HS3.out (by have h1 := HL1.out; have h3 := HL3.out; have h4 := HLT.out; omega) _
end Go.Proofs.YtjckojedafajeaaGreatDoor
/- Layer 8: number, whole. -/
namespace Go.Proofs.YtjckojedafajeaaGreatDoor
open Go.RowKit

theorem numEnd_eq (s : List UInt8) : numEnd s = match (if tkB [48] (tkS [45] s) then some ((tkS [45] s).drop 1) else dgs (tkS [45] s)) with
    | none => none
    | some s2 => numD s2 := by
  unfold numEnd numD numE
  rfl
set_option maxRecDepth 1000000 in
set_option maxHeartbeats 40000000 in
theorem jnumber_ok (p : Nat) (X : Txt) (s : List UInt8) (E O : Value) (f : Fl) (w : World) (h : JAt w p X s E O f) (hT : ∀ V, Kept (TxF w p) w V → PowTab V) :
    Calls Tryz.prog 93 #[.pointer (some ⟨p, 0, none⟩)] w (NPost w p X E O f s (numEnd s)) := by
  obtain ⟨hl, k0, hr, hk, hkl⟩ := h
  obtain ⟨w1, hw1⟩ : ∃ w1, w1 = w.alloc (.cells #[.bool false, .string ⟨#[]⟩, .int .i64 0] 26) := ⟨_, rfl⟩
  have hb1 : Below w.heap.size w w1 := by subst hw1; exact (Below.refl _ _).alloc (Nat.le_refl _) _
  have HB : Hid (NumB w p X k0 E O f w.heap.size) := Lib.hid ⟨hr, hl, hT, Nat.le_refl _⟩
  have HS1 : Hid (NumS w w1 p X k0 s E O f w.heap.size) := Lib.hid ⟨⟨hl, k0, hr.below hb1, hk, hkl⟩, by subst hw1; exact Row.new _ _ _, keptOf_below hb1⟩
  have HSK : Hid (X.l.drop k0 = s) := Lib.hid hk
  have c1 := (hr.below hb1).row.cell (i := 1) (v := .int .i64 (k0 : Int)) rfl
  have HT := Lib.hid (jtake_ok p X [45] s E O f w1 HS1.out.at_)
  have HE := Lib.hid (numEnd_eq s)
  have HP : Hid (NPost w p X E O f s = NPost w p X E O f (X.l.drop k0)) := Lib.hid (by rw [hk])
  have HL0 := Lib.hid (tkS_le [45] s)
  have HN := Lib.hid (show w1.heap.size = w.heap.size + 1 by subst hw1; simp)
  clear hl hr hk hkl hb1 hT
  rw [HP.out]
  clear HP
  generalize numEnd s = R at *
  go_enter Tryz.func93, Tryz.ntmps93
  go_upto_region 1 with fail
  rw [← hw1]
  clear hw1
  generalize tkB [45] s = bb at *
  generalize tkS [45] s = s1 at *
  generalize hrv : w.heap.size = rv at *
  go_wp2_with fail
  refine HT.out.mono ?_
  rintro e w2 ⟨rfl, hj⟩
  have HS2 := Lib.hid (HS1.out.to HB.out hj)
  have HT2 := Lib.hid (jtake_ok p X [48] s1 E O f w2 hj.1)
  clear hj HT c1 hrv
  go_upto_region 3 with fail
  rename_i K2 hK2 K1 hK1
  have HK2 := Lib.hid hK2
  clear hK2
  cases hc : tkB [48] s1 with
  | true =>
    have HE2 : Hid (R = numD (tkS [48] s1)) := Lib.hid (by rw [HE.out, hc, tkS_yes hc]; rfl)
    have HL1 := Lib.hid (tkS_lt hc)
    rw [hc] at HT2
    clear hc HE
    generalize tkS [48] s1 = s2 at *
    obtain rfl : R = numD s2 := HE2.out
    go_wp2_with fail
    refine HT2.out.mono ?_
    rintro e w3 ⟨rfl, hj⟩
    have HS3 := Lib.hid (HS2.out.to HB.out hj)
    clear hj HT2
    go_wp2_with fail
    refine HK2.out _ _ ?_
    refine wp_code (nmSuf 5) (by kernel_rfl) ?_
    refine frN_end (K := fun a w => Code.wp Tryz.prog (nmSuf 5) _ a w) (.pointer (some ⟨p, 0, none⟩)) (.pointer (some ⟨rv, 0, none⟩)) (.int .i64 (k0 : Int)) ?_ ?_
    · kernel_rfl
    · exact jnum5 p X k0 s2 E O f w w3 rv HB.out HS3.out (by rw [HSK.out]; have h1 := HL1.out; have h2 := HL0.out; omega) _
  | false =>
    have HN1 := Lib.hid (tkS_no hc)
    rw [hc] at HT2 HE
    clear hc
    cases hd : dgs s1 with
    | none =>
      obtain rfl : R = none := by rw [HE.out, if_neg (by simp), hd]
      have HD := Lib.hid (fun (W : World) (hj : JAt W p X s1 E O f) => jdigits_ok p X s1 E O f W hj)
      rw [dgsR_none hd] at HD
      clear hd HE
      go_wp2_with fail
      refine HT2.out.mono ?_
      rintro e w3 ⟨rfl, hj⟩
      rw [HN1.out] at hj
      have HS3 := Lib.hid (HS2.out.to HB.out hj)
      clear hj HT2
      go_wp2_with fail
      refine (HD.out _ HS3.out.at_).mono ?_
      rintro e w4 ⟨rfl, hk⟩
      have HK3 := Lib.hid (kept_cut (HS3.out.kept.trans' (kept_p hk)))
      clear hk
      go_wp2_with fail
      exact ⟨rfl, rfl, HK3.out⟩
    | some r =>
      obtain rfl : R = numD r := by rw [HE.out, if_neg (by simp), hd]
      have HL3 := Lib.hid (dgs_len hd)
      have HD := Lib.hid (fun (W : World) (hj : JAt W p X s1 E O f) => jdigits_ok p X s1 E O f W hj)
      rw [dgsR_some hd] at HD
      clear hd HE
      go_wp2_with fail
      refine HT2.out.mono ?_
      rintro e w3 ⟨rfl, hj⟩
      rw [HN1.out] at hj
      have HS3 := Lib.hid (HS2.out.to HB.out hj)
      clear hj HT2
      go_wp2_with fail
      refine (HD.out _ HS3.out.at_).mono ?_
      rintro e w4 ⟨rfl, hj⟩
      have HS4 := Lib.hid (HS3.out.to HB.out hj)
      clear hj HD
      go_wp2_with fail
      refine HK2.out _ _ ?_
      refine wp_code (nmSuf 5) (by kernel_rfl) ?_
      refine frN_end (K := fun a w => Code.wp Tryz.prog (nmSuf 5) _ a w) (.pointer (some ⟨p, 0, none⟩)) (.pointer (some ⟨rv, 0, none⟩)) (.int .i64 (k0 : Int)) ?_ ?_
      · kernel_rfl
      · exact jnum5 p X k0 r E O f w w4 rv HB.out HS4.out (by rw [HSK.out]; have h1 := HL3.out; have h2 := HL0.out; omega) _
end Go.Proofs.YtjckojedafajeaaGreatDoor
