/- Layer 8: plain: a value that is neither a list nor an object. -/
import Derived.Test.YtjckojedafajeaaGreatDoorPt19
namespace Go.Proofs.YtjckojedafajeaaGreatDoor
open Go.RowKit

/-- A value's cells. -/
def jvC (k : Int) (b : Bool) (d : Dec) (t : List UInt8) (L N : Value) : Array Value := #[.int .i64 k, .bool b, .bool d.neg, .string (bs d.digits), .int .i64 d.exp, .string (bs t), L, N]
def plainV : JV → Value
  | .mk k b d t _ _ => .agg (jvC k b d t (.slice none 0 0) (.slice none 0 0))
def zeroJ : Array Value := #[.int .i64 0, .bool false, .bool false, .string ⟨#[]⟩, .int .i64 0, .string ⟨#[]⟩, .slice none 0 0, .slice none 0 0]
theorem infoJ : (Tryz.prog.info? 30).map (·.size) = some 8 := by kernel_rfl
theorem load_jv {w : World} {g : Nat} {cs : Array Value} (h : Row w g 30 cs) (hs : cs.size = 8) : (loadVar 30 ⟨g, 0, none⟩).run Tryz.prog w = .ok (.agg cs) w :=
  run_loadVar_row w g 30 30 cs (0, 0) _ h Tryz.underlying30 rfl (by rw [hs]; exact infoJ)
/-- What plain ends with. -/
def PPost (w : World) (p : Nat) (X : Txt) (E O : Value) (f : Fl) : Option (JV × Bool × Bool × List UInt8) → Ending → World → Prop
  | none, e, w' => e = .panicked (panicOf 180) ∧ Kept (· = p) w w'
  | some (v, a, g, r), e, w' => e = .returned (plainV v) ∧ JAt w' p X r E O { f with alone := f.alone || a, far := f.far || g } ∧ Kept (· = p) w w'
/-- plain under way. -/
structure PlS (w W : World) (p : Nat) (X : Txt) (s : List UInt8) (E O : Value) (f : Fl) (rv : Nat) : Prop where
  at_ : JAt W p X s E O f
  row : Row W rv 30 zeroJ
  kept : Kept (TxF w p) w W
theorem PlS.to {w W W2 : World} {p : Nat} {X : Txt} {s s2 : List UInt8} {E O : Value} {f f2 : Fl} {rv : Nat} (hp : rv ≠ p) (h : PlS w W p X s E O f rv) (hj : JAt W2 p X s2 E O f2) (hk : Kept (· = p) W W2) : PlS w W2 p X s2 E O f2 rv :=
  ⟨hj, (hk.block rv h.row.lt (by show ¬ rv = p; exact hp)).trans h.row, h.kept.trans' (kept_p hk)⟩
def put8 (w : World) (rv : Nat) (v0 v1 v2 v3 v4 v5 v6 v7 : Value) : World :=
  (((((((w.setCell ⟨rv, 0, none⟩ v0).setCell ⟨rv, 1, none⟩ v1).setCell ⟨rv, 2, none⟩ v2).setCell ⟨rv, 3, none⟩ v3).setCell ⟨rv, 4, none⟩ v4).setCell ⟨rv, 5, none⟩ v5).setCell ⟨rv, 6, none⟩ v6).setCell ⟨rv, 7, none⟩ v7
theorem put8_kept (w : World) (rv : Nat) (v0 v1 v2 v3 v4 v5 v6 v7 : Value) : Kept (· = rv) w (put8 w rv v0 v1 v2 v3 v4 v5 v6 v7) :=
  (((((((Kept.cell _ _ _ _).trans' (Kept.cell _ _ _ _)).trans' (Kept.cell _ _ _ _)).trans' (Kept.cell _ _ _ _)).trans' (Kept.cell _ _ _ _)).trans' (Kept.cell _ _ _ _)).trans' (Kept.cell _ _ _ _)).trans' (Kept.cell _ _ _ _)
theorem put8_row {w : World} {rv : Nat} {T : TypeId} (h : Row w rv T zeroJ) (v0 v1 v2 v3 v4 v5 v6 v7 : Value) : Row (put8 w rv v0 v1 v2 v3 v4 v5 v6 v7) rv T #[v0, v1, v2, v3, v4, v5, v6, v7] := by
  have h8 := (((((((h.set_ 0 v0).set_ 1 v1).set_ 2 v2).set_ 3 v3).set_ 4 v4).set_ 5 v5).set_ 6 v6).set_ 7 v7
  have e : (((((((zeroJ.setIfInBounds 0 v0).setIfInBounds 1 v1).setIfInBounds 2 v2).setIfInBounds 3 v3).setIfInBounds 4 v4).setIfInBounds 5 v5).setIfInBounds 6 v6).setIfInBounds 7 v7 = #[v0, v1, v2, v3, v4, v5, v6, v7] := by simp [zeroJ]
  rw [e] at h8
  exact h8
set_option maxRecDepth 1000000 in
set_option maxHeartbeats 40000000 in
theorem jplain_ok (p : Nat) (X : Txt) (s : List UInt8) (E O : Value) (f : Fl) (w : World) (h : JAt w p X s E O f) (hX : X.l.length ≤ 1048576) (hT : ∀ V, Kept (TxF w p) w V → PowTab V) :
    Calls Tryz.prog 59 #[.pointer (some ⟨p, 0, none⟩)] w (PPost w p X E O f (plainL s)) := by
  obtain ⟨w1, hw1⟩ : ∃ w1, w1 = w.alloc (.cells zeroJ 30) := ⟨_, rfl⟩
  have hb1 : Below w.heap.size w w1 := by subst hw1; exact (Below.refl _ _).alloc (Nat.le_refl _) _
  have hlt := h.lt
  have HP : Hid (w.heap.size ≠ p) := Lib.hid (by omega)
  have HS1 : Hid (PlS w w1 p X s E O f w.heap.size) := Lib.hid ⟨h.above h (keptNew_below hb1), by subst hw1; exact Row.new _ _ _, keptOf_below hb1⟩
  have H := Lib.hid h
  have HPT := Lib.hid hT
  obtain ⟨R, hR⟩ : ∃ R, R = plainL s := ⟨_, rfl⟩
  have HR := Lib.hid hR
  have fin : ∀ (w6 : World) (f6 : Fl) (r : List UInt8) (k : Int) (b : Bool) (d : Dec) (t : List UInt8) (a g : Bool), R = some (.mk k b d t [] [], a, g, r) → f6 = { f with alone := f.alone || a, far := f.far || g } → PlS w w6 p X r E O f6 w.heap.size →
      ∀ (tm : Array Value), tm.getD 2 undef = .pointer (some ⟨w.heap.size, 0, none⟩) → bodyPost Tryz.prog Tryz.f59 (PPost w p X E O f R) Exit.ret ⟨tm, []⟩ (put8 w6 w.heap.size (.int .i64 k) (.bool b) (.bool d.neg) (.string (bs d.digits)) (.int .i64 d.exp) (.string (bs t)) (.slice none 0 0) (.slice none 0 0)) := by
    rintro w6 f6 r k b d t a g rfl rfl hs tm g4
    refine bodyPost_ret_by (results_oneJ rfl _ _ w.heap.size (jvC k b d t (.slice none 0 0) (.slice none 0 0)) g4 (load_jv (put8_row hs.row _ _ _ _ _ _ _ _) rfl)) rfl ?_
    have k1 : Kept (fun q => w.heap.size ≤ q) w6 (put8 w6 w.heap.size (.int .i64 k) (.bool b) (.bool d.neg) (.string (bs d.digits)) (.int .i64 d.exp) (.string (bs t)) (.slice none 0 0) (.slice none 0 0)) :=
      kept_mono (put8_kept _ _ _ _ _ _ _ _ _ _) fun q e => by show w.heap.size ≤ q; rw [e]; exact Nat.le_refl _
    exact ⟨rfl, h.above hs.at_ k1, kept_cut (hs.kept.trans' (kept_new k1))⟩
  have FI := Lib.hid fin
  rw [← hR]
  clear h hT hR hb1 fin hlt
  unfold zeroJ at hw1
  have HT := Lib.hid (jtake_ok p X [34] s E O f w1 HS1.out.at_)
  go_enter Tryz.func59, Tryz.ntmps59
  go_upto_region 1 with fail
  rw [← hw1]
  clear hw1
  generalize hrv : w.heap.size = rv at *
  clear hrv
  cases hb : tkB [34] s with
  | true =>
    rw [hb] at HT
    have HQ : Hid (R = match letsL (tkS [34] s) with
      | none => none
      | some (l, a, r) => some (.mk 3 false Dec.zero l [] [], a, false, r)) := Lib.hid (by rw [HR.out]; unfold plainL; rw [if_pos hb, ← tkS_yes hb]; rfl)
    clear hb HR
    generalize tkS [34] s = s1 at *
    go_wp2_with fail
    refine HT.out.mono ?_
    rintro e w2 ⟨rfl, hj, hk⟩
    have HS2 := Lib.hid (HS1.out.to HP.out hj hk)
    have HL := Lib.hid (jletters_ok p X s1 E O f w2 hj hX)
    clear hj hk HT
    cases hl : letsL s1 with
    | none =>
      have e9 : letsR f s1 = none := by unfold letsR; rw [hl]; rfl
      rw [e9] at HL
      obtain rfl : R = none := by rw [HQ.out, hl]
      clear hl e9 HQ
      go_wp2_with fail
      refine HL.out.mono ?_
      rintro e w3 ⟨rfl, hk⟩
      have HK3 := Lib.hid (kept_cut (HS2.out.kept.trans' (kept_p hk)))
      clear hk
      go_wp2_with fail
      exact ⟨rfl, rfl, HK3.out⟩
    | some q =>
      obtain ⟨l, a, r⟩ := q
      have e9 : letsR f s1 = some (.string (bs l), { f with alone := f.alone || a }, r) := by unfold letsR; rw [hl]; rfl
      rw [e9] at HL
      have HQ2 : Hid (R = some (.mk 3 false Dec.zero l [] [], a, false, r)) := Lib.hid (by rw [HQ.out, hl])
      clear hl e9 HQ
      go_wp2_with fail
      refine HL.out.mono ?_
      rintro e w3 ⟨rfl, hj, hk⟩
      have HS3 := Lib.hid (HS2.out.to HP.out hj hk)
      clear hj hk HL
      have x0 := HS3.out.row.cell (i := 0) rfl
      have x1 := HS3.out.row.cell (i := 1) rfl
      have x2 := HS3.out.row.cell (i := 2) rfl
      have x3 := HS3.out.row.cell (i := 3) rfl
      have x4 := HS3.out.row.cell (i := 4) rfl
      have x5 := HS3.out.row.cell (i := 5) rfl
      have x6 := HS3.out.row.cell (i := 6) rfl
      have x7 := HS3.out.row.cell (i := 7) rfl
      have z0 := HS3.out.row.free 0
      have z1 := HS3.out.row.free 1
      have z2 := HS3.out.row.free 2
      have z3 := HS3.out.row.free 3
      have z4 := HS3.out.row.free 4
      have z5 := HS3.out.row.free 5
      have z6 := HS3.out.row.free 6
      have z7 := HS3.out.row.free 7
      go_wp2
      exact FI.out w3 _ r 3 false Dec.zero l a false HQ2.out (by simp) HS3.out _ rfl
  | false =>
    have HN1 := Lib.hid (tkS_no hb)
    rw [hb] at HT
    have hb34 := hb
    clear hb
    have hp0 : plainL s = if pfx wNull s then some (JV.null, false, false, s.drop 4) else if pfx wTrue s then some (.mk 1 true Dec.zero [] [] [], false, false, s.drop 4) else if pfx wFalse s then some (.mk 1 false Dec.zero [] [] [], false, false, s.drop 5) else match numEnd s with
      | none => none
      | some r => some (.mk 2 false (parseD (s.take (s.length - r.length))) [] [] [], false, decide (parseE (s.take (s.length - r.length)) ≠ 0), r) := by
      unfold plainL
      rw [if_neg (by rw [hb34]; simp)]
      rfl
    rw [← HR.out] at hp0
    have HQ := Lib.hid hp0
    clear hp0 hb34 HR
    have HW := Lib.hid (fun (q : List UInt8) (hq : 0 < q.length) (V : World) (hj : JAt V p X s E O f) => jword_ok p X q s E O f V hj hq)
    go_wp2_with fail
    refine HT.out.mono ?_
    rintro e w2 ⟨rfl, hj, hk⟩
    rw [HN1.out] at hj
    have HS2 := Lib.hid (HS1.out.to HP.out hj hk)
    clear hj hk HT
    have HW1 := Lib.hid (HW.out wNull (by decide) _ HS2.out.at_)
    cases hc : pfx wNull s with
    | true =>
      have HQ2 : Hid (R = some (.mk 0 false Dec.zero [] [] [], false, false, s.drop wNull.length)) := Lib.hid (by rw [HQ.out, if_pos hc]; rfl)
      rw [hc, if_pos rfl] at HW1
      clear hc HQ
      generalize s.drop wNull.length = r at *
      go_wp2_with fail
      refine HW1.out.mono ?_
      rintro e w9 ⟨rfl, hj, hk⟩
      have HS9 := Lib.hid (HS2.out.to HP.out hj hk)
      clear hj hk HW1
      have x0 := HS9.out.row.cell (i := 0) rfl
      have x1 := HS9.out.row.cell (i := 1) rfl
      have x2 := HS9.out.row.cell (i := 2) rfl
      have x3 := HS9.out.row.cell (i := 3) rfl
      have x4 := HS9.out.row.cell (i := 4) rfl
      have x5 := HS9.out.row.cell (i := 5) rfl
      have x6 := HS9.out.row.cell (i := 6) rfl
      have x7 := HS9.out.row.cell (i := 7) rfl
      have z0 := HS9.out.row.free 0
      have z1 := HS9.out.row.free 1
      have z2 := HS9.out.row.free 2
      have z3 := HS9.out.row.free 3
      have z4 := HS9.out.row.free 4
      have z5 := HS9.out.row.free 5
      have z6 := HS9.out.row.free 6
      have z7 := HS9.out.row.free 7
      have ht0 : (⟨#[]⟩ : ByteArray) = bs [] := rfl
      clear ht0
      go_wp2
      exact FI.out w9 _ r 0 false Dec.zero [] false false HQ2.out (by simp) HS9.out _ rfl
    | false =>
      replace HQ := Lib.hid (HQ.out.trans (if_neg (by rw [hc]; simp)))
      rw [hc, if_neg (by simp)] at HW1
      clear hc
      go_wp2_with fail
      refine HW1.out.mono ?_
      rintro e v1 ⟨rfl, hj, hk⟩
      have HV1 := Lib.hid (HS2.out.to HP.out hj hk)
      clear hj hk HW1
      have HW2 := Lib.hid (HW.out wTrue (by decide) _ HV1.out.at_)
      cases hc : pfx wTrue s with
      | true =>
        have HQ2 : Hid (R = some (.mk 1 true Dec.zero [] [] [], false, false, s.drop wTrue.length)) := Lib.hid (by rw [HQ.out, if_pos hc]; rfl)
        rw [hc, if_pos rfl] at HW2
        clear hc HQ
        generalize s.drop wTrue.length = r at *
        go_wp2_with fail
        refine HW2.out.mono ?_
        rintro e w9 ⟨rfl, hj, hk⟩
        have HS9 := Lib.hid (HV1.out.to HP.out hj hk)
        clear hj hk HW2
        have x0 := HS9.out.row.cell (i := 0) rfl
        have x1 := HS9.out.row.cell (i := 1) rfl
        have x2 := HS9.out.row.cell (i := 2) rfl
        have x3 := HS9.out.row.cell (i := 3) rfl
        have x4 := HS9.out.row.cell (i := 4) rfl
        have x5 := HS9.out.row.cell (i := 5) rfl
        have x6 := HS9.out.row.cell (i := 6) rfl
        have x7 := HS9.out.row.cell (i := 7) rfl
        have z0 := HS9.out.row.free 0
        have z1 := HS9.out.row.free 1
        have z2 := HS9.out.row.free 2
        have z3 := HS9.out.row.free 3
        have z4 := HS9.out.row.free 4
        have z5 := HS9.out.row.free 5
        have z6 := HS9.out.row.free 6
        have z7 := HS9.out.row.free 7
        have ht0 : (⟨#[]⟩ : ByteArray) = bs [] := rfl
        clear ht0
        go_wp2
        exact FI.out w9 _ r 1 true Dec.zero [] false false HQ2.out (by simp) HS9.out _ rfl
      | false =>
        replace HQ := Lib.hid (HQ.out.trans (if_neg (by rw [hc]; simp)))
        rw [hc, if_neg (by simp)] at HW2
        clear hc
        go_wp2_with fail
        refine HW2.out.mono ?_
        rintro e v2 ⟨rfl, hj, hk⟩
        have HV2 := Lib.hid (HV1.out.to HP.out hj hk)
        clear hj hk HW2
        have HW3 := Lib.hid (HW.out wFalse (by decide) _ HV2.out.at_)
        cases hc : pfx wFalse s with
        | true =>
          have HQ2 : Hid (R = some (.mk 1 false Dec.zero [] [] [], false, false, s.drop wFalse.length)) := Lib.hid (by rw [HQ.out, if_pos hc]; rfl)
          rw [hc, if_pos rfl] at HW3
          clear hc HQ
          generalize s.drop wFalse.length = r at *
          go_wp2_with fail
          refine HW3.out.mono ?_
          rintro e w9 ⟨rfl, hj, hk⟩
          have HS9 := Lib.hid (HV2.out.to HP.out hj hk)
          clear hj hk HW3
          have x0 := HS9.out.row.cell (i := 0) rfl
          have x1 := HS9.out.row.cell (i := 1) rfl
          have x2 := HS9.out.row.cell (i := 2) rfl
          have x3 := HS9.out.row.cell (i := 3) rfl
          have x4 := HS9.out.row.cell (i := 4) rfl
          have x5 := HS9.out.row.cell (i := 5) rfl
          have x6 := HS9.out.row.cell (i := 6) rfl
          have x7 := HS9.out.row.cell (i := 7) rfl
          have z0 := HS9.out.row.free 0
          have z1 := HS9.out.row.free 1
          have z2 := HS9.out.row.free 2
          have z3 := HS9.out.row.free 3
          have z4 := HS9.out.row.free 4
          have z5 := HS9.out.row.free 5
          have z6 := HS9.out.row.free 6
          have z7 := HS9.out.row.free 7
          have ht0 : (⟨#[]⟩ : ByteArray) = bs [] := rfl
          clear ht0
          go_wp2
          exact FI.out w9 _ r 1 false Dec.zero [] false false HQ2.out (by simp) HS9.out _ rfl
        | false =>
          replace HQ := Lib.hid (HQ.out.trans (if_neg (by rw [hc]; simp)))
          rw [hc, if_neg (by simp)] at HW3
          clear hc
          go_wp2_with fail
          refine HW3.out.mono ?_
          rintro e v3 ⟨rfl, hj, hk⟩
          have HV3 := Lib.hid (HV2.out.to HP.out hj hk)
          clear hj hk HW3
          have HNU := Lib.hid (jnumber_ok p X s E O f v3 HV3.out.at_ (fun V hV => HPT.out V (HV3.out.kept.trans' (kept_mono hV fun q e => by
            rcases e with e | e
            · exact .inl e
            · exact .inr (Nat.le_trans HV3.out.kept.size e)))))
          cases hn : numEnd s with
          | none =>
            obtain rfl : R = none := by rw [HQ.out, hn]
            rw [hn] at HNU
            clear hn HQ
            go_wp2_with fail
            refine HNU.out.mono ?_
            rintro e w9 ⟨rfl, hk⟩
            have HK9 := Lib.hid (kept_cut (HV3.out.kept.trans' (kept_p hk)))
            clear hk
            go_wp2_with fail
            exact ⟨rfl, rfl, HK9.out⟩
          | some r =>
            have HQ2 : Hid (R = some (.mk 2 false (parseD (s.take (s.length - r.length))) [] [] [], false, decide (parseE (s.take (s.length - r.length)) ≠ 0), r)) := Lib.hid (by rw [HQ.out, hn])
            rw [hn] at HNU
            clear hn HQ
            unfold NPost at HNU
            simp only at HNU
            generalize decide (parseE (s.take (s.length - r.length)) ≠ 0) = g at *
            generalize parseD (s.take (s.length - r.length)) = d at *
            obtain ⟨dn, dl, dx⟩ := d
            unfold decV at HNU
            simp only at HNU
            go_wp2_with fail
            refine HNU.out.mono ?_
            rintro e w9 ⟨rfl, hj, hk⟩
            have HS9 := Lib.hid (HV3.out.to HP.out hj hk)
            clear hj hk HNU
            have x0 := HS9.out.row.cell (i := 0) rfl
            have x1 := HS9.out.row.cell (i := 1) rfl
            have x2 := HS9.out.row.cell (i := 2) rfl
            have x3 := HS9.out.row.cell (i := 3) rfl
            have x4 := HS9.out.row.cell (i := 4) rfl
            have x5 := HS9.out.row.cell (i := 5) rfl
            have x6 := HS9.out.row.cell (i := 6) rfl
            have x7 := HS9.out.row.cell (i := 7) rfl
            have z0 := HS9.out.row.free 0
            have z1 := HS9.out.row.free 1
            have z2 := HS9.out.row.free 2
            have z3 := HS9.out.row.free 3
            have z4 := HS9.out.row.free 4
            have z5 := HS9.out.row.free 5
            have z6 := HS9.out.row.free 6
            have z7 := HS9.out.row.free 7
            go_wp2
            exact FI.out w9 _ r 2 false ⟨dn, dl, dx⟩ [] false g HQ2.out (by simp) HS9.out _ rfl
end Go.Proofs.YtjckojedafajeaaGreatDoor
/- Layer 8: judge, isDeep. -/
namespace Go.Proofs.YtjckojedafajeaaGreatDoor
open Go.RowKit

/-- What is wrong with a JSON text that has been passed; 0: nothing. -/
def judgeE (f : Fl) : Int := if f.deep then 182 else if f.alone then 183 else if f.twice then 184 else if f.far then 4 else 0
set_option maxRecDepth 100000 in
set_option maxHeartbeats 2000000 in
theorem jjudge_ok (p : Nat) (X : Txt) (k : Nat) (E O : Value) (f : Fl) (w : World) (h : JRd w p X k E O f) :
    Calls Tryz.prog 28 #[.pointer (some ⟨p, 0, none⟩)] w fun e w' => w = w' ∧ ((judgeE f = 0 ∧ e = .returned (.tuple #[])) ∨ (judgeE f ≠ 0 ∧ e = .panicked (panicOf (judgeE f)))) := by
  have c4 := h.row.cell (i := 4) (v := .bool f.deep) rfl
  have c5 := h.row.cell (i := 5) (v := .bool f.alone) rfl
  have c6 := h.row.cell (i := 6) (v := .bool f.twice) rfl
  have c7 := h.row.cell (i := 7) (v := .bool f.far) rfl
  obtain ⟨d, a, t, g⟩ := f
  simp only at c4 c5 c6 c7
  clear h
  cases d with
  | true =>
    go_enter Tryz.func28, Tryz.ntmps28
    go_wp2
    exact ⟨rfl, rfl, .inr ⟨by unfold judgeE; simp, rfl⟩⟩
  | false =>
    cases a with
    | true =>
      go_enter Tryz.func28, Tryz.ntmps28
      go_wp2
      exact ⟨rfl, rfl, .inr ⟨by unfold judgeE; simp, rfl⟩⟩
    | false =>
      cases t with
      | true =>
        go_enter Tryz.func28, Tryz.ntmps28
        go_wp2
        exact ⟨rfl, rfl, .inr ⟨by unfold judgeE; simp, rfl⟩⟩
      | false =>
        cases g with
        | true =>
          go_enter Tryz.func28, Tryz.ntmps28
          go_wp2
          exact ⟨rfl, rfl, .inr ⟨by unfold judgeE; simp, rfl⟩⟩
        | false =>
          go_enter Tryz.func28, Tryz.ntmps28
          go_wp2
          go_end0
          exact ⟨rfl, .inl ⟨rfl, rfl⟩⟩
set_option maxRecDepth 100000 in
set_option maxHeartbeats 2000000 in
theorem jisDeep_ok (p : Nat) (X : Txt) (k : Nat) (A : Option Addr) (n c : Nat) (O : Value) (f : Fl) (w : World) (h : JRd w p X k (.slice A n c) O f) :
    Calls Tryz.prog 90 #[.pointer (some ⟨p, 0, none⟩)] w fun e w' => e = .returned (.bool (decide (64 < n))) ∧ w = w' := by
  have c2 := h.row.cell (i := 2) (v := .slice A n c) rfl
  have hd : decide ((64 : Int) < (n : Int)) = decide (64 < n) := by rw [decide_eq_decide]; omega
  clear h
  go_enter Tryz.func90, Tryz.ntmps90
  go_wp2
  go_ret
  exact ⟨by rw [← hd]; rfl, rfl⟩
end Go.Proofs.YtjckojedafajeaaGreatDoor
