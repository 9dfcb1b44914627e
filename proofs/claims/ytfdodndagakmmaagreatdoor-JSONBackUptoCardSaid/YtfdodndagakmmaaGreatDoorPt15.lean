/- Layer 8: plain: a value that is neither a list nor an object. -/
import Derived.Test.YtfdodndagakmmaaGreatDoorPt14
import Derived.Test.YtfdodndagakmmaaGreatDoorPt09
namespace Go.Proofs.YtfdodndagakmmaaGreatDoor
open Go.RowKit

/-- A value's cells. -/
def jvC (k : Int) (b : Bool) (d : Dec) (t : List UInt8) (L N : Value) : Array Value := #[.int .i64 k, .bool b, .bool d.neg, .string (bs d.digits), .int .i64 d.exp, .string (bs t), L, N]
def plainV : JV → Value
  | .mk k b d t _ _ => .agg (jvC k b d t (.slice none 0 0) (.slice none 0 0))
def zeroJ : Array Value := #[.int .i64 0, .bool false, .bool false, .string ⟨#[]⟩, .int .i64 0, .string ⟨#[]⟩, .slice none 0 0, .slice none 0 0]
theorem infoJ : (Tryz.prog.info? 30).map (·.size) = some 8 := by kernel_rfl
theorem load_jv {w : World} {g : Nat} {cs : Array Value} (h : Row w g 30 cs) (hs : cs.size = 8) : (loadVar 30 ⟨g, 0, none⟩).run Tryz.prog w = .ok (.agg cs) w :=
  run_loadVar_row w g 30 30 cs (0, 0) _ h Tryz.underlying30 rfl (by rw [hs]; exact infoJ)
/-- What plain ends with. -/
def PPost (w : World) (p : Nat) (X : Txt) (E O : Value) (f : Fl) : Option (JV × Bool × Bool × List UInt8) → Ending → World → Prop
  | none, e, w' => e = .panicked (panicOf 180) ∧ Kept (· = p) w w'
  | some (v, a, g, r), e, w' => e = .returned (plainV v) ∧ JAt w' p X r E O { f with alone := f.alone || a, far := f.far || g } ∧ Kept (· = p) w w'
/-- plain under way. -/
structure PlS (w W : World) (p : Nat) (X : Txt) (s : List UInt8) (E O : Value) (f : Fl) (rv : Nat) : Prop where
  at_ : JAt W p X s E O f
  row : Row W rv 30 zeroJ
  kept : Kept (TxF w p) w W
theorem PlS.to {w W W2 : World} {p : Nat} {X : Txt} {s s2 : List UInt8} {E O : Value} {f f2 : Fl} {rv : Nat} (hp : rv ≠ p) (h : PlS w W p X s E O f rv) (hj : JAt W2 p X s2 E O f2) (hk : Kept (· = p) W W2) : PlS w W2 p X s2 E O f2 rv :=
  ⟨hj, (hk.block rv h.row.lt (by show ¬ rv = p; exact hp)).trans h.row, h.kept.trans' (kept_p hk)⟩
def put8 (w : World) (rv : Nat) (v0 v1 v2 v3 v4 v5 v6 v7 : Value) : World :=
  (((((((w.setCell ⟨rv, 0, none⟩ v0).setCell ⟨rv, 1, none⟩ v1).setCell ⟨rv, 2, none⟩ v2).setCell ⟨rv, 3, none⟩ v3).setCell ⟨rv, 4, none⟩ v4).setCell ⟨rv, 5, none⟩ v5).setCell ⟨rv, 6, none⟩ v6).setCell ⟨rv, 7, none⟩ v7
theorem put8_kept (w : World) (rv : Nat) (v0 v1 v2 v3 v4 v5 v6 v7 : Value) : Kept (· = rv) w (put8 w rv v0 v1 v2 v3 v4 v5 v6 v7) :=
  (((((((Kept.cell _ _ _ _).trans' (Kept.cell _ _ _ _)).trans' (Kept.cell _ _ _ _)).trans' (Kept.cell _ _ _ _)).trans' (Kept.cell _ _ _ _)).trans' (Kept.cell _ _ _ _)).trans' (Kept.cell _ _ _ _)).trans' (Kept.cell _ _ _ _)
theorem put8_row {w : World} {rv : Nat} {T : TypeId} (h : Row w rv T zeroJ) (v0 v1 v2 v3 v4 v5 v6 v7 : Value) : Row (put8 w rv v0 v1 v2 v3 v4 v5 v6 v7) rv T #[v0, v1, v2, v3, v4, v5, v6, v7] := by
  have h8 := (((((((h.set_ 0 v0).set_ 1 v1).set_ 2 v2).set_ 3 v3).set_ 4 v4).set_ 5 v5).set_ 6 v6).set_ 7 v7
  have e : (((((((zeroJ.setIfInBounds 0 v0).setIfInBounds 1 v1).setIfInBounds 2 v2).setIfInBounds 3 v3).setIfInBounds 4 v4).setIfInBounds 5 v5).setIfInBounds 6 v6).setIfInBounds 7 v7 = #[v0, v1, v2, v3, v4, v5, v6, v7] := by simp [zeroJ]
  rw [e] at h8
  exact h8
set_option maxRecDepth 1000000 in
set_option maxHeartbeats 40000000 in
theorem jplain_ok (p : Nat) (X : Txt) (s : List UInt8) (E O : Value) (f : Fl) (w : World) (h : JAt w p X s E O f) (hX : X.l.length ≤ 1048576) (hT : ∀ V, Kept (TxF w p) w V → PowTab V) :
    Calls Tryz.prog 79 #[.pointer (some ⟨p, 0, none⟩)] w (PPost w p X E O f (plainL s)) := by
  obtain ⟨w1, hw1⟩ : ∃ w1, w1 = w.alloc (.cells zeroJ 30) := ⟨_, rfl⟩
  have hb1 : Below w.heap.size w w1 := by subst hw1; exact (Below.refl _ _).alloc (Nat.le_refl _) _
  have hlt := h.lt
  have HP : Hid (w.heap.size ≠ p) := Lib.hid (by omega)
  have HS1 : Hid (PlS w w1 p X s E O f w.heap.size) := Lib.hid ⟨h.above h (keptNew_below hb1), by subst hw1; exact Row.new _ _ _, keptOf_below hb1⟩
  have H := Lib.hid h
  have HPT := Lib.hid hT
  obtain ⟨R, hR⟩ : ∃ R, R = plainL s := ⟨_, rfl⟩
  have HR := Lib.hid hR
  have fin : ∀ (w6 : World) (f6 : Fl) (r : List UInt8) (k : Int) (b : Bool) (d : Dec) (t : List UInt8) (a g : Bool), R = some (.mk k b d t [] [], a, g, r) → f6 = { f with alone := f.alone || a, far := f.far || g } → PlS w w6 p X r E O f6 w.heap.size →
      ∀ (tm : Array Value), tm.getD 2 undef = .pointer (some ⟨w.heap.size, 0, none⟩) → bodyPost Tryz.prog Tryz.f79 (PPost w p X E O f R) Exit.ret ⟨tm, []⟩ (put8 w6 w.heap.size (.int .i64 k) (.bool b) (.bool d.neg) (.string (bs d.digits)) (.int .i64 d.exp) (.string (bs t)) (.slice none 0 0) (.slice none 0 0)) := by
    rintro w6 f6 r k b d t a g rfl rfl hs tm g4
    refine bodyPost_ret_by (results_oneJ rfl _ _ w.heap.size (jvC k b d t (.slice none 0 0) (.slice none 0 0)) g4 (load_jv (put8_row hs.row _ _ _ _ _ _ _ _) rfl)) rfl ?_
    have k1 : Kept (fun q => w.heap.size ≤ q) w6 (put8 w6 w.heap.size (.int .i64 k) (.bool b) (.bool d.neg) (.string (bs d.digits)) (.int .i64 d.exp) (.string (bs t)) (.slice none 0 0) (.slice none 0 0)) :=
      kept_mono (put8_kept _ _ _ _ _ _ _ _ _ _) fun q e => by show w.heap.size ≤ q; rw [e]; exact Nat.le_refl _
    exact ⟨rfl, h.above hs.at_ k1, kept_cut (hs.kept.trans' (kept_new k1))⟩
  have FI := Lib.hid fin
  rw [← hR]
  clear h hT hR hb1 fin hlt
  unfold zeroJ at hw1
  have HT := Lib.hid (jtake_ok p X [34] s E O f w1 HS1.out.at_)
  go_enter Tryz.func79, Tryz.ntmps79
  go_upto_region 1 with fail
  rw [← hw1]
  clear hw1
  generalize hrv : w.heap.size = rv at *
  clear hrv
  cases hb : tkB [34] s with
  | true =>
    rw [hb] at HT
    have HQ : Hid (R = match letsL (tkS [34] s) with
      | none => none
      | some (l, a, r) => some (.mk 3 false Dec.zero l [] [], a, false, r)) := Lib.hid (by rw [HR.out]; unfold plainL; rw [if_pos hb, ← tkS_yes hb]; rfl)
    clear hb HR
    generalize tkS [34] s = s1 at *
    go_wp2_with fail
    refine HT.out.mono ?_
    rintro e w2 ⟨rfl, hj, hk⟩
    have HS2 := Lib.hid (HS1.out.to HP.out hj hk)
    have HL := Lib.hid (jletters_ok p X s1 E O f w2 hj hX)
    clear hj hk HT
    cases hl : letsL s1 with
    | none =>
      have e9 : letsR f s1 = none := by unfold letsR; rw [hl]; rfl
      rw [e9] at HL
      obtain rfl : R = none := by rw [HQ.out, hl]
      clear hl e9 HQ
      go_wp2_with fail
      refine HL.out.mono ?_
      rintro e w3 ⟨rfl, hk⟩
      have HK3 := Lib.hid (kept_cut (HS2.out.kept.trans' (kept_p hk)))
      clear hk
      go_wp2_with fail
      exact ⟨rfl, rfl, HK3.out⟩
    | some q =>
      obtain ⟨l, a, r⟩ := q
      have e9 : letsR f s1 = some (.string (bs l), { f with alone := f.alone || a }, r) := by unfold letsR; rw [hl]; rfl
      rw [e9] at HL
      have HQ2 : Hid (R = some (.mk 3 false Dec.zero l [] [], a, false, r)) := Lib.hid (by rw [HQ.out, hl])
      clear hl e9 HQ
      go_wp2_with fail
      refine HL.out.mono ?_
      rintro e w3 ⟨rfl, hj, hk⟩
      have HS3 := Lib.hid (HS2.out.to HP.out hj hk)
      clear hj hk HL
      have x0 := HS3.out.row.cell (i := 0) rfl
      have x1 := HS3.out.row.cell (i := 1) rfl
      have x2 := HS3.out.row.cell (i := 2) rfl
      have x3 := HS3.out.row.cell (i := 3) rfl
      have x4 := HS3.out.row.cell (i := 4) rfl
      have x5 := HS3.out.row.cell (i := 5) rfl
      have x6 := HS3.out.row.cell (i := 6) rfl
      have x7 := HS3.out.row.cell (i := 7) rfl
      have z0 := HS3.out.row.free 0
      have z1 := HS3.out.row.free 1
      have z2 := HS3.out.row.free 2
      have z3 := HS3.out.row.free 3
      have z4 := HS3.out.row.free 4
      have z5 := HS3.out.row.free 5
      have z6 := HS3.out.row.free 6
      have z7 := HS3.out.row.free 7
      go_wp2
      exact FI.out w3 _ r 3 false Dec.zero l a false HQ2.out (by simp) HS3.out _ rfl
  | false =>
    have HN1 := Lib.hid (tkS_no hb)
    rw [hb] at HT
    have hb34 := hb
    clear hb
    have hp0 : plainL s = if pfx wNull s then some (JV.null, false, false, s.drop 4) else if pfx wTrue s then some (.mk 1 true Dec.zero [] [] [], false, false, s.drop 4) else if pfx wFalse s then some (.mk 1 false Dec.zero [] [] [], false, false, s.drop 5) else match numEnd s with
      | none => none
      | some r => some (.mk 2 false (parseD (s.take (s.length - r.length))) [] [] [], false, decide (parseE (s.take (s.length - r.length)) ≠ 0), r) := by
      unfold plainL
      rw [if_neg (by rw [hb34]; simp)]
      rfl
    rw [← HR.out] at hp0
    have HQ := Lib.hid hp0
    clear hp0 hb34 HR
    have HW := Lib.hid (fun (q : List UInt8) (hq : 0 < q.length) (V : World) (hj : JAt V p X s E O f) => jword_ok p X q s E O f V hj hq)
    go_wp2_with fail
    refine HT.out.mono ?_
    rintro e w2 ⟨rfl, hj, hk⟩
    rw [HN1.out] at hj
    have HS2 := Lib.hid (HS1.out.to HP.out hj hk)
    clear hj hk HT
    have HW1 := Lib.hid (HW.out wNull (by decide) _ HS2.out.at_)
    cases hc : pfx wNull s with
    | true =>
      have HQ2 : Hid (R = some (.mk 0 false Dec.zero [] [] [], false, false, s.drop wNull.length)) := Lib.hid (by rw [HQ.out, if_pos hc]; rfl)
      rw [hc, if_pos rfl] at HW1
      clear hc HQ
      generalize s.drop wNull.length = r at *
      go_wp2_with fail
      refine HW1.out.mono ?_
      rintro e w9 ⟨rfl, hj, hk⟩
      have HS9 := Lib.hid (HS2.out.to HP.out hj hk)
      clear hj hk HW1
      have x0 := HS9.out.row.cell (i := 0) rfl
      have x1 := HS9.out.row.cell (i := 1) rfl
      have x2 := HS9.out.row.cell (i := 2) rfl
      have x3 := HS9.out.row.cell (i := 3) rfl
      have x4 := HS9.out.row.cell (i := 4) rfl
      have x5 := HS9.out.row.cell (i := 5) rfl
      have x6 := HS9.out.row.cell (i := 6) rfl
      have x7 := HS9.out.row.cell (i := 7) rfl
      have z0 := HS9.out.row.free 0
      have z1 := HS9.out.row.free 1
      have z2 := HS9.out.row.free 2
      have z3 := HS9.out.row.free 3
      have z4 := HS9.out.row.free 4
      have z5 := HS9.out.row.free 5
      have z6 := HS9.out.row.free 6
      have z7 := HS9.out.row.free 7
      have ht0 : (⟨#[]⟩ : ByteArray) = bs [] := rfl
      clear ht0
      go_wp2
      exact FI.out w9 _ r 0 false Dec.zero [] false false HQ2.out (by simp) HS9.out _ rfl
    | false =>
      replace HQ := Lib.hid (HQ.out.trans (if_neg (by rw [hc]; simp)))
      rw [hc, if_neg (by simp)] at HW1
      clear hc
      go_wp2_with fail
      refine HW1.out.mono ?_
      rintro e v1 ⟨rfl, hj, hk⟩
      have HV1 := Lib.hid (HS2.out.to HP.out hj hk)
      clear hj hk HW1
      have HW2 := Lib.hid (HW.out wTrue (by decide) _ HV1.out.at_)
      cases hc : pfx wTrue s with
      | true =>
        have HQ2 : Hid (R = some (.mk 1 true Dec.zero [] [] [], false, false, s.drop wTrue.length)) := Lib.hid (by rw [HQ.out, if_pos hc]; rfl)
        rw [hc, if_pos rfl] at HW2
        clear hc HQ
        generalize s.drop wTrue.length = r at *
        go_wp2_with fail
        refine HW2.out.mono ?_
        rintro e w9 ⟨rfl, hj, hk⟩
        have HS9 := Lib.hid (HV1.out.to HP.out hj hk)
        clear hj hk HW2
        have x0 := HS9.out.row.cell (i := 0) rfl
        have x1 := HS9.out.row.cell (i := 1) rfl
        have x2 := HS9.out.row.cell (i := 2) rfl
        have x3 := HS9.out.row.cell (i := 3) rfl
        have x4 := HS9.out.row.cell (i := 4) rfl
        have x5 := HS9.out.row.cell (i := 5) rfl
        have x6 := HS9.out.row.cell (i := 6) rfl
        have x7 := HS9.out.row.cell (i := 7) rfl
        have z0 := HS9.out.row.free 0
        have z1 := HS9.out.row.free 1
        have z2 := HS9.out.row.free 2
        have z3 := HS9.out.row.free 3
        have z4 := HS9.out.row.free 4
        have z5 := HS9.out.row.free 5
        have z6 := HS9.out.row.free 6
        have z7 := HS9.out.row.free 7
        have ht0 : (⟨#[]⟩ : ByteArray) = bs [] := rfl
        clear ht0
        go_wp2
        exact FI.out w9 _ r 1 true Dec.zero [] false false HQ2.out (by simp) HS9.out _ rfl
      | false =>
        replace HQ := Lib.hid (HQ.out.trans (if_neg (by rw [hc]; simp)))
        rw [hc, if_neg (by simp)] at HW2
        clear hc
        go_wp2_with fail
        refine HW2.out.mono ?_
        rintro e v2 ⟨rfl, hj, hk⟩
        have HV2 := Lib.hid (HV1.out.to HP.out hj hk)
        clear hj hk HW2
        have HW3 := Lib.hid (HW.out wFalse (by decide) _ HV2.out.at_)
        cases hc : pfx wFalse s with
        | true =>
          have HQ2 : Hid (R = some (.mk 1 false Dec.zero [] [] [], false, false, s.drop wFalse.length)) := Lib.hid (by rw [HQ.out, if_pos hc]; rfl)
          rw [hc, if_pos rfl] at HW3
          clear hc HQ
          generalize s.drop wFalse.length = r at *
          go_wp2_with fail
          refine HW3.out.mono ?_
          rintro e w9 ⟨rfl, hj, hk⟩
          have HS9 := Lib.hid (HV2.out.to HP.out hj hk)
          clear hj hk HW3
          have x0 := HS9.out.row.cell (i := 0) rfl
          have x1 := HS9.out.row.cell (i := 1) rfl
          have x2 := HS9.out.row.cell (i := 2) rfl
          have x3 := HS9.out.row.cell (i := 3) rfl
          have x4 := HS9.out.row.cell (i := 4) rfl
          have x5 := HS9.out.row.cell (i := 5) rfl
          have x6 := HS9.out.row.cell (i := 6) rfl
          have x7 := HS9.out.row.cell (i := 7) rfl
          have z0 := HS9.out.row.free 0
          have z1 := HS9.out.row.free 1
          have z2 := HS9.out.row.free 2
          have z3 := HS9.out.row.free 3
          have z4 := HS9.out.row.free 4
          have z5 := HS9.out.row.free 5
          have z6 := HS9.out.row.free 6
          have z7 := HS9.out.row.free 7
          have ht0 : (⟨#[]⟩ : ByteArray) = bs [] := rfl
          clear ht0
          go_wp2
          exact FI.out w9 _ r 1 false Dec.zero [] false false HQ2.out (by simp) HS9.out _ rfl
        | false =>
          replace HQ := Lib.hid (HQ.out.trans (if_neg (by rw [hc]; simp)))
          rw [hc, if_neg (by simp)] at HW3
          clear hc
          go_wp2_with fail
          refine HW3.out.mono ?_
          rintro e v3 ⟨rfl, hj, hk⟩
          have HV3 := Lib.hid (HV2.out.to HP.out hj hk)
          clear hj hk HW3
          have HNU := Lib.hid (jnumber_ok p X s E O f v3 HV3.out.at_ (fun V hV => HPT.out V (HV3.out.kept.trans' (kept_mono hV fun q e => by
            rcases e with e | e
            · exact .inl e
            · exact .inr (Nat.le_trans HV3.out.kept.size e)))))
          cases hn : numEnd s with
          | none =>
            obtain rfl : R = none := by rw [HQ.out, hn]
            rw [hn] at HNU
            clear hn HQ
            go_wp2_with fail
            refine HNU.out.mono ?_
            rintro e w9 ⟨rfl, hk⟩
            have HK9 := Lib.hid (kept_cut (HV3.out.kept.trans' (kept_p hk)))
            clear hk
            go_wp2_with fail
            exact ⟨rfl, rfl, HK9.out⟩
          | some r =>
            have HQ2 : Hid (R = some (.mk 2 false (parseD (s.take (s.length - r.length))) [] [] [], false, decide (parseE (s.take (s.length - r.length)) ≠ 0), r)) := Lib.hid (by rw [HQ.out, hn])
            rw [hn] at HNU
            clear hn HQ
            unfold NPost at HNU
            simp only at HNU
            generalize decide (parseE (s.take (s.length - r.length)) ≠ 0) = g at *
            generalize parseD (s.take (s.length - r.length)) = d at *
            obtain ⟨dn, dl, dx⟩ := d
            unfold decV at HNU
            simp only at HNU
            go_wp2_with fail
            refine HNU.out.mono ?_
            rintro e w9 ⟨rfl, hj, hk⟩
            have HS9 := Lib.hid (HV3.out.to HP.out hj hk)
            clear hj hk HNU
            have x0 := HS9.out.row.cell (i := 0) rfl
            have x1 := HS9.out.row.cell (i := 1) rfl
            have x2 := HS9.out.row.cell (i := 2) rfl
            have x3 := HS9.out.row.cell (i := 3) rfl
            have x4 := HS9.out.row.cell (i := 4) rfl
            have x5 := HS9.out.row.cell (i := 5) rfl
            have x6 := HS9.out.row.cell (i := 6) rfl
            have x7 := HS9.out.row.cell (i := 7) rfl
            have z0 := HS9.out.row.free 0
            have z1 := HS9.out.row.free 1
            have z2 := HS9.out.row.free 2
            have z3 := HS9.out.row.free 3
            have z4 := HS9.out.row.free 4
            have z5 := HS9.out.row.free 5
            have z6 := HS9.out.row.free 6
            have z7 := HS9.out.row.free 7
            go_wp2
            exact FI.out w9 _ r 2 false ⟨dn, dl, dx⟩ [] false g HQ2.out (by simp) HS9.out _ rfl
end Go.Proofs.YtfdodndagakmmaaGreatDoor
/- Layer 8: judge, isDeep. -/
namespace Go.Proofs.YtfdodndagakmmaaGreatDoor
open Go.RowKit

/-- What is wrong with a JSON text that has been passed; 0: nothing. -/
def judgeE (f : Fl) : Int := if f.deep then 182 else if f.alone then 183 else if f.twice then 184 else if f.far then 4 else 0
set_option maxRecDepth 100000 in
set_option maxHeartbeats 2000000 in
theorem jjudge_ok (p : Nat) (X : Txt) (k : Nat) (E O : Value) (f : Fl) (w : World) (h : JRd w p X k E O f) :
    Calls Tryz.prog 43 #[.pointer (some ⟨p, 0, none⟩)] w fun e w' => w = w' ∧ ((judgeE f = 0 ∧ e = .returned (.tuple #[])) ∨ (judgeE f ≠ 0 ∧ e = .panicked (panicOf (judgeE f)))) := by
  have c4 := h.row.cell (i := 4) (v := .bool f.deep) rfl
  have c5 := h.row.cell (i := 5) (v := .bool f.alone) rfl
  have c6 := h.row.cell (i := 6) (v := .bool f.twice) rfl
  have c7 := h.row.cell (i := 7) (v := .bool f.far) rfl
  obtain ⟨d, a, t, g⟩ := f
  simp only at c4 c5 c6 c7
  clear h
  cases d with
  | true =>
    go_enter Tryz.func43, Tryz.ntmps43
    go_wp2
    exact ⟨rfl, rfl, .inr ⟨by unfold judgeE; simp, rfl⟩⟩
  | false =>
    cases a with
    | true =>
      go_enter Tryz.func43, Tryz.ntmps43
      go_wp2
      exact ⟨rfl, rfl, .inr ⟨by unfold judgeE; simp, rfl⟩⟩
    | false =>
      cases t with
      | true =>
        go_enter Tryz.func43, Tryz.ntmps43
        go_wp2
        exact ⟨rfl, rfl, .inr ⟨by unfold judgeE; simp, rfl⟩⟩
      | false =>
        cases g with
        | true =>
          go_enter Tryz.func43, Tryz.ntmps43
          go_wp2
          exact ⟨rfl, rfl, .inr ⟨by unfold judgeE; simp, rfl⟩⟩
        | false =>
          go_enter Tryz.func43, Tryz.ntmps43
          go_wp2
          go_end0
          exact ⟨rfl, .inl ⟨rfl, rfl⟩⟩
set_option maxRecDepth 100000 in
set_option maxHeartbeats 2000000 in
theorem jisDeep_ok (p : Nat) (X : Txt) (k : Nat) (A : Option Addr) (n c : Nat) (O : Value) (f : Fl) (w : World) (h : JRd w p X k (.slice A n c) O f) :
    Calls Tryz.prog 115 #[.pointer (some ⟨p, 0, none⟩)] w fun e w' => e = .returned (.bool (decide (64 < n))) ∧ w = w' := by
  have c2 := h.row.cell (i := 2) (v := .slice A n c) rfl
  have hd : decide ((64 : Int) < (n : Int)) = decide (64 < n) := by rw [decide_eq_decide]; omega
  clear h
  go_enter Tryz.func115, Tryz.ntmps115
  go_wp2
  go_ret
  exact ⟨by rw [← hd]; rfl, rfl⟩
end Go.Proofs.YtfdodndagakmmaaGreatDoor
/- Layer 8: a value in memory. -/
namespace Go.Proofs.YtfdodndagakmmaaGreatDoor
open Go.RowKit

/-- Texts lie in memory, in a block of F. -/
def NamesAt (W : World) (F : Nat → Prop) (A : Option Addr) (ns : List (List UInt8)) : Prop :=
  ∀ i, i < ns.length → ∃ g off, A = some ⟨g, off, none⟩ ∧ F g ∧ g < W.heap.size ∧ W.cell? ⟨g, off + i, none⟩ = some (.string (bs (ns.getD i [])))
mutual
/-- The cells of a value, whatever is in it in blocks of F. -/
def JIs (W : World) (F : Nat → Prop) : JV → List Value → Prop
  | .mk k b d t l ns, cs => ∃ A c A' c', cs = (jvC k b d t (.slice A l.length c) (.slice A' ns.length c')).toList ∧ l.length ≤ c ∧ c ≤ maxLen ∧ ns.length ≤ c' ∧ c' ≤ maxLen ∧ NamesAt W F A' ns ∧ KidsAt W F A 0 l
def KidsAt (W : World) (F : Nat → Prop) (A : Option Addr) (i : Nat) : List JV → Prop
  | [] => True
  | x :: l => (∃ g off cs, A = some ⟨g, off, none⟩ ∧ F g ∧ g < W.heap.size ∧ (∀ (j : Nat) (v : Value), cs[j]? = some v → W.cell? ⟨g, off + (i * 8 + j), none⟩ = some v) ∧ JIs W F x cs) ∧ KidsAt W F A (i + 1) l
end
theorem NamesAt.kept {W W' : World} {F G : Nat → Prop} {A : Option Addr} {ns : List (List UInt8)} (h : NamesAt W F A ns) (hk : Kept G W W') (hd : ∀ q, F q → ¬ G q) : NamesAt W' F A ns := fun i hi => by
  obtain ⟨g, off, e, hf, hlt, hc⟩ := h i hi
  exact ⟨g, off, e, hf, Nat.lt_of_lt_of_le hlt hk.size, (World.cell?_of_block (a := ⟨g, off + i, none⟩) (hk.block g hlt (hd g hf))).trans hc⟩
mutual
theorem JIs.kept {W W' : World} {F G : Nat → Prop} (hk : Kept G W W') (hd : ∀ q, F q → ¬ G q) : ∀ (v : JV) (cs : List Value), JIs W F v cs → JIs W' F v cs
  | .mk k b d t l ns, cs, h => by
    unfold JIs at h ⊢
    obtain ⟨A, c, A', c', h1, h2, h3, h4, h5, h6, h7⟩ := h
    exact ⟨A, c, A', c', h1, h2, h3, h4, h5, h6.kept hk hd, KidsAt.kept hk hd l A 0 h7⟩
theorem KidsAt.kept {W W' : World} {F G : Nat → Prop} (hk : Kept G W W') (hd : ∀ q, F q → ¬ G q) : ∀ (l : List JV) (A : Option Addr) (i : Nat), KidsAt W F A i l → KidsAt W' F A i l
  | [], _, _, _ => by unfold KidsAt; trivial
  | x :: l, A, i, h => by
    unfold KidsAt at h ⊢
    obtain ⟨⟨g, off, cs, h1, h2, h3, h4, h5⟩, h6⟩ := h
    exact ⟨⟨g, off, cs, h1, h2, Nat.lt_of_lt_of_le h3 hk.size, fun j v hv => (World.cell?_of_block (a := ⟨g, off + (i * 8 + j), none⟩) (hk.block g h3 (hd g h2))).trans (h4 j v hv), JIs.kept hk hd x cs h5⟩, KidsAt.kept hk hd l A (i + 1) h6⟩
end
theorem JIs.below {W W' : World} {F : Nat → Prop} {v : JV} {cs : List Value} (h : JIs W F v cs) (hb : Below W.heap.size W W') : JIs W' F v cs :=
  JIs.kept (G := fun _ => False) (keptOf_below hb) (fun _ _ => id) v cs h
theorem KidsAt.get {W : World} {F : Nat → Prop} {A : Option Addr} : ∀ (l : List JV) (i : Nat), KidsAt W F A i l → ∀ j, j < l.length → ∃ g off cs, A = some ⟨g, off, none⟩ ∧ F g ∧ g < W.heap.size ∧ (∀ (q : Nat) (v : Value), cs[q]? = some v → W.cell? ⟨g, off + ((i + j) * 8 + q), none⟩ = some v) ∧ JIs W F (l.getD j JV.null) cs
  | [], _, _, j, hj => by simp at hj
  | x :: l, i, h, j, hj => by
    unfold KidsAt at h
    cases j with
    | zero =>
      obtain ⟨⟨g, off, cs, h1, h2, h3, h4, h5⟩, _⟩ := h
      exact ⟨g, off, cs, h1, h2, h3, h4, h5⟩
    | succ j =>
      obtain ⟨g, off, cs, h1, h2, h3, h4, h5⟩ := KidsAt.get l (i + 1) h.2 j (by simpa using hj)
      refine ⟨g, off, cs, h1, h2, h3, fun q v hv => ?_, h5⟩
      have := h4 q v hv
      rwa [show i + 1 + j = i + (j + 1) by omega] at this
/-- A value lies at a place. -/
def JAtP (W : World) (F : Nat → Prop) (g off : Nat) (v : JV) : Prop := g < W.heap.size ∧ ∃ cs, (∀ (q : Nat) (u : Value), cs[q]? = some u → W.cell? ⟨g, off + q, none⟩ = some u) ∧ JIs W F v cs
theorem JAtP.below {W W' : World} {F : Nat → Prop} {g off : Nat} {v : JV} (h : JAtP W F g off v) (hb : Below W.heap.size W W') : JAtP W' F g off v := by
  obtain ⟨hg, cs, h1, h2⟩ := h
  exact ⟨Nat.lt_of_lt_of_le hg hb.size, cs, fun q u hu => (hb.cell (p := ⟨g, off + q, none⟩) hg).trans (h1 q u hu), h2.below hb⟩
/-- Its cells, read. -/
theorem JAtP.open_ {W : World} {F : Nat → Prop} {g off : Nat} {k : Int} {b : Bool} {d : Dec} {t : List UInt8} {l : List JV} {ns : List (List UInt8)} (h : JAtP W F g off (.mk k b d t l ns)) :
    ∃ A c A' c', W.cell? ⟨g, off, none⟩ = some (.int .i64 k) ∧ W.cell? ⟨g, off + 1, none⟩ = some (.bool b) ∧ W.cell? ⟨g, off + 2, none⟩ = some (.bool d.neg) ∧ W.cell? ⟨g, off + 3, none⟩ = some (.string (bs d.digits)) ∧
      W.cell? ⟨g, off + 4, none⟩ = some (.int .i64 d.exp) ∧ W.cell? ⟨g, off + 5, none⟩ = some (.string (bs t)) ∧ W.cell? ⟨g, off + 6, none⟩ = some (.slice A l.length c) ∧ W.cell? ⟨g, off + 7, none⟩ = some (.slice A' ns.length c') ∧
      l.length ≤ c ∧ c ≤ maxLen ∧ ns.length ≤ c' ∧ c' ≤ maxLen ∧ NamesAt W F A' ns ∧ (∀ j, j < l.length → ∃ g2 off2, A = some ⟨g2, off2, none⟩ ∧ JAtP W F g2 (off2 + j * 8) (l.getD j JV.null)) := by
  obtain ⟨hg, cs, h1, h2⟩ := h
  unfold JIs at h2
  obtain ⟨A, c, A', c', rfl, h3, h4, h5, h6, h7, h8⟩ := h2
  refine ⟨A, c, A', c', h1 0 _ rfl, h1 1 _ rfl, h1 2 _ rfl, h1 3 _ rfl, h1 4 _ rfl, h1 5 _ rfl, h1 6 _ rfl, h1 7 _ rfl, h3, h4, h5, h6, h7, fun j hj => ?_⟩
  obtain ⟨g2, off2, cs, e1, e2, e3, e4, e5⟩ := KidsAt.get l 0 h8 j hj
  refine ⟨g2, off2, e1, e3, cs, fun q u hu => ?_, e5⟩
  have := e4 q u hu
  rwa [Nat.zero_add, ← Nat.add_assoc] at this
end Go.Proofs.YtfdodndagakmmaaGreatDoor
/- Layer 8: pure: what is told is read, whatever is open and whatever stands behind. -/
namespace Go.Proofs.YtfdodndagakmmaaGreatDoor
open Go.RowKit

/-- A value's text is read as that value, within whatever is open. -/
def Reads (v : JV) : Prop := ∀ (K : List Fr) (f : Fl) (r : List UInt8), okEnd r → K.length + depthJ v ≤ 64 → runJ .value K f (tellJ v ++ r) = runJ (.behind v) K f r
theorem put_ok {t : Fr} {K : List Fr} (h : K.length < 64) (v : JV) : putK v (t :: K) = { t with list := t.list ++ [v] } :: K := by
  unfold putK
  simp only
  rw [if_neg (by unfold isDeepK maxDeep; simp; omega)]
theorem nameK_ok {t : Fr} {K : List Fr} (h : K.length < 64) (l : List UInt8) : nameK l (t :: K) = { t with names := t.names ++ [l] } :: K := by
  unfold nameK
  simp only
  rw [if_neg (by unfold isDeepK maxDeep; simp; omega)]
theorem nameF_ok {t : Fr} {K : List Fr} {l : List UInt8} (h : l ∉ t.names) (f : Fl) : nameF l (t :: K) f = f := by
  unfold nameF
  simp only
  split
  · rfl
  · simp [h]
theorem leave_ok {t : Fr} {K : List Fr} (h : K.length < 64) (f : Fl) (s : List UInt8) : runJ .leave (t :: K) f s = runJ (.behind t.val) K f s := by
  rw [runJ_leave, if_neg (by unfold isDeepK maxDeep; simp; omega)]
theorem okEnd_44 (t : List UInt8) : okEnd (44 :: t) := .inr ⟨44, t, rfl, .inl rfl⟩
theorem okEnd_93 (t : List UInt8) : okEnd (93 :: t) := .inr ⟨93, t, rfl, .inr (.inl rfl)⟩
theorem okEnd_125 (t : List UInt8) : okEnd (125 :: t) := .inr ⟨125, t, rfl, .inr (.inr rfl)⟩
theorem kids_list (K : List Fr) (f : Fl) (r : List UInt8) (hK : K.length < 64) : ∀ (l : List JV) (x : JV) (i : Nat) (done : List JV), (∀ y ∈ x :: l, Reads y ∧ K.length + 1 + depthJ y ≤ 64) →
    runJ .value (⟨false, done, []⟩ :: K) f (tellJ x ++ (tellKids 4 (i + 1) l [] ++ 93 :: r)) = runJ .leave (⟨false, done ++ x :: l, []⟩ :: K) f r := by
  intro l
  induction l with
  | nil =>
    intro x i done h
    obtain ⟨hx, hd⟩ := h x (by simp)
    have e : tellKids 4 (i + 1) [] [] = [] := by rw [tellKids]
    rw [e, List.nil_append, hx _ f _ (okEnd_93 r) (by simp only [List.length_cons]; omega), runJ_behind, blk_end (okEnd_93 r)]
    rw [if_neg (by rw [tkB_cons]; decide), if_pos (by rfl), put_ok hK]
    rfl
  | cons y l ih =>
    intro x i done h
    obtain ⟨hx, hd⟩ := h x (by simp)
    have e : tellKids 4 (i + 1) (y :: l) [] ++ 93 :: r = 44 :: (tellJ y ++ (tellKids 4 (i + 1 + 1) l [] ++ 93 :: r)) := by
      rw [tellKids, if_neg (by omega), if_neg (by omega)]
      simp
    rw [e, hx _ f _ (okEnd_44 _) (by simp only [List.length_cons]; omega), runJ_behind, blk_end (okEnd_44 _), if_pos (by rfl), put_ok hK]
    have := ih y (i + 1) (done ++ [x]) (fun z hz => h z (by simp only [List.mem_cons] at hz ⊢; exact .inr hz))
    simp only [List.append_assoc, List.singleton_append] at this
    exact this
theorem kids_obj (K : List Fr) (f : Fl) (r : List UInt8) (hK : K.length < 64) : ∀ (l : List JV) (ns : List (List UInt8)) (x : JV) (n : List UInt8) (i : Nat) (done : List JV) (dn : List (List UInt8)), ns.length = l.length → (dn ++ n :: ns).Nodup →
    (∀ y ∈ x :: l, Reads y ∧ Head (tellJ y) ∧ K.length + 1 + depthJ y ≤ 64) →
    runJ .name (⟨true, done, dn⟩ :: K) f (quoteL n ++ (58 :: (tellJ x ++ (tellKids 5 (i + 1) l ns ++ 125 :: r)))) = runJ .leave (⟨true, done ++ x :: l, dn ++ n :: ns⟩ :: K) f r := by
  have step : ∀ (x : JV) (n : List UInt8) (done : List JV) (dn : List (List UInt8)) (q : List UInt8), n ∉ dn → runJ .name (⟨true, done, dn⟩ :: K) f (quoteL n ++ (58 :: (tellJ x ++ q))) = runJ .value (⟨true, done, dn ++ [n]⟩ :: K) f (tellJ x ++ q) := by
    intro x n done dn q hn
    have e : quoteL n ++ (58 :: (tellJ x ++ q)) = 34 :: (n.flatMap escL ++ 34 :: (58 :: (tellJ x ++ q))) := by unfold quoteL; simp
    rw [e, runJ_name, blk_cons (by decide), if_pos (by rfl)]
    simp only [List.drop_succ_cons, List.drop_zero, letsL_quoted]
    rw [blk_cons (by decide), if_pos (by rfl)]
    simp only [List.drop_succ_cons, List.drop_zero, Bool.or_false]
    rw [nameK_ok hK, nameF_ok (by exact hn)]
  intro l
  induction l with
  | nil =>
    intro ns x n i done dn hl hnd h
    obtain rfl : ns = [] := List.eq_nil_of_length_eq_zero (by simpa using hl)
    obtain ⟨hx, _, hd⟩ := h x (by simp)
    have hn : n ∉ dn := fun hm => by
      have := (List.nodup_append.1 hnd).2.2 n hm n (by simp)
      exact this rfl
    have e : tellKids 5 (i + 1) [] [] = [] := by rw [tellKids]
    rw [step x n done dn _ hn, e, List.nil_append, hx _ f _ (okEnd_125 r) (by simp only [List.length_cons]; omega), runJ_behind, blk_end (okEnd_125 r)]
    rw [if_neg (by rw [tkB_cons]; decide), if_pos (by rfl), put_ok hK]
    rfl
  | cons y l ih =>
    intro ns x n i done dn hl hnd h
    cases ns with
    | nil => simp at hl
    | cons m ns =>
      obtain ⟨hx, _, hd⟩ := h x (by simp)
      have hn : n ∉ dn := fun hm => by
        have := (List.nodup_append.1 hnd).2.2 n hm n (by simp)
        exact this rfl
      have e : tellKids 5 (i + 1) (y :: l) (m :: ns) ++ 125 :: r = 44 :: (quoteL m ++ (58 :: (tellJ y ++ (tellKids 5 (i + 1 + 1) l ns ++ 125 :: r)))) := by
        rw [tellKids, if_neg (by omega), if_pos rfl]
        simp
      rw [step x n done dn _ hn, e, hx _ f _ (okEnd_44 _) (by simp only [List.length_cons]; omega), runJ_behind, blk_end (okEnd_44 _), if_pos (by rfl), put_ok hK]
      have := ih ns y m (i + 1) (done ++ [x]) (dn ++ [n]) (by simpa using hl) (by simpa using hnd) (fun z hz => h z (by simp only [List.mem_cons] at hz ⊢; exact .inr hz))
      simp only [List.append_assoc, List.singleton_append] at this
      exact this
theorem mayKids_mem {l : List JV} (h : MayKids l) : ∀ x ∈ l, MayJ x := by
  induction l with
  | nil => intro x hx; cases hx
  | cons y l ih =>
    unfold MayKids at h
    intro x hx
    rcases List.mem_cons.1 hx with rfl | hx
    · exact h.1
    · exact ih h.2 x hx
theorem depthKids_mem {l : List JV} : ∀ x ∈ l, depthJ x ≤ depthKids l := by
  induction l with
  | nil => intro x hx; cases hx
  | cons y l ih =>
    intro x hx
    rw [depthKids]
    rcases List.mem_cons.1 hx with rfl | hx
    · exact Nat.le_max_left _ _
    · exact Nat.le_trans (ih x hx) (Nat.le_max_right _ _)
theorem head_not {s : List UInt8} (h : Head s) : blk s = s ∧ tkB [93] s = false := by
  obtain ⟨b, t, rfl, h1, h2⟩ := h
  exact ⟨blk_cons h1 t, by rw [tkB_cons]; simp [h2]⟩
/-- Each value that may be, and is not too deep, is read as it is told. -/
theorem reads_all : ∀ (n : Nat) (v : JV), SizeOf.sizeOf v ≤ n → MayJ v → Reads v := by
  intro n
  induction n with
  | zero => intro v hv; cases v; simp at hv
  | succ n ih =>
    intro v hv hm K f r hr hd
    obtain ⟨k, b, d, t, l, ns⟩ := v
    have hsz : ∀ x ∈ l, SizeOf.sizeOf x ≤ n := fun x hx => by
      have := List.sizeOf_lt_of_mem hx
      simp only [JV.mk.sizeOf_spec] at hv
      omega
    have ff : ({ f with alone := f.alone || false, far := f.far || false } : Fl) = f := by simp
    unfold MayJ at hm
    rcases hm with ⟨rfl, rfl, rfl, rfl, rfl, rfl⟩ | ⟨rfl, rfl, rfl, rfl, rfl⟩ | ⟨rfl, rfl, ⟨x, y, hx, h1, h2, h3, h4, h5, h6, h7, h8, h9, h10, h11⟩, rfl, rfl, rfl⟩ | ⟨rfl, rfl, rfl, rfl, rfl⟩ | ⟨rfl, rfl, rfl, rfl, rfl, hk⟩ | ⟨rfl, rfl, rfl, rfl, hl, hnd, hk⟩
    · have e : tellJ (.mk 0 false Dec.zero [] [] []) = wNull := rfl
      rw [e, runJ_value]
      have hb : blk (wNull ++ r) = wNull ++ r := blk_cons (by decide) _
      rw [hb, if_neg (by rw [show wNull ++ r = 110 :: ([117, 108, 108] ++ r) from rfl, tkB_cons]; decide), if_neg (by rw [show wNull ++ r = 110 :: ([117, 108, 108] ++ r) from rfl, tkB_cons]; decide)]
      unfold plainL
      rw [if_neg (by rw [show wNull ++ r = 110 :: ([117, 108, 108] ++ r) from rfl, tkB_cons]; decide), if_pos (pfx_self _ _)]
      simp only [ff]
      rfl
    · cases b with
      | true =>
        have e : tellJ (.mk 1 true Dec.zero [] [] []) = wTrue := rfl
        rw [e, runJ_value]
        have hb : blk (wTrue ++ r) = wTrue ++ r := blk_cons (by decide) _
        have hh : wTrue ++ r = 116 :: ([114, 117, 101] ++ r) := rfl
        rw [hb, if_neg (by rw [hh, tkB_cons]; decide), if_neg (by rw [hh, tkB_cons]; decide)]
        unfold plainL
        rw [if_neg (by rw [hh, tkB_cons]; decide), if_neg (by rw [hh]; unfold pfx wNull; simp [List.isPrefixOf]), if_pos (pfx_self _ _)]
        simp only [ff]
        rfl
      | false =>
        have e : tellJ (.mk 1 false Dec.zero [] [] []) = wFalse := rfl
        rw [e, runJ_value]
        have hb : blk (wFalse ++ r) = wFalse ++ r := blk_cons (by decide) _
        have hh : wFalse ++ r = 102 :: ([97, 108, 115, 101] ++ r) := rfl
        rw [hb, if_neg (by rw [hh, tkB_cons]; decide), if_neg (by rw [hh, tkB_cons]; decide)]
        unfold plainL
        rw [if_neg (by rw [hh, tkB_cons]; decide), if_neg (by rw [hh]; unfold pfx wNull; simp [List.isPrefixOf]), if_neg (by rw [hh]; unfold pfx wTrue; simp [List.isPrefixOf]), if_pos (pfx_self _ _)]
        simp only [ff]
        rfl
    · have e : tellJ (.mk 2 false d [] [] []) = txL d := rfl
      have hh : txL d ++ r = x :: (y ++ r) := by rw [hx]; rfl
      have hb : blk (txL d ++ r) = txL d ++ r := by rw [hh]; exact blk_cons h1 _
      have ht : ∀ c : UInt8, x ≠ c → ¬ tkB [c] (txL d ++ r) = true := fun c hc => by rw [hh, tkB_cons]; simp [hc]
      have hp : ∀ (c : UInt8) (w : List UInt8), x ≠ c → ¬ pfx (c :: w) (txL d ++ r) = true := fun c w hc => by rw [hh]; unfold pfx; simp [List.isPrefixOf, Ne.symm hc]
      rw [e, runJ_value, hb, if_neg (ht 91 h3), if_neg (ht 123 h4)]
      unfold plainL
      rw [if_neg (ht 34 h2), if_neg (show ¬ pfx wNull _ = true from hp 110 _ h6), if_neg (show ¬ pfx wTrue _ = true from hp 116 _ h7), if_neg (show ¬ pfx wFalse _ = true from hp 102 _ h8), h11 r hr]
      have et : (txL d ++ r).take ((txL d ++ r).length - r.length) = txL d := by
        rw [List.length_append, Nat.add_sub_cancel]
        exact List.take_left
      simp only [et, h9, h10]
      simp only [ne_eq, not_true_eq_false, decide_false, ff]
    · have e : tellJ (.mk 3 false Dec.zero t [] []) ++ r = 34 :: (t.flatMap escL ++ 34 :: r) := by
        rw [tellJ, if_neg (by decide), if_neg (by decide), if_neg (by decide), if_pos rfl]; unfold quoteL; simp
      rw [e, runJ_value, blk_cons (by decide), if_neg (by rw [tkB_cons]; decide), if_neg (by rw [tkB_cons]; decide)]
      unfold plainL
      rw [if_pos (by rfl)]
      simp only [List.drop_succ_cons, List.drop_zero, letsL_quoted, ff]
    · have hd' : depthJ (.mk 4 false Dec.zero [] l []) = depthKids l + 1 := by rw [depthJ, if_pos (.inl rfl)]
      rw [hd'] at hd
      have hK : K.length < 64 := by omega
      have e : tellJ (.mk 4 false Dec.zero [] l []) ++ r = 91 :: (tellKids 4 0 l [] ++ 93 :: r) := by
        rw [tellJ, if_neg (by decide), if_neg (by decide), if_neg (by decide), if_neg (by decide), if_pos rfl]; simp
      obtain ⟨g1, g2⟩ := enter_ok (obj := false) hK f
      rw [e, runJ_value, blk_cons (by decide), if_pos (by rfl), g2]
      simp only [List.drop_succ_cons, List.drop_zero]
      cases l with
      | nil =>
        have e2 : tellKids 4 0 [] [] ++ 93 :: r = 93 :: r := by rw [tellKids]; rfl
        rw [e2, blk_cons (by decide), if_pos (by rfl)]
        simp only [List.drop_succ_cons, List.drop_zero]
        unfold enterK
        rw [leave_ok hK]
        rfl
      | cons x l =>
        have hx := mayKids_mem hk
        have e2 : tellKids 4 0 (x :: l) [] ++ 93 :: r = tellJ x ++ (tellKids 4 (0 + 1) l [] ++ 93 :: r) := by
          rw [tellKids, if_pos rfl, if_neg (by omega)]; simp
        obtain ⟨b0, t0, hb0, hb1, hb2⟩ := tell_head (hx x (by simp))
        have hh : Head (tellJ x ++ (tellKids 4 (0 + 1) l [] ++ 93 :: r)) := ⟨b0, _, by rw [hb0]; rfl, hb1, hb2⟩
        obtain ⟨q1, q2⟩ := head_not hh
        rw [e2, q1, if_neg (by rw [q2]; simp)]
        unfold enterK
        rw [kids_list K f r hK l x 0 [] (fun y hy => ⟨ih y (hsz y hy) (hx y hy), by have := depthKids_mem y hy; omega⟩), leave_ok hK]
        rfl
    · have hd' : depthJ (.mk 5 false Dec.zero [] l ns) = depthKids l + 1 := by rw [depthJ, if_pos (.inr rfl)]
      rw [hd'] at hd
      have hK : K.length < 64 := by omega
      have e : tellJ (.mk 5 false Dec.zero [] l ns) ++ r = 123 :: (tellKids 5 0 l ns ++ 125 :: r) := by
        rw [tellJ, if_neg (by decide), if_neg (by decide), if_neg (by decide), if_neg (by decide), if_neg (by decide)]; simp
      obtain ⟨g1, g2⟩ := enter_ok (obj := true) hK f
      rw [e, runJ_value, blk_cons (by decide), if_neg (by rw [tkB_cons]; decide), if_pos (by rfl), g2]
      simp only [List.drop_succ_cons, List.drop_zero]
      cases l with
      | nil =>
        obtain rfl : ns = [] := List.eq_nil_of_length_eq_zero (by simpa using hl)
        have e2 : tellKids 5 0 [] [] ++ 125 :: r = 125 :: r := by rw [tellKids]; rfl
        rw [e2, blk_cons (by decide), if_pos (by rfl)]
        simp only [List.drop_succ_cons, List.drop_zero]
        unfold enterK
        rw [leave_ok hK]
        rfl
      | cons x l =>
        cases ns with
        | nil => simp at hl
        | cons m ns =>
          have hx := mayKids_mem hk
          have e2 : tellKids 5 0 (x :: l) (m :: ns) ++ 125 :: r = quoteL m ++ (58 :: (tellJ x ++ (tellKids 5 (0 + 1) l ns ++ 125 :: r))) := by
            rw [tellKids, if_pos rfl, if_pos rfl]; simp
          have e3 : ∀ q, quoteL m ++ q = 34 :: (m.flatMap escL ++ 34 :: q) := fun q => by unfold quoteL; simp
          have hb : blk (quoteL m ++ (58 :: (tellJ x ++ (tellKids 5 (0 + 1) l ns ++ 125 :: r)))) = quoteL m ++ (58 :: (tellJ x ++ (tellKids 5 (0 + 1) l ns ++ 125 :: r))) := by
            rw [e3]; exact blk_cons (by decide) _
          rw [e2, hb, if_neg (by rw [e3, tkB_cons]; decide)]
          unfold enterK
          rw [kids_obj K f r hK l ns x m 0 [] [] (by simpa using hl) (by simpa using hnd) (fun y hy => ⟨ih y (hsz y hy) (hx y hy), tell_head (hx y hy), by have := depthKids_mem y hy; omega⟩), leave_ok hK]
          rfl
end Go.Proofs.YtfdodndagakmmaaGreatDoor
