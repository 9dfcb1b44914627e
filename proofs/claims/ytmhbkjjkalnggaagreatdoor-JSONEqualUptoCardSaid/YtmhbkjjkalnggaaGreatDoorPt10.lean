import Derived.Test.YtmhbkjjkalnggaaGreatDoorPt09
namespace Go.Proofs.YtmhbkjjkalnggaaGreatDoor
open Go.RowKit
set_option maxRecDepth 1000000
set_option maxHeartbeats 40000000
def jvC (k : Int) (b : Bool) (d : Dec) (t : List UInt8) (L N : Value) : Array Value := #[.int .i64 k, .bool b, .bool d.neg, .string (bs d.digits), .int .i64 d.exp, .string (bs t), L, N]
def plainV : JV -> Value
 | .mk k b d t _ _ => .agg (jvC k b d t (.slice none 0 0) (.slice none 0 0))
def zeroJ : Array Value := #[.int .i64 0, .bool false, .bool false, .string ⟨#[]⟩, .int .i64 0, .string ⟨#[]⟩, .slice none 0 0, .slice none 0 0]
theorem infoJ : (Tryz.prog.info? 28).map (·.size) = some 8 := by kernel_rfl
theorem load_jv {w : World} {g : Nat} {cs : Array Value} (h : Row w g 28 cs) (hs : cs.size = 8) : (loadVar 28 ⟨g, 0, none⟩).run Tryz.prog w = .ok (.agg cs) w :=
 run_loadVar_row w g 28 28 cs (0, 0) _ h Tryz.underlying28 rfl (by rw [hs]; exact infoJ)
def PPost (w : World) (p : Nat) (X : Txt) (E O : Value) (f : Fl) : Option (JV × Bool × Bool × List UInt8) -> Ending -> World -> Prop
 | none, e, w' => e = .panicked (panicOf 180) /\ Kept (· = p) w w'
 | some (v, a, g, r), e, w' => e = .returned (plainV v) /\ JAt w' p X r E O { f with alone := f.alone || a, far := f.far || g } /\ Kept (· = p) w w'
structure PlS (w W : World) (p : Nat) (X : Txt) (s : List UInt8) (E O : Value) (f : Fl) (rv : Nat) : Prop where
 at_ : JAt W p X s E O f
 row : Row W rv 28 zeroJ
 kept : Kept (TxF w p) w W
theorem PlS.to {w W W2 : World} {p : Nat} {X : Txt} {s s2 : List UInt8} {E O : Value} {f f2 : Fl} {rv : Nat} (hp : rv ≠ p) (h : PlS w W p X s E O f rv) (hj : JAt W2 p X s2 E O f2) (hk : Kept (· = p) W W2) : PlS w W2 p X s2 E O f2 rv :=
 ⟨hj, (hk.block rv h.row.lt (by show ¬ rv = p; exact hp)).trans h.row, h.kept.trans' (kept_p hk)⟩
def put8 (w : World) (rv : Nat) (v0 v1 v2 v3 v4 v5 v6 v7 : Value) : World :=
 (((((((w.setCell ⟨rv, 0, none⟩ v0).setCell ⟨rv, 1, none⟩ v1).setCell ⟨rv, 2, none⟩ v2).setCell ⟨rv, 3, none⟩ v3).setCell ⟨rv, 4, none⟩ v4).setCell ⟨rv, 5, none⟩ v5).setCell ⟨rv, 6, none⟩ v6).setCell ⟨rv, 7, none⟩ v7
theorem put8_kept (w : World) (rv : Nat) (v0 v1 v2 v3 v4 v5 v6 v7 : Value) : Kept (· = rv) w (put8 w rv v0 v1 v2 v3 v4 v5 v6 v7) :=
 (((((((Kept.cell _ _ _ _).trans' (Kept.cell _ _ _ _)).trans' (Kept.cell _ _ _ _)).trans' (Kept.cell _ _ _ _)).trans' (Kept.cell _ _ _ _)).trans' (Kept.cell _ _ _ _)).trans' (Kept.cell _ _ _ _)).trans' (Kept.cell _ _ _ _)
theorem put8_row {w : World} {rv : Nat} {T : TypeId} (h : Row w rv T zeroJ) (v0 v1 v2 v3 v4 v5 v6 v7 : Value) : Row (put8 w rv v0 v1 v2 v3 v4 v5 v6 v7) rv T #[v0, v1, v2, v3, v4, v5, v6, v7] := by
 have h8 := (((((((h.set_ 0 v0).set_ 1 v1).set_ 2 v2).set_ 3 v3).set_ 4 v4).set_ 5 v5).set_ 6 v6).set_ 7 v7
 have e : (((((((zeroJ.setIfInBounds 0 v0).setIfInBounds 1 v1).setIfInBounds 2 v2).setIfInBounds 3 v3).setIfInBounds 4 v4).setIfInBounds 5 v5).setIfInBounds 6 v6).setIfInBounds 7 v7 = #[v0, v1, v2, v3, v4, v5, v6, v7] := by simp [zeroJ]
 rw [e] at h8
 exact h8
theorem jplain_ok (p : Nat) (X : Txt) (s : List UInt8) (E O : Value) (f : Fl) (w : World) (h : JAt w p X s E O f) (hX : X.l.length <= 1048576) (hT : ∀ V, Kept (TxF w p) w V -> PowTab V) :
   Calls Tryz.prog 78 #[.pointer (some ⟨p, 0, none⟩)] w (PPost w p X E O f (plainL s)) := by
 obtain ⟨w1, hw1⟩ : ∃ w1, w1 = w.alloc (.cells zeroJ 28) := ⟨_, rfl⟩
 have hb1 : Below w.heap.size w w1 := by subst hw1; exact (Below.refl _ _).alloc (Nat.le_refl _) _
 have hlt := h.lt
 have HP : Hid (w.heap.size ≠ p) := hid (by omega)
 have HS1 : Hid (PlS w w1 p X s E O f w.heap.size) := hid ⟨h.above h (keptNew_below hb1), by subst hw1; exact Row.new _ _ _, keptOf_below hb1⟩
 have H := hid h
 have HPT := hid hT
 obtain ⟨R, hR⟩ : ∃ R, R = plainL s := ⟨_, rfl⟩
 have HR := hid hR
 have fin : ∀ (w6 : World) (f6 : Fl) (r : List UInt8) (k : Int) (b : Bool) (d : Dec) (t : List UInt8) (a g : Bool), R = some (.mk k b d t [] [], a, g, r) -> f6 = { f with alone := f.alone || a, far := f.far || g } -> PlS w w6 p X r E O f6 w.heap.size ->
     ∀ (tm : Array Value), tm.getD 2 undef = .pointer (some ⟨w.heap.size, 0, none⟩) -> bodyPost Tryz.prog Tryz.f78 (PPost w p X E O f R) Exit.ret ⟨tm, []⟩ (put8 w6 w.heap.size (.int .i64 k) (.bool b) (.bool d.neg) (.string (bs d.digits)) (.int .i64 d.exp) (.string (bs t)) (.slice none 0 0) (.slice none 0 0)) := by
   rintro w6 f6 r k b d t a g rfl rfl hs tm g4
   refine bodyPost_ret_by (results_oneJ rfl _ _ w.heap.size (jvC k b d t (.slice none 0 0) (.slice none 0 0)) g4 (load_jv (put8_row hs.row _ _ _ _ _ _ _ _) rfl)) rfl ?_
   have k1 : Kept (fun q => w.heap.size <= q) w6 (put8 w6 w.heap.size (.int .i64 k) (.bool b) (.bool d.neg) (.string (bs d.digits)) (.int .i64 d.exp) (.string (bs t)) (.slice none 0 0) (.slice none 0 0)) :=
     kept_mono (put8_kept _ _ _ _ _ _ _ _ _ _) fun q e => by show w.heap.size <= q; rw [e]; exact Nat.le_refl _
   exact ⟨rfl, h.above hs.at_ k1, kept_cut (hs.kept.trans' (kept_new k1))⟩
 have FI := hid fin
 rw [<- hR]
 clear h hT hR hb1 fin hlt
 unfold zeroJ at hw1
 have HT := hid (jtake_ok p X [34] s E O f w1 HS1.out.at_)
 go_enter Tryz.func78, Tryz.ntmps78
 go_upto_region 1 with fail
 rw [<- hw1]
 clear hw1
 generalize hrv : w.heap.size = rv at *
 clear hrv
 cases hb : tkB [34] s with
 | true =>
   rw [hb] at HT
   have HQ : Hid (R = match letsL (tkS [34] s) with
     | none => none
     | some (l, a, r) => some (.mk 3 false Dec.zero l [] [], a, false, r)) := hid (by rw [HR.out]; unfold plainL; rw [if_pos hb, <- tkS_yes hb]; rfl)
   clear hb HR
   generalize tkS [34] s = s1 at *
   go_wp2_with fail
   refine HT.out.mono ?_
   rintro e w2 ⟨rfl, hj, hk⟩
   have HS2 := hid (HS1.out.to HP.out hj hk)
   have HL := hid (jletters_ok p X s1 E O f w2 hj hX)
   clear hj hk HT
   cases hl : letsL s1 with
   | none =>
     have e9 : letsR f s1 = none := by unfold letsR; rw [hl]; rfl
     rw [e9] at HL
     obtain rfl : R = none := by rw [HQ.out, hl]
     clear hl e9 HQ
     go_wp2_with fail
     refine HL.out.mono ?_
     rintro e w3 ⟨rfl, hk⟩
     have HK3 := hid (kept_cut (HS2.out.kept.trans' (kept_p hk)))
     clear hk
     go_wp2_with fail
     exact ⟨rfl, rfl, HK3.out⟩
   | some q =>
     obtain ⟨l, a, r⟩ := q
     have e9 : letsR f s1 = some (.string (bs l), { f with alone := f.alone || a }, r) := by unfold letsR; rw [hl]; rfl
     rw [e9] at HL
     have HQ2 : Hid (R = some (.mk 3 false Dec.zero l [] [], a, false, r)) := hid (by rw [HQ.out, hl])
     clear hl e9 HQ
     go_wp2_with fail
     refine HL.out.mono ?_
     rintro e w3 ⟨rfl, hj, hk⟩
     have HS3 := hid (HS2.out.to HP.out hj hk)
     clear hj hk HL
     have x0 := HS3.out.row.cell (i := 0) rfl
     have x1 := HS3.out.row.cell (i := 1) rfl
     have x2 := HS3.out.row.cell (i := 2) rfl
     have x3 := HS3.out.row.cell (i := 3) rfl
     have x4 := HS3.out.row.cell (i := 4) rfl
     have x5 := HS3.out.row.cell (i := 5) rfl
     have x6 := HS3.out.row.cell (i := 6) rfl
     have x7 := HS3.out.row.cell (i := 7) rfl
     have z0 := HS3.out.row.free 0
     have z1 := HS3.out.row.free 1
     have z2 := HS3.out.row.free 2
     have z3 := HS3.out.row.free 3
     have z4 := HS3.out.row.free 4
     have z5 := HS3.out.row.free 5
     have z6 := HS3.out.row.free 6
     have z7 := HS3.out.row.free 7
     go_wp2
     exact FI.out w3 _ r 3 false Dec.zero l a false HQ2.out (by simp) HS3.out _ rfl
 | false =>
   have HN1 := hid (tkS_no hb)
   rw [hb] at HT
   have hb34 := hb
   clear hb
   have hp0 : plainL s = if pfx wNull s then some (JV.null, false, false, s.drop 4) else if pfx wTrue s then some (.mk 1 true Dec.zero [] [] [], false, false, s.drop 4) else if pfx wFalse s then some (.mk 1 false Dec.zero [] [] [], false, false, s.drop 5) else match numEnd s with
     | none => none
     | some r => some (.mk 2 false (parseD (s.take (s.length - r.length))) [] [] [], false, decide (parseE (s.take (s.length - r.length)) ≠ 0), r) := by
     unfold plainL
     rw [if_neg (by rw [hb34]; simp)]
     rfl
   rw [<- HR.out] at hp0
   have HQ := hid hp0
   clear hp0 hb34 HR
   have HW := hid (fun (q : List UInt8) (hq : 0 < q.length) (V : World) (hj : JAt V p X s E O f) => jword_ok p X q s E O f V hj hq)
   go_wp2_with fail
   refine HT.out.mono ?_
   rintro e w2 ⟨rfl, hj, hk⟩
   rw [HN1.out] at hj
   have HS2 := hid (HS1.out.to HP.out hj hk)
   clear hj hk HT
   have HW1 := hid (HW.out wNull (by decide) _ HS2.out.at_)
   cases hc : pfx wNull s with
   | true =>
     have HQ2 : Hid (R = some (.mk 0 false Dec.zero [] [] [], false, false, s.drop wNull.length)) := hid (by rw [HQ.out, if_pos hc]; rfl)
     rw [hc, if_pos rfl] at HW1
     clear hc HQ
     generalize s.drop wNull.length = r at *
     go_wp2_with fail
     refine HW1.out.mono ?_
     rintro e w9 ⟨rfl, hj, hk⟩
     have HS9 := hid (HS2.out.to HP.out hj hk)
     clear hj hk HW1
     have x0 := HS9.out.row.cell (i := 0) rfl
     have x1 := HS9.out.row.cell (i := 1) rfl
     have x2 := HS9.out.row.cell (i := 2) rfl
     have x3 := HS9.out.row.cell (i := 3) rfl
     have x4 := HS9.out.row.cell (i := 4) rfl
     have x5 := HS9.out.row.cell (i := 5) rfl
     have x6 := HS9.out.row.cell (i := 6) rfl
     have x7 := HS9.out.row.cell (i := 7) rfl
     have z0 := HS9.out.row.free 0
     have z1 := HS9.out.row.free 1
     have z2 := HS9.out.row.free 2
     have z3 := HS9.out.row.free 3
     have z4 := HS9.out.row.free 4
     have z5 := HS9.out.row.free 5
     have z6 := HS9.out.row.free 6
     have z7 := HS9.out.row.free 7
     have ht0 : (⟨#[]⟩ : ByteArray) = bs [] := rfl
     clear ht0
     go_wp2
     exact FI.out w9 _ r 0 false Dec.zero [] false false HQ2.out (by simp) HS9.out _ rfl
   | false =>
     replace HQ := hid (HQ.out.trans (if_neg (by rw [hc]; simp)))
     rw [hc, if_neg (by simp)] at HW1
     clear hc
     go_wp2_with fail
     refine HW1.out.mono ?_
     rintro e v1 ⟨rfl, hj, hk⟩
     have HV1 := hid (HS2.out.to HP.out hj hk)
     clear hj hk HW1
     have HW2 := hid (HW.out wTrue (by decide) _ HV1.out.at_)
     cases hc : pfx wTrue s with
     | true =>
       have HQ2 : Hid (R = some (.mk 1 true Dec.zero [] [] [], false, false, s.drop wTrue.length)) := hid (by rw [HQ.out, if_pos hc]; rfl)
       rw [hc, if_pos rfl] at HW2
       clear hc HQ
       generalize s.drop wTrue.length = r at *
       go_wp2_with fail
       refine HW2.out.mono ?_
       rintro e w9 ⟨rfl, hj, hk⟩
       have HS9 := hid (HV1.out.to HP.out hj hk)
       clear hj hk HW2
       have x0 := HS9.out.row.cell (i := 0) rfl
       have x1 := HS9.out.row.cell (i := 1) rfl
       have x2 := HS9.out.row.cell (i := 2) rfl
       have x3 := HS9.out.row.cell (i := 3) rfl
       have x4 := HS9.out.row.cell (i := 4) rfl
       have x5 := HS9.out.row.cell (i := 5) rfl
       have x6 := HS9.out.row.cell (i := 6) rfl
       have x7 := HS9.out.row.cell (i := 7) rfl
       have z0 := HS9.out.row.free 0
       have z1 := HS9.out.row.free 1
       have z2 := HS9.out.row.free 2
       have z3 := HS9.out.row.free 3
       have z4 := HS9.out.row.free 4
       have z5 := HS9.out.row.free 5
       have z6 := HS9.out.row.free 6
       have z7 := HS9.out.row.free 7
       have ht0 : (⟨#[]⟩ : ByteArray) = bs [] := rfl
       clear ht0
       go_wp2
       exact FI.out w9 _ r 1 true Dec.zero [] false false HQ2.out (by simp) HS9.out _ rfl
     | false =>
       replace HQ := hid (HQ.out.trans (if_neg (by rw [hc]; simp)))
       rw [hc, if_neg (by simp)] at HW2
       clear hc
       go_wp2_with fail
       refine HW2.out.mono ?_
       rintro e v2 ⟨rfl, hj, hk⟩
       have HV2 := hid (HV1.out.to HP.out hj hk)
       clear hj hk HW2
       have HW3 := hid (HW.out wFalse (by decide) _ HV2.out.at_)
       cases hc : pfx wFalse s with
       | true =>
         have HQ2 : Hid (R = some (.mk 1 false Dec.zero [] [] [], false, false, s.drop wFalse.length)) := hid (by rw [HQ.out, if_pos hc]; rfl)
         rw [hc, if_pos rfl] at HW3
         clear hc HQ
         generalize s.drop wFalse.length = r at *
         go_wp2_with fail
         refine HW3.out.mono ?_
         rintro e w9 ⟨rfl, hj, hk⟩
         have HS9 := hid (HV2.out.to HP.out hj hk)
         clear hj hk HW3
         have x0 := HS9.out.row.cell (i := 0) rfl
         have x1 := HS9.out.row.cell (i := 1) rfl
         have x2 := HS9.out.row.cell (i := 2) rfl
         have x3 := HS9.out.row.cell (i := 3) rfl
         have x4 := HS9.out.row.cell (i := 4) rfl
         have x5 := HS9.out.row.cell (i := 5) rfl
         have x6 := HS9.out.row.cell (i := 6) rfl
         have x7 := HS9.out.row.cell (i := 7) rfl
         have z0 := HS9.out.row.free 0
         have z1 := HS9.out.row.free 1
         have z2 := HS9.out.row.free 2
         have z3 := HS9.out.row.free 3
         have z4 := HS9.out.row.free 4
         have z5 := HS9.out.row.free 5
         have z6 := HS9.out.row.free 6
         have z7 := HS9.out.row.free 7
         have ht0 : (⟨#[]⟩ : ByteArray) = bs [] := rfl
         clear ht0
         go_wp2
         exact FI.out w9 _ r 1 false Dec.zero [] false false HQ2.out (by simp) HS9.out _ rfl
       | false =>
         replace HQ := hid (HQ.out.trans (if_neg (by rw [hc]; simp)))
         rw [hc, if_neg (by simp)] at HW3
         clear hc
         go_wp2_with fail
         refine HW3.out.mono ?_
         rintro e v3 ⟨rfl, hj, hk⟩
         have HV3 := hid (HV2.out.to HP.out hj hk)
         clear hj hk HW3
         have HNU := hid (jnumber_ok p X s E O f v3 HV3.out.at_ (fun V hV => HPT.out V (HV3.out.kept.trans' (kept_mono hV fun q e => by
           rcases e with e | e
           · exact .inl e
           · exact .inr (Nat.le_trans HV3.out.kept.size e)))))
         cases hn : numEnd s with
         | none =>
           obtain rfl : R = none := by rw [HQ.out, hn]
           rw [hn] at HNU
           clear hn HQ
           go_wp2_with fail
           refine HNU.out.mono ?_
           rintro e w9 ⟨rfl, hk⟩
           have HK9 := hid (kept_cut (HV3.out.kept.trans' (kept_p hk)))
           clear hk
           go_wp2_with fail
           exact ⟨rfl, rfl, HK9.out⟩
         | some r =>
           have HQ2 : Hid (R = some (.mk 2 false (parseD (s.take (s.length - r.length))) [] [] [], false, decide (parseE (s.take (s.length - r.length)) ≠ 0), r)) := hid (by rw [HQ.out, hn])
           rw [hn] at HNU
           clear hn HQ
           unfold NPost at HNU
           simp only at HNU
           generalize decide (parseE (s.take (s.length - r.length)) ≠ 0) = g at *
           generalize parseD (s.take (s.length - r.length)) = d at *
           obtain ⟨dn, dl, dx⟩ := d
           unfold decV at HNU
           simp only at HNU
           go_wp2_with fail
           refine HNU.out.mono ?_
           rintro e w9 ⟨rfl, hj, hk⟩
           have HS9 := hid (HV3.out.to HP.out hj hk)
           clear hj hk HNU
           have x0 := HS9.out.row.cell (i := 0) rfl
           have x1 := HS9.out.row.cell (i := 1) rfl
           have x2 := HS9.out.row.cell (i := 2) rfl
           have x3 := HS9.out.row.cell (i := 3) rfl
           have x4 := HS9.out.row.cell (i := 4) rfl
           have x5 := HS9.out.row.cell (i := 5) rfl
           have x6 := HS9.out.row.cell (i := 6) rfl
           have x7 := HS9.out.row.cell (i := 7) rfl
           have z0 := HS9.out.row.free 0
           have z1 := HS9.out.row.free 1
           have z2 := HS9.out.row.free 2
           have z3 := HS9.out.row.free 3
           have z4 := HS9.out.row.free 4
           have z5 := HS9.out.row.free 5
           have z6 := HS9.out.row.free 6
           have z7 := HS9.out.row.free 7
           go_wp2
           exact FI.out w9 _ r 2 false ⟨dn, dl, dx⟩ [] false g HQ2.out (by simp) HS9.out _ rfl
def judgeE (f : Fl) : Int := if f.deep then 182 else if f.alone then 183 else if f.twice then 184 else if f.far then 4 else 0
theorem jjudge_ok (p : Nat) (X : Txt) (k : Nat) (E O : Value) (f : Fl) (w : World) (h : JRd w p X k E O f) :
   Calls Tryz.prog 49 #[.pointer (some ⟨p, 0, none⟩)] w fun e w' => w = w' /\ ((judgeE f = 0 /\ e = .returned (.tuple #[])) ∨ (judgeE f ≠ 0 /\ e = .panicked (panicOf (judgeE f)))) := by
 have c4 := h.row.cell (i := 4) (v := .bool f.deep) rfl
 have c5 := h.row.cell (i := 5) (v := .bool f.alone) rfl
 have c6 := h.row.cell (i := 6) (v := .bool f.twice) rfl
 have c7 := h.row.cell (i := 7) (v := .bool f.far) rfl
 obtain ⟨d, a, t, g⟩ := f
 simp only at c4 c5 c6 c7
 clear h
 cases d with
 | true =>
   go_enter Tryz.func49, Tryz.ntmps49
   go_wp2
   exact ⟨rfl, rfl, .inr ⟨by unfold judgeE; simp, rfl⟩⟩
 | false =>
   cases a with
   | true =>
     go_enter Tryz.func49, Tryz.ntmps49
     go_wp2
     exact ⟨rfl, rfl, .inr ⟨by unfold judgeE; simp, rfl⟩⟩
   | false =>
     cases t with
     | true =>
       go_enter Tryz.func49, Tryz.ntmps49
       go_wp2
       exact ⟨rfl, rfl, .inr ⟨by unfold judgeE; simp, rfl⟩⟩
     | false =>
       cases g with
       | true =>
         go_enter Tryz.func49, Tryz.ntmps49
         go_wp2
         exact ⟨rfl, rfl, .inr ⟨by unfold judgeE; simp, rfl⟩⟩
       | false =>
         go_enter Tryz.func49, Tryz.ntmps49
         go_wp2
         go_end0
         exact ⟨rfl, .inl ⟨rfl, rfl⟩⟩
theorem jisDeep_ok (p : Nat) (X : Txt) (k : Nat) (A : Option Addr) (n c : Nat) (O : Value) (f : Fl) (w : World) (h : JRd w p X k (.slice A n c) O f) :
   Calls Tryz.prog 101 #[.pointer (some ⟨p, 0, none⟩)] w fun e w' => e = .returned (.bool (decide (64 < n))) /\ w = w' := by
 have c2 := h.row.cell (i := 2) (v := .slice A n c) rfl
 have hd : decide ((64 : Int) < (n : Int)) = decide (64 < n) := by rw [decide_eq_decide]; omega
 clear h
 go_enter Tryz.func101, Tryz.ntmps101
 go_wp2
 go_ret
 exact ⟨by rw [<- hd]; rfl, rfl⟩
def NamesAt (W : World) (F : Nat -> Prop) (A : Option Addr) (ns : List (List UInt8)) : Prop :=
 ∀ i, i < ns.length -> ∃ g off, A = some ⟨g, off, none⟩ /\ F g /\ g < W.heap.size /\ W.cell? ⟨g, off + i, none⟩ = some (.string (bs (ns.getD i [])))
mutual
def JIs (W : World) (F : Nat -> Prop) : JV -> List Value -> Prop
 | .mk k b d t l ns, cs => ∃ A c A' c', cs = (jvC k b d t (.slice A l.length c) (.slice A' ns.length c')).toList /\ l.length <= c /\ c <= maxLen /\ ns.length <= c' /\ c' <= maxLen /\ NamesAt W F A' ns /\ KidsAt W F A 0 l
def KidsAt (W : World) (F : Nat -> Prop) (A : Option Addr) (i : Nat) : List JV -> Prop
 | [] => True
 | x :: l => (∃ g off cs, A = some ⟨g, off, none⟩ /\ F g /\ g < W.heap.size /\ (∀ (j : Nat) (v : Value), cs[j]? = some v -> W.cell? ⟨g, off + (i * 8 + j), none⟩ = some v) /\ JIs W F x cs) /\ KidsAt W F A (i + 1) l
end
theorem NamesAt.kept {W W' : World} {F G : Nat -> Prop} {A : Option Addr} {ns : List (List UInt8)} (h : NamesAt W F A ns) (hk : Kept G W W') (hd : ∀ q, F q -> ¬ G q) : NamesAt W' F A ns := fun i hi => by
 obtain ⟨g, off, e, hf, hlt, hc⟩ := h i hi
 exact ⟨g, off, e, hf, Nat.lt_of_lt_of_le hlt hk.size, (World.cell?_of_block (a := ⟨g, off + i, none⟩) (hk.block g hlt (hd g hf))).trans hc⟩
mutual
theorem JIs.kept {W W' : World} {F G : Nat -> Prop} (hk : Kept G W W') (hd : ∀ q, F q -> ¬ G q) : ∀ (v : JV) (cs : List Value), JIs W F v cs -> JIs W' F v cs
 | .mk k b d t l ns, cs, h => by
   unfold JIs at h ⊢
   obtain ⟨A, c, A', c', h1, h2, h3, h4, h5, h6, h7⟩ := h
   exact ⟨A, c, A', c', h1, h2, h3, h4, h5, h6.kept hk hd, KidsAt.kept hk hd l A 0 h7⟩
theorem KidsAt.kept {W W' : World} {F G : Nat -> Prop} (hk : Kept G W W') (hd : ∀ q, F q -> ¬ G q) : ∀ (l : List JV) (A : Option Addr) (i : Nat), KidsAt W F A i l -> KidsAt W' F A i l
 | [], _, _, _ => by unfold KidsAt; trivial
 | x :: l, A, i, h => by
   unfold KidsAt at h ⊢
   obtain ⟨⟨g, off, cs, h1, h2, h3, h4, h5⟩, h6⟩ := h
   exact ⟨⟨g, off, cs, h1, h2, Nat.lt_of_lt_of_le h3 hk.size, fun j v hv => (World.cell?_of_block (a := ⟨g, off + (i * 8 + j), none⟩) (hk.block g h3 (hd g h2))).trans (h4 j v hv), JIs.kept hk hd x cs h5⟩, KidsAt.kept hk hd l A (i + 1) h6⟩
end
theorem JIs.below {W W' : World} {F : Nat -> Prop} {v : JV} {cs : List Value} (h : JIs W F v cs) (hb : Below W.heap.size W W') : JIs W' F v cs :=
 JIs.kept (G := fun _ => False) (keptOf_below hb) (fun _ _ => id) v cs h
theorem KidsAt.get {W : World} {F : Nat -> Prop} {A : Option Addr} : ∀ (l : List JV) (i : Nat), KidsAt W F A i l -> ∀ j, j < l.length -> ∃ g off cs, A = some ⟨g, off, none⟩ /\ F g /\ g < W.heap.size /\ (∀ (q : Nat) (v : Value), cs[q]? = some v -> W.cell? ⟨g, off + ((i + j) * 8 + q), none⟩ = some v) /\ JIs W F (l.getD j JV.null) cs
 | [], _, _, j, hj => by simp at hj
 | x :: l, i, h, j, hj => by
   unfold KidsAt at h
   cases j with
   | zero =>
     obtain ⟨⟨g, off, cs, h1, h2, h3, h4, h5⟩, _⟩ := h
     exact ⟨g, off, cs, h1, h2, h3, h4, h5⟩
   | succ j =>
     obtain ⟨g, off, cs, h1, h2, h3, h4, h5⟩ := KidsAt.get l (i + 1) h.2 j (by simpa using hj)
     refine ⟨g, off, cs, h1, h2, h3, fun q v hv => ?_, h5⟩
     have := h4 q v hv
     rwa [show i + 1 + j = i + (j + 1) by omega] at this
def JAtP (W : World) (F : Nat -> Prop) (g off : Nat) (v : JV) : Prop := g < W.heap.size /\ ∃ cs, (∀ (q : Nat) (u : Value), cs[q]? = some u -> W.cell? ⟨g, off + q, none⟩ = some u) /\ JIs W F v cs
theorem JAtP.below {W W' : World} {F : Nat -> Prop} {g off : Nat} {v : JV} (h : JAtP W F g off v) (hb : Below W.heap.size W W') : JAtP W' F g off v := by
 obtain ⟨hg, cs, h1, h2⟩ := h
 exact ⟨Nat.lt_of_lt_of_le hg hb.size, cs, fun q u hu => (hb.cell (p := ⟨g, off + q, none⟩) hg).trans (h1 q u hu), h2.below hb⟩
theorem JAtP.open_ {W : World} {F : Nat -> Prop} {g off : Nat} {k : Int} {b : Bool} {d : Dec} {t : List UInt8} {l : List JV} {ns : List (List UInt8)} (h : JAtP W F g off (.mk k b d t l ns)) :
   ∃ A c A' c', W.cell? ⟨g, off, none⟩ = some (.int .i64 k) /\ W.cell? ⟨g, off + 1, none⟩ = some (.bool b) /\ W.cell? ⟨g, off + 2, none⟩ = some (.bool d.neg) /\ W.cell? ⟨g, off + 3, none⟩ = some (.string (bs d.digits)) /\
     W.cell? ⟨g, off + 4, none⟩ = some (.int .i64 d.exp) /\ W.cell? ⟨g, off + 5, none⟩ = some (.string (bs t)) /\ W.cell? ⟨g, off + 6, none⟩ = some (.slice A l.length c) /\ W.cell? ⟨g, off + 7, none⟩ = some (.slice A' ns.length c') /\
     l.length <= c /\ c <= maxLen /\ ns.length <= c' /\ c' <= maxLen /\ NamesAt W F A' ns /\ (∀ j, j < l.length -> ∃ g2 off2, A = some ⟨g2, off2, none⟩ /\ JAtP W F g2 (off2 + j * 8) (l.getD j JV.null)) := by
 obtain ⟨hg, cs, h1, h2⟩ := h
 unfold JIs at h2
 obtain ⟨A, c, A', c', rfl, h3, h4, h5, h6, h7, h8⟩ := h2
 refine ⟨A, c, A', c', h1 0 _ rfl, h1 1 _ rfl, h1 2 _ rfl, h1 3 _ rfl, h1 4 _ rfl, h1 5 _ rfl, h1 6 _ rfl, h1 7 _ rfl, h3, h4, h5, h6, h7, fun j hj => ?_⟩
 obtain ⟨g2, off2, cs, e1, e2, e3, e4, e5⟩ := KidsAt.get l 0 h8 j hj
 refine ⟨g2, off2, e1, e3, cs, fun q u hu => ?_, e5⟩
 have := e4 q u hu
 rwa [Nat.zero_add, <- Nat.add_assoc] at this
open Go.RowKit
theorem depthKids_mem {l : List JV} : ∀ x ∈ l, depthJ x <= depthKids l := by
 induction l with
 | nil => intro x hx; cases hx
 | cons y l ih =>
   intro x hx
   rw [depthKids]
   rcases List.mem_cons.1 hx with rfl | hx
   · exact Nat.le_max_left _ _
   · exact Nat.le_trans (ih x hx) (Nat.le_max_right _ _)
end Go.Proofs.YtmhbkjjkalnggaaGreatDoor
