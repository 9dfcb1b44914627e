import Derived.Test.YtmhbkjjkalnggaaGreatDoorPt18
namespace Go.Proofs.YtmhbkjjkalnggaaGreatDoor
open Go.RowKit Go.MapKept Go.Maps
set_option maxRecDepth 1000000
set_option maxHeartbeats 40000000
def nameL (s : List UInt8) : Option (List UInt8 × Bool × List UInt8) := if tkB [34] (blk s) = true then letsL ((blk s).drop 1) else none
def NamPost (w : World) (p : Nat) (X : Txt) (E O : Value) (f : Fl) (base : Nat) (own : Nat -> Nat) (t : Fr) (r : List Fr) : Option (List UInt8 × Bool × List UInt8) -> Ending -> World -> Prop
 | none, e, w' => e = .panicked (panicOf 180) /\ Kept (StkG own base p) w w'
 | some (l, a, q), e, w' => e = .returned (.tuple #[]) /\ ∃ own', Stk w' own' base (nameK l (t :: r)) E O /\ JAt w' p X q E O (nameF l (t :: r) { f with alone := f.alone || a }) /\ Still w w' (StkG own base p) own own'
theorem twice_eq (f : Fl) (b : Bool) : { f with twice := f.twice || b } = if b then { f with twice := true } else f := by
 obtain ⟨d, a, t, g⟩ := f
 cases b <;> cases t <;> rfl
theorem jname_ok (p : Nat) (X : Txt) (s s0 : List UInt8) (E O E0 O0 : Value) (f f0 : Fl) (w0 w : World) (own : Nat -> Nat) (t : Fr) (r : List Fr)
   (h0 : JAt w0 p X s0 E0 O0 f0) (h : JAt w p X s E O f) (hs : Stk w own w0.heap.size (t :: r) E O) (hb : w0.heap.size <= w.heap.size) (hX : X.l.length <= 1048576) (hn : t.names.length <= 1048576) :
   Calls Tryz.prog 79 #[.pointer (some ⟨p, 0, none⟩)] w (NamPost w p X E O f w0.heap.size own t r (nameL s)) := by
 have hp0 := h0.lt
 have HM := hid (jmust_ok p X [34] s E O f w h)
 obtain ⟨R, hR⟩ : ∃ R, R = nameL s := ⟨_, rfl⟩
 have HR : Hid (R = if tkB [34] (blk s) = true then letsL ((blk s).drop 1) else none) := hid hR
 rw [<- hR]
 have HML : Hid (mustL [34] s = if tkB [34] (blk s) = true then some ((blk s).drop 1) else none) := hid (by
   unfold mustL sgB sgS tkS
   cases tkB [34] (blk s) <;> rfl)
 have H0 := hid h0
 have HS := hid hs
 have HB := hid hb
 have HX := hid hX
 have HN := hid hn
 have HSL : Hid ((blk s).length <= X.l.length) := hid (Nat.le_trans (blk_len s) h.len)
 clear hR h h0 hs hb hn
 generalize mustL [34] s = ms at *
 generalize blk s = bsx at *
 go_enter Tryz.func79, Tryz.ntmps79
 go_wp2_with fail
 refine HM.out.mono ?_
 intro e w1 hj1
 have HJ1 := hid hj1
 clear hj1 HM
 cases htk : tkB [34] bsx with
 | false =>
   rw [htk] at HML HR
   obtain rfl : ms = none := by rw [HML.out]; rfl
   obtain rfl : R = none := by rw [HR.out]; rfl
   obtain ⟨rfl, hk1⟩ := HJ1.out
   have HK1 := hid hk1
   clear hk1 HJ1 HML HR htk
   go_wp2_with fail
   exact ⟨rfl, rfl, kept_mono HK1.out fun q e => .inl e⟩
 | true =>
   rw [htk, if_pos rfl] at HML HR
   obtain rfl : ms = some (bsx.drop 1) := HML.out
   obtain ⟨rfl, hj1, hk1⟩ := HJ1.out
   have HK1 := hid hk1
   have HL := hid (jletters_ok p X (bsx.drop 1) E O f w1 hj1 hX)
   have HLR : Hid (letsR f (bsx.drop 1) = R.map fun q => (.string (bs q.1), { f with alone := f.alone || q.2.1 }, q.2.2)) := hid (by rw [HR.out]; rfl)
   have HLL : Hid (∀ l a q, R = some (l, a, q) -> l.length <= 4194304) := hid fun l a q e => by
     have h1 := letsL_long _ (HR.out.symm.trans e)
     have h2 := HSL.out
     have h3 := HX.out
     rw [List.length_drop] at h1
     omega
   clear hj1 hk1 HJ1 HML HR htk hX
   generalize letsR f (bsx.drop 1) = lr at *
   go_wp2_with fail
   refine HL.out.mono ?_
   intro e w2 hj2
   have HJ2 := hid hj2
   clear hj2 HL
   cases R with
   | none =>
     obtain rfl : lr = none := by rw [HLR.out]; rfl
     obtain ⟨rfl, hk2⟩ := HJ2.out
     have HK2 := hid hk2
     clear hk2 HJ2 HLR
     go_wp2_with fail
     exact ⟨rfl, rfl, kept_mono (HK1.out.trans' HK2.out) fun q e => .inl e⟩
   | some qq =>
     obtain ⟨l, al, q⟩ := qq
     obtain rfl : lr = some (.string (bs l), { f with alone := f.alone || al }, q) := by rw [HLR.out]; rfl
     obtain ⟨rfl, hj2, hk2⟩ := HJ2.out
     obtain ⟨f2, hf2⟩ : ∃ f2, f2 = { f with alone := f.alone || al } := ⟨_, rfl⟩
     rw [<- hf2] at hj2
     have HJ := hid hj2
     have HF2 := hid hf2
     have HK : Hid (Kept (· = p) w w2) := hid (HK1.out.trans' hk2)
     have hlm : l.length <= maxLen := by have := HLL.out l al q rfl; unfold maxLen; omega
     have HLM := hid hlm
     clear hj2 hk2 HJ2 HLR HLL HK1 hf2 hlm
     have sP : Still w w2 (· = p) own own := ⟨HK.out, fun _ _ => rfl⟩
     have hs2 : Stk w2 own w0.heap.size (t :: r) E O := HS.out.still sP (fun q e hq => by omega)
     have HS2 := hid hs2
     have HSP := hid sP
     obtain ⟨A, c, hE, _, _⟩ := hs2.ends.form
     subst hE
     obtain ⟨k, hrow⟩ := HJ.out.row
     have HD := hid (jisDeep_ok p X k A (t :: r).length c O f2 w2 (by
       obtain ⟨_, k', hr', _, _⟩ := HJ.out
       exact ⟨hrow, hr'.txt⟩))
     clear hs2 sP
     by_cases hd : 64 < (t :: r).length
     · rw [decide_eq_true hd] at HD
       have hK : nameK l (t :: r) = t :: r := if_pos (by unfold isDeepK maxDeep; exact decide_eq_true hd)
       have hF : nameF l (t :: r) { f with alone := f.alone || al } = { f with alone := f.alone || al } := if_pos (by unfold isDeepK maxDeep; exact decide_eq_true hd)
       have FI : Hid (∃ own', Stk w2 own' w0.heap.size (nameK l (t :: r)) (.slice A (t :: r).length c) O /\ JAt w2 p X q (.slice A (t :: r).length c) O (nameF l (t :: r) { f with alone := f.alone || al }) /\ Still w w2 (StkG own w0.heap.size p) own own') := hid (by
         rw [hK, hF, <- HF2.out]
         exact ⟨own, HS2.out, HJ.out, still_mono HSP.out fun q e => .inl e⟩)
       clear hK hF hd hrow
       generalize hnn : (t :: r).length = nn at *
       have HNN := hid hnn
       clear hnn
       go_wp2_with fail
       refine HD.out.mono ?_
       rintro e w3 ⟨rfl, rfl⟩
       go_wp2_with fail
       refine bodyPost_ret (results_none rfl _ _ _) rfl ?_
       rw [HNN.out] at *
       exact ⟨rfl, FI.out⟩
     · rw [decide_eq_false hd] at HD
       have hr64 : r.length < 64 := by simp only [List.length_cons] at hd; omega
       obtain ⟨g, off, cap, cs0, L, N, M, css, hO, htop⟩ := HS2.out.top hr64
       subst hO
       have hK : nameK l (t :: r) = ⟨t.obj, t.list, t.names ++ [l]⟩ :: r := if_neg (by unfold isDeepK maxDeep; rw [decide_eq_false hd]; simp)
       have hF : nameF l (t :: r) { f with alone := f.alone || al } = if (setL t.names).contains l then { f2 with twice := true } else f2 := by
         rw [HF2.out, <- twice_eq, setL_contains]
         exact if_neg (by unfold isDeepK maxDeep; rw [decide_eq_false hd]; simp)
       have HPost : Hid (∀ W own2 f9, f9 = (if (setL t.names).contains l then { f2 with twice := true } else f2) -> Stk W own2 w0.heap.size (⟨t.obj, t.list, t.names ++ [l]⟩ :: r) (.slice A (t :: r).length c) (.slice (some ⟨g, off, none⟩) (r.length + 1) cap) -> JAt W p X q (.slice A (t :: r).length c) (.slice (some ⟨g, off, none⟩) (r.length + 1) cap) f9 -> Still w W (StkG own w0.heap.size p) own own2 -> NamPost w p X (.slice A (t :: r).length c) (.slice (some ⟨g, off, none⟩) (r.length + 1) cap) f w0.heap.size own t r (some (l, al, q)) (.returned (.tuple #[])) W) := hid (by
         intro W own2 f9 e9 a1 a2 a3
         exact ⟨rfl, own2, by rw [hK]; exact a1, by rw [hF, <- e9]; exact a2, a3⟩)
       have HR64 := hid hr64
       have HSET := hid htop.set_
       have HTW := hid htop.toTopW
       have HEN := hid HS2.out.ends
       have HNL := HN.out
       have c3 := hrow.cell (i := 3) (v := .slice (some ⟨g, off, none⟩) (r.length + 1) cap) rfl
       have h9 : ((r.length + 1 : Nat) : Int) - 1 = (r.length : Int) := by omega
       have hlt : r.length < r.length + 1 := by omega
       have hlen : (t :: r).length = r.length + 1 := rfl
       rw [hlen] at HEN HJ HPost
       clear hK hF hd hrow htop HS HS2 HX HN hlen
       have hr63 : r.length <= 64 := by omega
       clear hr64
       generalize hm : r.length = m at *
       have HM := hid hm
       clear hm
       generalize hn1 : m + 1 = n1 at *
       have HN1 := hid hn1
       clear hn1
       go_wp2_with fail
       refine HD.out.mono ?_
       rintro e w3 ⟨rfl, rfl⟩
       clear HD
       go_wp2_with fail
       go_quiet (fail)
       go_upto_region 4 with fail
       have hq0 : Hid (Still w2 (w2.drewN nq) (fun _ => False) own own) := hid ⟨(Kept.refl _ _).drewN _, fun _ _ => rfl⟩
       have HTW9 : Hid (TopW (w2.drewN nq) own w0.heap.size t r g off cap cs0 L N M css) := hid (HTW.out.still hq0.out (fun _ h => h.elim))
       have HEN9 := hid (HEN.out.still hq0.out (fun _ h => h.elim))
       have HJ9 := hid (H0.out.above HJ.out (w' := w2.drewN nq) ((Kept.refl _ _).drewN _))
       have HSP9 : Hid (Still w (w2.drewN nq) (StkG own w0.heap.size p) own own) := hid (still_trans (still_mono HSP.out fun q e => .inl e) (still_mono hq0.out fun _ h => h.elim))
       have HSET9 := hid (HSET.out.still hq0.out (fun _ h => h.elim))
       have c8 : (w2.drewN nq).cell? ⟨g, off + m * 9 + 8, none⟩ = some M := by
         have := HTW9.out.cell 8 M rfl
         rwa [HM.out] at this
       clear HTW HEN HJ HSP HSET hq0 c3
       generalize w2.drewN nq = w9 at *
       have hmm := @run_makeMap Tryz.prog
       rcases HSET9.out with ⟨hM, hn0⟩ | ⟨b, hM, hb, hset⟩
       · subst hM
         have hb9 : Below w9.heap.size w9 (w9.alloc (.map #[] 0)) := (Below.refl _ _).alloc (Nat.le_refl _) _
         have hx8 := all_cell (HTW9.out.all.below hb9) HTW9.out.len (j := 8) rfl
         rw [HM.out] at hx8
         obtain ⟨x8, z8⟩ := hx8
         have heq := fun W => run_eql_map_nil (P := Tryz.prog) W 109 9 110 none Tryz.underlying109
         have hg := HTW9.out.block
         have hbs : w0.heap.size <= w9.heap.size := Nat.le_trans HB.out HSP9.out.kept.size
         have NM : Hid (NmS w0 w ((w9.alloc (.map #[] 0)).setCell ⟨g, off + m * 9 + 8, none⟩ (.map (some w9.heap.size))) own (ownNew own w9.heap.size (6 + 3 * m)) p X q (.slice A n1 c) f2 t r g off cap cs0 L N css w9.heap.size (setL t.names)) := hid (by
           have hm := HM.out
           subst hm
           have hn1 := HN1.out
           subst hn1
           have s1 : Still w9 (w9.alloc (.map #[] 0)) (fun _ => False) own (ownNew own w9.heap.size (6 + 3 * r.length)) := still_new (keptOf_below hb9)
           have hg1 : (ownNew own w9.heap.size (6 + 3 * r.length)) g = 2 := by unfold ownNew; rw [if_pos hg.2]; exact hg.1.1
           have s2 := cell_still (w9.alloc (.map #[] 0)) (ownNew own w9.heap.size (6 + 3 * r.length)) g (off + r.length * 9 + 8) (.map (some w9.heap.size))
           refine ⟨(HTW9.out.still s1 (fun _ h => h.elim)).setM _, ⟨by unfold ownNew; rw [if_neg (Nat.lt_irrefl _)], hbs⟩, ?_, (HEN9.out.still s1 (fun _ h => h.elim)).still s2 (fun q e _ => by rw [e, hg1]; omega), ?_, ?_, HB.out⟩
           · rw [hn0]
             exact (IsSet.new w9).kept s2.kept (fun e => by have := hg.2; omega)
           · exact H0.out.above HJ9.out ((keptOf_below hb9).trans' (kept_mono s2.kept fun q e => by show w0.heap.size <= q; rw [e]; exact hg.1.2))
           · refine still_trans HSP9.out (still_trans (still_mono s1 fun _ h => h.elim) (still_mono s2 fun q e => .inl ?_))
             exact .inl (.inr ⟨by rw [e]; exact hg.1.2, by rw [e, hg.1.1]; omega, by rw [e, hg.1.1]; omega⟩))
         have hlk := NM.out.set_.look HLM.out
         have d8 := NM.out.cell8
         rw [HM.out] at d8
         clear hg hbs HTW9 HEN9 HJ9 HSP9 HSET9 hn0 hb9
         go_upto_region 7 with fail
         clear x8 z8 heq hmm c8 hlk d8
         generalize hwx : (w9.alloc (.map #[] 0)).setCell ⟨g, off + m * 9 + 8, none⟩ (.map (some w9.heap.size)) = wx at *
         generalize hbx : w9.heap.size = b at *
         clear hwx hbx
         have NM2 := hid (NM.out.below H0.out ((Below.refl _ _).alloc (Nat.le_refl _) (.cells #[] 110)))
         clear NM
         generalize wx.alloc (.cells #[] 110) = wy at *
         have hct : (setL t.names).contains l = decide (l ∈ setL t.names) := by rw [Bool.eq_iff_iff, List.contains_iff_mem, decide_eq_true_iff]
         have HCT := hid hct
         clear hct
         generalize decide (l ∈ setL t.names) = ct at *
         cases ct with
         | true =>
           obtain ⟨k9, hr9⟩ := NM2.out.jat.row
           have c6 := hr9.cell (i := 6) (v := .bool f2.twice) rfl
           have z6 := hr9.free 6
           clear hr9
           go_upto_region 9 with fail
           have NM3 := hid (NM2.out.twice H0.out)
           clear c6 z6 NM2
           generalize wy.setCell ⟨p, 6, none⟩ (.bool true) = wz at *
           obtain ⟨f9, hf9⟩ : ∃ f9, f9 = { f2 with twice := true } := ⟨_, rfl⟩
           rw [<- hf9] at NM3
           have HF9 : Hid (f9 = if (setL t.names).contains l then { f2 with twice := true } else f2) := hid (by rw [HCT.out, if_pos rfl]; exact hf9)
           clear hf9
           have d8 := NM3.out.cell8
           rw [HM.out] at d8
           go_upto_region 10 with (
             refine wpList_putS ?_ (.tmp 48) (.tmp 49) (.tmp 50) ?_ b (setL t.names) NM3.out.set_ l ?_ ?_ ?_ HLM.out ?_
             · with_reducible rfl
             · with_reducible rfl
             · rfl
             · rfl
             · rfl
             intro w5 hset5 hk5
             have NM4 := hid (NM3.out.put H0.out hset5 hk5)
             clear hset5 hk5 NM3 d8)
           rw [<- setL_snoc] at NM4
           obtain ⟨AN, cN, hN, _, _⟩ := NM4.out.top.names.form
           subst hN
           have d7 := NM4.out.cell7
           rw [HM.out] at d7
           have hb6 : Below w5.heap.size w5 (w5.alloc (.cells #[.string (bs l)] 9)) := (Below.refl _ _).alloc (Nat.le_refl _) _
           have NM5 := hid (NM4.out.below H0.out hb6)
           have HSR : Hid (Source (w5.alloc (.cells #[.string (bs l)] 9)) (some ⟨w5.heap.size, 0, none⟩) 1 [.string (bs l)]) := hid (.inr ⟨_, rfl, World.news_of_block (heap_alloc_new w5 _)⟩)
           have HNL := hid HNL
           clear NM4 hb6
           simp only [Act.put]
           go_wp2_with (
             at_builtin
             refine wpList_append_any ?_ (FB (ownNew own b (6 + 3 * m)) w0.heap.size (5 + 3 * r.length)) (.tmp 56) (.tmp 58) 26 ?_ 9 1 16 (.string ⟨#[]⟩) Tryz.underlying26 infoStr rfl (by decide) (.slice AN t.names.length cN) t.names.length (t.names.map keyV) ?_ NM5.out.top.names _ 1 1 [.string (bs l)] ?_ rfl HSR.out ?_ (by have := HNL.out; omega) (by decide) ?_
             · with_reducible rfl
             · with_reducible rfl
             · rfl
             · rfl
             · intro u hu; simp at hu; subst hu; rfl
             intro v7 w7 hl7 hk7
             have hx7 := all_cell (NM5.out.top.all.kept hk7 (fun q hq hq2 => by have := hq.1; have := hq2.1.1; omega)) NM5.out.top.len (j := 7) rfl
             rw [HM.out] at hx7
             obtain ⟨x7, z7⟩ := hx7
             obtain ⟨A7, c7, rfl, _, _⟩ := hl7.form
             have HL7 := hid hl7
             have HK7 := hid hk7
             clear hl7 hk7)
           go_end0
           obtain ⟨own2, b1, b2, b3⟩ := NM5.out.fin H0.out (l := l) (by rw [HM.out]; exact HR64.out) HL7.out (kept_mono HK7.out fun q hq => hq.1)
           rw [HM.out, HN1.out] at b1 b2
           rw [HM.out] at b3
           have hlen2 : (t :: r).length = n1 := by rw [<- HN1.out, <- HM.out]; rfl
           rw [hlen2]
           exact HPost.out _ own2 f9 HF9.out b1 b2 b3
         | false =>
           go_upto_region 9 with fail
           have NM3 := NM2
           clear NM2
           generalize wy = wz at *
           obtain ⟨f9, hf9⟩ : ∃ f9, f9 = f2 := ⟨_, rfl⟩
           rw [<- hf9] at NM3
           have HF9 : Hid (f9 = if (setL t.names).contains l then { f2 with twice := true } else f2) := hid (by rw [HCT.out, hf9]; rfl)
           clear hf9
           have d8 := NM3.out.cell8
           rw [HM.out] at d8
           go_upto_region 10 with (
             refine wpList_putS ?_ (.tmp 48) (.tmp 49) (.tmp 50) ?_ b (setL t.names) NM3.out.set_ l ?_ ?_ ?_ HLM.out ?_
             · with_reducible rfl
             · with_reducible rfl
             · rfl
             · rfl
             · rfl
             intro w5 hset5 hk5
             have NM4 := hid (NM3.out.put H0.out hset5 hk5)
             clear hset5 hk5 NM3 d8)
           rw [<- setL_snoc] at NM4
           obtain ⟨AN, cN, hN, _, _⟩ := NM4.out.top.names.form
           subst hN
           have d7 := NM4.out.cell7
           rw [HM.out] at d7
           have hb6 : Below w5.heap.size w5 (w5.alloc (.cells #[.string (bs l)] 9)) := (Below.refl _ _).alloc (Nat.le_refl _) _
           have NM5 := hid (NM4.out.below H0.out hb6)
           have HSR : Hid (Source (w5.alloc (.cells #[.string (bs l)] 9)) (some ⟨w5.heap.size, 0, none⟩) 1 [.string (bs l)]) := hid (.inr ⟨_, rfl, World.news_of_block (heap_alloc_new w5 _)⟩)
           have HNL := hid HNL
           clear NM4 hb6
           simp only [Act.put]
           go_wp2_with (
             at_builtin
             refine wpList_append_any ?_ (FB (ownNew own b (6 + 3 * m)) w0.heap.size (5 + 3 * r.length)) (.tmp 56) (.tmp 58) 26 ?_ 9 1 16 (.string ⟨#[]⟩) Tryz.underlying26 infoStr rfl (by decide) (.slice AN t.names.length cN) t.names.length (t.names.map keyV) ?_ NM5.out.top.names _ 1 1 [.string (bs l)] ?_ rfl HSR.out ?_ (by have := HNL.out; omega) (by decide) ?_
             · with_reducible rfl
             · with_reducible rfl
             · rfl
             · rfl
             · intro u hu; simp at hu; subst hu; rfl
             intro v7 w7 hl7 hk7
             have hx7 := all_cell (NM5.out.top.all.kept hk7 (fun q hq hq2 => by have := hq.1; have := hq2.1.1; omega)) NM5.out.top.len (j := 7) rfl
             rw [HM.out] at hx7
             obtain ⟨x7, z7⟩ := hx7
             obtain ⟨A7, c7, rfl, _, _⟩ := hl7.form
             have HL7 := hid hl7
             have HK7 := hid hk7
             clear hl7 hk7)
           go_end0
           obtain ⟨own2, b1, b2, b3⟩ := NM5.out.fin H0.out (l := l) (by rw [HM.out]; exact HR64.out) HL7.out (kept_mono HK7.out fun q hq => hq.1)
           rw [HM.out, HN1.out] at b1 b2
           rw [HM.out] at b3
           have hlen2 : (t :: r).length = n1 := by rw [<- HN1.out, <- HM.out]; rfl
           rw [hlen2]
           exact HPost.out _ own2 f9 HF9.out b1 b2 b3
       · subst hM
         have heq := fun W => run_eql_map_nil (P := Tryz.prog) W 109 9 110 (some b) Tryz.underlying109
         have NM : Hid (NmS w0 w w9 own own p X q (.slice A n1 c) f2 t r g off cap cs0 L N css b (setL t.names)) := hid (by
           have hm := HM.out
           subst hm
           have hn1 := HN1.out
           subst hn1
           exact ⟨HTW9.out, hb, hset, HEN9.out, HJ9.out, HSP9.out, HB.out⟩)
         have hlk := hset.look HLM.out
         clear HTW9 HEN9 HJ9 HSP9 HSET9 hb hset
         go_upto_region 7 with fail
         clear heq c8 hlk hmm
         generalize w9 = wx at *
         have NM2 := hid (NM.out.below H0.out ((Below.refl _ _).alloc (Nat.le_refl _) (.cells #[] 110)))
         clear NM
         generalize wx.alloc (.cells #[] 110) = wy at *
         have hct : (setL t.names).contains l = decide (l ∈ setL t.names) := by rw [Bool.eq_iff_iff, List.contains_iff_mem, decide_eq_true_iff]
         have HCT := hid hct
         clear hct
         generalize decide (l ∈ setL t.names) = ct at *
         cases ct with
         | true =>
           obtain ⟨k9, hr9⟩ := NM2.out.jat.row
           have c6 := hr9.cell (i := 6) (v := .bool f2.twice) rfl
           have z6 := hr9.free 6
           clear hr9
           go_upto_region 9 with fail
           have NM3 := hid (NM2.out.twice H0.out)
           clear c6 z6 NM2
           generalize wy.setCell ⟨p, 6, none⟩ (.bool true) = wz at *
           obtain ⟨f9, hf9⟩ : ∃ f9, f9 = { f2 with twice := true } := ⟨_, rfl⟩
           rw [<- hf9] at NM3
           have HF9 : Hid (f9 = if (setL t.names).contains l then { f2 with twice := true } else f2) := hid (by rw [HCT.out, if_pos rfl]; exact hf9)
           clear hf9
           have d8 := NM3.out.cell8
           rw [HM.out] at d8
           go_upto_region 10 with (
             refine wpList_putS ?_ (.tmp 48) (.tmp 49) (.tmp 50) ?_ b (setL t.names) NM3.out.set_ l ?_ ?_ ?_ HLM.out ?_
             · with_reducible rfl
             · with_reducible rfl
             · rfl
             · rfl
             · rfl
             intro w5 hset5 hk5
             have NM4 := hid (NM3.out.put H0.out hset5 hk5)
             clear hset5 hk5 NM3 d8)
           rw [<- setL_snoc] at NM4
           obtain ⟨AN, cN, hN, _, _⟩ := NM4.out.top.names.form
           subst hN
           have d7 := NM4.out.cell7
           rw [HM.out] at d7
           have hb6 : Below w5.heap.size w5 (w5.alloc (.cells #[.string (bs l)] 9)) := (Below.refl _ _).alloc (Nat.le_refl _) _
           have NM5 := hid (NM4.out.below H0.out hb6)
           have HSR : Hid (Source (w5.alloc (.cells #[.string (bs l)] 9)) (some ⟨w5.heap.size, 0, none⟩) 1 [.string (bs l)]) := hid (.inr ⟨_, rfl, World.news_of_block (heap_alloc_new w5 _)⟩)
           have HNL := hid HNL
           clear NM4 hb6
           simp only [Act.put]
           go_wp2_with (
             at_builtin
             refine wpList_append_any ?_ (FB (own) w0.heap.size (5 + 3 * r.length)) (.tmp 56) (.tmp 58) 26 ?_ 9 1 16 (.string ⟨#[]⟩) Tryz.underlying26 infoStr rfl (by decide) (.slice AN t.names.length cN) t.names.length (t.names.map keyV) ?_ NM5.out.top.names _ 1 1 [.string (bs l)] ?_ rfl HSR.out ?_ (by have := HNL.out; omega) (by decide) ?_
             · with_reducible rfl
             · with_reducible rfl
             · rfl
             · rfl
             · intro u hu; simp at hu; subst hu; rfl
             intro v7 w7 hl7 hk7
             have hx7 := all_cell (NM5.out.top.all.kept hk7 (fun q hq hq2 => by have := hq.1; have := hq2.1.1; omega)) NM5.out.top.len (j := 7) rfl
             rw [HM.out] at hx7
             obtain ⟨x7, z7⟩ := hx7
             obtain ⟨A7, c7, rfl, _, _⟩ := hl7.form
             have HL7 := hid hl7
             have HK7 := hid hk7
             clear hl7 hk7)
           go_end0
           obtain ⟨own2, b1, b2, b3⟩ := NM5.out.fin H0.out (l := l) (by rw [HM.out]; exact HR64.out) HL7.out (kept_mono HK7.out fun q hq => hq.1)
           rw [HM.out, HN1.out] at b1 b2
           rw [HM.out] at b3
           have hlen2 : (t :: r).length = n1 := by rw [<- HN1.out, <- HM.out]; rfl
           rw [hlen2]
           exact HPost.out _ own2 f9 HF9.out b1 b2 b3
         | false =>
           go_upto_region 9 with fail
           have NM3 := NM2
           clear NM2
           generalize wy = wz at *
           obtain ⟨f9, hf9⟩ : ∃ f9, f9 = f2 := ⟨_, rfl⟩
           rw [<- hf9] at NM3
           have HF9 : Hid (f9 = if (setL t.names).contains l then { f2 with twice := true } else f2) := hid (by rw [HCT.out, hf9]; rfl)
           clear hf9
           have d8 := NM3.out.cell8
           rw [HM.out] at d8
           go_upto_region 10 with (
             refine wpList_putS ?_ (.tmp 48) (.tmp 49) (.tmp 50) ?_ b (setL t.names) NM3.out.set_ l ?_ ?_ ?_ HLM.out ?_
             · with_reducible rfl
             · with_reducible rfl
             · rfl
             · rfl
             · rfl
             intro w5 hset5 hk5
             have NM4 := hid (NM3.out.put H0.out hset5 hk5)
             clear hset5 hk5 NM3 d8)
           rw [<- setL_snoc] at NM4
           obtain ⟨AN, cN, hN, _, _⟩ := NM4.out.top.names.form
           subst hN
           have d7 := NM4.out.cell7
           rw [HM.out] at d7
           have hb6 : Below w5.heap.size w5 (w5.alloc (.cells #[.string (bs l)] 9)) := (Below.refl _ _).alloc (Nat.le_refl _) _
           have NM5 := hid (NM4.out.below H0.out hb6)
           have HSR : Hid (Source (w5.alloc (.cells #[.string (bs l)] 9)) (some ⟨w5.heap.size, 0, none⟩) 1 [.string (bs l)]) := hid (.inr ⟨_, rfl, World.news_of_block (heap_alloc_new w5 _)⟩)
           have HNL := hid HNL
           clear NM4 hb6
           simp only [Act.put]
           go_wp2_with (
             at_builtin
             refine wpList_append_any ?_ (FB (own) w0.heap.size (5 + 3 * r.length)) (.tmp 56) (.tmp 58) 26 ?_ 9 1 16 (.string ⟨#[]⟩) Tryz.underlying26 infoStr rfl (by decide) (.slice AN t.names.length cN) t.names.length (t.names.map keyV) ?_ NM5.out.top.names _ 1 1 [.string (bs l)] ?_ rfl HSR.out ?_ (by have := HNL.out; omega) (by decide) ?_
             · with_reducible rfl
             · with_reducible rfl
             · rfl
             · rfl
             · intro u hu; simp at hu; subst hu; rfl
             intro v7 w7 hl7 hk7
             have hx7 := all_cell (NM5.out.top.all.kept hk7 (fun q hq hq2 => by have := hq.1; have := hq2.1.1; omega)) NM5.out.top.len (j := 7) rfl
             rw [HM.out] at hx7
             obtain ⟨x7, z7⟩ := hx7
             obtain ⟨A7, c7, rfl, _, _⟩ := hl7.form
             have HL7 := hid hl7
             have HK7 := hid hk7
             clear hl7 hk7)
           go_end0
           obtain ⟨own2, b1, b2, b3⟩ := NM5.out.fin H0.out (l := l) (by rw [HM.out]; exact HR64.out) HL7.out (kept_mono HK7.out fun q hq => hq.1)
           rw [HM.out, HN1.out] at b1 b2
           rw [HM.out] at b3
           have hlen2 : (t :: r).length = n1 := by rw [<- HN1.out, <- HM.out]; rfl
           rw [hlen2]
           exact HPost.out _ own2 f9 HF9.out b1 b2 b3
end Go.Proofs.YtmhbkjjkalnggaaGreatDoor
