import Derived.Test.YtmhbkjjkalnggaaGreatDoorPt08
namespace Go.Proofs.YtmhbkjjkalnggaaGreatDoor
open Go.RowKit
set_option maxRecDepth 1000000
set_option maxHeartbeats 40000000
theorem wp_meetJ {P : Program} {c : Code} {K : Act -> World -> Prop} {Q : Exit -> Act -> World -> Prop} {a : Act} {w : World} {β : Type} (l : β -> List (Nat × Value)) (R : β -> World -> Prop)
   (h : c.wp P (Exit.then (fun a' w' => ∃ b, a' = puts a (l b) /\ R b w') (fun _ _ _ => False)) a w) (h2 : ∀ b w', R b w' -> K (puts a (l b)) w') : c.wp P (Exit.then K Q) a w := by
 refine wp_mono h fun e a' w' h => ?_
 cases e
 case normal =>
   obtain ⟨b, rfl, hr⟩ := h
   exact h2 b w' hr
 all_goals exact h.elim
def headIsJ (i : Nat) : Code -> Bool
 | .region j _ _ => i == j
 | .seq a _ => headIsJ i a
 | _ => false
def sufOfJ (i : Nat) : Code -> Option Code
 | .seq a b => if headIsJ i a then some (.seq a b) else match sufOfJ i b with
   | some c => some c
   | none => sufOfJ i a
 | .cond _ a b => match sufOfJ i a with
   | some c => some c
   | none => sufOfJ i b
 | .block _ c => sufOfJ i c
 | .loop c => sufOfJ i c
 | .scope c => sufOfJ i c
 | _ => none
noncomputable def nmSuf (i : Nat) : Code := (Tryz.f104.body.bind (sufOfJ i)).getD .skip
def frN (h : Nat -> Value) (p0 p2 p3 : Value) : List Value := [p0, h 1, p2, p3, h 4, h 5, h 6, h 7, h 8, h 9, h 10, h 11, h 12, h 13, h 14, h 15, h 16, h 17, h 18, h 19, h 20, h 21, h 22, h 23, h 24, h 25, h 26, h 27, h 28, h 29, h 30, h 31, h 32, h 33, h 34, h 35, h 36, h 37, h 38, h 39, h 40, h 41, h 42, h 43, h 44, h 45, h 46, h 47]
theorem frN_end {K : Act -> World -> Prop} {a' : Act} {W' : World} (p0 p2 p3 : Value) (e : a' = ⟨(frN (fun k => a'.tmps.getD k undef) p0 p2 p3).toArray, []⟩) (h : K ⟨(frN (fun k => a'.tmps.getD k undef) p0 p2 p3).toArray, []⟩ W') : K a' W' := by
 rw [<- e] at h
 exact h
theorem JRd.above {w wr w' : World} {p : Nat} {X : Txt} {k k0 : Nat} {E O E0 O0 : Value} {f f0 : Fl} (h0 : JRd w p X k0 E0 O0 f0) (h : JRd wr p X k E O f) (hk : Kept (fun q => w.heap.size <= q) wr w') : JRd w' p X k E O f := by
 have hp := h0.row.lt
 refine ⟨(hk.block p h.row.lt (by show ¬ w.heap.size <= p; omega)).trans h.row, fun i hi => ?_⟩
 obtain ⟨g, off, e, hg, hlt, hc⟩ := h.txt i hi
 obtain ⟨g0, off0, e0, _, hlt0, _⟩ := h0.txt i hi
 rw [e] at e0
 injection e0 with e0
 injection e0 with e1 e2 _
 subst e1 e2
 exact ⟨g, off, e, hg, Nat.lt_of_lt_of_le hlt hk.size, (World.cell?_of_block (a := ⟨g, off + i, none⟩) (hk.block g hlt (by show ¬ w.heap.size <= g; omega))).trans hc⟩
theorem keptNew_below {w w' : World} (h : Below w.heap.size w w') : Kept (fun q => w.heap.size <= q) w w' := ⟨h.os, h.tape, h.output, h.size, fun k hk hn => h.block k (by show k < w.heap.size; omega)⟩
theorem JRd.part {w : World} {p : Nat} {X : Txt} {k0 k : Nat} {E O : Value} {f : Fl} (h : JRd w p X k E O f) (h0 : k0 < k) (hk : k <= X.l.length) :
   ∃ g off, X.A = some ⟨g, off, none⟩ /\ Holds w (some ⟨g, off + k0, none⟩) ((X.l.drop k0).take (k - k0)).length 1 (u8s ((X.l.drop k0).take (k - k0))) := by
 obtain ⟨g, off, hA, _, hg, _⟩ := h.txt 0 (by omega)
 refine ⟨g, off, hA, by rw [u8s_length, Nat.mul_one], fun _ => ⟨g, off + k0, rfl, hg, fun j v hv => ?_⟩⟩
 rw [u8s_get] at hv
 have hj : j < k - k0 := by
   rcases Nat.lt_or_ge j (k - k0) with h9 | h9
   · exact h9
   · rw [List.getElem?_eq_none (by rw [List.length_take]; omega)] at hv; cases hv
 rw [List.getElem?_take_of_lt hj, List.getElem?_drop] at hv
 obtain ⟨g2, off2, hA2, _, _, hc2⟩ := h.txt (k0 + j) (by omega)
 rw [hA] at hA2
 injection hA2 with hA2
 injection hA2 with e1 e2 _
 subst e1 e2
 rw [<- Nat.add_assoc] at hc2
 rw [hc2]
 rw [List.getElem?_eq_getElem (by omega)] at hv
 rw [<- hv]
 unfold byteAt
 simp [List.getD, List.getElem?_eq_getElem (show k0 + j < X.l.length by omega)]
theorem results_oneJ {fn : Func} {p : Tmp} {ty : TypeId} {P : Program} (h : fn.results = #[.cell p ty]) (tmps : Array Value) (w : World) (g : Nat) (cs : Array Value)
   (hp : tmps.getD p undef = .pointer (some ⟨g, 0, none⟩)) (hr : (loadVar ty ⟨g, 0, none⟩).run P w = .ok (.agg cs) w) :
   (results fn tmps).run P w = .ok (.agg cs) w := by
 have hp' : tmps[p]?.getD undef = .pointer (some ⟨g, 0, none⟩) := by simpa using hp
 simp [results, h, hp', asAddr, hr]
theorem jnum_tail (p : Nat) (X : Txt) (k0 k : Nat) (E O : Value) (f : Fl) (w W : World) (hT : PowTab W) (hj : JRd W p X k E O f) (h0 : k0 < k) (hk : k <= X.l.length) (hc : X.l.length <= X.c)
   (rv : Nat) (hrv : Row W rv 24 #[.bool false, .string ⟨#[]⟩, .int .i64 0]) (hrp : w.heap.size <= rv) (hpw : p < w.heap.size) (hkw : Kept (TxF w p) w W) (E0 O0 : Value) (f0 : Fl) (ks : Nat) (hj0 : JRd w p X ks E0 O0 f0) (NV : Ending -> World -> Prop) (hNV : ∀ w', JRd w' p X k E O { f with far := f.far || decide (parseE ((X.l.drop k0).take (k - k0)) ≠ 0) } -> Kept (TxF w p) w w' -> NV (.returned (decV (parseD ((X.l.drop k0).take (k - k0))))) w') (h : Nat -> Value) :
   Code.wp Tryz.prog (nmSuf 10) (bodyPost Tryz.prog Tryz.f104 NV) ⟨(frN h (.pointer (some ⟨p, 0, none⟩)) (.pointer (some ⟨rv, 0, none⟩)) (.int .i64 (k0 : Int))).toArray, []⟩ W := by
 obtain ⟨g, off, hA, hho⟩ := hj.part h0 hk
 have c0 := hj.row.cell (i := 0) (v := .slice X.A X.l.length X.c) rfl
 rw [hA] at c0
 have c1 := hj.row.cell (i := 1) (v := .int .i64 (k : Int)) rfl
 have hp := hj.row.lt
 have hsl : ∀ V : World, (Instr.sliceAt 35 (.slice (some ⟨g, off, none⟩) X.l.length X.c) (some (.int .i64 (k0 : Int))) (some (.int .i64 (k : Int))) none).run Tryz.prog V = .ok (.slice (some ⟨g, off + k0, none⟩) (k - k0) (X.c - k0)) V := fun V =>
   run_slice2 V 35 5 Tryz.underlying35 (by kernel_rfl) g off X.l.length X.c k0 k .i64 .i64 (by omega) (by omega) (by omega)
 obtain ⟨t, ht⟩ : ∃ t, t = (X.l.drop k0).take (k - k0) := ⟨_, rfl⟩
 have htl : t.length = k - k0 := by rw [ht, List.length_take, List.length_drop]; omega
 rw [<- ht] at hho hNV
 have hcv : ∀ V : World, Below W.heap.size W V -> (convert 35 9 (.slice (some ⟨g, off + k0, none⟩) (k - k0) (X.c - k0))).run Tryz.prog V = .ok (.string (bs t)) V := fun V hb => by
   rw [<- htl]
   exact run_text_bs (hho.below hb) 35 9 5 (X.c - k0) Tryz.underlying35 Tryz.underlying5 Tryz.underlying9
 have HPA : Hid (∀ V : World, Below W.heap.size W V -> Calls Tryz.prog 129 #[.string (bs t)] V fun e w' => e = .returned (.tuple #[.agg #[.bool (parseD t).neg, .string (bs (parseD t).digits), .int .i64 (parseD t).exp], .int .i64 (parseE t : Nat)]) /\ Below V.heap.size V w') :=
   hid fun V hb => parse_ok t V (hT.below hb)
 have HJ := hid hj
 have HRV := hid hrv
 have HRP := hid (And.intro hrp (And.intro hpw hrv.lt))
 have HKW := hid hkw
 have HJ0 := hid hj0
 have HV := hid hNV
 clear hj hrv hrp hpw hkw hT hho ht htl hA hj0 hNV
 generalize parseD t = d at *
 generalize parseE t = pe at *
 generalize hkk : k - k0 = kk at *
 generalize hck : X.c - k0 = ck at *
 clear hkk hck
 obtain ⟨dn, dl, dx⟩ := d
 simp only at HPA
 unfold decV at HV
 simp only at HV
 conv => arg 2; whnf
 dsimp only [frN]
 go_upto_region 10 with fail
 refine wp_meetJ (fun b : Nat => [(28, .pointer (some ⟨p, 0, none⟩)), (29, .pointer (some ⟨p, 0, none⟩)), (30, .pointer (some ⟨p, 0, none⟩)), (31, .slice (some ⟨g, off, none⟩) X.l.length X.c), (32, .int .i64 (k0 : Int)), (33, .pointer (some ⟨p, 0, none⟩)), (34, .pointer (some ⟨p, 0, none⟩)), (35, .pointer (some ⟨p, 1, none⟩)), (36, .int .i64 (k : Int)), (37, .slice (some ⟨g, off + k0, none⟩) kk ck), (38, .string (bs t)), (39, .tuple #[.agg #[.bool dn, .string (bs dl), .int .i64 dx], .int .i64 (pe : Int)]), (27, .tuple #[.agg #[.bool dn, .string (bs dl), .int .i64 dx], .int .i64 (pe : Int)]), (40, .agg #[.bool dn, .string (bs dl), .int .i64 dx]), (41, .int .i64 (pe : Int)), (4, .pointer (some ⟨b, 0, none⟩)), (5, .int .i64 (pe : Int))])
   (fun b V => Below W.heap.size W V /\ Row V b 24 #[.bool dn, .string (bs dl), .int .i64 dx]) ?_ ?_
 · skip
   refine wp_region_held_drew (S := fun V => Below W.heap.size W V) (by kernel_rfl) (Below.refl _ _).drew (fun H0 => ?_)
   refine wpAnyH_z 0 ?_
   try simp only [Act.put, sA, sB, sC]
   refine wpAnyH_z 1 ?_
   try simp only [Act.put, sA, sB, sC]
   refine wpAnyH_z 2 ?_
   try simp only [Act.put, sA, sB, sC]
   refine wpAnyH_y 3 ?_ ?_ ?_
   rotate_left
   · intro V hSw; have q0 := (hSw.cell (p := ⟨p, 0, none⟩) hp).trans c0; go_simp; try with_reducible rfl
   try simp only [Act.put, sA, sB, sC]
   refine wpAnyH_z 4 ?_
   try simp only [Act.put, sA, sB, sC]
   refine wpAnyH_z 5 ?_
   try simp only [Act.put, sA, sB, sC]
   refine wpAnyH_z 6 ?_
   try simp only [Act.put, sA, sB, sC]
   refine wpAnyH_z 7 ?_
   try simp only [Act.put, sA, sB, sC]
   refine wpAnyH_y 8 ?_ ?_ ?_
   rotate_left
   · intro V hSw; have q1 := (hSw.cell (p := ⟨p, 1, none⟩) hp).trans c1; go_simp; try with_reducible rfl
   try simp only [Act.put, sA, sB, sC]
   refine wpAnyH_z 9 ?_
   try simp only [Act.put, sA, sB, sC]
   refine wpAnyH_y 10 ?_ ?_ ?_
   rotate_left
   · intro V hSw; have q2 := hcv V hSw; go_simp; try with_reducible rfl
   try simp only [Act.put, sA, sB, sC]
   refine wpAnyH_ready (rs := [11, 15]) (by kernel_rfl) (by simp) ?_
   refine AllReadyH.cons (o := ?_) ?_ (fun K1 hK1 => ?_) (AllReadyH.cons (o := ?_) ?_ (fun K2 hK2 => ?_) AllReadyH.nil)
   rotate_left 1
   · simp only [gA, gB, gC]; with_reducible rfl
   · skip
     rw [if_pos (by rfl)]
     go_simp
     refine (HPA.out _ H0).mono ?_
     rintro e1 v1 ⟨rfl, hb1⟩
     go_wp2_with fail
     refine hK1.out _ _ (H0.call hb1) (fun H1 => ?_)
     clear hK1 K1
     try simp only [Act.put, sA, sB, sC]
     refine wpAnyH_z 12 ?_
     try simp only [Act.put, sA, sB, sC]
     refine wpAnyH_z 13 ?_
     try simp only [Act.put, sA, sB, sC]
     refine wpAnyH_z 14 ?_
     try simp only [Act.put, sA, sB, sC]
     refine wpAnyH_ready (rs := [15]) (by kernel_rfl) (by simp) ?_
     refine AllReadyH.cons (o := ?_) ?_ (fun K3 hK3 => ?_) AllReadyH.nil
     rotate_left 1
     · simp only [gA, gB, gC]; with_reducible rfl
     rw [if_pos (by rfl)]
     go_simp
     have HX2 : Hid (Row (v1.alloc (.cells #[.bool false, .string ⟨#[]⟩, .int .i64 0] 24)) (v1.heap.size) 24 #[.bool false, .string ⟨#[]⟩, .int .i64 0]) := hid (Row.new v1 24 #[.bool false, .string ⟨#[]⟩, .int .i64 0])
     have HN2 : Hid (W.heap.size <= v1.heap.size) := hid H1.size
     try go_wp2_with fail
     refine hK3.out _ _ (H1.alloc H1.size (.cells #[.bool false, .string ⟨#[]⟩, .int .i64 0] 24)) (fun H2 => ?_)
     clear hK3 K3
     try simp only [Act.put, sA, sB, sC]
     have x0 := HX2.out.cell (i := 0) (v := .bool false) rfl
     have g0 := HX2.out.free 0
     have x1 := HX2.out.cell (i := 1) (v := .string ⟨#[]⟩) rfl
     have g1 := HX2.out.free 1
     have x2 := HX2.out.cell (i := 2) (v := .int .i64 0) rfl
     have g2 := HX2.out.free 2
     refine wpAnyH_ready (rs := [16]) (by kernel_rfl) (by simp) ?_
     refine AllReadyH.cons (o := ?_) ?_ (fun K4 hK4 => ?_) AllReadyH.nil
     rotate_left 1
     · simp only [gA, gB, gC]; with_reducible rfl
     rw [if_pos (by rfl)]
     go_simp
     try go_wp2_with fail
     refine hK4.out _ _ (H1.alloc H1.size (.cells #[.bool dn, .string (bs dl), .int .i64 dx] 24)) (fun H3 => ?_)
     clear hK4 K4
     try simp only [Act.put, sA, sB, sC]
     refine wpAnyH_z 17 ?_
     try simp only [Act.put, sA, sB, sC]
     refine wpAnyH_done (by kernel_rfl) ?_ _
     refine ⟨v1.heap.size, ?_, ?_⟩
     · kernel_rfl
     · exact ⟨H3, Row.new _ _ _⟩
   rotate_left 1
   · simp only [gA, gB, gC]; with_reducible rfl
   · skip
     rw [if_pos (by rfl)]
     go_simp
     have HX4 : Hid (Row (W.drew.alloc (.cells #[.bool false, .string ⟨#[]⟩, .int .i64 0] 24)) (W.heap.size) 24 #[.bool false, .string ⟨#[]⟩, .int .i64 0]) := hid (Row.new W.drew 24 #[.bool false, .string ⟨#[]⟩, .int .i64 0])
     have HN4 : Hid (W.heap.size <= W.heap.size) := hid H0.size
     try go_wp2_with fail
     refine hK2.out _ _ (H0.alloc H0.size (.cells #[.bool false, .string ⟨#[]⟩, .int .i64 0] 24)) (fun H4 => ?_)
     clear hK2 K2
     try simp only [Act.put, sA, sB, sC]
     refine wpAnyH_ready (rs := [11]) (by kernel_rfl) (by simp) ?_
     refine AllReadyH.cons (o := ?_) ?_ (fun K5 hK5 => ?_) AllReadyH.nil
     rotate_left 1
     · simp only [gA, gB, gC]; with_reducible rfl
     rw [if_pos (by rfl)]
     go_simp
     refine (HPA.out _ H4).mono ?_
     rintro e5 v5 ⟨rfl, hb5⟩
     have HX5 := hid (HX4.out.call hb5)
     go_wp2_with fail
     refine hK5.out _ _ (H4.call hb5) (fun H5 => ?_)
     clear hK5 K5
     try simp only [Act.put, sA, sB, sC]
     refine wpAnyH_z 12 ?_
     try simp only [Act.put, sA, sB, sC]
     refine wpAnyH_z 13 ?_
     try simp only [Act.put, sA, sB, sC]
     refine wpAnyH_z 14 ?_
     try simp only [Act.put, sA, sB, sC]
     have x0 := HX5.out.cell (i := 0) (v := .bool false) rfl
     have g0 := HX5.out.free 0
     have x1 := HX5.out.cell (i := 1) (v := .string ⟨#[]⟩) rfl
     have g1 := HX5.out.free 1
     have x2 := HX5.out.cell (i := 2) (v := .int .i64 0) rfl
     have g2 := HX5.out.free 2
     refine wpAnyH_ready (rs := [16]) (by kernel_rfl) (by simp) ?_
     refine AllReadyH.cons (o := ?_) ?_ (fun K6 hK6 => ?_) AllReadyH.nil
     rotate_left 1
     · simp only [gA, gB, gC]; with_reducible rfl
     rw [if_pos (by rfl)]
     go_simp
     try go_wp2_with fail
     refine hK6.out _ _ (((H5.setCell (p := ⟨W.heap.size, 0, none⟩) HN4.out _).setCell (p := ⟨W.heap.size, 1, none⟩) HN4.out _).setCell (p := ⟨W.heap.size, 2, none⟩) HN4.out _) (fun H6 => ?_)
     clear hK6 K6
     try simp only [Act.put, sA, sB, sC]
     refine wpAnyH_z 17 ?_
     try simp only [Act.put, sA, sB, sC]
     refine wpAnyH_done (by kernel_rfl) ?_ _
     refine ⟨W.heap.size, ?_, ?_⟩
     · kernel_rfl
     · exact ⟨H6, ((HX5.out.set_ 0 (.bool dn)).set_ 1 (.string (bs dl))).set_ 2 (.int .i64 dx)⟩
 · rintro b6 w5 ⟨hb5, hv5⟩
   simp only [puts, List.foldl, Act.put, sA, sB, sC]
   have hj5 := HJ.out.above HJ.out (keptNew_below hb5)
   have HJ5 := hid hj5
   have HR5 := hid (HRV.out.call hb5)
   have HV5 := hid hv5
   have HK5 := hid (HKW.out.trans' (keptOf_below hb5))
   have HP7 : Hid (rv ≠ p) := hid (by have h1 := HRP.out.1; have h2 := HRP.out.2.1; omega)
   have fin : ∀ (w6 : World) (f6 : Fl), f6 = { f with far := f.far || decide (pe ≠ 0) } -> JRd w6 p X k E O f6 -> Kept (TxF w p) w w6 -> Row w6 rv 24 #[.bool dn, .string (bs dl), .int .i64 dx] -> ∀ (tm : Array Value), tm.getD 2 undef = .pointer (some ⟨rv, 0, none⟩) -> bodyPost Tryz.prog Tryz.f104 NV Exit.ret ⟨tm, []⟩ w6 := by
     rintro w6 f6 rfl g1 g2 g3 tm g4
     refine bodyPost_ret_by (results_oneJ rfl _ _ rv #[.bool dn, .string (bs dl), .int .i64 dx] g4 (load_dec g3 rfl)) rfl ?_
     exact HV.out _ g1 g2
   have FI := hid fin
   have step : ∀ (w6 : World) (f6 : Fl), JRd w6 p X k E O f6 -> Kept (TxF w p) w w6 -> Row w6 rv 24 #[.bool false, .string ⟨#[]⟩, .int .i64 0] ->
       JRd (((w6.setCell ⟨rv, 0, none⟩ (.bool dn)).setCell ⟨rv, 1, none⟩ (.string (bs dl))).setCell ⟨rv, 2, none⟩ (.int .i64 dx)) p X k E O f6 /\ Kept (TxF w p) w (((w6.setCell ⟨rv, 0, none⟩ (.bool dn)).setCell ⟨rv, 1, none⟩ (.string (bs dl))).setCell ⟨rv, 2, none⟩ (.int .i64 dx)) /\
       Row (((w6.setCell ⟨rv, 0, none⟩ (.bool dn)).setCell ⟨rv, 1, none⟩ (.string (bs dl))).setCell ⟨rv, 2, none⟩ (.int .i64 dx)) rv 24 #[.bool dn, .string (bs dl), .int .i64 dx] := fun w6 f6 g1 g2 g3 => by
     have k1 : Kept (fun q => w.heap.size <= q) w6 (((w6.setCell ⟨rv, 0, none⟩ (.bool dn)).setCell ⟨rv, 1, none⟩ (.string (bs dl))).setCell ⟨rv, 2, none⟩ (.int .i64 dx)) :=
       kept_mono (F := fun q => q = rv) (((Kept.cell _ _ _ _).trans' (Kept.cell _ _ _ _)).trans' (Kept.cell _ _ _ _)) fun q e => by show w.heap.size <= q; rw [e]; exact HRP.out.1
     exact ⟨HJ0.out.above g1 k1, g2.trans' (kept_new k1), ((g3.set_ 0 (.bool dn)).set_ 1 (.string (bs dl))).set_ 2 (.int .i64 dx)⟩
   have ST := hid step
   clear hb5 hv5 hj5 fin step
   by_cases hpe : pe = 0
   · subst hpe
     have y0 := HR5.out.cell (i := 0) (v := .bool false) rfl
     have y1 := HR5.out.cell (i := 1) (v := .string ⟨#[]⟩) rfl
     have y2 := HR5.out.cell (i := 2) (v := .int .i64 0) rfl
     have z0 := HR5.out.free 0
     have z1 := HR5.out.free 1
     have z2 := HR5.out.free 2
     have v0 := HV5.out.cell (i := 0) (v := .bool dn) rfl
     have v1 := HV5.out.cell (i := 1) (v := .string (bs dl)) rfl
     have v2 := HV5.out.cell (i := 2) (v := .int .i64 dx) rfl
     go_wp2_with fail
     obtain ⟨s1, s2, s3⟩ := ST.out w5 f HJ5.out HK5.out HR5.out
     exact FI.out _ f (by simp) s1 s2 s3 _ rfl
   · have hpn : ((pe : Int) != 0) = true := by simp; exact hpe
     obtain ⟨w6, hw6⟩ : ∃ w6, w6 = w5.setCell ⟨p, 7, none⟩ (.bool true) := ⟨_, rfl⟩
     have hkk : Kept (· = p) w5 w6 := by subst hw6; exact Kept.cell _ _ _ _
     have HJ6 : Hid (JRd w6 p X k E O { f with far := true }) := hid (HJ5.out.step hkk (by subst hw6; simpa [rdCells] using HJ5.out.row.set_ 7 (.bool true)))
     have HR6 : Hid (Row w6 rv 24 #[.bool false, .string ⟨#[]⟩, .int .i64 0]) := hid (by subst hw6; exact HR5.out.far (by exact HP7.out) _)
     have HK6 := hid (HK5.out.trans' (kept_p hkk))
     have hbp : b6 ≠ p := fun e => by
       have h1 := HV5.out
       rw [e] at h1
       have h2 := HJ5.out.row
       have h3 := h1.symm.trans h2
       injection h3 with h3
       injection h3 with h3 _
       have h4 := congrArg Array.size h3
       simp [rdCells] at h4
     have HV6 : Hid (Row w6 b6 24 #[.bool dn, .string (bs dl), .int .i64 dx]) := hid (by subst hw6; exact HV5.out.far hbp _)
     have x7 := HJ5.out.row.cell (i := 7) (v := .bool f.far) rfl
     have g7 := HJ5.out.row.free 7
     clear hkk
     go_upto_region 13 with fail
     rw [<- hw6]
     clear hw6 x7 g7
     have y0 := HR6.out.cell (i := 0) (v := .bool false) rfl
     have y1 := HR6.out.cell (i := 1) (v := .string ⟨#[]⟩) rfl
     have y2 := HR6.out.cell (i := 2) (v := .int .i64 0) rfl
     have z0 := HR6.out.free 0
     have z1 := HR6.out.free 1
     have z2 := HR6.out.free 2
     have v0 := HV6.out.cell (i := 0) (v := .bool dn) rfl
     have v1 := HV6.out.cell (i := 1) (v := .string (bs dl)) rfl
     have v2 := HV6.out.cell (i := 2) (v := .int .i64 dx) rfl
     go_wp2_with fail
     obtain ⟨s1, s2, s3⟩ := ST.out w6 _ HJ6.out HK6.out HR6.out
     exact FI.out _ _ (by simp [hpe]) s1 s2 s3 _ rfl
def NPost (w : World) (p : Nat) (X : Txt) (E O : Value) (f : Fl) (s0 : List UInt8) : Option (List UInt8) -> Ending -> World -> Prop
 | none, e, w' => e = .panicked (panicOf 180) /\ Kept (· = p) w w'
 | some r, e, w' => e = .returned (decV (parseD (s0.take (s0.length - r.length)))) /\ JAt w' p X r E O { f with far := f.far || decide (parseE (s0.take (s0.length - r.length)) ≠ 0) } /\ Kept (· = p) w w'
structure NumS (w W : World) (p : Nat) (X : Txt) (k0 : Nat) (s : List UInt8) (E O : Value) (f : Fl) (rv : Nat) : Prop where
 at_ : JAt W p X s E O f
 row : Row W rv 24 #[.bool false, .string ⟨#[]⟩, .int .i64 0]
 kept : Kept (TxF w p) w W
structure NumB (w : World) (p : Nat) (X : Txt) (k0 : Nat) (E O : Value) (f : Fl) (rv : Nat) : Prop where
 at_ : JRd w p X k0 E O f
 small : X.l.length <= 9223372036854775806 /\ X.l.length <= X.c
 tab : ∀ V, Kept (TxF w p) w V -> PowTab V
 new : w.heap.size <= rv
theorem NumS.to {w W W2 : World} {p : Nat} {X : Txt} {k0 : Nat} {s s2 : List UInt8} {E O : Value} {f f2 : Fl} {rv : Nat} (hb : NumB w p X k0 E O f2 rv) (h : NumS w W p X k0 s E O f rv) (hj : JTo p X s2 E O f W W2) : NumS w W2 p X k0 s2 E O f rv :=
 ⟨hj.1, (hj.2.block rv h.row.lt (by show ¬ rv = p; have h1 := hb.new; have h2 := hb.at_.row.lt; omega)).trans h.row, h.kept.trans' (kept_p hj.2)⟩
theorem jnum10 (p : Nat) (X : Txt) (k0 : Nat) (s : List UInt8) (E O : Value) (f : Fl) (w W : World) (rv : Nat) (hb : NumB w p X k0 E O f rv) (hs : NumS w W p X k0 s E O f rv) (hlt : s.length < (X.l.drop k0).length) (h : Nat -> Value) :
   Code.wp Tryz.prog (nmSuf 10) (bodyPost Tryz.prog Tryz.f104 (NPost w p X E O f (X.l.drop k0) (some s))) ⟨(frN h (.pointer (some ⟨p, 0, none⟩)) (.pointer (some ⟨rv, 0, none⟩)) (.int .i64 (k0 : Int))).toArray, []⟩ W := by
 obtain ⟨hl, k, hr, hk, hkl⟩ := hs.at_
 have hlen : s.length = X.l.length - k := by rw [<- hk, List.length_drop]
 rw [List.length_drop] at hlt
 refine jnum_tail p X k0 k E O f w W (hb.tab _ hs.kept) hr (by omega) hkl hl.2 rv hs.row hb.new hb.at_.row.lt hs.kept E O f k0 hb.at_ _ ?_ h
 intro w' g1 g2
 have e : (X.l.drop k0).length - s.length = k - k0 := by rw [List.length_drop]; omega
 unfold NPost
 simp only
 rw [e]
 exact ⟨rfl, ⟨hl, k, g1, hk, hkl⟩, kept_cut g2⟩
def numE (s : List UInt8) : Option (List UInt8) := if tkB [101, 69] s then dgs (tkS [43, 45] (s.drop 1)) else some s
theorem dgsR_none {f : Fl} {s : List UInt8} (h : dgs s = none) : dgsR f s = none := by unfold dgsR; rw [h]; rfl
theorem dgsR_some {f : Fl} {s r : List UInt8} (h : dgs s = some r) : dgsR f s = some (.tuple #[], f, r) := by unfold dgsR; rw [h]; rfl
theorem jnum7 (p : Nat) (X : Txt) (k0 : Nat) (s : List UInt8) (E O : Value) (f : Fl) (w W : World) (rv : Nat) (hb : NumB w p X k0 E O f rv) (hs : NumS w W p X k0 s E O f rv) (hlt : s.length < (X.l.drop k0).length) (h : Nat -> Value) :
   Code.wp Tryz.prog (nmSuf 7) (bodyPost Tryz.prog Tryz.f104 (NPost w p X E O f (X.l.drop k0) (numE s))) ⟨(frN h (.pointer (some ⟨p, 0, none⟩)) (.pointer (some ⟨rv, 0, none⟩)) (.int .i64 (k0 : Int))).toArray, []⟩ W := by
 have HT := hid (jtake_ok p X [101, 69] s E O f W hs.at_)
 have HB := hid hb
 have HS := hid hs
 have HLT := hid hlt
 have HE : Hid (numE s = if tkB [101, 69] s then dgs (tkS [43, 45] (s.drop 1)) else some s) := hid rfl
 clear hb hs hlt
 generalize numE s = R at *
 conv => arg 2; whnf
 dsimp only [frN]
 go_upto_region 7 with fail
 rename_i K2 hK2 K1 hK1
 have HK2 := hid hK2
 clear hK2
 cases hc : tkB [101, 69] s with
 | false =>
   obtain rfl : R = some s := by rw [HE.out, hc]; rfl
   have HN := hid (tkS_no hc)
   rw [hc] at HT
   clear hc HE
   go_wp2_with fail
   refine HT.out.mono ?_
   rintro e w1 ⟨rfl, hj⟩
   rw [HN.out] at hj
   have HS2 := hid (HS.out.to HB.out hj)
   clear hj HT
   go_wp2_with fail
   refine HK2.out _ _ ?_
   refine wp_code (nmSuf 10) (by kernel_rfl) ?_
   refine frN_end (K := fun a w => Code.wp Tryz.prog (nmSuf 10) _ a w) (.pointer (some ⟨p, 0, none⟩)) (.pointer (some ⟨rv, 0, none⟩)) (.int .i64 (k0 : Int)) ?_ ?_
   · kernel_rfl
   · exact jnum10 p X k0 s E O f w w1 rv HB.out HS2.out HLT.out _
 | true =>
   have HR : Hid (R = dgs (tkS [43, 45] (tkS [101, 69] s))) := hid (by rw [HE.out, hc, tkS_yes hc]; rfl)
   have HL1 := hid (tkS_le [101, 69] s)
   rw [hc] at HT
   clear hc HE
   generalize tkS [101, 69] s = s1 at *
   go_wp2_with fail
   refine HT.out.mono ?_
   rintro e w1 ⟨rfl, hj⟩
   have HS1 := hid (HS.out.to HB.out hj)
   have HT2 := hid (jtake_ok p X [43, 45] s1 E O f w1 hj.1)
   have HL2 := hid (tkS_le [43, 45] s1)
   clear hj HT
   generalize tkB [43, 45] s1 = bb at *
   generalize tkS [43, 45] s1 = s2 at *
   go_wp2_with fail
   refine HT2.out.mono ?_
   rintro e w2 ⟨rfl, hj⟩
   have HS2 := hid (HS1.out.to HB.out hj)
   have HD := hid (jdigits_ok p X s2 E O f w2 hj.1)
   clear hj HT2
   cases hd : dgs s2 with
   | none =>
     obtain rfl : R = none := by rw [HR.out, hd]
     rw [dgsR_none hd] at HD
     clear hd
     go_wp2_with fail
     refine HD.out.mono ?_
     rintro e w3 ⟨rfl, hk⟩
     have HK3 := hid (kept_cut (HS2.out.kept.trans' (kept_p hk)))
     clear hk
     go_wp2_with fail
     exact ⟨rfl, rfl, HK3.out⟩
   | some r =>
     obtain rfl : R = some r := by rw [HR.out, hd]
     have HL3 := hid (dgs_len hd)
     rw [dgsR_some hd] at HD
     clear hd
     go_wp2_with fail
     refine HD.out.mono ?_
     rintro e w3 ⟨rfl, hj⟩
     have HS3 := hid (HS2.out.to HB.out hj)
     clear hj HD
     go_wp2_with fail
     refine HK2.out _ _ ?_
     refine wp_code (nmSuf 10) (by kernel_rfl) ?_
     refine frN_end (K := fun a w => Code.wp Tryz.prog (nmSuf 10) _ a w) (.pointer (some ⟨p, 0, none⟩)) (.pointer (some ⟨rv, 0, none⟩)) (.int .i64 (k0 : Int)) ?_ ?_
     · kernel_rfl
     · exact jnum10 p X k0 r E O f w w3 rv HB.out HS3.out (by have h1 := HL1.out; have h2 := HL2.out; have h3 := HL3.out; have h4 := HLT.out; omega) _
def numD (s : List UInt8) : Option (List UInt8) := match (if tkB [46] s then dgs (s.drop 1) else some s) with
 | none => none
 | some r => numE r
theorem jnum5 (p : Nat) (X : Txt) (k0 : Nat) (s : List UInt8) (E O : Value) (f : Fl) (w W : World) (rv : Nat) (hb : NumB w p X k0 E O f rv) (hs : NumS w W p X k0 s E O f rv) (hlt : s.length < (X.l.drop k0).length) (h : Nat -> Value) :
   Code.wp Tryz.prog (nmSuf 5) (bodyPost Tryz.prog Tryz.f104 (NPost w p X E O f (X.l.drop k0) (numD s))) ⟨(frN h (.pointer (some ⟨p, 0, none⟩)) (.pointer (some ⟨rv, 0, none⟩)) (.int .i64 (k0 : Int))).toArray, []⟩ W := by
 have HT := hid (jtake_ok p X [46] s E O f W hs.at_)
 have HB := hid hb
 have HS := hid hs
 have HLT := hid hlt
 have HE : Hid (numD s = match (if tkB [46] s then dgs (s.drop 1) else some s) with
   | none => none
   | some r => numE r) := hid rfl
 clear hb hs hlt
 generalize numD s = R at *
 conv => arg 2; whnf
 dsimp only [frN]
 go_upto_region 5 with fail
 rename_i K2 hK2 K1 hK1
 have HK2 := hid hK2
 clear hK2
 cases hc : tkB [46] s with
 | false =>
   obtain rfl : R = numE s := by rw [HE.out, hc]; rfl
   have HN := hid (tkS_no hc)
   rw [hc] at HT
   clear hc HE
   go_wp2_with fail
   refine HT.out.mono ?_
   rintro e w1 ⟨rfl, hj⟩
   rw [HN.out] at hj
   have HS2 := hid (HS.out.to HB.out hj)
   clear hj HT
   go_wp2_with fail
   refine HK2.out _ _ ?_
   refine wp_code (nmSuf 7) (by kernel_rfl) ?_
   refine frN_end (K := fun a w => Code.wp Tryz.prog (nmSuf 7) _ a w) (.pointer (some ⟨p, 0, none⟩)) (.pointer (some ⟨rv, 0, none⟩)) (.int .i64 (k0 : Int)) ?_ ?_
   · kernel_rfl
   · exact jnum7 p X k0 s E O f w w1 rv HB.out HS2.out HLT.out _
 | true =>
   have HL1 := hid (tkS_le [46] s)
   rw [hc, <- tkS_yes hc, if_pos rfl] at HE
   rw [hc] at HT
   clear hc
   generalize tkS [46] s = s2 at *
   go_wp2_with fail
   refine HT.out.mono ?_
   rintro e w2 ⟨rfl, hj⟩
   have HS2 := hid (HS.out.to HB.out hj)
   have HD := hid (jdigits_ok p X s2 E O f w2 hj.1)
   clear hj HT
   cases hd : dgs s2 with
   | none =>
     obtain rfl : R = none := by rw [HE.out, hd]
     rw [dgsR_none hd] at HD
     clear hd HE
     go_wp2_with fail
     refine HD.out.mono ?_
     rintro e w3 ⟨rfl, hk⟩
     have HK3 := hid (kept_cut (HS2.out.kept.trans' (kept_p hk)))
     clear hk
     go_wp2_with fail
     exact ⟨rfl, rfl, HK3.out⟩
   | some r =>
     obtain rfl : R = numE r := by rw [HE.out, hd]
     have HL3 := hid (dgs_len hd)
     rw [dgsR_some hd] at HD
     clear hd HE
     go_wp2_with fail
     refine HD.out.mono ?_
     rintro e w3 ⟨rfl, hj⟩
     have HS3 := hid (HS2.out.to HB.out hj)
     clear hj HD
     go_wp2_with fail
     refine HK2.out _ _ ?_
     refine wp_code (nmSuf 7) (by kernel_rfl) ?_
     refine frN_end (K := fun a w => Code.wp Tryz.prog (nmSuf 7) _ a w) (.pointer (some ⟨p, 0, none⟩)) (.pointer (some ⟨rv, 0, none⟩)) (.int .i64 (k0 : Int)) ?_ ?_
     · kernel_rfl
     · exact jnum7 p X k0 r E O f w w3 rv HB.out HS3.out (by have h1 := HL1.out; have h3 := HL3.out; have h4 := HLT.out; omega) _
theorem numEnd_eq (s : List UInt8) : numEnd s = match (if tkB [48] (tkS [45] s) then some ((tkS [45] s).drop 1) else dgs (tkS [45] s)) with
   | none => none
   | some s2 => numD s2 := by
 unfold numEnd numD numE
 rfl
theorem jnumber_ok (p : Nat) (X : Txt) (s : List UInt8) (E O : Value) (f : Fl) (w : World) (h : JAt w p X s E O f) (hT : ∀ V, Kept (TxF w p) w V -> PowTab V) :
   Calls Tryz.prog 104 #[.pointer (some ⟨p, 0, none⟩)] w (NPost w p X E O f s (numEnd s)) := by
 obtain ⟨hl, k0, hr, hk, hkl⟩ := h
 obtain ⟨w1, hw1⟩ : ∃ w1, w1 = w.alloc (.cells #[.bool false, .string ⟨#[]⟩, .int .i64 0] 24) := ⟨_, rfl⟩
 have hb1 : Below w.heap.size w w1 := by subst hw1; exact (Below.refl _ _).alloc (Nat.le_refl _) _
 have HB : Hid (NumB w p X k0 E O f w.heap.size) := hid ⟨hr, hl, hT, Nat.le_refl _⟩
 have HS1 : Hid (NumS w w1 p X k0 s E O f w.heap.size) := hid ⟨⟨hl, k0, hr.below hb1, hk, hkl⟩, by subst hw1; exact Row.new _ _ _, keptOf_below hb1⟩
 have HSK : Hid (X.l.drop k0 = s) := hid hk
 have c1 := (hr.below hb1).row.cell (i := 1) (v := .int .i64 (k0 : Int)) rfl
 have HT := hid (jtake_ok p X [45] s E O f w1 HS1.out.at_)
 have HE := hid (numEnd_eq s)
 have HP : Hid (NPost w p X E O f s = NPost w p X E O f (X.l.drop k0)) := hid (by rw [hk])
 have HL0 := hid (tkS_le [45] s)
 have HN := hid (show w1.heap.size = w.heap.size + 1 by subst hw1; simp)
 clear hl hr hk hkl hb1 hT
 rw [HP.out]
 clear HP
 generalize numEnd s = R at *
 go_enter Tryz.func104, Tryz.ntmps104
 go_upto_region 1 with fail
 rw [<- hw1]
 clear hw1
 generalize tkB [45] s = bb at *
 generalize tkS [45] s = s1 at *
 generalize hrv : w.heap.size = rv at *
 go_wp2_with fail
 refine HT.out.mono ?_
 rintro e w2 ⟨rfl, hj⟩
 have HS2 := hid (HS1.out.to HB.out hj)
 have HT2 := hid (jtake_ok p X [48] s1 E O f w2 hj.1)
 clear hj HT c1 hrv
 go_upto_region 3 with fail
 rename_i K2 hK2 K1 hK1
 have HK2 := hid hK2
 clear hK2
 cases hc : tkB [48] s1 with
 | true =>
   have HE2 : Hid (R = numD (tkS [48] s1)) := hid (by rw [HE.out, hc, tkS_yes hc]; rfl)
   have HL1 := hid (tkS_lt hc)
   rw [hc] at HT2
   clear hc HE
   generalize tkS [48] s1 = s2 at *
   obtain rfl : R = numD s2 := HE2.out
   go_wp2_with fail
   refine HT2.out.mono ?_
   rintro e w3 ⟨rfl, hj⟩
   have HS3 := hid (HS2.out.to HB.out hj)
   clear hj HT2
   go_wp2_with fail
   refine HK2.out _ _ ?_
   refine wp_code (nmSuf 5) (by kernel_rfl) ?_
   refine frN_end (K := fun a w => Code.wp Tryz.prog (nmSuf 5) _ a w) (.pointer (some ⟨p, 0, none⟩)) (.pointer (some ⟨rv, 0, none⟩)) (.int .i64 (k0 : Int)) ?_ ?_
   · kernel_rfl
   · exact jnum5 p X k0 s2 E O f w w3 rv HB.out HS3.out (by rw [HSK.out]; have h1 := HL1.out; have h2 := HL0.out; omega) _
 | false =>
   have HN1 := hid (tkS_no hc)
   rw [hc] at HT2 HE
   clear hc
   cases hd : dgs s1 with
   | none =>
     obtain rfl : R = none := by rw [HE.out, if_neg (by simp), hd]
     have HD := hid (fun (W : World) (hj : JAt W p X s1 E O f) => jdigits_ok p X s1 E O f W hj)
     rw [dgsR_none hd] at HD
     clear hd HE
     go_wp2_with fail
     refine HT2.out.mono ?_
     rintro e w3 ⟨rfl, hj⟩
     rw [HN1.out] at hj
     have HS3 := hid (HS2.out.to HB.out hj)
     clear hj HT2
     go_wp2_with fail
     refine (HD.out _ HS3.out.at_).mono ?_
     rintro e w4 ⟨rfl, hk⟩
     have HK3 := hid (kept_cut (HS3.out.kept.trans' (kept_p hk)))
     clear hk
     go_wp2_with fail
     exact ⟨rfl, rfl, HK3.out⟩
   | some r =>
     obtain rfl : R = numD r := by rw [HE.out, if_neg (by simp), hd]
     have HL3 := hid (dgs_len hd)
     have HD := hid (fun (W : World) (hj : JAt W p X s1 E O f) => jdigits_ok p X s1 E O f W hj)
     rw [dgsR_some hd] at HD
     clear hd HE
     go_wp2_with fail
     refine HT2.out.mono ?_
     rintro e w3 ⟨rfl, hj⟩
     rw [HN1.out] at hj
     have HS3 := hid (HS2.out.to HB.out hj)
     clear hj HT2
     go_wp2_with fail
     refine (HD.out _ HS3.out.at_).mono ?_
     rintro e w4 ⟨rfl, hj⟩
     have HS4 := hid (HS3.out.to HB.out hj)
     clear hj HD
     go_wp2_with fail
     refine HK2.out _ _ ?_
     refine wp_code (nmSuf 5) (by kernel_rfl) ?_
     refine frN_end (K := fun a w => Code.wp Tryz.prog (nmSuf 5) _ a w) (.pointer (some ⟨p, 0, none⟩)) (.pointer (some ⟨rv, 0, none⟩)) (.int .i64 (k0 : Int)) ?_ ?_
     · kernel_rfl
     · exact jnum5 p X k0 r E O f w w4 rv HB.out HS4.out (by rw [HSK.out]; have h1 := HL3.out; have h2 := HL0.out; omega) _
end Go.Proofs.YtmhbkjjkalnggaaGreatDoor
