import Derived.Test.YtmhbkjjkalnggaaGreatDoorPt33
namespace Go.Proofs.YtmhbkjjkalnggaaGreatDoor
open Go.RowKit
set_option maxRecDepth 1000000
set_option maxHeartbeats 8000000
mutual
def NoObj : JV -> Prop
 | .mk k _ _ _ l _ => k ≠ 5 /\ NoObjs l
def NoObjs : List JV -> Prop
 | [] => True
 | x :: l => NoObj x /\ NoObjs l
end
theorem NoObjs.get : ∀ {l : List JV}, NoObjs l -> ∀ x ∈ l, NoObj x
 | [], _, x, hx => by simp at hx
 | y :: l, h, x, hx => by
   unfold NoObjs at h
   rcases List.mem_cons.1 hx with rfl | hx
   · exact h.1
   · exact NoObjs.get h.2 x hx
theorem jarr_no : ∀ (n : Nat) (v : JV), SizeOf.sizeOf v <= n -> NoObj v -> ∀ (F : Nat -> Prop) (g off : Nat) (w : World), JAtP w F g off v ->
   Calls Tryz.prog 39 #[.pointer (some ⟨g, off, none⟩)] w fun e w' => e = .returned (.tuple #[]) /\ Below w.heap.size w w' := by
 intro n
 induction n with
 | zero => intro v hv; cases v; simp at hv
 | succ n ih =>
   intro v hv hn F g off w h
   obtain ⟨k, b, d, t, l, ns⟩ := v
   have hsz : ∀ x ∈ l, SizeOf.sizeOf x <= n := fun x hx => by
     have := List.sizeOf_lt_of_mem hx
     simp only [JV.mk.sizeOf_spec] at hv
     omega
   unfold NoObj at hn
   obtain ⟨A, c, A', c', q0, _, _, _, _, _, q6, _, h1, h2, _, _, _, h8⟩ := h.open_
   have IH : Hid (∀ i, i < l.length -> ∀ V, Below w.heap.size w V -> ∃ g2 off2, A = some ⟨g2, off2, none⟩ /\ Calls Tryz.prog 39 #[.pointer (some ⟨g2, off2 + i * 8, none⟩)] V fun e w' => e = .returned (.tuple #[]) /\ Below V.heap.size V w') := hid fun i hi V hb => by
     obtain ⟨g2, off2, hA, hj⟩ := h8 i hi
     have hm : l.getD i JV.null ∈ l := by rw [List.getD_eq_getElem?_getD, List.getElem?_eq_getElem hi]; exact List.getElem_mem _
     exact ⟨g2, off2, hA, ih _ (hsz _ hm) (hn.2.get _ hm) F g2 (off2 + i * 8) V (hj.below hb)⟩
   have e5 : (k == 5) = false := by rw [beq_eq_false_iff_ne]; exact hn.1
   have hgl := h.1
   have HC := hid (fun (V : World) (hb : Below w.heap.size w V) => (hb.cell (p := ⟨g, off + 6, none⟩) hgl).trans q6)
   clear hsz h8 h hv ih hn
   generalize hm : l.length = m at *
   have HM := hid hm
   clear hm
   unfold maxLen at h2
   go_enter Tryz.func39, Tryz.ntmps39
   go_wp2_with fail
   clear q0 q6
   go_loopw [24, 2] (fun v24 _ wr => ∃ (i : Nat), i <= m /\ v24 = .int .i64 (i : Int) /\ Hid (Below w.heap.size w wr)) (fun v24 _ _ => m - (intOf v24).toNat)
   case atStart => exact ⟨0, Nat.zero_le _, rfl, hid (Below.refl _ _)⟩
   case round =>
     obtain ⟨i, hi, rfl, HB⟩ := hrel
     by_cases hlt : i < m
     · have q9 := HC.out wr HB.out
       obtain ⟨g2, off2, rfl, hcall⟩ := IH.out i hlt wr HB.out
       have HK := hid hcall
       clear hcall
       go_wp2_with fail
       refine HK.out.mono ?_
       rintro e w2 ⟨rfl, hb⟩
       have HB2 := hid (HB.out.call hb)
       clear hb
       go_wp2_with fail
       exact ⟨⟨i + 1, by omega, by go_num, HB2⟩, by simp [intOf]; omega⟩
     · obtain rfl : i = m := by omega
       go_wp2_with fail
       go_end0
       exact ⟨rfl, HB.out⟩
theorem jarr_two (g nb no cn lb lo cl : Nat) (b : Bool) (d : Dec) (t : List UInt8) (x y : JV) (F : Nat -> Prop) (c0 c1 : Array Value) (W : World) (hr : Row W g 28 (jvC 5 b d t (.slice (some ⟨lb, lo, none⟩) 2 cl) (.slice (some ⟨nb, no, none⟩) 2 cn)))
   (h : Two W nb no cn lb lo cl ⟨#[98]⟩ ⟨#[97]⟩ c0.toList c1.toList) (hx : JIs W F x c0.toList) (hy : JIs W F y c1.toList) (hgn : g ≠ nb) (hgl : g ≠ lb) (hF : ∀ q, F q -> q ≠ nb /\ q ≠ lb) (nx : NoObj x) (ny : NoObj y) :
   Calls Tryz.prog 39 #[.pointer (some ⟨g, 0, none⟩)] W (TwoPost nb no cn lb lo cl c0 c1 W) := by
 have ho0 : c0.all (·.oneCell') = true := by rw [Array.all_eq_true_iff_forall_mem]; intro u hu; exact jv_one hx u (Array.mem_toList_iff.2 hu)
 have ho1 : c1.all (·.oneCell') = true := by rw [Array.all_eq_true_iff_forall_mem]; intro u hu; exact jv_one hy u (Array.mem_toList_iff.2 hu)
 have HS := hid (fun V (hb : Below W.heap.size W V) => two_sort nb no cn lb lo cl c0 c1 V (h.below hb) ho0 ho1)
 have FK : Hid (∀ V V', Below W.heap.size W V -> TwoPost nb no cn lb lo cl c0 c1 V (.returned (.tuple #[])) V' -> Row V' g 28 (jvC 5 b d t (.slice (some ⟨lb, lo, none⟩) 2 cl) (.slice (some ⟨nb, no, none⟩) 2 cn)) /\ TwoPost nb no cn lb lo cl c0 c1 W (.returned (.tuple #[])) V' /\
     (∀ U, Below V'.heap.size V' U -> ∀ i, i < 2 -> Calls Tryz.prog 39 #[.pointer (some ⟨lb, lo + i * 8, none⟩)] U fun e w' => e = .returned (.tuple #[]) /\ Below U.heap.size U w')) := hid (by
   rintro V V' hb ⟨_, h2, h3⟩
   have kk : Kept (fun q => q = nb ∨ q = lb) W V' := (kept_mono (F := fun _ => False) (keptOf_below hb) fun _ e => e.elim).trans' h3
   refine ⟨hr.kept kk (fun e => e.elim hgn hgl), ⟨rfl, h2, kk⟩, fun U hU i hi => ?_⟩
   have jx : JIs V' F x c0.toList := JIs.kept kk (fun q hq e => e.elim (hF q hq).1 (hF q hq).2) _ _ hx
   have jy : JIs V' F y c1.toList := JIs.kept kk (fun q hq e => e.elim (hF q hq).1 (hF q hq).2) _ _ hy
   obtain ⟨r0, r1, _, _⟩ := h2.ranges
   rcases (show i = 0 ∨ i = 1 by omega) with rfl | rfl
   · exact jarr_no _ y (Nat.le_refl _) ny F lb (lo + 0 * 8) U (JAtP.below ⟨h2.llt, c1.toList, fun q u hu => by have := r0 q u hu; simpa using this, jy⟩ hU)
   · exact jarr_no _ x (Nat.le_refl _) nx F lb (lo + 1 * 8) U (JAtP.below ⟨h2.llt, c0.toList, fun q u hu => by have := r1 q u hu; simpa using this, jx⟩ hU))
 have q0 := hr.cell (i := 0) (v := .int .i64 5) rfl
 have HR := hid hr
 clear h hx hy hF nx ny ho0 ho1 hr
 go_enter Tryz.func39, Tryz.ntmps39
 go_wp2_with fail
 clear q0
 have hS : Row W.drew g 28 (jvC 5 b d t (.slice (some ⟨lb, lo, none⟩) 2 cl) (.slice (some ⟨nb, no, none⟩) 2 cn)) := HR.out.call (Below.refl _ _).drew
 refine wp_region_held_drew (S := fun V => Row V g 28 (jvC 5 b d t (.slice (some ⟨lb, lo, none⟩) 2 cl) (.slice (some ⟨nb, no, none⟩) 2 cn))) (by kernel_rfl) hS (fun hHeld => ?_)
 refine wpAnyH_z 0 ?_
 try simp only [Act.put, sA, sB, sC]
 refine wpAnyH_z 1 ?_
 try simp only [Act.put, sA, sB, sC]
 refine wpAnyH_z 2 ?_
 try simp only [Act.put, sA, sB, sC]
 refine wpAnyH_y 3 ?_ ?_ ?_
 rotate_left
 · intro W hSw; have q := (show Row W g 28 (jvC 5 b d t (.slice (some ⟨lb, lo, none⟩) 2 cl) (.slice (some ⟨nb, no, none⟩) 2 cn)) from hSw).cell (i := 7) (v := .slice (some ⟨nb, no, none⟩) 2 cn) rfl; go_simp; try with_reducible rfl
 try simp only [Act.put, sA, sB, sC]
 refine wpAnyH_z 4 ?_
 try simp only [Act.put, sA, sB, sC]
 refine wpAnyH_z 5 ?_
 try simp only [Act.put, sA, sB, sC]
 refine wpAnyH_z 6 ?_
 try simp only [Act.put, sA, sB, sC]
 refine wpAnyH_y 7 ?_ ?_ ?_
 rotate_left
 · intro W hSw; have q := (show Row W g 28 (jvC 5 b d t (.slice (some ⟨lb, lo, none⟩) 2 cl) (.slice (some ⟨nb, no, none⟩) 2 cn)) from hSw).cell (i := 6) (v := .slice (some ⟨lb, lo, none⟩) 2 cl) rfl; go_simp; try with_reducible rfl
 try simp only [Act.put, sA, sB, sC]
 refine wpAnyH_z 8 ?_
 try simp only [Act.put, sA, sB, sC]
 refine wpAnyH_z 9 ?_
 try simp only [Act.put, sA, sB, sC]
 refine wpAnyH_ready (rs := [10]) (by kernel_rfl) (by simp) ?_
 refine AllReadyH.cons (o := ?_) ?_ (fun K1 hK1 => ?_) AllReadyH.nil
 rotate_left 1
 · simp only [gA, gB, gC]; with_reducible rfl
 rw [if_pos (by rfl)]
 go_simp
 have hsv : Hid (Calls Tryz.prog 68 #[.iface 86 (.agg #[.slice (some ⟨nb, no, none⟩) 2 cn, .slice (some ⟨lb, lo, none⟩) 2 cl])] W.drew (TwoPost nb no cn lb lo cl c0 c1 W.drew)) := hid (HS.out W.drew (Below.refl _ _).drew)
 (with_reducible refine hsv.out.mono ?_)
 rintro e1 w1 ⟨rfl, h2, h3⟩
 obtain ⟨r2, HF, HA⟩ := FK.out W.drew w1 (Below.refl _ _).drew ⟨rfl, h2, h3⟩
 have HR2 := hid r2
 have HF := hid HF
 have HA := hid HA
 clear h2 h3 hsv HS FK
 go_wp2_with fail
 refine hK1.out _ _ r2 (fun hHeld1 => ?_)
 clear hK1 K1
 try simp only [Act.put, sA, sB, sC]
 refine wpAnyH_done (by kernel_rfl) ?_ _
 clear hHeld1 hHeld hS
 have q6 := HR2.out.cell (i := 6) (v := .slice (some ⟨lb, lo, none⟩) 2 cl) rfl
 clear r2
 go_wp2_with fail
 clear q6
 go_loopw [24, 2] (fun v24 _ wr => ∃ (i : Nat), i <= 2 /\ v24 = .int .i64 (i : Int) /\ Hid (Below w1.heap.size w1 wr)) (fun v24 _ _ => 2 - (intOf v24).toNat)
 case atStart => exact ⟨0, Nat.zero_le _, rfl, hid (Below.refl _ _)⟩
 case round =>
   obtain ⟨i, hi, rfl, HB⟩ := hrel
   by_cases hlt : i < 2
   · have q9 := (HR2.out.call HB.out).cell (i := 6) (v := .slice (some ⟨lb, lo, none⟩) 2 cl) rfl
     have HK := hid (HA.out wr HB.out i hlt)
     go_wp2_with fail
     refine HK.out.mono ?_
     rintro e w2 ⟨rfl, hb⟩
     have HB2 := hid (HB.out.call hb)
     clear hb
     go_wp2_with fail
     exact ⟨⟨i + 1, by omega, by go_num, HB2⟩, by simp [intOf]; omega⟩
   · obtain rfl : i = 2 := by omega
     go_wp2_with fail
     go_end0
     have h9 := HF.out
     exact ⟨rfl, h9.2.1.below HB.out, h9.2.2.trans' (kept_mono (F := fun _ => False) (keptOf_below HB.out) fun _ e => e.elim)⟩
open Go.RowKit
def PrI (B gb : Nat) (own : Nat -> Prop) (t : List UInt8) (W : World) : Prop :=
 ∃ v, Row W gb 35 #[v] /\ Lies W (fun q => own q /\ q ≠ gb) 5 1 v t.length (u8s t) /\ own gb /\ ∀ q, own q -> B <= q /\ q < W.heap.size
def PrBad (_ : List PanicEntry) (_ : List UInt8) : Prop := False
def PrOk (t : List UInt8) : Prop := t.length <= 100000000000000
theorem print1_ok (B gb : Nat) (own : Nat -> Prop) (t p : List UInt8) (W : World) (h : PrI B gb own t W) (hp : PrOk (t ++ p)) :
   Calls Tryz.prog 37 #[.string (bs p), .pointer (some ⟨gb, 0, none⟩)] W (LayPost (PrI B gb) PrBad own W (t ++ p)) := by
 obtain ⟨v, hr, hl, ho, hlt⟩ := h
 obtain ⟨A, c, rfl, _, _⟩ := hl.form
 have c0 := hr.cell (i := 0) (v := .slice A t.length c) rfl
 unfold PrOk at hp
 rw [List.length_append] at hp
 have hB := hlt gb ho
 have FI : Hid (∀ v' w', Lies w' (grow (fun q => own q /\ q ≠ gb) W) 5 1 v' (t.length + p.length) (u8s t ++ p.map fun b => Value.int .u8 b.toNat) -> Kept (fun g => (own g /\ g ≠ gb) /\ Spare (.slice A t.length c) g /\ ∃ cur, W.heap[g]? = some (.cells cur 5 (0, 0))) W w' ->
     w'.cell? ⟨gb, 0, none⟩ = some (.slice A t.length c) /\ w'.frozen? ⟨gb, 0, none⟩ = false /\ LayPost (PrI B gb) PrBad own W (t ++ p) (.returned (.tuple #[])) (w'.setCell ⟨gb, 0, none⟩ v')) := hid (by
   intro v' w' h1 h2
   have hr' : Row w' gb 35 #[.slice A t.length c] := hr.kept h2 (fun e => e.1.2 rfl)
   have hk : Kept own W (w'.setCell ⟨gb, 0, none⟩ v') := (kept_mono h2 fun q e => e.1.1).setCell (grow.old ho) v'
   refine ⟨hr'.cell rfl, hr'.free 0, .inl ⟨rfl, fun q => own q ∨ (W.heap.size <= q /\ q < w'.heap.size), ⟨v', ?_, ?_, .inl ho, ?_⟩, hk, fun q hq => hq.imp id fun e => e.1⟩⟩
   · simpa using hr'.set_ 0 v'
   · have e : u8s (t ++ p) = u8s t ++ p.map fun b => Value.int .u8 b.toNat := by unfold u8s; rw [List.map_append]
     rw [e, List.length_append]
     refine (h1.there.kept (Kept.cell w' gb 0 v') (fun q hq e => ?_)).mono fun q hq => ?_
     · rcases hq.1 with h9 | h9
       · exact h9.2 e
       · omega
     · rcases hq.1 with h9 | h9
       · exact ⟨.inl h9.1, h9.2⟩
       · exact ⟨.inr ⟨h9, hq.2⟩, by omega⟩
   · intro q hq
     have hs := h2.size
     have e9 : (w'.setCell ⟨gb, 0, none⟩ v').heap.size = w'.heap.size := by simp [World.setCell]
     rw [e9]
     rcases hq with h9 | h9
     · have := hlt q h9; omega
     · omega)
 have HL := hid hl
 clear hr hl ho hlt hB
 generalize hn : t.length = n at *
 clear hn
 go_enter Tryz.func37, Tryz.ntmps37
 go_wp2_with (first
   | (refine wpList_append_text ?_ (fun q => own q /\ q ≠ gb) (.tmp 3) (.tmp 4) 35 9 ?_ 5 Tryz.underlying35 Tryz.underlying9 infoU8 (.slice A n c) n (u8s t) ?_ HL.out p ?_ (by omega) ?_
      · with_reducible rfl
      · with_reducible rfl
      · rfl
      · rfl
      intro v' w' h1 h2
      obtain ⟨A2, c2, rfl, _, _⟩ := h1.form
      obtain ⟨d1, d2, d3⟩ := FI.out _ w' h1 h2
      have HD3 := hid d3
      clear d3 h1 h2))
 go_end0
 exact HD3.out
theorem print_lay (B gb : Nat) : LayC 37 #[.pointer (some ⟨gb, 0, none⟩)] (PrI B gb) PrBad PrOk where
 call own t p W h _ ho := print1_ok B gb own t p W h ho
 stay own t W W' h hk := by
   obtain ⟨v, h1, h2, h3, h4⟩ := h
   exact ⟨v, h1.kept hk (fun hn => hn h3), h2.kept hk (fun q hq hn => hn hq.1), h3, fun q hq => ⟨(h4 q hq).1, Nat.lt_of_lt_of_le (h4 q hq).2 hk.size⟩⟩
 lt own t W q h hq := by
   obtain ⟨v, h1, h2, h3, h4⟩ := h
   exact (h4 q hq).2
 mono π a b h := h.elim
 ok a b h := by unfold PrOk at *; rw [List.length_append] at h; omega
def printJ (v : JV) : List UInt8 := if checkJ v = 0 then tellJ v else []
def PrtPost (w : World) (l : List UInt8) (e : Ending) (w' : World) : Prop := ∃ A c, e = .returned (.slice A l.length c) /\ l.length <= c /\ c <= maxLen /\ Lies w' (fun q => w.heap.size <= q) 5 1 (.slice A l.length c) l.length (u8s l) /\ Below w.heap.size w w'
theorem jprint_ok (F : Nat -> Prop) (cs : Array Value) (v : JV) (w : World) (h : JIs w F v cs.toList) (h8 : cs.size = 8) (hs : SmallJ v) (hf : askJ v = true -> FineJ v) (hd : depthJ v <= 1000000) (hT : PowTab w) (hU : Lib.Utf8Tabs 0 1 w) :
   Calls Tryz.prog 11 #[.agg cs] w (PrtPost w (printJ v)) := by
 obtain ⟨w1, hw1⟩ : ∃ w1, w1 = w.alloc (.cells cs 28) := ⟨_, rfl⟩
 have b1 : Below w.heap.size w w1 := by rw [hw1]; exact (Below.refl _ _).alloc (Nat.le_refl _) _
 have r1 : Row w1 w.heap.size 28 cs := by rw [hw1]; exact Row.new _ _ _
 have HRA : Hid (w1.rangeAt w.heap.size 0 cs.toList) := hid (fun j u hu => by rw [Nat.zero_add]; exact r1.cell (by simpa using hu))
 have HIN : Hid ((Tryz.prog.info? 28).map (·.size) = some cs.size) := hid (by rw [h8]; exact infoJ)
 have HC := hid (jmayBe_ok F cs v w1 (h.below b1) h8 hs hf hd (hT.below b1) (Utf8Tabs_below hU b1))
 have HB := hid b1
 have hzr : checkJ v = 0 -> (tellJ v).length <= 1048576 /\ FineJ v := by
   unfold checkJ
   split
   · intro h; cases h
   · rename_i ha
     split
     · intro h; cases h
     · split
       · intro h; cases h
       · intro _; exact ⟨by omega, hf (by simpa using ha)⟩
 have FT : Hid (checkJ v = 0 -> ∀ V, Below w1.heap.size w1 V -> Calls Tryz.prog 36 #[.pointer (some ⟨w.heap.size, 0, none⟩), .func (.func 37) #[] #[.pointer (some ⟨V.heap.size, 0, none⟩)]] (V.alloc (.cells #[.slice none 0 0] 35)) (LayPost (PrI w1.heap.size V.heap.size) PrBad (· = V.heap.size) (V.alloc (.cells #[.slice none 0 0] 35)) (tellJ v))) := hid fun h0 V hb => by
   have hv2 : Below V.heap.size V (V.alloc (.cells #[.slice none 0 0] 35)) := (Below.refl _ _).alloc (Nat.le_refl _) _
   have r2 := (r1.call hb).call hv2
   have hI : PrI w1.heap.size V.heap.size (· = V.heap.size) [] (V.alloc (.cells #[.slice none 0 0] 35)) := ⟨_, Row.new _ _ _, Lies.empty _ _ _ _ _, rfl, fun q hq => by rw [hq]; exact ⟨hb.size, by simp⟩⟩
   have hj : JAtP (V.alloc (.cells #[.slice none 0 0] 35)) (fun q => (F q ∨ q = w.heap.size) /\ q < w1.heap.size) w.heap.size 0 v := by
     have a1 := (JIs.mono (G := fun q => (F q ∨ q = w.heap.size) /\ q < w1.heap.size) (fun q b1 b2 => ⟨.inl b1, b2⟩) _ _ (h.below b1))
     exact ⟨r2.lt, cs.toList, fun q u hu => by rw [Nat.zero_add]; exact r2.cell (by simpa using hu), (a1.below hb).below hv2⟩
   have hsz := hb.size
   have h9 := jtell_ok 37 #[.pointer (some ⟨V.heap.size, 0, none⟩)] (PrI w1.heap.size V.heap.size) PrBad PrOk (print_lay _ _) (fun _ _ => rfl) _ v (Nat.le_refl _) (hzr h0).2 _ w.heap.size 0 (· = V.heap.size) [] _ hI (by have := (hzr h0).1; unfold PrOk; simp only [List.nil_append]; omega) hj ⟨.inr rfl, r1.lt⟩ ⟨fun q hq => by simp; omega, fun q hq e => by have := hq.2; omega⟩
     (fun U hU => hT.below (((b1.call hb).call hv2).trans (hU.below (by simp; have := b1.size; omega) (fun q e => by have := b1.size; omega))))
   rw [List.nil_append] at h9
   exact h9
 have HPJ : Hid (printJ v = if checkJ v = 0 then tellJ v else []) := hid rfl
 have hmf : ∀ (fn : Fn) (first cap : Array Value) (W : World), (Instr.makeFunc fn first cap).run Tryz.prog W = .ok (.func fn first cap) W := fun _ _ _ _ => rfl
 clear h hs hf hd hT hU b1 r1 h8 hzr
 generalize printJ v = pj at *
 generalize tellJ v = tj at *
 go_enter Tryz.func11, Tryz.ntmps11
 by_cases h0 : checkJ v = 0
 · have HPJ2 : Hid (pj = tj) := hid (by rw [HPJ.out, if_pos h0])
   have h1 : (checkJ v == 0) = true := by rw [h0]; rfl
   rw [h1] at HC
   have HT2 := hid (FT.out h0)
   clear h0 h1 HPJ FT
   go_upto_region 1 with fail
   rw [<- hw1]
   clear hw1
   go_wp2_with (first
     | (refine ldJ (.tmp 1) w.heap.size 0 cs HRA.out HIN.out ?_))
   refine HC.out.mono ?_
   rintro e w2 ⟨rfl, hb⟩
   have HB2 := hid hb
   clear hb
   go_wp2_with fail
   refine (HT2.out w2 HB2.out).mono ?_
   rintro e w3 (⟨rfl, o, ⟨u, i1, i2, i3, i4⟩, hk, ho⟩ | ⟨π, rfl, hb, hk⟩)
   · obtain ⟨AU, cU, rfl, c1, c2⟩ := i2.form
     have x1 := i1.cell (i := 0) rfl
     have HF : Hid (PrtPost w tj (.returned (.slice AU tj.length cU)) w3) := hid ⟨AU, cU, rfl, c1, c2, i2.mono (fun q hq => by have := (i4 q hq.1).1; have := HB.out.size; omega), (HB.out.call HB2.out).trans ((((Below.refl w2.heap.size w2).alloc (Nat.le_refl _) _).trans (hk.below (by simp) (fun q e => by rw [e]; exact Nat.le_refl _))).mono (by have := HB.out.size; have := HB2.out.size; omega))⟩
     clear i1 i2 i3 i4 hk ho c1 c2
     go_wp2_with fail
     go_ret
     rw [HPJ2.out]
     exact HF.out
   · exact hb.elim
 · have HPJ2 : Hid (pj = []) := hid (by rw [HPJ.out, if_neg h0])
   have h1 : (checkJ v == 0) = false := by simpa using h0
   rw [h1] at HC
   clear h0 h1 HPJ FT
   go_upto_region 1 with fail
   rw [<- hw1]
   clear hw1
   go_wp2_with (first
     | (refine ldJ (.tmp 1) w.heap.size 0 cs HRA.out HIN.out ?_))
   refine HC.out.mono ?_
   rintro e w2 ⟨rfl, hb⟩
   have HB2 := hid (HB.out.call hb)
   clear hb
   go_wp2_with fail
   go_ret
   rw [HPJ2.out]
   exact ⟨none, 0, rfl, Nat.le_refl _, by unfold maxLen; omega, Lies.empty _ _ _ _ _, HB2.out⟩
end Go.Proofs.YtmhbkjjkalnggaaGreatDoor
