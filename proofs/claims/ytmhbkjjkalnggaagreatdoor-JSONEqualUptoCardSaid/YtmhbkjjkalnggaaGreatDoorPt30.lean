import Derived.Test.YtmhbkjjkalnggaaGreatDoorPt29
import Derived.Lib.AppendZerosOnto
namespace Go.Proofs.YtmhbkjjkalnggaaGreatDoor
open Go.RowKit
set_option maxRecDepth 1000000
set_option maxHeartbeats 8000000
theorem jmayBe_ok (F : Nat -> Prop) (cs : Array Value) (v : JV) (w : World) (h : JIs w F v cs.toList) (h8 : cs.size = 8) (hs : SmallJ v) (hf : askJ v = true -> FineJ v) (hd : depthJ v <= 1000000) (hT : PowTab w) (hU : Lib.Utf8Tabs 0 1 w) :
   Calls Tryz.prog 35 #[.agg cs] w fun e w' => e = .returned (.bool (checkJ v == 0)) /\ Below w.heap.size w w' := by
 obtain ⟨w1, hw1⟩ : ∃ w1, w1 = w.alloc (.cells cs 28) := ⟨_, rfl⟩
 have b1 : Below w.heap.size w w1 := by rw [hw1]; exact (Below.refl _ _).alloc (Nat.le_refl _) _
 have r1 : Row w1 w.heap.size 28 cs := by rw [hw1]; exact Row.new _ _ _
 have HRA : Hid (w1.rangeAt w.heap.size 0 cs.toList) := hid (fun j u hu => by rw [Nat.zero_add]; exact r1.cell (by simpa using hu))
 have HIN : Hid ((Tryz.prog.info? 28).map (·.size) = some cs.size) := hid (by rw [h8]; exact infoJ)
 have HC := hid (jcheck_ok F cs v w1 (h.below b1) hs hf hd (hT.below b1) (Utf8Tabs_below hU b1))
 have HB := hid b1
 clear h hs hf hd hT hU b1 r1 h8
 generalize checkJ v = r at *
 go_enter Tryz.func35, Tryz.ntmps35
 go_upto_region 1 with fail
 rw [<- hw1]
 clear hw1
 go_wp2_with (first
   | (refine ldJ (.tmp 1) w.heap.size 0 cs HRA.out HIN.out ?_))
 refine HC.out.mono ?_
 rintro e w2 ⟨rfl, hb⟩
 have HB2 := hid (HB.out.call hb)
 clear hb
 go_wp2_with fail
 go_ret
 exact ⟨rfl, HB2.out⟩
theorem wNames_take : ∀ (ns : List (List UInt8)) (i : Nat), i < ns.length -> wNames (ns.take (i + 1)) = wNames (ns.take i) + 1 + (ns.getD i []).length
 | [], i, h => by simp at h
 | x :: ns, 0, _ => by simp [wNames]
 | x :: ns, i + 1, h => by
   have := wNames_take ns i (by simpa using h)
   rw [List.take_succ_cons, List.take_succ_cons, wNames, wNames, this, List.getD_cons_succ]
   omega
theorem wKids_take : ∀ (l : List JV) (i : Nat), i < l.length -> wKids (l.take (i + 1)) = wKids (l.take i) + wJ (l.getD i JV.null)
 | [], i, h => by simp at h
 | x :: l, 0, _ => by simp [wKids]
 | x :: l, i + 1, h => by
   have := wKids_take l i (by simpa using h)
   rw [List.take_succ_cons, List.take_succ_cons, wKids, wKids, this, List.getD_cons_succ]
   omega
theorem wNames_le_all : ∀ (ns : List (List UInt8)) (i : Nat), wNames (ns.take i) <= wNames ns
 | [], i => by simp
 | x :: ns, 0 => by simp [wNames]
 | x :: ns, i + 1 => by
   have := wNames_le_all ns i
   rw [List.take_succ_cons, wNames, wNames]
   omega
theorem wKids_le_all : ∀ (l : List JV) (i : Nat), wKids (l.take i) <= wKids l
 | [], i => by simp
 | x :: l, 0 => by simp [wKids]
 | x :: l, i + 1 => by
   have := wKids_le_all l i
   rw [List.take_succ_cons, wKids, wKids]
   omega
theorem wKids_mem {l : List JV} {x : JV} (h : x ∈ l) : wJ x <= wKids l := by
 induction l with
 | nil => cases h
 | cons y l ih =>
   rw [wKids]
   rcases List.mem_cons.1 h with rfl | h
   · omega
   · have := ih h; omega
structure BoxJ (w W : World) (A A' : Option Addr) (n c m c' : Nat) (k : Int) (b : Bool) (d : Dec) (t : List UInt8) : Prop where
 row : Row W w.heap.size 28 (jvC k b d t (.slice A n c) (.slice A' m c'))
 below : Below w.heap.size w W
theorem BoxJ.call {w W W' : World} {A A' : Option Addr} {n c m c' : Nat} {k : Int} {b : Bool} {d : Dec} {t : List UInt8} (h : BoxJ w W A A' n c m c' k b d t) (hb : Below W.heap.size W W') : BoxJ w W' A A' n c m c' k b d t := ⟨h.row.call hb, h.below.call hb⟩
theorem kids_cells {w : World} {F : Nat -> Prop} {A : Option Addr} {l : List JV} (h : KidsAt w F A 0 l) : ∀ j, j < l.length -> ∃ g off, ∃ cs : Array Value, A = some ⟨g, off, none⟩ /\ cs.size = 8 /\ JIs w F (l.getD j JV.null) cs.toList /\ ∀ V, Below w.heap.size w V -> V.rangeAt g (off + j * 8) cs.toList := fun j hj => by
 obtain ⟨g, off, cs, h1, h2, h3, h4, h5⟩ := KidsAt.get l 0 h j hj
 refine ⟨g, off, cs.toArray, h1, ?_, by simpa using h5, fun V hb q u hu => ?_⟩
 · cases hx : l.getD j JV.null with
   | mk k b d t l' ns' =>
     rw [hx] at h5
     unfold JIs at h5
     obtain ⟨A, c, A', c', rfl, _⟩ := h5
     rfl
 · have := h4 q u (by simpa using hu)
   rw [Nat.zero_add, <- Nat.add_assoc] at this
   exact (hb.cell (p := ⟨g, off + j * 8 + q, none⟩) h3).trans this
theorem jsize_ok : ∀ (n : Nat) (v : JV), SizeOf.sizeOf v <= n -> wJ v <= 1000000000000 -> ∀ (F : Nat -> Prop) (cs : Array Value) (left : Int) (w : World), JIs w F v cs.toList -> 0 <= left -> left <= 1000000 ->
   Calls Tryz.prog 26 #[.agg cs, .int .i64 left] w fun e w' => (∃ y : Nat, y <= wJ v /\ e = .returned (.int .i64 y)) /\ Below w.heap.size w w' := by
 intro n
 induction n with
 | zero => intro v hv; cases v; simp at hv
 | succ n ih =>
   intro v hv hW F cs left w h hl0 hl1
   obtain ⟨k, b, d, t, l, ns⟩ := v
   have hsz : ∀ x ∈ l, SizeOf.sizeOf x <= n := fun x hx => by
     have := List.sizeOf_lt_of_mem hx
     simp only [JV.mk.sizeOf_spec] at hv
     omega
   unfold JIs at h
   obtain ⟨A, c, A', c', hcs, h1, h2, h3, h4, hnm, hkd⟩ := h
   have hcs' : cs = jvC k b d t (.slice A l.length c) (.slice A' ns.length c') := Array.toList_inj.1 hcs
   subst hcs'
   have hWe : wJ (.mk k b d t l ns) = 2 + t.length + d.digits.length + wNames ns + wKids l := by rw [wJ]
   rw [hWe] at hW ⊢
   obtain ⟨w1, hw1⟩ : ∃ w1, w1 = w.alloc (.cells (jvC k b d t (.slice A l.length c) (.slice A' ns.length c')) 28) := ⟨_, rfl⟩
   have hbox : BoxJ w w1 A A' l.length c ns.length c' k b d t := ⟨by rw [hw1]; exact Row.new _ _ _, by rw [hw1]; exact (Below.refl _ _).alloc (Nat.le_refl _) _⟩
   have HBX : Hid (∀ V, BoxJ w V A A' l.length c ns.length c' k b d t -> V.cell? ⟨w.heap.size, 3, none⟩ = some (.string (bs d.digits)) /\ V.cell? ⟨w.heap.size, 5, none⟩ = some (.string (bs t)) /\ V.cell? ⟨w.heap.size, 6, none⟩ = some (.slice A l.length c) /\ V.cell? ⟨w.heap.size, 7, none⟩ = some (.slice A' ns.length c')) := hid fun V hV => ⟨hV.row.cell (i := 3) rfl, hV.row.cell (i := 5) rfl, hV.row.cell (i := 6) rfl, hV.row.cell (i := 7) rfl⟩
   have HNM : Hid (∀ i, i < ns.length -> ∀ V, Below w.heap.size w V -> ∃ g off, A' = some ⟨g, off, none⟩ /\ V.cell? ⟨g, off + i, none⟩ = some (.string (bs (ns.getD i [])))) := hid fun i hi V hb => by
     obtain ⟨g, off, e, _, hlt, hc⟩ := hnm i hi
     exact ⟨g, off, e, (hb.cell (p := ⟨g, off + i, none⟩) hlt).trans hc⟩
   have HIN : Hid (∀ x : Array Value, x.size = 8 -> (Tryz.prog.info? 28).map (·.size) = some x.size) := hid fun x hx => by rw [hx]; exact infoJ
   have IH : Hid (∀ i, i < l.length -> ∀ V, Below w.heap.size w V -> ∃ g2 off2, ∃ cs2 : Array Value, A = some ⟨g2, off2, none⟩ /\ cs2.size = 8 /\ V.rangeAt g2 (off2 + i * 8) cs2.toList /\ ∀ left : Int, 0 <= left -> left <= 1000000 ->
       Calls Tryz.prog 26 #[.agg cs2, .int .i64 left] V fun e w' => (∃ y : Nat, y <= wJ (l.getD i JV.null) /\ e = .returned (.int .i64 y)) /\ Below V.heap.size V w') := hid fun i hi V hb => by
     obtain ⟨g2, off2, cs2, hA, h8, hj, hr⟩ := kids_cells hkd i hi
     have hm : l.getD i JV.null ∈ l := by rw [List.getD_eq_getElem?_getD, List.getElem?_eq_getElem hi]; exact List.getElem_mem _
     exact ⟨g2, off2, cs2, hA, h8, hr V hb, fun left q1 q2 => ih _ (hsz _ hm) (by have := wKids_mem hm; omega) F cs2 left V (hj.below hb) q1 q2⟩
   have HTN := hid (wNames_take ns)
   have HTK := hid (wKids_take l)
   have HLN := hid (wNames_le_all ns)
   have HLK := hid (wKids_le_all l)
   have hst := bs_size t
   have hsd := bs_size d.digits
   have HBOX := hid hbox
   clear hsz hnm hkd hbox hv ih hWe hcs
   unfold maxLen at h2 h4
   generalize hln : l.length = nl at *
   have HNL := hid hln
   generalize hlm : ns.length = nn at *
   have HNN := hid hlm
   generalize t.length = tl at *
   generalize d.digits.length = dl at *
   generalize hwn : wNames ns = wn at *
   have HWN := hid hwn
   generalize hwk : wKids l = wk at *
   have HWK := hid hwk
   clear hln hlm hwn hwk
   go_enter Tryz.func26, Tryz.ntmps26
   go_upto_region 1 with fail
   rw [<- hw1]
   clear hw1
   obtain ⟨x3, x5, x6, x7⟩ := HBX.out w1 HBOX.out
   go_wp2_with fail
   clear x3 x5 x6 x7
   go_loopw [5, 6] (fun v5 v6 wr => ∃ i y : Nat, i <= nn /\ v6 = .int .i64 (i : Int) /\ v5 = .int .i64 (y : Int) /\ y <= 1000000000000 /\ Hid (y = 1 + tl + dl + wNames (ns.take i)) /\ Hid (BoxJ w wr A A' nl c nn c' k b d t)) (fun _ v6 _ => nn - (intOf v6).toNat)
   case atStart => exact ⟨0, 1 + tl + dl, Nat.zero_le _, rfl, rfl, by omega, hid (by simp [wNames]), HBOX⟩
   case round =>
     clear HBOX
     obtain ⟨i, y, hi, rfl, rfl, hy, HY, HBOX⟩ := hrel
     obtain ⟨x3, x5, x6, x7⟩ := HBX.out wr HBOX.out
     by_cases hlt : i < nn
     · have hiz : (i : Int) < (nn : Int) := by omega
       obtain ⟨g, off, rfl, x9⟩ := HNM.out i hlt wr HBOX.out.below
       have hsn := bs_size (ns.getD i [])
       have HY2 : Hid (y + 1 + (ns.getD i []).length = 1 + tl + dl + wNames (ns.take (i + 1))) := hid (by rw [HTN.out i hlt, HY.out]; omega)
       have hb2 : y + 1 + (ns.getD i []).length <= 1000000000000 := by
         have h8 := HY2.out
         have h9 := HLN.out (i + 1)
         omega
       generalize ns.getD i [] = nm at *
       generalize nm.length = z at *
       go_wp2_with fail
       exact ⟨⟨i + 1, y + 1 + z, by omega, by go_num, by first | rfl | (simp only [Value.int.injEq, true_and]; omega), hb2, HY2, HBOX⟩, by simp [intOf]; omega⟩
     · obtain rfl : i = nn := by omega
       have HY2 : Hid (y = 1 + tl + dl + wn) := hid (by rw [HY.out, List.take_of_length_le (by rw [HNN.out]; exact Nat.le_refl _), HWN.out])
       clear HY
       go_wp2_with fail
       clear x3 x5 x6 x7
       go_loopw [5, 7] (fun v5 v7 wx => ∃ j y : Nat, j <= nl /\ v7 = .int .i64 (j : Int) /\ v5 = .int .i64 (y : Int) /\ y <= 1000000000000 /\ Hid (y <= 1 + tl + dl + wn + wKids (l.take j)) /\ Hid (BoxJ w wx A A' nl c i c' k b d t)) (fun _ v7 _ => nl - (intOf v7).toNat)
       case atStart => exact ⟨0, y, Nat.zero_le _, rfl, rfl, hy, hid (by rw [HY2.out]; simp [wKids]), HBOX⟩
       case round =>
         clear HBOX HY2 hy
         obtain ⟨j, y, hj, rfl, rfl, hy, HY, HBOX⟩ := hrel
         obtain ⟨x3, x5, x6, x7⟩ := HBX.out wr HBOX.out
         by_cases hlt2 : j < nl
         · have hjz : (j : Int) < (nl : Int) := by omega
           by_cases hle : (y : Int) <= left
           · obtain ⟨g, off, cs2, rfl, h8, hrg, hcall⟩ := IH.out j hlt2 wr HBOX.out.below
             have HCL := hid (hcall (left - (y : Int)) (by omega) (by omega))
             have HRG := hid hrg
             have HI2 := hid (HIN.out cs2 h8)
             clear hcall hrg h8
             have HTJ := hid (HTK.out j hlt2)
             have HLJ := hid (HLK.out (j + 1))
             go_wp2_with (first
               | (refine ldJ (.tmp 49) g (off + j * 8) cs2 HRG.out HI2.out ?_))
             refine HCL.out.mono ?_
             rintro e w3 ⟨⟨z, hz, rfl⟩, hb⟩
             have HB3 := hid (HBOX.out.call hb)
             have HYZ : Hid (y + z <= 1 + tl + dl + wn + wKids (l.take (j + 1))) := hid (by have h1 := HY.out; have h2 := HTJ.out; omega)
             have hyz : y + z <= 1000000000000 := by have h1 := HYZ.out; have h2 := HLJ.out; omega
             clear hb hz HTJ HLJ
             go_wp2_with fail
             exact ⟨⟨j + 1, y + z, by omega, by go_num, by first | rfl | (simp only [Value.int.injEq, true_and]; omega), hyz, HYZ, HB3⟩, by simp [intOf]; omega⟩
           · have HF : Hid (y <= 1 + tl + dl + wn + wk) := hid (by have h1 := HY.out; have h2 := HLK.out j; omega)
             go_wp2_with fail
             go_ret
             exact ⟨⟨y, by have := HF.out; omega, rfl⟩, HBOX.out.below⟩
         · obtain rfl : j = nl := by omega
           have HF : Hid (y <= 1 + tl + dl + wn + wk) := hid (by have h1 := HY.out; have h2 := HLK.out j; omega)
           go_wp2_with fail
           go_ret
           exact ⟨⟨y, by have := HF.out; omega, rfl⟩, HBOX.out.below⟩
theorem jsmall_ok (F : Nat -> Prop) (A : Option Addr) (c : Nat) (vs : List JV) (w : World) (hk : KidsAt w F A 0 vs) (hc : vs.length <= c) (hcm : c <= 9223372036854775807) (hw : ∀ x ∈ vs, wJ x <= 1000000000000) :
   Calls Tryz.prog 6 #[.slice A vs.length c] w fun e w' => (∃ r : Bool, e = .returned (.bool r)) /\ Below w.heap.size w w' := by
 have HK : Hid (∀ i, i < vs.length -> ∀ V, Below w.heap.size w V -> ∃ g2 off2, ∃ cs2 : Array Value, A = some ⟨g2, off2, none⟩ /\ cs2.size = 8 /\ V.rangeAt g2 (off2 + i * 8) cs2.toList /\
     Calls Tryz.prog 26 #[.agg cs2, .int .i64 20000] V fun e w' => (∃ y : Nat, y <= wJ (vs.getD i JV.null) /\ e = .returned (.int .i64 y)) /\ Below V.heap.size V w') := hid fun i hi V hb => by
   obtain ⟨g2, off2, cs2, hA, h8, hj, hr⟩ := kids_cells hk i hi
   have hm : vs.getD i JV.null ∈ vs := by rw [List.getD_eq_getElem?_getD, List.getElem?_eq_getElem hi]; exact List.getElem_mem _
   exact ⟨g2, off2, cs2, hA, h8, hr V hb, jsize_ok _ _ (Nat.le_refl _) (hw _ hm) F cs2 20000 V (hj.below hb) (by omega) (by omega)⟩
 have HIN : Hid (∀ x : Array Value, x.size = 8 -> (Tryz.prog.info? 28).map (·.size) = some x.size) := hid fun x hx => by rw [hx]; exact infoJ
 clear hk hw
 generalize vs.length = n at *
 go_enter Tryz.func6, Tryz.ntmps6
 go_wp2_with fail
 go_loopw [3] (fun v3 wr => ∃ i : Nat, i <= n /\ v3 = .int .i64 (i : Int) /\ Hid (Below w.heap.size w wr)) (fun v3 _ => n - (intOf v3).toNat)
 case atStart => exact ⟨0, Nat.zero_le _, rfl, hid (Below.refl _ _)⟩
 case round =>
   obtain ⟨i, hi, rfl, HB⟩ := hrel
   by_cases hlt : i < n
   · have hiz : (i : Int) < (n : Int) := by omega
     obtain ⟨g, off, cs2, rfl, h8, hrg, hcall⟩ := HK.out i hlt wr HB.out
     have HCL := hid hcall
     have HRG := hid hrg
     have HI2 := hid (HIN.out cs2 h8)
     clear hcall hrg h8
     go_wp2_with (first
       | (refine ldJ (.tmp 12) g (off + i * 8) cs2 HRG.out HI2.out ?_))
     refine HCL.out.mono ?_
     rintro e w3 ⟨⟨z, hz, rfl⟩, hb⟩
     have HB3 := hid (HB.out.call hb)
     clear hb hz
     by_cases hz2 : (z : Int) > 20000
     · go_wp2_with fail
       go_ret
       exact ⟨⟨false, rfl⟩, HB3.out⟩
     · go_wp2_with fail
       exact ⟨⟨i + 1, by omega, by go_num, HB3⟩, by simp [intOf]; omega⟩
   · obtain rfl : i = n := by omega
     go_wp2_with fail
     go_ret
     exact ⟨⟨true, rfl⟩, HB.out⟩
theorem flat_esc_le (s : List UInt8) : (s.flatMap escL).length <= 6 * s.length := by
 induction s with
 | nil => simp
 | cons b s ih =>
   have := escL_len b
   rw [List.flatMap_cons, List.length_append, List.length_cons]; omega
theorem quoteL_le (s : List UInt8) : (quoteL s).length <= 6 * s.length + 2 := by
 have := flat_esc_le s
 unfold quoteL
 simp only [List.length_append, List.length_cons, List.length_nil]; omega
theorem txL_le (d : Dec) : (txL d).length <= 6000 := by
 unfold txL
 split
 · rename_i hm
   unfold mayB at hm
   unfold textL
   split
   · simp
   · rename_i hd0
     rw [if_neg hd0] at hm
     simp only [Bool.and_eq_true, decide_eq_true_eq] at hm
     obtain ⟨⟨⟨⟨⟨h1, h2⟩, h3⟩, _⟩, _⟩, _⟩ := hm
     have hb : (bodyL d.digits d.exp).length <= 5000 := by
       unfold bodyL
       simp only
       split
       · rw [List.length_append]; unfold zeros; rw [List.length_replicate]; omega
       · split
         · simp only [List.length_append, List.length_cons, List.length_take, List.length_drop]; omega
         · split
           · simp only [List.length_append, List.length_cons]; unfold zeros; rw [List.length_replicate]; omega
           · have := Lib.itoa_length_le (d.digits.length + d.exp - 1) (by omega) (by omega)
             simp only [List.length_append, List.length_cons, List.length_take]
             split <;> simp only [List.length_cons, List.length_drop, List.length_nil] <;> omega
     rw [List.length_append]
     split <;> simp <;> omega
 · simp
mutual
theorem tell_w : ∀ v : JV, (tellJ v).length + 6001 <= 6001 * wJ v
 | .mk k b d t l ns => by
   have h1 := tellKids_w 4 l 0 []
   have h2 := tellKids_w k l 0 ns
   have h3 := txL_le d
   have h4 := quoteL_le t
   rw [tellJ, wJ]
   rw [wNames] at h1
   have e1 : wNull.length = 4 := rfl
   have e2 : wTrue.length = 4 := rfl
   have e3 : wFalse.length = 5 := rfl
   split
   · omega
   · split
     · split <;> omega
     · split
       · omega
       · split
         · omega
         · split
           · simp only [List.length_append, List.length_cons, List.length_nil]; omega
           · simp only [List.length_append, List.length_cons, List.length_nil]; omega
theorem tellKids_w (k : Int) : ∀ (l : List JV) (i : Nat) (ns : List (List UInt8)), (tellKids k i l ns).length <= 6001 * (wKids l + wNames ns)
 | [], i, ns => by rw [tellKids]; simp
 | x :: l, i, ns => by
   have h1 := tell_w x
   have h2 := tellKids_w k l (i + 1) ns.tail
   have h3 : (if k = 5 then quoteL (ns.headD []) ++ [58] else []).length <= 6001 * (wNames ns - wNames ns.tail) + 3 /\ wNames ns.tail <= wNames ns := by
     cases ns with
     | nil =>
       refine ⟨?_, Nat.le_refl _⟩
       have h9 : quoteL ([] : List UInt8) = [34, 34] := rfl
       split
       · simp [h9]
       · simp
     | cons n ns =>
       have h4 := quoteL_le n
       simp only [List.headD_cons, List.tail_cons]
       rw [wNames]
       refine ⟨?_, by omega⟩
       split
       · simp only [List.length_append, List.length_cons, List.length_nil]; omega
       · simp
   have h5 : (if i = 0 then ([] : List UInt8) else [44]).length <= 1 := by split <;> simp
   rw [tellKids, wKids]
   simp only [List.length_append]
   omega
end
theorem tellKids_take_w (k : Int) (l : List JV) (ns : List (List UInt8)) (i : Nat) : (tellKids k 0 (l.take i) ns).length <= 6001 * (wKids l + wNames ns) := by
 obtain ⟨r, hr⟩ := tellKids_pre k l 0 ns i
 have h1 := tellKids_w k l 0 ns
 rw [hr, List.length_append] at h1
 omega
open Go.RowKit
def GrwPost (e : TypeId) (size : Nat) (w : World) (en : Ending) (w' : World) : Prop := ∃ v, en = .returned v /\ Lies w' (fun q => w.heap.size <= q) e size v 0 [] /\ Below w.heap.size w w'
theorem infoStrG : (Tryz.prog.info? 9).map (fun i => (i.zero, i.size, i.bytes)) = some (some (.string ⟨#[]⟩), 1, 16) := by kernel_rfl
theorem grow_run {t tn e : TypeId} {kn : IntKind} {z : Value} {size bytes : Nat} (ht : Tryz.prog.underlying t = some (.slice e)) (htn : Tryz.prog.underlying tn = some (.int kn)) (hi : (Tryz.prog.info? e).map (fun i => (i.zero, i.size, i.bytes)) = some (some z, size, bytes)) (hzs : z.cells.size = size)
   (n : Nat) (h0 : 0 < n) (hs : 0 < size) (hn : n <= 1000000000000) (hb : bytes <= 112) (w : World) :
   ∃ c X, n <= c /\ c <= maxLen /\ X.size = c * size /\ ∀ ty, (Builtin.append_ #[t, tn] ty #[.slice none 0 0, .int .i64 n]).run Tryz.prog w = .ok (.slice (some ⟨w.heap.size, 0, none⟩) n c) (w.drew.alloc (.cells X e)) := by
 obtain ⟨i, hi, hz, hs1, hb1⟩ := info_parts hi
 have hnb : n * i.bytes <= 1000000000000 * 112 := Nat.mul_le_mul hn (by omega)
 have hge := grownCap_ge w n 0 e
 refine ⟨grownCap w n 0 e, Builtin.zeroCells z.cells n ++ Builtin.zeroCells z.cells (grownCap w n 0 e - n), hge, grownCap_le_maxLen w n 0 e (by unfold maxLen; omega), ?_, fun ty => ?_⟩
 · rw [Array.size_append, size_zeroCells, size_zeroCells, hzs, <- Nat.add_mul]
   rw [show n + (grownCap w n 0 e - n) = grownCap w n 0 e by omega]
 · have h := Lib.run_append_grow_zeros w t tn ty e i z .i64 kn ht htn hi hz none 0 0 [] (run_firstCells_none w.drew i.size 0 0 0) n h0 (by omega) (by omega) (by omega) (by omega) (growslice_fits (by omega) (by rw [Nat.zero_add]; omega))
   simp only [Nat.zero_add] at h
   have e0 : ([] : List Value).toArray = #[] := rfl
   rw [e0, Array.empty_append] at h
   exact h
theorem grow_lies (w : World) (e : TypeId) (size c : Nat) (X : Array Value) (hc : c <= maxLen) (hX : X.size = c * size) : Lies (w.drew.alloc (.cells X e)) (fun q => w.heap.size <= q) e size (.slice (some ⟨w.heap.size, 0, none⟩) 0 c) 0 [] :=
 ⟨by simp, .inr ⟨w.heap.size, 0, c, X, rfl, Nat.le_refl _, heap_alloc_new w.drew _, Nat.zero_le _, hc, by omega, by simp⟩⟩
theorem grow_names (n : Nat) (hn : n <= 1000000000000) (w : World) : Calls Tryz.prog 66 #[.slice none 0 0, .int .i64 n] w (GrwPost 9 1 w) := by
 have h1 : ¬ ((n : Int) < 0) := by omega
 have h2 : wrap64 ((n : Int) - 0) = (n : Int) := by unfold wrap64; omega
 by_cases h0 : 0 < n
 · have h4 : (0 : Int) < (n : Int) := by omega
   obtain ⟨c, X, hc1, hc2, hX, hr⟩ := grow_run Tryz.underlying26 Tryz.underlying3 infoStrG rfl n h0 (by decide) hn (by decide) w
   have HL := hid (grow_lies w 9 1 c X hc2 hX)
   have HB : Hid (Below w.heap.size w (w.drew.alloc (.cells X 9))) := hid ((Below.refl _ _).drew.alloc (Nat.le_refl _) _)
   have HR := hid hr
   unfold maxLen at hc2
   clear hX hr
   go_enter Tryz.func66, Tryz.ntmps66
   go_wp2_with (at_builtin; refine Lib.wpList_append_run _ rfl _ _ _ _ rfl _ _ rfl rfl _ _ (HR.out _) ?_)
   go_ret
   exact ⟨_, rfl, HL.out, HB.out⟩
 · obtain rfl : n = 0 := by omega
   go_enter Tryz.func66, Tryz.ntmps66
   go_wp2
   go_ret
   exact ⟨_, rfl, Lies.empty _ _ _ _ _, Below.refl _ _⟩
theorem grow_list (n : Nat) (hn : n <= 1000000000000) (w : World) : Calls Tryz.prog 67 #[.slice none 0 0, .int .i64 n] w (GrwPost 28 8 w) := by
 have h1 : ¬ ((n : Int) < 0) := by omega
 have h2 : wrap64 ((n : Int) - 0) = (n : Int) := by unfold wrap64; omega
 by_cases h0 : 0 < n
 · have h4 : (0 : Int) < (n : Int) := by omega
   obtain ⟨c, X, hc1, hc2, hX, hr⟩ := grow_run Tryz.underlying25 Tryz.underlying3 infoJV rfl n h0 (by decide) hn (by decide) w
   have HL := hid (grow_lies w 28 8 c X hc2 hX)
   have HB : Hid (Below w.heap.size w (w.drew.alloc (.cells X 28))) := hid ((Below.refl _ _).drew.alloc (Nat.le_refl _) _)
   have HR := hid hr
   unfold maxLen at hc2
   clear hX hr
   go_enter Tryz.func67, Tryz.ntmps67
   go_wp2_with (at_builtin; refine Lib.wpList_append_run _ rfl _ _ _ _ rfl _ _ rfl rfl _ _ (HR.out _) ?_)
   go_ret
   exact ⟨_, rfl, HL.out, HB.out⟩
 · obtain rfl : n = 0 := by omega
   go_enter Tryz.func67, Tryz.ntmps67
   go_wp2
   go_ret
   exact ⟨_, rfl, Lies.empty _ _ _ _ _, Below.refl _ _⟩
end Go.Proofs.YtmhbkjjkalnggaaGreatDoor
