import Derived.Test.YtmhbkjjkalnggaaGreatDoorPt46
set_option maxRecDepth 1000000
set_option maxHeartbeats 8000000
namespace Go.Proofs.YtmhbkjjkalnggaaGreatDoor
open Go.RowKit
theorem drefDepth_ok : ∀ (n : Nat) (v : JV), SizeOf.sizeOf v <= n -> askJ v = true -> depthJ v <= 1000000 -> ∀ (F : Nat -> Prop) (cs : Array Value) (w : World), JIs w F v cs.toList ->
   Calls Tryz.prog 20 #[.agg cs] w fun e w' => e = .returned (.int .i64 (depthJ v : Nat)) /\ Below w.heap.size w w' := by
 intro n
 induction n with
 | zero => intro v hv; cases v; simp at hv
 | succ n ih =>
   intro v hv ha hd F cs w h
   obtain ⟨k, b, d, t, l, ns⟩ := v
   have hsz : ∀ x ∈ l, SizeOf.sizeOf x <= n := fun x hx => by
     have := List.sizeOf_lt_of_mem hx
     simp only [JV.mk.sizeOf_spec] at hv
     omega
   obtain ⟨_, _, hak, _, _⟩ := ask_facts ha
   have hk6 : 0 <= k /\ k <= 5 := by rcases ask_cases ha with h | h | h | h | h | h <;> (have := h.1; omega)
   unfold JIs at h
   obtain ⟨A, c, A', c', hcs, h1, h2, h3, h4, hnm, hkd⟩ := h
   have hcs' := Array.toList_inj.1 hcs
   subst hcs'
   obtain ⟨w1, hw1⟩ : ∃ w1, w1 = w.alloc (.cells (jvC k b d t (.slice A l.length c) (.slice A' ns.length c')) 28) := ⟨_, rfl⟩
   have hbox : BoxJ w w1 A A' l.length c ns.length c' k b d t := ⟨by rw [hw1]; exact Row.new _ _ _, by rw [hw1]; exact (Below.refl _ _).alloc (Nat.le_refl _) _⟩
   have HBX : Hid (∀ V, BoxJ w V A A' l.length c ns.length c' k b d t -> V.cell? ⟨w.heap.size, 0, none⟩ = some (.int .i64 k) /\ V.cell? ⟨w.heap.size, 4, none⟩ = some (.int .i64 d.exp) /\ V.cell? ⟨w.heap.size, 6, none⟩ = some (.slice A l.length c)) := hid fun V hV => ⟨hV.row.cell (i := 0) rfl, hV.row.cell (i := 4) rfl, hV.row.cell (i := 6) rfl⟩
   have HBOX := hid hbox
   by_cases hk : k = 4 ∨ k = 5
   · have hk4 : ¬ k < 4 := by omega
     have hde : depthJ (.mk k b d t l ns) = depthKids l + 1 := by rw [depthJ, if_pos hk]
     rw [hde] at hd ⊢
     have HIN : Hid (∀ x : Array Value, x.size = 8 -> (Tryz.prog.info? 28).map (·.size) = some x.size) := hid fun x hx => by rw [hx]; exact infoJ
     have IH : Hid (∀ i, i < l.length -> ∀ V, Below w.heap.size w V -> ∃ g2 off2, ∃ cs2 : Array Value, A = some ⟨g2, off2, none⟩ /\ cs2.size = 8 /\ V.rangeAt g2 (off2 + i * 8) cs2.toList /\
         Calls Tryz.prog 20 #[.agg cs2] V fun e w' => e = .returned (.int .i64 (depthJ (l.getD i JV.null) : Nat)) /\ Below V.heap.size V w') := hid fun i hi V hb => by
       obtain ⟨g2, off2, cs2, hA, h8, hj, hr⟩ := kids_cells hkd i hi
       have hm : l.getD i JV.null ∈ l := by rw [List.getD_eq_getElem?_getD, List.getElem?_eq_getElem hi]; exact List.getElem_mem _
       exact ⟨g2, off2, cs2, hA, h8, hr V hb, ih _ (hsz _ hm) (hak _ hm) (by have := depthKids_mem _ hm; omega) F cs2 V (hj.below hb)⟩
     have HT := hid (depthKids_take l)
     have HLE := hid (depthKids_le l)
     clear hsz hnm hkd hbox hv ih hcs hde hak hk6 ha hk
     unfold maxLen at h2 h4
     generalize hm : l.length = m at *
     have HM := hid hm
     clear hm
     generalize ns.length = nn at *
     go_enter Tryz.func20, Tryz.ntmps20
     go_upto_region 1 with fail
     rw [<- hw1]
     clear hw1
     obtain ⟨x0, _, x6⟩ := HBX.out w1 HBOX.out
     go_wp2_with fail
     clear x0 x6
     go_loopw [3, 4] (fun v3 v4 wr => ∃ i y : Nat, i <= m /\ v4 = .int .i64 (i : Int) /\ v3 = .int .i64 (y : Int) /\ y <= 1000000 /\ Hid (y = depthKids (l.take i)) /\ Hid (BoxJ w wr A A' m c nn c' k b d t)) (fun _ v4 _ => m - (intOf v4).toNat)
     case atStart => exact ⟨0, 0, Nat.zero_le _, rfl, rfl, by omega, hid (by rw [List.take_zero, depthKids]), HBOX⟩
     case round =>
       clear HBOX
       obtain ⟨i, y, hi, rfl, rfl, hy, HY, HBOX⟩ := hrel
       obtain ⟨_, _, x6⟩ := HBX.out wr HBOX.out
       by_cases hlt : i < m
       · have hiz : (i : Int) < (m : Int) := by omega
         obtain ⟨g2, off2, cs2, rfl, h8, hrg, hcall⟩ := IH.out i hlt wr HBOX.out.below
         have HT3 : Hid (depthKids (l.take (i + 1)) = max y (depthJ (l.getD i JV.null))) := hid (by rw [HT.out i hlt, <- HY.out])
         have HL2 := HLE.out (i + 1)
         rw [HT3.out] at HL2
         have HK := hid hcall
         have HRG := hid hrg
         have HI2 := hid (HIN.out cs2 h8)
         clear hcall hrg h8
         generalize depthJ (l.getD i JV.null) = z at *
         have hz : max y z <= 1000000 := by omega
         go_wp2_with (first
           | (refine ldJ (.tmp 19) g2 (off2 + i * 8) cs2 HRG.out HI2.out ?_))
         refine HK.out.mono ?_
         rintro e w3 ⟨rfl, hb⟩
         have HB3 := hid (HBOX.out.call hb)
         clear hb
         go_wp2_with fail
         have hmx : max (y : Int) (z : Int) = ((max y z : Nat) : Int) := by omega
         exact ⟨⟨i + 1, max y z, by omega, by go_num, by first | rfl | (rw [<- hmx]) | (simp only [Value.int.injEq, true_and]; omega), hz, hid HT3.out.symm, HB3⟩, by simp [intOf]; omega⟩
       · obtain rfl : i = m := by omega
         have HYF : Hid (y = depthKids l) := hid (by rw [HY.out, List.take_of_length_le (by rw [HM.out]; exact Nat.le_refl _)])
         go_wp2_with fail
         go_ret
         exact ⟨by rw [<- HYF.out]; rfl, HBOX.out.below⟩
   · have hde : depthJ (.mk k b d t l ns) = 0 := by rw [depthJ, if_neg hk]
     rw [hde]
     have hk4 : k < 4 := by omega
     clear hsz hnm hkd hbox hv ih hcs hde hak hk6 ha hk hd
     generalize l.length = m at *
     generalize ns.length = nn at *
     go_enter Tryz.func20, Tryz.ntmps20
     go_upto_region 1 with fail
     rw [<- hw1]
     clear hw1
     obtain ⟨x0, _, _⟩ := HBX.out w1 HBOX.out
     go_wp2
     go_ret
     exact ⟨rfl, HBOX.out.below⟩
set_option maxRecDepth 100000
structure VarAt (W : World) (g : Nat) (v : JV) (cs : Array Value) : Prop where
 row : Row W g 28 cs
 is : JIs W (fun _ => True) v cs.toList
 size : cs.size = 8
theorem VarAt.call {W W' : World} {g : Nat} {v : JV} {cs : Array Value} (h : VarAt W g v cs) (hb : Below W.heap.size W W') : VarAt W' g v cs := ⟨h.row.call hb, h.is.below hb, h.size⟩
theorem VarAt.range {W : World} {g : Nat} {v : JV} {cs : Array Value} (h : VarAt W g v cs) : W.rangeAt g 0 cs.toList := fun q u hu => by rw [Nat.zero_add]; exact h.row.cell (by simpa using hu)
theorem dcheck_ok (F : Nat -> Prop) (cs : Array Value) (v : JV) (w : World) (h : JIs w F v cs.toList) (hs : SmallJ v) (hd : depthJ v <= 1000000) (hw : wJ v <= 2000000) (hT : PowTab w) :
   Calls Tryz.prog 16 #[.agg cs] w fun e w' => e = .returned (.int .i64 (checkJ v)) /\ Below w.heap.size w w' := by
 have h8 := size_of_jis h
 obtain ⟨w1, hw1⟩ : ∃ w1, w1 = w.alloc (.cells cs 28) := ⟨_, rfl⟩
 have b1 : Below w.heap.size w w1 := by rw [hw1]; exact (Below.refl _ _).alloc (Nat.le_refl _) _
 have r1 : Row w1 w.heap.size 28 cs := by rw [hw1]; exact Row.new _ _ _
 have HRA : Hid (∀ V, Below w1.heap.size w1 V -> V.rangeAt w.heap.size 0 cs.toList) := hid (fun V hb q u hu => by rw [Nat.zero_add]; exact (r1.call hb).cell (by simpa using hu))
 have HB1 := hid b1
 have HIN : Hid ((Tryz.prog.info? 28).map (·.size) = some cs.size) := hid (by rw [h8]; exact infoJ)
 have HG := hid (fun V (hb : Below w1.heap.size w1 V) => drefGood_ok _ v (Nat.le_refl _) hs F cs V ((h.below b1).below hb))
 have HD : Hid (askJ v = true -> ∀ V, Below w1.heap.size w1 V -> Calls Tryz.prog 20 #[.agg cs] V fun e w' => e = .returned (.int .i64 (depthJ v : Nat)) /\ Below V.heap.size V w') := hid fun ha V hb => drefDepth_ok _ v (Nat.le_refl _) ha hd F cs V ((h.below b1).below hb)
 have HX : Hid (askJ v = true -> ∀ V, Below w1.heap.size w1 V -> Calls Tryz.prog 18 #[.agg cs] V fun e w' => e = .returned (.string (bs (tellJ v))) /\ Below V.heap.size V w') := hid fun ha V hb => dtext_ok _ v (Nat.le_refl _) ha hw F cs V ((h.below b1).below hb) (hT.below (b1.call hb))
 have HC : Hid (checkJ v = if askJ v = false then 2 else if 64 < depthJ v then 182 else if 1048576 < (tellJ v).length then 3 else 0) := hid rfl
 have hsz := bs_size (tellJ v)
 have hlt : (tellJ v).length <= 20000000000 := by have := tell_w v; omega
 clear h hs hT h8 b1 r1
 generalize checkJ v = r at *
 generalize tellJ v = tx at *
 generalize askJ v = a at *
 generalize depthJ v = dd at *
 go_enter Tryz.func16, Tryz.ntmps16
 go_upto_region 1 with fail
 rw [<- hw1]
 clear hw1
 have HG0 := hid (HRA.out w1 (Below.refl _ _))
 go_wp2_with (first
   | (refine ldJ (.tmp 1) w.heap.size 0 cs HG0.out HIN.out ?_))
 clear HG0
 refine (HG.out w1 (Below.refl _ _)).mono ?_
 rintro e w2 ⟨rfl, hb⟩
 have HB2 := hid hb
 clear hb
 cases a with
 | false =>
   have hr : r = 2 := by rw [HC.out, if_pos rfl]
   subst hr
   go_wp2_with fail
   go_ret
   exact ⟨rfl, HB1.out.call HB2.out⟩
 | true =>
   have HG1 := hid (HRA.out w2 HB2.out)
   go_wp2_with (first
     | (refine ldJ (.tmp 1) w.heap.size 0 cs HG1.out HIN.out ?_))
   clear HG1
   refine (HD.out (by trivial) w2 HB2.out).mono ?_
   rintro e w3 ⟨rfl, hb⟩
   have HB3 := hid (HB2.out.call hb)
   clear hb
   by_cases hdd : 64 < dd
   · have hr : r = 182 := by rw [HC.out, if_neg (by decide), if_pos hdd]
     subst hr
     have hgt : (dd : Int) > 64 := by omega
     go_wp2_with fail
     go_ret
     exact ⟨rfl, HB1.out.call HB3.out⟩
   · have hgt : ¬ (dd : Int) > 64 := by omega
     have HG2 := hid (HRA.out w3 HB3.out)
     go_wp2_with (first
       | (refine ldJ (.tmp 1) w.heap.size 0 cs HG2.out HIN.out ?_))
     clear HG2
     refine (HX.out (by trivial) w3 HB3.out).mono ?_
     rintro e w4 ⟨rfl, hb⟩
     have HB4 := hid (HB3.out.call hb)
     clear hb
     by_cases hll : 1048576 < tx.length
     · have hr : r = 3 := by rw [HC.out, if_neg (by decide), if_neg hdd, if_pos hll]
       subst hr
       have hgt2 : (tx.length : Int) > 1048576 := by omega
       go_wp2_with fail
       go_ret
       exact ⟨rfl, HB1.out.call HB4.out⟩
     · have hr : r = 0 := by rw [HC.out, if_neg (by decide), if_neg hdd, if_neg hll]
       subst hr
       have hgt2 : ¬ (tx.length : Int) > 1048576 := by omega
       go_wp2_with fail
       go_ret
       exact ⟨rfl, HB1.out.call HB4.out⟩
def downN (n : List UInt8) (N : List (List UInt8)) : Nat -> Nat
 | 0 => 0
 | k + 1 => if n < N.getD k [] then downN n N k else k + 1
def placeN (obj : Bool) (n : List UInt8) (N : List (List UInt8)) (m : Nat) : Nat := if obj = true then downN n N m else m
def stS (obj : Bool) (l : List JV) (ns : List (List UInt8)) : Nat -> List JV × List (List UInt8)
 | 0 => ([], [])
 | i + 1 =>
   let p := stS obj l ns i
   let k := placeN obj (ns.getD i []) p.2 p.1.length
   (p.1.take k ++ l.getD i JV.null :: p.1.drop k, if obj = true then p.2.take k ++ ns.getD i [] :: p.2.drop k else p.2)
mutual
def sortJ : JV -> JV
 | .mk k b d t l ns => .mk k b d t (stS (k == 5) (sortKids l) ns l.length).1 (stS (k == 5) (sortKids l) ns l.length).2
def sortKids : List JV -> List JV
 | [] => []
 | x :: l => sortJ x :: sortKids l
end
theorem sortKids_map : ∀ l : List JV, sortKids l = l.map sortJ
 | [] => by rw [sortKids]; rfl
 | x :: l => by rw [sortKids, sortKids_map l]; rfl
theorem sortKids_len (l : List JV) : (sortKids l).length = l.length := by rw [sortKids_map, List.length_map]
theorem sortKids_getD (l : List JV) (i : Nat) (hi : i < l.length) : (sortKids l).getD i JV.null = sortJ (l.getD i JV.null) := by
 rw [sortKids_map, List.getD_eq_getElem?_getD, List.getElem?_map, List.getD_eq_getElem?_getD, List.getElem?_eq_getElem hi]; rfl
theorem downN_le (n : List UInt8) (N : List (List UInt8)) : ∀ k, downN n N k <= k
 | 0 => Nat.le_refl _
 | k + 1 => by
   rw [downN]; split
   · exact Nat.le_succ_of_le (downN_le n N k)
   · exact Nat.le_refl _
theorem downN_above (n : List UInt8) (N : List (List UInt8)) : ∀ k j, downN n N k <= j -> j < k -> n < N.getD j []
 | 0, j, _, h => by omega
 | k + 1, j, h1, h2 => by
   rw [downN] at h1
   split at h1
   · rename_i hlt
     by_cases e : j = k
     · rw [e]; exact hlt
     · exact downN_above n N k j h1 (by omega)
   · omega
theorem downN_at (n : List UInt8) (N : List (List UInt8)) : ∀ k, downN n N k = 0 ∨ ¬ n < N.getD (downN n N k - 1) []
 | 0 => .inl rfl
 | k + 1 => by
   rw [downN]; split
   · exact downN_at n N k
   · rename_i h; exact .inr h
theorem placeN_le (obj : Bool) (n : List UInt8) (N : List (List UInt8)) (m : Nat) : placeN obj n N m <= m := by
 unfold placeN; split
 · exact downN_le _ _ _
 · exact Nat.le_refl _
theorem stS_len (obj : Bool) (l : List JV) (ns : List (List UInt8)) : ∀ i, (stS obj l ns i).1.length = i /\ (stS obj l ns i).2.length = if obj = true then i else 0
 | 0 => ⟨rfl, by rw [stS]; split <;> rfl⟩
 | i + 1 => by
   obtain ⟨h1, h2⟩ := stS_len obj l ns i
   have hk := placeN_le obj (ns.getD i []) (stS obj l ns i).2 (stS obj l ns i).1.length
   rw [stS]
   refine ⟨?_, ?_⟩
   · simp only [List.length_append, List.length_take, List.length_cons, List.length_drop]; omega
   · by_cases ho : obj = true
     · rw [if_pos ho] at h2
       simp only [if_pos ho, List.length_append, List.length_take, List.length_cons, List.length_drop]; omega
     · rw [if_neg ho] at h2
       simp only [if_neg ho]; exact h2
theorem stS_list (l : List JV) (ns : List (List UInt8)) : ∀ i, i <= l.length -> stS false l ns i = (l.take i, [])
 | 0, _ => by rw [stS, List.take_zero]
 | i + 1, h => by
   rw [stS, stS_list l ns i (by omega)]
   simp only [placeN, Bool.false_eq_true, if_false, List.take_length, List.drop_length]
   rw [List.take_succ_eq_append_getElem (by omega : i < l.length), List.getD_eq_getElem?_getD, List.getElem?_eq_getElem (by omega : i < l.length)]; rfl
def UpN (N : List (List UInt8)) : Prop := N.Pairwise (· < ·)
theorem up_insert {N : List (List UInt8)} {n : List UInt8} (h : UpN N) (hn : n ∉ N) : UpN (N.take (downN n N N.length) ++ n :: N.drop (downN n N N.length)) := by
 unfold UpN at *
 have hsp := List.pairwise_append.1 (by rw [List.take_append_drop]; exact h : (N.take (downN n N N.length) ++ N.drop (downN n N N.length)).Pairwise (· < ·))
 have hk := downN_le n N N.length
 have above : ∀ x ∈ N.drop (downN n N N.length), n < x := by
   intro x hx
   obtain ⟨j, hj, rfl⟩ := List.mem_iff_getElem.1 hx
   rw [List.length_drop] at hj
   have := downN_above n N N.length (downN n N N.length + j) (by omega) (by omega)
   rw [List.getD_eq_getElem?_getD, List.getElem?_eq_getElem (by omega)] at this
   rw [List.getElem_drop]; exact this
 have under : ∀ x ∈ N.take (downN n N N.length), x < n := by
   intro x hx
   obtain ⟨j, hj, rfl⟩ := List.mem_iff_getElem.1 hx
   rw [List.length_take] at hj
   rw [List.getElem_take]
   have hj2 : j < N.length := by omega
   rcases downN_at n N N.length with h0 | h0
   · omega
   · rw [List.getD_eq_getElem?_getD, List.getElem?_eq_getElem (by omega)] at h0
     have hle := List.not_lt.1 h0
     have hlt : N[downN n N N.length - 1] < n := by
       rcases List.le_iff_lt_or_eq.1 hle with h | h
       · exact h
       · exact absurd (h ▸ List.getElem_mem _) hn
     by_cases e : j = downN n N N.length - 1
     · simp only [e]; exact hlt
     · exact List.lt_trans (List.pairwise_iff_getElem.1 h j _ hj2 (by omega) (by omega)) hlt
 refine List.pairwise_append.2 ⟨hsp.1, List.pairwise_cons.2 ⟨above, hsp.2.1⟩, fun a ha b hb => ?_⟩
 rcases List.mem_cons.1 hb with rfl | hb
 · exact under a ha
 · exact hsp.2.2 a ha b hb
theorem mem_insert {α : Type} (L : List α) (x y : α) (k : Nat) : y ∈ L.take k ++ x :: L.drop k ↔ y = x ∨ y ∈ L := by
 have : y ∈ L ↔ y ∈ L.take k ∨ y ∈ L.drop k := by rw [<- List.mem_append, List.take_append_drop]
 rw [List.mem_append, List.mem_cons, this]
 constructor
 · rintro (h | h | h)
   · exact .inr (.inl h)
   · exact .inl h
   · exact .inr (.inr h)
 · rintro (h | h | h)
   · exact .inr (.inl h)
   · exact .inl h
   · exact .inr (.inr h)
theorem stS_obj (l : List JV) (ns : List (List UInt8)) (hn : ns.Nodup) (hl : ns.length = l.length) : ∀ i, i <= l.length ->
   UpN (stS true l ns i).2 /\ ∀ n x, (n, x) ∈ (stS true l ns i).2.zip (stS true l ns i).1 ↔ ∃ j, j < i /\ n = ns.getD j [] /\ x = l.getD j JV.null
 | 0, _ => ⟨List.Pairwise.nil, fun n x => by rw [stS]; simp⟩
 | i + 1, h => by
   obtain ⟨h1, h2⟩ := stS_obj l ns hn hl i (by omega)
   obtain ⟨l1, l2⟩ := stS_len true l ns i
   rw [if_pos rfl] at l2
   have hmem : ∀ n, n ∈ (stS true l ns i).2 -> ∃ j, j < i /\ n = ns.getD j [] := by
     intro n hnm
     obtain ⟨q, hq, rfl⟩ := List.mem_iff_getElem.1 hnm
     have : ((stS true l ns i).2[q], (stS true l ns i).1[q]'(by omega)) ∈ (stS true l ns i).2.zip (stS true l ns i).1 := by
       have e : ((stS true l ns i).2.zip (stS true l ns i).1)[q]'(by rw [List.length_zip]; omega) = ((stS true l ns i).2[q], (stS true l ns i).1[q]'(by omega)) := List.getElem_zip
       rw [<- e]
       exact List.getElem_mem _
     obtain ⟨j, hj, e, _⟩ := (h2 _ _).1 this
     exact ⟨j, hj, e⟩
   have hni : ns.getD i [] ∉ (stS true l ns i).2 := by
     intro hx
     obtain ⟨j, hj, e⟩ := hmem _ hx
     rw [List.getD_eq_getElem?_getD, List.getElem?_eq_getElem (by omega), List.getD_eq_getElem?_getD, List.getElem?_eq_getElem (by omega)] at e
     have := (List.getElem_inj hn).1 e
     omega
   have hz : (stS true l ns (i + 1)).2.zip (stS true l ns (i + 1)).1 = ((stS true l ns i).2.zip (stS true l ns i).1).take (downN (ns.getD i []) (stS true l ns i).2 (stS true l ns i).1.length) ++ (ns.getD i [], l.getD i JV.null) :: ((stS true l ns i).2.zip (stS true l ns i).1).drop (downN (ns.getD i []) (stS true l ns i).2 (stS true l ns i).1.length) := by
     rw [stS]
     simp only [placeN, if_true]
     rw [List.zip_append (by rw [List.length_take, List.length_take]; omega), List.zip_cons_cons]
     simp only [List.zip_eq_zipWith, List.take_zipWith, List.drop_zipWith]
   refine ⟨?_, fun n x => ?_⟩
   · rw [stS]
     simp only [placeN, if_true]
     rw [show (stS true l ns i).1.length = (stS true l ns i).2.length by omega]
     exact up_insert h1 hni
   · rw [hz, mem_insert, h2]
     constructor
     · rintro (h | ⟨j, hj, h⟩)
       · injection h with h3 h4
         exact ⟨i, by omega, h3, h4⟩
       · exact ⟨j, by omega, h⟩
     · rintro ⟨j, hj, h3, h4⟩
       by_cases e : j = i
       · left; rw [h3, h4, e]
       · exact .inr ⟨j, by omega, h3, h4⟩
theorem up_sub_len : ∀ (C A : List (List UInt8 × JV)), (C.map (·.1)).Pairwise (· < ·) -> (A.map (·.1)).Pairwise (· < ·) -> (∀ p ∈ A, p ∈ C) -> A.length <= C.length
 | [], A, _, _, h => by
   cases A with
   | nil => exact Nat.le_refl _
   | cons a A => exact absurd (h a (.head _)) (by simp)
 | c :: C, [], _, _, _ => Nat.zero_le _
 | c :: C, a :: A, hc, ha, h => by
   rw [List.map_cons, List.pairwise_cons] at hc ha
   have hA : ∀ p ∈ A, p ∈ C := by
     intro p hp
     rcases List.mem_cons.1 (h p (.tail _ hp)) with e | e
     · exfalso
       have h1 := ha.1 p.1 (List.mem_map_of_mem hp)
       rcases List.mem_cons.1 (h a (.head _)) with e2 | e2
       · rw [e, e2] at h1; exact List.lt_irrefl _ h1
       · have h3 := hc.1 a.1 (List.mem_map_of_mem e2)
         rw [e] at h1
         exact List.lt_irrefl _ (List.lt_trans h1 h3)
     · exact e
   have := up_sub_len C A hc.2 ha.2 hA
   simp only [List.length_cons]; omega
theorem up_eq : ∀ (A B : List (List UInt8 × JV)), (A.map (·.1)).Pairwise (· < ·) -> (B.map (·.1)).Pairwise (· < ·) -> (∀ p ∈ A, p ∈ B) -> A.length = B.length -> A = B
 | [], [], _, _, _, _ => rfl
 | [], b :: B, _, _, _, h => by simp at h
 | a :: A, [], _, _, _, h => by simp at h
 | a :: A, b :: B, ha, hb, h, hl => by
   have ha2 := ha; have hb2 := hb
   rw [List.map_cons, List.pairwise_cons] at ha hb
   rcases List.mem_cons.1 (h a (.head _)) with e | e
   · have hA : ∀ p ∈ A, p ∈ B := by
       intro p hp
       rcases List.mem_cons.1 (h p (.tail _ hp)) with e2 | e2
       · have h1 := ha.1 p.1 (List.mem_map_of_mem hp)
         rw [e2, e] at h1
         exact absurd h1 (List.lt_irrefl _)
       · exact e2
     rw [e, up_eq A B ha.2 hb.2 hA (by simpa using hl)]
   · exfalso
     have hab := hb.1 a.1 (List.mem_map_of_mem e)
     have hA : ∀ p ∈ a :: A, p ∈ B := by
       intro p hp
       rcases List.mem_cons.1 (h p hp) with e2 | e2
       · rcases List.mem_cons.1 hp with e3 | e3
         · rw [e3]; exact e
         · have h1 := ha.1 p.1 (List.mem_map_of_mem e3)
           rw [e2] at h1
           exact absurd (List.lt_trans h1 hab) (List.lt_irrefl _)
       · exact e2
     have := up_sub_len B (a :: A) hb.2 ha2 hA
     simp only [List.length_cons] at this hl
     omega
theorem getD_mem {α : Type} {l : List α} {i : Nat} (z : α) (h : i < l.length) : l.getD i z ∈ l := by rw [List.getD_eq_getElem?_getD, List.getElem?_eq_getElem h]; exact List.getElem_mem _
theorem idxOf_getD {l : List (List UInt8)} (hn : l.Nodup) {j : Nat} (hj : j < l.length) : l.idxOf (l.getD j []) = j := by
 have e : l.getD j [] = l[j] := by rw [List.getD_eq_getElem?_getD, List.getElem?_eq_getElem hj]; rfl
 rw [e, hn.idxOf_getElem j hj]
theorem sorted_obj_iff (l l' : List JV) (ns ns' : List (List UInt8)) (hn : ns.Nodup) (hn' : ns'.Nodup) (hl : ns.length = l.length) (hl' : ns'.length = l'.length) (hll : l.length = l'.length) :
   stS true l ns l.length = stS true l' ns' l'.length ↔ ∀ i, i < l.length -> ns.getD i [] ∈ ns' /\ l.getD i JV.null = l'.getD (ns'.idxOf (ns.getD i [])) JV.null := by
 obtain ⟨u1, m1⟩ := stS_obj l ns hn hl l.length (Nat.le_refl _)
 obtain ⟨u2, m2⟩ := stS_obj l' ns' hn' hl' l'.length (Nat.le_refl _)
 obtain ⟨a1, a2⟩ := stS_len true l ns l.length
 obtain ⟨b1, b2⟩ := stS_len true l' ns' l'.length
 rw [if_pos rfl] at a2 b2
 constructor
 · intro h i hi
   rw [h] at m1
   obtain ⟨j, hj, e1, e2⟩ := (m2 _ _).1 ((m1 (ns.getD i []) (l.getD i JV.null)).2 ⟨i, hi, rfl, rfl⟩)
   refine ⟨by rw [e1]; exact getD_mem _ (by omega), ?_⟩
   rw [e1, idxOf_getD hn' (by omega), e2]
 · intro h
   have hz : (stS true l ns l.length).2.zip (stS true l ns l.length).1 = (stS true l' ns' l'.length).2.zip (stS true l' ns' l'.length).1 := by
     refine up_eq _ _ ?_ ?_ ?_ ?_
     · rw [List.map_fst_zip (by omega)]; exact u1
     · rw [List.map_fst_zip (by omega)]; exact u2
     · rintro ⟨n, x⟩ hp
       obtain ⟨i, hi, rfl, rfl⟩ := (m1 n x).1 hp
       obtain ⟨q1, q2⟩ := h i hi
       have hidx := List.idxOf_lt_length_of_mem q1
       refine (m2 _ _).2 ⟨ns'.idxOf (ns.getD i []), by omega, ?_, q2⟩
       rw [List.getD_eq_getElem?_getD (l := ns'), List.getElem?_eq_getElem hidx]
       exact (List.getElem_idxOf hidx).symm
     · rw [List.length_zip, List.length_zip]; omega
   have e1 := congrArg (List.map (·.1)) hz
   have e2 := congrArg (List.map (·.2)) hz
   rw [List.map_fst_zip (by omega), List.map_fst_zip (by omega)] at e1
   rw [List.map_snd_zip (by omega), List.map_snd_zip (by omega)] at e2
   exact Prod.ext e2 e1
theorem eq_sorted : ∀ (n : Nat) (a : JV), SizeOf.sizeOf a <= n -> ∀ b : JV, askJ a = true -> askJ b = true -> (eqJ a b = true ↔ sortJ a = sortJ b) := by
 intro n
 induction n with
 | zero => intro a ha; cases a; simp at ha
 | succ n ih =>
   intro a ha b h1 h2
   obtain ⟨k, bb, d, t, l, ns⟩ := a
   obtain ⟨k', bb', d', t', l', ns'⟩ := b
   obtain ⟨n1, n2, n3, n4, n5⟩ := ask_facts h1
   obtain ⟨o1, o2, o3, o4, o5⟩ := ask_facts h2
   have hsz : ∀ x ∈ l, SizeOf.sizeOf x <= n := fun x hx => by
     have := List.sizeOf_lt_of_mem hx
     simp only [JV.mk.sizeOf_spec] at ha
     omega
   have hkid : ∀ i j, i < l.length -> j < l'.length -> (eqJ (l.getD i JV.null) (l'.getD j JV.null) = true ↔ (sortKids l).getD i JV.null = (sortKids l').getD j JV.null) := fun i j hi hj => by
     rw [sortKids_getD l i hi, sortKids_getD l' j hj]
     exact ih _ (hsz _ (getD_mem _ hi)) _ (n3 _ (getD_mem _ hi)) (o3 _ (getD_mem _ hj))
   rw [eqJ, sortJ, sortJ]
   simp only [JV.kind, JV.bool, JV.num, JV.text, JV.list, JV.names, Bool.and_eq_true, beq_iff_eq, JV.mk.injEq]
   have hlen : (stS (k == 5) (sortKids l) ns l.length).1 = (stS (k' == 5) (sortKids l') ns' l'.length).1 -> l.length = l'.length := fun h => by
     have := congrArg List.length h
     rwa [(stS_len _ _ _ _).1, (stS_len _ _ _ _).1] at this
   have hd : d = d' ↔ (d.neg = d'.neg /\ d.digits = d'.digits) /\ d.exp = d'.exp := by
     constructor
     · rintro rfl; exact ⟨⟨rfl, rfl⟩, rfl⟩
     · rintro ⟨⟨q1, q2⟩, q3⟩
       obtain ⟨x1, x2, x3⟩ := d
       obtain ⟨y1, y2, y3⟩ := d'
       simp only at q1 q2 q3
       rw [q1, q2, q3]
   have core : k = k' -> l.length = l'.length -> (eqKids (k == 5) ns ns' l' 0 l = true ↔ (stS (k == 5) (sortKids l) ns l.length).1 = (stS (k' == 5) (sortKids l') ns' l'.length).1 /\ (stS (k == 5) (sortKids l) ns l.length).2 = (stS (k' == 5) (sortKids l') ns' l'.length).2) := by
     intro hk hl
     subst hk
     rw [eqKids_at]
     by_cases hk5 : k = 5
     · have e5 : (k == 5) = true := by rw [hk5]; rfl
       rw [e5]
       have := sorted_obj_iff (sortKids l) (sortKids l') ns ns' n1 o1 (by rw [sortKids_len]; exact n2 hk5) (by rw [sortKids_len]; exact o2 hk5) (by rw [sortKids_len, sortKids_len]; exact hl)
       rw [sortKids_len, sortKids_len, Prod.ext_iff] at this
       rw [this]
       have hone : ∀ i, i < l.length -> (atJ true ns ns' l l' i = true ↔ ns.getD i [] ∈ ns' /\ (sortKids l).getD i JV.null = (sortKids l').getD (ns'.idxOf (ns.getD i [])) JV.null) := by
         intro i hi
         unfold atJ placeJ
         rw [if_pos rfl]
         by_cases hm : ns.getD i [] ∈ ns'
         · rw [if_pos (List.contains_iff_mem.2 hm)]
           have hidx := List.idxOf_lt_length_of_mem hm
           show eqJ (l.getD i JV.null) (l'.getD (ns'.idxOf (ns.getD i [])) JV.null) = true ↔ _
           have hq := hkid i (ns'.idxOf (ns.getD i [])) hi (by rw [<- o2 hk5]; exact hidx)
           exact ⟨fun h => ⟨hm, hq.1 h⟩, fun h => hq.2 h.2⟩
         · rw [if_neg (fun h => hm (List.contains_iff_mem.1 h))]
           exact ⟨fun h => (by cases h), fun h => absurd h.1 hm⟩
       exact ⟨fun h i hi => (hone i hi).1 (h i hi), fun h i hi => (hone i hi).2 (h i hi)⟩
     · have e5 : (k == 5) = false := by rw [beq_eq_false_iff_ne]; exact hk5
       rw [e5, stS_list _ _ _ (by rw [sortKids_len]; exact Nat.le_refl _), stS_list _ _ _ (by rw [sortKids_len]; exact Nat.le_refl _)]
       simp only [and_true]
       rw [List.take_of_length_le (by rw [sortKids_len]; exact Nat.le_refl _), List.take_of_length_le (by rw [sortKids_len]; exact Nat.le_refl _)]
       have hone : ∀ i, i < l.length -> (atJ false ns ns' l l' i = true ↔ (sortKids l).getD i JV.null = (sortKids l').getD i JV.null) := by
         intro i hi
         unfold atJ placeJ
         rw [if_neg (by decide)]
         exact hkid i i hi (by omega)
       constructor
       · intro h
         apply List.ext_getElem (by rw [sortKids_len, sortKids_len]; exact hl)
         intro i q1 q2
         have hi : i < l.length := by rwa [sortKids_len] at q1
         have := (hone i hi).1 (h i hi)
         rwa [List.getD_eq_getElem?_getD, List.getD_eq_getElem?_getD, List.getElem?_eq_getElem q1, List.getElem?_eq_getElem q2] at this
       · intro h i hi
         refine (hone i hi).2 (by rw [h])
   constructor
   · rintro ⟨⟨⟨⟨⟨q1, q2⟩, q3⟩, q4⟩, q5⟩, q6⟩
     exact ⟨q1, q2, hd.2 q3, q4, (core q1 q5).1 q6⟩
   · rintro ⟨q1, q2, q3, q4, q5, q6⟩
     have hl := hlen q5
     exact ⟨⟨⟨⟨⟨q1, q2⟩, hd.1 q3⟩, q4⟩, hl⟩, (core q1 hl).2 ⟨q5, q6⟩⟩
open Go.RowKit
theorem run_fromS {P : Program} (w : World) (t e : TypeId) (size : Nat) (ht : P.underlying t = some (.slice e)) (hi1 : (P.info? e).map (·.size) = some size) (A : Option Addr) (n c a1 : Nat) (ka : IntKind) (h1 : a1 <= n) :
   (Instr.sliceAt t (.slice A n c) (some (.int ka a1)) none none).run P w = .ok (cutFrom A n c a1 size) w := by
 obtain ⟨i, hi, hs⟩ : ∃ i, P.info? e = some i /\ i.size = size := by
   cases h : P.info? e with
   | none => rw [h] at hi1; cases hi1
   | some i => rw [h] at hi1; exact ⟨i, rfl, Option.some.inj hi1⟩
 simp [Instr.sliceAt, Instr.slice, Instr.sliceBounds, Instr.sliceBound, asIntOf, go_sem, run_underlying ht, sizeOf, typeInfo, hi, hs, h1, cutFrom]
theorem run_toL {P : Program} {W' : World} {F : Nat -> Prop} {e' : TypeId} {size n c b : Nat} {A : Option Addr} {xs : List Value} (h : Lies W' F e' size (.slice A n c) n xs) (hb : b <= n) (W : World) (t e : TypeId) (ht : P.underlying t = some (.slice e)) (hi : (P.info? e).isSome = true) :
   (Instr.sliceAt t (.slice A n c) none (some (.int .i64 (b : Int))) none).run P W = .ok (.slice A b c) W := by
 rcases h.2 with ⟨A9, hv, hn⟩ | ⟨g, off, cap, cur, hv, _, _, h1, _⟩
 · injection hv with e1 e2 e3
   subst hn e3
   obtain rfl : b = 0 := by omega
   obtain ⟨i, hi⟩ := Option.isSome_iff_exists.1 hi
   simp [Instr.sliceAt, Instr.slice, Instr.sliceBounds, Instr.sliceBound, asIntOf, go_sem, run_underlying ht, sizeOf, typeInfo, hi]
 · injection hv with e1 e2 e3
   subst e1 e3
   exact run_sliceTo W t e ht hi g off n c b (by omega)
theorem run_build1s (s : ByteArray) (w : World) : (Instr.buildSlice 26 1 #[(0, .string s)]).run Tryz.prog w = .ok (.slice (some ⟨w.heap.size, 0, none⟩) 1 1) (w.alloc (.cells #[.string s] 9)) := by
 obtain ⟨i, hi, hz, hs1, hb⟩ := info_parts infoStrG
 have hsz : ∀ w : World, (sizeOf 9).run Tryz.prog w = .ok 1 w := fun w => by simp [sizeOf, typeInfo, hi, hs1]
 have hzv : ∀ w : World, (zeroValue 9).run Tryz.prog w = .ok (.string ⟨#[]⟩) w := fun w => by simp [zeroValue, typeInfo, hi, hz]
 have hf : Instr.fill (fun i => some (i * 1, 1)) ((Array.range (1 * 1)).map ((Value.string ⟨#[]⟩).cells[· % (Value.string ⟨#[]⟩).cells.size]!)) [(0, .string s)] = some #[.string s] := by kernel_rfl
 unfold Instr.buildSlice
 simp only [Sem.run_bind, run_underlying Tryz.underlying26, Result.andThen_ok, hsz]
 rw [if_neg (by decide), if_neg (by decide)]
 simp only [Sem.run_bind, Result.andThen_ok, hzv, Sem.run_pure, hf]
 simp [newRow]
theorem wp_build1s {o : Oper} {a : Act} {w : World} {K : Act -> World -> Prop} {Q : Exit -> Act -> World -> Prop} (x : Operand) (ho : o.op = .buildSlice 26 1 #[(0, x)]) (s : ByteArray) (hx : a.eval x = .string s)
   (h : K (a.put o.dst (.slice (some ⟨w.heap.size, 0, none⟩) 1 1)) (w.alloc (.cells #[.string s] 9))) : o.wp Tryz.prog a w K Q := by
 unfold Oper.wp execOp
 simp [ho, hx, run_build1s s w, Result.andThen]
 exact h
theorem JsAt.append {W : World} {F : Nat -> Prop} : ∀ (l1 : List JV) (c1 : List (List Value)) {l2 : List JV} {c2 : List (List Value)}, JsAt W F l1 c1 -> JsAt W F l2 c2 -> JsAt W F (l1 ++ l2) (c1 ++ c2)
 | [], [], _, _, _, h => h
 | _ :: l, _ :: cs, _, _, h, h2 => ⟨h.1, JsAt.append l cs h.2 h2⟩
 | [], _ :: _, _, _, h, _ => h.elim
 | _ :: _, [], _, _, h, _ => h.elim
theorem JsAt.split {W : World} {F : Nat -> Prop} : ∀ (k : Nat) (l : List JV) (css : List (List Value)), JsAt W F l css -> JsAt W F (l.take k) (css.take k) /\ JsAt W F (l.drop k) (css.drop k) /\ (css.take k).flatten = css.flatten.take (k * 8) /\ (css.drop k).flatten = css.flatten.drop (k * 8)
 | 0, l, css, h => ⟨by rw [List.take_zero, List.take_zero]; trivial, h, by simp, by simp⟩
 | k + 1, [], [], _ => ⟨trivial, trivial, by simp, by simp⟩
 | k + 1, x :: l, c :: cs, h => by
   obtain ⟨h1, h2, h3, h4⟩ := JsAt.split k l cs h.2
   have hl := h.1.len
   refine ⟨⟨h.1, h1⟩, h2, ?_, ?_⟩
   · rw [List.take_succ_cons, List.flatten_cons, List.flatten_cons, h3, show (k + 1) * 8 = c.length + k * 8 by omega, List.take_append, show c.length + k * 8 - c.length = k * 8 by omega, List.take_of_length_le (l := c) (by omega)]
   · rw [List.drop_succ_cons, List.flatten_cons, h4, show (k + 1) * 8 = c.length + k * 8 by omega, List.drop_append, show c.length + k * 8 - c.length = k * 8 by omega, List.drop_of_length_le (l := c) (by omega), List.nil_append]
 | _ + 1, [], _ :: _, h => h.elim
 | _ + 1, _ :: _, [], h => h.elim
theorem Lies.src {w : World} {F : Nat -> Prop} {e : TypeId} {size n c : Nat} {A : Option Addr} {xs : List Value} (h : Lies w F e size (.slice A n c) n xs) : Source w A n xs := by
 obtain ⟨A', c', e9, _, _, hh⟩ := h.holds
 injection e9 with e1 _ _
 subst e1
 exact hh.source
theorem Lies.from_ {w : World} {F : Nat -> Prop} {e : TypeId} {size n c k : Nat} {A : Option Addr} {xs : List Value} (h : Lies w F e size (.slice A n c) n xs) (hk : k <= n) : ∃ A' c' r, r = n - k /\ cutFrom A n c k size = .slice A' r c' /\ Lies w F e size (.slice A' r c') r (xs.drop (k * size)) :=
 ⟨_, _, _, rfl, rfl, cutFrom_lies h hk⟩
theorem keys_one (l : List (List UInt8)) : ∀ u ∈ l.map keyV, u.oneCell' = true := by
 intro u hu
 obtain ⟨x, _, rfl⟩ := List.mem_map.1 hu
 rfl
theorem JsAt.ones {W : World} {F : Nat -> Prop} : ∀ (l : List JV) (css : List (List Value)), JsAt W F l css -> ∀ u ∈ css.flatten, u.oneCell' = true
 | [], [], _, u, hu => by simp at hu
 | x :: l, c :: cs, h, u, hu => by
   rw [List.flatten_cons, List.mem_append] at hu
   rcases hu with hu | hu
   · exact jv_one h.1 u hu
   · exact JsAt.ones l cs h.2 u hu
 | [], _ :: _, h, _, _ => h.elim
 | _ :: _, [], h, _, _ => h.elim
structure SoS (w0 : World) (gv gr go : Nat) (cv : Array Value) (k : Int) (b : Bool) (d : Dec) (t : List UInt8) (PL : List JV) (PN : List (List UInt8)) (own : Nat -> Nat) (L N : Value) (css : List (List Value)) (W : World) : Prop where
 vrow : Row W gv 28 cv
 res : Row W gr 28 zeroJ
 row : Row W go 28 (jvC k b d t L N)
 ov : own gv = 1
 ores : own gr = 1
 oo : own go = 1
 vals : JsAt W (FB own w0.heap.size 0) PL css
 list : Lies W (FB own w0.heap.size 2) 28 8 L PL.length css.flatten
 names : Lies W (FB own w0.heap.size 3) 9 1 N PN.length (PN.map keyV)
 below : Below w0.heap.size w0 W
 ge : w0.heap.size <= go
 ger : w0.heap.size <= gr
 ne1 : gv ≠ go
 ne2 : gr ≠ go
section
variable {w0 W W1 W2 W3 : World} {gv gr go : Nat} {cv : Array Value} {k : Int} {b : Bool} {d : Dec} {t : List UInt8} {PL : List JV} {PN : List (List UInt8)} {own : Nat -> Nat} {N L : Value} {css : List (List Value)}
theorem SoS.call (h : SoS w0 gv gr go cv k b d t PL PN own L N css W) (hb : Below W.heap.size W W1) : SoS w0 gv gr go cv k b d t PL PN own L N css W1 :=
 ⟨h.vrow.call hb, h.res.call hb, h.row.call hb, h.ov, h.ores, h.oo, JsAt.kept (G := fun _ => False) (keptOf_below hb) (fun _ _ => id) _ _ h.vals, h.list.below hb, h.names.below hb, h.below.call hb, h.ge, h.ger, h.ne1, h.ne2⟩
theorem SoS.name (h : SoS w0 gv gr go cv k b d t PL PN own L N css W) (hb : Below W.heap.size W W3) {v' : Value} {PN' : List (List UInt8)}
   (hl : Lies W3 (fun q => W.heap.size <= q) 9 1 v' PN'.length (PN'.map keyV)) :
   ∃ own', SoS w0 gv gr go cv k b d t PL PN' own' L v' css (W3.setCell ⟨go, 7, none⟩ v') := by
 have h3 := h.call hb
 obtain ⟨own', ho'⟩ : ∃ own' : Nat -> Nat, ∀ q, own' q = if q < W.heap.size then own q else 3 := ⟨_, fun _ => rfl⟩
 have s1 : Still W W3 (fun _ => False) own own' := ⟨keptOf_below hb, fun q hq => by rw [ho', if_pos hq]⟩
 have s2 := cell_still W3 own' go 7 v'
 have ev : own' gv = 1 := by rw [ho', if_pos h.vrow.lt]; exact h.ov
 have er : own' gr = 1 := by rw [ho', if_pos h.res.lt]; exact h.ores
 have eo : own' go = 1 := by rw [ho', if_pos h.row.lt]; exact h.oo
 have hbw := h.below.size
 refine ⟨own', ?_, ?_, ?_, ev, er, eo, ?_, ?_, ?_, ?_, h.ge, h.ger, h.ne1, h.ne2⟩
 · exact h3.vrow.kept (Kept.cell W3 go 7 v') h.ne1
 · exact h3.res.kept (Kept.cell W3 go 7 v') h.ne2
 · simpa [jvC] using h3.row.set_ 7 v'
 · exact (h.vals.still s1 (fun _ hq => hq.elim)).still s2 (fun q hq _ => by rw [hq, eo]; omega)
 · exact (h.list.still s1 (fun _ hq => hq.elim)).still s2 (fun q hq _ => by rw [hq, eo]; omega)
 · refine Lies.still (hl.mono fun q hq => ⟨?_, ?_⟩) s2 (fun q hq _ => by rw [hq, eo]; omega)
   · rw [ho', if_neg (by omega)]
   · omega
 · exact h3.below.trans ((Kept.cell W3 go 7 v').below h3.below.size fun q e => by rw [e]; exact h.ge)
theorem SoS.item (h : SoS w0 gv gr go cv k b d t PL PN own L N css W) (hb : Below W.heap.size W W3) {v' : Value} {PL' : List JV} {css' : List (List Value)} (a z : Nat)
   (hx : JsAt W3 (fun q => FB own w0.heap.size 0 q /\ q < W.heap.size ∨ W.heap.size <= q /\ a <= q /\ q < z) PL' css')
   (hl : Lies W3 (fun q => W.heap.size <= q /\ ¬ (a <= q /\ q < z)) 28 8 v' PL'.length css'.flatten) :
   ∃ own', SoS w0 gv gr go cv k b d t PL' PN own' v' N css' (W3.setCell ⟨go, 6, none⟩ v') := by
 have h3 := h.call hb
 obtain ⟨own', ho'⟩ : ∃ own' : Nat -> Nat, ∀ q, own' q = if q < W.heap.size then own q else if a <= q /\ q < z then 0 else 2 := ⟨_, fun _ => rfl⟩
 have s1 : Still W W3 (fun _ => False) own own' := ⟨keptOf_below hb, fun q hq => by rw [ho', if_pos hq]⟩
 have s2 := cell_still W3 own' go 6 v'
 have ev : own' gv = 1 := by rw [ho', if_pos h.vrow.lt]; exact h.ov
 have er : own' gr = 1 := by rw [ho', if_pos h.res.lt]; exact h.ores
 have eo : own' go = 1 := by rw [ho', if_pos h.row.lt]; exact h.oo
 have hbw := h.below.size
 refine ⟨own', ?_, ?_, ?_, ev, er, eo, ?_, ?_, ?_, ?_, h.ge, h.ger, h.ne1, h.ne2⟩
 · exact h3.vrow.kept (Kept.cell W3 go 6 v') h.ne1
 · exact h3.res.kept (Kept.cell W3 go 6 v') h.ne2
 · simpa [jvC] using h3.row.set_ 6 v'
 · refine JsAt.still (JsAt.mono (fun q hq _ => ?_) _ _ hx) s2 (fun q hq _ => by rw [hq, eo]; omega)
   rcases hq with hq | hq
   · exact ⟨by rw [ho', if_pos hq.2]; exact hq.1.1, hq.1.2⟩
   · exact ⟨by rw [ho', if_neg (by omega), if_pos hq.2], by omega⟩
 · refine Lies.still (hl.mono fun q hq => ⟨?_, ?_⟩) s2 (fun q hq _ => by rw [hq, eo]; omega)
   · rw [ho', if_neg (by omega), if_neg hq.2]
   · omega
 · exact (h.names.still s1 (fun _ hq => hq.elim)).still s2 (fun q hq _ => by rw [hq, eo]; omega)
 · exact h3.below.trans ((Kept.cell W3 go 6 v').below h3.below.size fun q e => by rw [e]; exact h.ge)
theorem SoS.res_ (h : SoS w0 gv gr go cv k b d t PL PN own L N css W) : Row (W.setCells gr 0 (jvC k b d t L N).toList) gr 28 (jvC k b d t L N) /\ CopPost w0 (.mk k b d t PL PN) (.returned (.agg (jvC k b d t L N))) (W.setCells gr 0 (jvC k b d t L N).toList) := by
 have kk := kept_setCells W gr (jvC k b d t L N).toList 0 W (Kept.refl _ _)
 have hrow : Row (W.setCells gr 0 (jvC k b d t L N).toList) gr 28 (jvC k b d t L N) := by
   have h9 := row_laid (jvC k b d t L N).toList [] zeroJ.toList W (by simpa using h.res) rfl
   simpa using h9
 have hne : ∀ m, m ≠ 1 -> ∀ q, q = gr -> w0.heap.size <= q -> own q ≠ m := fun m hm q hq _ e => hm (by rw [<- e, hq, h.ores])
 have s : Still W (W.setCells gr 0 (jvC k b d t L N).toList) (· = gr) own own := ⟨kk, fun _ _ => rfl⟩
 exact ⟨hrow, jvC k b d t L N, rfl, ⟨own, L, N, css, rfl, h.vals.still s (hne 0 (by omega)), h.list.still s (hne 2 (by omega)), h.names.still s (hne 3 (by omega))⟩, h.below.trans (kk.below h.below.size fun q e => by rw [e]; exact h.ger)⟩
end
end Go.Proofs.YtmhbkjjkalnggaaGreatDoor
namespace Go.Proofs.YtmhbkjjkalnggaaGreatDoor
open Go Go.RowKit
section
variable {P : Program} {md : Region.Mode} {ops : Array Oper} {Q : Exit -> Act -> World -> Prop}
theorem wpTill_oneG {S : World -> Prop} {z i : Nat} {o : Oper} {fuel : Nat} {listed : Array Bool} {a : Act} {w : World} (hr : Region.ready md ops listed = [i]) (ho : ops[i]? = some o) (hg : Region.wanted o (yielded ops a.tmps) = true)
   (h : ∀ K : Act -> World -> Prop, (∀ a' w', ((listed.setIfInBounds i true).getD z true = false -> S w') -> wpTill P md ops Q z S fuel (listed.setIfInBounds i true) a' w' -> K a' w') -> Oper.wp P o a w K Q) : wpTill P md ops Q z S (fuel + 1) listed a w :=
 ⟨fun h0 => (by rw [hr] at h0; cases h0), fun j hj => by
   rw [hr] at hj
   obtain rfl : j = i := by simpa using hj
   refine wpOp_step ho fun K hK => ?_
   rw [if_pos hg]
   exact h K fun a' w' h1 h2 => hK a' w' ⟨h1, h2⟩⟩
theorem wpList_guarded {o : Oper} {rest : List Oper} {a : Act} {w : World} (hw : Region.wanted o (yielded ops a.tmps) = true) (h : ∀ K : Act -> World -> Prop, (∀ a' w', wpList P ops Q rest a' w' -> K a' w') -> Oper.wp P o a w K Q) : wpList P ops Q (o :: rest) a w := by
 unfold wpList
 rw [if_pos hw]
 exact .inl (h _ fun _ _ h => h)
theorem wpList_load_midG {rest : List Oper} {op : Oper} {a : Act} {w : World} (hw : Region.wanted op (yielded ops a.tmps) = true) (ty : TypeId) (x : Operand) (ho : op.op = .load ty x)
   (b o : Nat) (hx : a.eval x = .pointer (some ⟨b, o, none⟩)) (cs : List Value) (d : TypeDesc) (hc : w.rangeAt b o cs)
   (hu : P.underlying ty = some d) (hd : d.isRow = true) (hi : (P.info? ty).map (·.size) = some cs.length)
   (h : wpList P ops Q rest (a.put op.dst (.agg cs.toArray)) w) : wpList P ops Q (op :: rest) a w :=
 wpList_guarded hw fun _ hK => wp_load_mid ty x ho b o hx cs d hc hu hd hi (hK _ _ h)
end
section
variable {P : Program} {md : Region.Mode} {ops : Array Oper} {Q : Exit -> Act -> World -> Prop} {S : World -> Prop} {z : Nat}
open Go
theorem wpTill_oG (i : Nat) {o : Oper} {fuel : Nat} {listed : Array Bool} {a : Act} {w : World}
   (h : ∀ K : Act -> World -> Prop, Hid (∀ a' w', ((listed.setIfInBounds i true).getD z true = false -> S w') -> wpTill P md ops Q z S fuel (listed.setIfInBounds i true) a' w' -> K a' w') -> Oper.wp P o a w K Q)
   (ho : ops[i]? = some o := by (simp only [gA, gB, gC]; with_reducible rfl)) (hr : Region.ready md ops listed = [i] := by kernel_rfl) (hg : Region.wanted o (yielded ops a.tmps) = true := by rfl) : wpTill P md ops Q z S (fuel + 1) listed a w :=
 wpTill_oneG hr ho hg fun K hK => h K (hid hK)
end
end Go.Proofs.YtmhbkjjkalnggaaGreatDoor
namespace Go.Proofs.YtmhbkjjkalnggaaGreatDoor
open Go Go.RowKit
section
variable {P : Program} {md : Region.Mode} {ops : Array Oper} {Q : Exit -> Act -> World -> Prop} {S : World -> Prop} {z : Nat}
theorem wpTill_pair {i j : Nat} {oi oj : Oper} {fuel : Nat} {listed : Array Bool} {a : Act} {w : World} (V : Value -> Value -> World -> Prop)
   (hr : Region.ready md ops listed = [i, j]) (hri : Region.ready md ops (listed.setIfInBounds i true) = [j]) (hrj : Region.ready md ops (listed.setIfInBounds j true) = [i])
   (hoi : ops[i]? = some oi) (hoj : ops[j]? = some oj) (hgi : oi.guard = none) (hgj : oj.guard = none)
   (hij : i ≠ j) (hc : ∀ v u, (a.put oj.dst u).put oi.dst v = (a.put oi.dst v).put oj.dst u) (hV : ∀ v u W, V v u W -> S W)
   (h1 : ∀ K : Act -> World -> Prop, (∀ v u W, V v u W -> K ((a.put oi.dst v).put oj.dst u) W) -> Oper.wp P oi a w (fun a' w' => S w' /\ Oper.wp P oj a' w' K Q) Q)
   (h2 : ∀ K : Act -> World -> Prop, (∀ v u W, V v u W -> K ((a.put oj.dst u).put oi.dst v) W) -> Oper.wp P oj a w (fun a' w' => S w' /\ Oper.wp P oi a' w' K Q) Q)
   (H : ∀ v u W, V v u W -> wpTill P md ops Q z S fuel ((listed.setIfInBounds i true).setIfInBounds j true) ((a.put oi.dst v).put oj.dst u) W) :
   wpTill P md ops Q z S (fuel + 1 + 1) listed a w := by
 refine ⟨fun h0 => (by rw [hr] at h0; cases h0), fun q hq => ?_⟩
 rw [hr] at hq
 rcases List.mem_cons.1 hq with rfl | hq
 · refine wpOp_step hoi fun K hK => ?_
   rw [if_pos (by simp [Region.wanted, hgi])]
   refine Oper.wp_mono (fun a' w' h => hK a' w' ⟨fun _ => h.1, wpTill_one hri hoj hgj fun K2 hK2 => Oper.wp_mono (fun a2 w2 h3 => hK2 a2 w2 (fun _ => h3.1) h3.2) h.2⟩) (h1 (fun a2 w2 => S w2 /\ wpTill P md ops Q z S fuel ((listed.setIfInBounds q true).setIfInBounds j true) a2 w2) fun v u W hv => ⟨hV v u W hv, H v u W hv⟩)
 · obtain rfl := List.mem_singleton.1 hq
   refine wpOp_step hoj fun K hK => ?_
   rw [if_pos (by simp [Region.wanted, hgj])]
   refine Oper.wp_mono (fun a' w' h => hK a' w' ⟨fun _ => h.1, wpTill_one hrj hoi hgi fun K2 hK2 => Oper.wp_mono (fun a2 w2 h3 => hK2 a2 w2 (fun _ => h3.1) h3.2) h.2⟩) (h2 (fun a2 w2 => S w2 /\ wpTill P md ops Q z S fuel ((listed.setIfInBounds q true).setIfInBounds i true) a2 w2) fun v u W hv => ⟨hV v u W hv, ?_⟩)
   rw [hc, Array.setIfInBounds_comm _ _ (Ne.symm hij)]
   exact H v u W hv
end
theorem less_eq : ∀ (x y : List UInt8), Op.bytesLess x y = decide (x < y)
 | [], [] => by simp [Op.bytesLess]
 | _ :: _, [] => by simp [Op.bytesLess]
 | [], _ :: _ => by simp [Op.bytesLess]
 | a :: x, b :: y => by
   rw [Op.bytesLess, less_eq x y]
   simp only [List.cons_lt_cons_iff]
   by_cases h1 : a < b <;> by_cases h2 : a = b <;> by_cases h3 : x < y <;> simp [h1, h2, h3]
theorem gtr_val (a b : List UInt8) : (!Op.bytesLess (bs a).toList (bs b).toList && !(bs a).toList == (bs b).toList) = decide (b < a) := by
 have e : (!(decide (a < b) || a == b)) = decide (b < a) := by
   by_cases h : a < b
   · rw [decide_eq_true h, Bool.true_or, Bool.not_true, Eq.comm, decide_eq_false_iff_not]
     exact fun h2 => List.lt_irrefl _ (List.lt_trans h h2)
   · by_cases h2 : a = b
     · subst h2
       simp [List.lt_irrefl]
     · rw [decide_eq_false h, beq_eq_false_iff_ne.2 h2, Bool.or_false, Bool.not_false, Eq.comm, decide_eq_true_iff]
       rcases List.le_iff_lt_or_eq.1 (List.not_lt.1 h) with h3 | h3
       · exact h3
       · exact absurd h3.symm h2
 rw [less_eq, bs_toList, bs_toList, <- e]
 cases decide (a < b) <;> rfl
end Go.Proofs.YtmhbkjjkalnggaaGreatDoor
