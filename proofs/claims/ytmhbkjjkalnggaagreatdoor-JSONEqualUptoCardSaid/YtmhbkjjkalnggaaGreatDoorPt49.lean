import Derived.Test.YtmhbkjjkalnggaaGreatDoorPt45
set_option maxRecDepth 1000000
set_option maxHeartbeats 8000000
namespace Go.Proofs.YtmhbkjjkalnggaaGreatDoor
open Go.RowKit
theorem jsameP_ok : ∀ (n : Nat) (a : JV), SizeOf.sizeOf a <= n -> ∀ (b : JV), askJ a = true -> askJ b = true -> SmallJ a -> SmallJ b -> ∀ (F G : Nat -> Prop) (g1 o1 g2 o2 : Nat) (w : World), JAtP w F g1 o1 a -> JAtP w G g2 o2 b ->
   Calls Tryz.prog 45 #[.pointer (some ⟨g1, o1, none⟩), .pointer (some ⟨g2, o2, none⟩)] w fun e w' => e = .returned (.bool (eqJ a b)) /\ Below w.heap.size w w' := by
 intro n
 induction n with
 | zero => intro a ha; cases a; simp at ha
 | succ n ih =>
   intro a ha b hka hkb hsa hsb F G g1 o1 g2 o2 w hA hB
   obtain ⟨k, bb, d, t, l, ns⟩ := a
   obtain ⟨k', bb', d', t', l', ns'⟩ := b
   have hsz : ∀ x ∈ l, SizeOf.sizeOf x <= n := fun x hx => by
     have := List.sizeOf_lt_of_mem hx
     simp only [JV.mk.sizeOf_spec] at ha
     omega
   obtain ⟨A, c, A', c', p0, p1, p2, p3, p4, p5, p6, p7, u1, u2, u3, u4, hna, hla⟩ := hA.open_
   obtain ⟨B, e, B', e', q0, q1, q2, q3, q4, q5, q6, q7, v1, v2, v3, v4, hnb, hlb⟩ := hB.open_
   have hC : SamC g1 o1 g2 o2 k k' bb bb' d d' t t' (.slice A l.length c) (.slice A' ns.length c') (.slice B l'.length e) (.slice B' ns'.length e') w := ⟨⟨p0, p1, p2, p3, p4, p5, p6, p7⟩, q0, q1, q2, q3, q4, q5, q6, q7⟩
   have hglt := hA.1
   have hglt2 := hB.1
   by_cases hne : k ≠ k' ∨ bb ≠ bb' ∨ d ≠ d' ∨ t ≠ t' ∨ l.length ≠ l'.length
   · have hq : eqJ (.mk k bb d t l ns) (.mk k' bb' d' t' l' ns') = false := by
       rw [eqJ]
       simp only [JV.kind, JV.bool, JV.num, JV.text, JV.list, JV.names]
       rw [Bool.and_eq_false_iff]
       left
       rw [<- Bool.not_eq_true]
       simp only [Bool.and_eq_true, beq_iff_eq]
       rintro ⟨⟨⟨⟨h1, h2⟩, ⟨h3, h4⟩, h5⟩, h6⟩, h7⟩
       have hd : d = d' := Dec.ext' h3 h4 h5
       rcases hne with h | h | h | h | h
       · exact h h1
       · exact h h2
       · exact h hd
       · exact h h6
       · exact h h7
     rw [hq]
     exact same_head g1 o1 g2 o2 k k' bb bb' d d' t t' A A' B B' _ c _ c' _ e _ e' w hC hne
   · have hk : k = k' := Decidable.byContradiction fun h => hne (.inl h)
     have hb : bb = bb' := Decidable.byContradiction fun h => hne (.inr (.inl h))
     have hd : d = d' := Classical.byContradiction fun h => hne (.inr (.inr (.inl h)))
     have ht : t = t' := Decidable.byContradiction fun h => hne (.inr (.inr (.inr (.inl h))))
     have hl : l.length = l'.length := Decidable.byContradiction fun h => hne (.inr (.inr (.inr (.inr h))))
     subst hk hb hd ht
     have HEQ : Hid (eqJ (.mk k bb d t l ns) (.mk k bb d t l' ns') = eqKids (k == 5) ns ns' l' 0 l) := hid (by
       rw [eqJ]
       simp only [JV.kind, JV.bool, JV.num, JV.text, JV.list, JV.names, hl, beq_self_eq_true, Bool.and_self, Bool.true_and])
     generalize eqJ (.mk k bb d t l ns) (.mk k bb d t l' ns') = R at *
     obtain ⟨_, fa1, hk45, _, _⟩ := ask_facts hka
     obtain ⟨fb0, fb1, hkids, _, _⟩ := ask_facts hkb
     have hnod : ns'.Nodup /\ (k = 5 -> ns.length = l.length) /\ (k = 5 -> ns'.length = l'.length) := ⟨fb0, fa1, fb1⟩
     unfold SmallJ at hsa hsb
     obtain ⟨_, _, s1, s2, s3⟩ := hsa
     obtain ⟨_, _, r1, r2, r3⟩ := hsb
     have IH : Hid (∀ i j, i < l.length -> j < l'.length -> ∀ V, Below w.heap.size w V -> ∃ ga oa gb ob, A = some ⟨ga, oa, none⟩ /\ B = some ⟨gb, ob, none⟩ /\ Calls Tryz.prog 45 #[.pointer (some ⟨ga, oa + i * 8, none⟩), .pointer (some ⟨gb, ob + j * 8, none⟩)] V fun e w' => e = .returned (.bool (eqJ (l.getD i JV.null) (l'.getD j JV.null))) /\ Below V.heap.size V w') := hid fun i j hi hj V hb => by
       obtain ⟨ga, oa, ea, ja⟩ := hla i hi
       obtain ⟨gb, ob, eb, jb⟩ := hlb j hj
       have hm : l.getD i JV.null ∈ l := by rw [List.getD_eq_getElem?_getD, List.getElem?_eq_getElem hi]; exact List.getElem_mem _
       have hm2 : l'.getD j JV.null ∈ l' := by rw [List.getD_eq_getElem?_getD, List.getElem?_eq_getElem hj]; exact List.getElem_mem _
       exact ⟨ga, oa, gb, ob, ea, eb, ih _ (hsz _ hm) _ (hk45 _ hm) (hkids _ hm2) (s3.get _ hm) (r3.get _ hm2) F G _ _ _ _ V (ja.below hb) (jb.below hb)⟩
     have HNA : Hid (∀ i, i < ns.length -> (ns.getD i []).length <= maxLen /\ ∃ g off, A' = some ⟨g, off, none⟩ /\ ∀ V, Below w.heap.size w V -> V.cell? ⟨g, off + i, none⟩ = some (.string (bs (ns.getD i [])))) := hid fun i hi => by
       obtain ⟨g, off, ee, _, hlt, hc⟩ := hna i hi
       exact ⟨s2 _ (by rw [List.getD_eq_getElem?_getD, List.getElem?_eq_getElem hi]; exact List.getElem_mem _), g, off, ee, fun V hb => (hb.cell (p := ⟨g, off + i, none⟩) hlt).trans hc⟩
     have HNB : Hid (∀ i, i < ns'.length -> (ns'.getD i []).length <= maxLen /\ ns'.getD i [] ∉ ns'.take i /\ ns'.take (i + 1) = ns'.take i ++ [ns'.getD i []] /\ (ns'.take i).length = i /\ ∃ g off, B' = some ⟨g, off, none⟩ /\ ∀ V, Below w.heap.size w V -> V.cell? ⟨g, off + i, none⟩ = some (.string (bs (ns'.getD i [])))) := hid fun i hi => by
       obtain ⟨g, off, ee, _, hlt, hc⟩ := hnb i hi
       have eg : ns'.getD i [] = ns'[i] := by rw [List.getD_eq_getElem?_getD, List.getElem?_eq_getElem hi]; rfl
       refine ⟨r2 _ (by rw [eg]; exact List.getElem_mem _), ?_, ?_, ?_, g, off, ee, fun V hb => (hb.cell (p := ⟨g, off + i, none⟩) hlt).trans hc⟩
       · rw [eg]
         intro hm
         obtain ⟨j, hj, ej⟩ := List.getElem_of_mem hm
         rw [List.length_take] at hj
         rw [List.getElem_take] at ej
         have i1 := hnod.1.idxOf_getElem i hi
         have i2 := hnod.1.idxOf_getElem j (by omega)
         rw [ej] at i2
         omega
       · rw [List.take_add_one, List.getElem?_eq_getElem hi, eg]; rfl
       · rw [List.length_take]; omega
     have HC : Hid (∀ V, Below w.heap.size w V -> SamC g1 o1 g2 o2 k k bb bb d d t t (.slice A l.length c) (.slice A' ns.length c') (.slice B l'.length e) (.slice B' ns'.length e') V) := hid fun V hb => by
       obtain ⟨⟨p0, p1, p2, p3, p4, p5, p6, p7⟩, q0, q1, q2, q3, q4, q5, q6, q7⟩ := hC
       have f1 : ∀ (i : Nat) (v : Value), w.cell? ⟨g1, i, none⟩ = some v -> V.cell? ⟨g1, i, none⟩ = some v := fun i v h => (hb.cell (p := ⟨g1, i, none⟩) hglt).trans h
       have f2 : ∀ (i : Nat) (v : Value), w.cell? ⟨g2, i, none⟩ = some v -> V.cell? ⟨g2, i, none⟩ = some v := fun i v h => (hb.cell (p := ⟨g2, i, none⟩) hglt2).trans h
       exact ⟨⟨f1 _ _ p0, f1 _ _ p1, f1 _ _ p2, f1 _ _ p3, f1 _ _ p4, f1 _ _ p5, f1 _ _ p6, f1 _ _ p7⟩, f2 _ _ q0, f2 _ _ q1, f2 _ _ q2, f2 _ _ q3, f2 _ _ q4, f2 _ _ q5, f2 _ _ q6, f2 _ _ q7⟩
     have HN := hid hnod
     have HAT : Hid (∀ i, atJ (k == 5) ns ns' l l' i = match placeJ (k == 5) ns ns' i with | none => false | some j => eqJ (l.getD i JV.null) (l'.getD j JV.null)) := hid fun i => rfl
     have HNO : Hid (∀ i, i < l.length -> atJ (k == 5) ns ns' l l' i = false -> R = false) := hid fun i hi h => by rw [HEQ.out]; exact eqKids_no hi h
     have HYES : Hid ((∀ i, i < l.length -> atJ (k == 5) ns ns' l l' i = true) -> R = true) := hid fun h => by rw [HEQ.out]; exact (eqKids_at _ _ _ _ _).2 h
     have hmk := run_makeMapI
     have sk : (k != k) = false := by simp
     have sb : (bb != bb) = false := by simp
     have hlz : ((l.length : Int) != (l'.length : Int)) = false := by rw [hl]; simp
     obtain ⟨⟨_, _, _, _, _, _, _, _⟩, _, _, _, _, _, _, _, _⟩ := hC
     obtain ⟨dn, dl, dx⟩ := d
     simp only at p2 p3 p4 q2 q3 q4
     clear ih hsz hA hB hna hla hnb hlb u3 v3 v1 hka hkb hkids hk45 s2 s3 r2 r3 ha hne hnod HEQ hglt hglt2 fa1 fb0 fb1
     unfold maxLen at u2 u4 v2 v4
     generalize hnl : l.length = nl at *
     generalize hnl' : l'.length = nl' at *
     generalize hnn : ns.length = nn at *
     generalize hnn' : ns'.length = nn' at *
     have HL1 := hid hnl
     have HL2 := hid hnl'
     have HL3 := hid hnn
     have HL4 := hid hnn'
     have HLE := hid hl
     clear hnl hnl' hnn hnn' hl
     go_enter Tryz.func45, Tryz.ntmps45
     go_upto_region 1 with fail
     go_quiet (fail)
     go_upto_region 4 with fail
     clear p0 p1 p2 p3 p4 p5 p6 p7 q0 q1 q2 q3 q4 q5 q6 q7
     obtain ⟨w3, hw3⟩ : ∃ w3, w3 = (w.drewN nq).alloc (.map #[] 0) := ⟨_, rfl⟩
     rw [<- hw3]
     have HS3 : Hid (IsIdx w3 w.heap.size []) := hid (by rw [hw3]; exact IsIdx.new _)
     have HB3 : Hid (Below w.heap.size w w3) := hid (by rw [hw3]; exact (below_drewN (Below.refl w.heap.size w) _).alloc (Nat.le_refl _) _)
     clear hw3
     obtain ⟨⟨_, _, _, _, _, _, p6, p7⟩, _, _, _, _, _, _, q6, q7⟩ := HC.out w3 HB3.out
     go_wp2_with fail
     go_loopw [78] (fun v78 wr => ∃ i : Nat, i <= nn' /\ v78 = .int .i64 (i : Int) /\ Hid (IsIdx wr w.heap.size (ns'.take i)) /\ Hid (Below w.heap.size w wr)) (fun v78 _ => nn' - (intOf v78).toNat)
     case atStart => exact ⟨0, Nat.zero_le _, rfl, HS3, HB3⟩
     case round =>
       clear HS3 HB3 p6 p7 q6 q7
       obtain ⟨i, hi, rfl, HS, HB⟩ := hrel
       by_cases hlt : i < nn'
       · obtain ⟨hl1, hl2, hl3, hl4, gb, ob, rfl, hc⟩ := HNB.out i hlt
         have q9 := hc wr HB.out
         have HL5 := hid hl1
         have HL6 := hid hl2
         have HL7 := hid hl3
         have HL8 := hid hl4
         clear hc hl1 hl2 hl3 hl4
         generalize ns'.getD i [] = nm at *
         go_wp2_with (refine wpList_putI ?_ (.tmp 83) (.tmp 84) (.tmp 85) ?_ w.heap.size (ns'.take i) HS.out nm ?_ ?_ ?_ HL5.out HL6.out ?_
                      · with_reducible rfl
                      · with_reducible rfl
                      · kernel_rfl
                      · kernel_rfl
                      · rw [HL8.out]; kernel_rfl
                      rintro w4 hs4 hk4
                      have HS4 := hid hs4
                      have HB4 := hid ((HB.out.trans (hk4.below HB.out.size fun k hk => Nat.le_of_eq hk.symm)))
                      clear hs4 hk4)
         exact ⟨⟨i + 1, by omega, by go_num, hid (by rw [HL7.out]; exact HS4.out), HB4⟩, by simp [intOf]; omega⟩
       · obtain rfl : i = nn' := by omega
         have HS2 : Hid (IsIdx wr w.heap.size ns') := hid (by rw [<- List.take_of_length_le (l := ns') (i := i) (by rw [HL4.out]; exact Nat.le_refl _)]; exact HS.out)
         obtain ⟨⟨x0, _, _, _, _, _, p6, p7⟩, _, _, _, _, _, _, q6, q7⟩ := HC.out wr HB.out
         clear HS
         go_wp2_with fail
         clear p6 p7 q6 q7 x0
         go_loopw [92] (fun v92 wx => ∃ j : Nat, j <= nl /\ v92 = .int .i64 (j : Int) /\ Hid (∀ q, q < j -> atJ (k == 5) ns ns' l l' q = true) /\ Hid (IsIdx wx w.heap.size ns') /\ Hid (Below w.heap.size w wx)) (fun v92 _ => nl - (intOf v92).toNat)
         case atStart => exact ⟨0, Nat.zero_le _, rfl, hid (fun q hq => by omega), HS2, HB⟩
         case round =>
           clear HS2 HB
           obtain ⟨j, hj, rfl, HAL, HS, HB⟩ := hrel
           by_cases hlt2 : j < nl
           · have hjz : (j : Int) < (nl : Int) := by omega
             obtain ⟨⟨x0, _, _, _, _, _, p6, p7⟩, _, _, _, _, _, _, q6, q7⟩ := HC.out wr HB.out
             by_cases hk5 : k = 5
             · have e5 : (k == 5) = true := by rw [beq_iff_eq]; exact hk5
               have HNN := hid (HN.out.2.1 hk5)
               have HNN' := hid (HN.out.2.2 hk5)
               clear hk5
               obtain ⟨hl1, g, off, rfl, hc⟩ := HNA.out j (by have := HNN.out; omega)
               have x9 := hc wr HB.out
               have hjn : (j : Int) < (nn : Int) := by have := HNN.out; omega
               have HAJ0 : Hid (atJ (k == 5) ns ns' l l' j = match (if ns'.contains (ns.getD j []) = true then some (ns'.idxOf (ns.getD j [])) else none) with | none => false | some q => eqJ (l.getD j JV.null) (l'.getD q JV.null)) := hid (by rw [HAT.out j, e5]; rfl)
               have hlk := HS.out.look HN.out.1 hl1
               clear hc hl1
               generalize ns.getD j [] = nm at *
               cases hcn : ns'.contains nm with
               | false =>
                 rw [hcn] at hlk
                 simp only [Bool.false_eq_true, if_false] at hlk
                 have HR : Hid (R = false) := hid (HNO.out j hlt2 (by rw [HAJ0.out, hcn]; rfl))
                 clear hcn HAJ0
                 go_wp2_with fail
                 go_ret
                 exact ⟨by rw [HR.out]; rfl, HB.out⟩
               | true =>
                 rw [hcn] at hlk
                 simp only [if_true] at hlk
                 have hq : ns'.idxOf nm < nl' := by
                   have := List.idxOf_lt_length_of_mem (List.contains_iff_mem.1 hcn)
                   have h4 := HL4.out
                   have h5 := HNN'.out
                   omega
                 have HAJ : Hid (atJ (k == 5) ns ns' l l' j = eqJ (l.getD j JV.null) (l'.getD (ns'.idxOf nm) JV.null)) := hid (by rw [HAJ0.out, hcn]; rfl)
                 clear hcn HAJ0
                 generalize ns'.idxOf nm = m at *
                 have hmz : (m : Int) < (nl' : Int) := by omega
                 obtain ⟨ga, oa, gb, ob, rfl, rfl, hcall⟩ := IH.out j m hlt2 hq wr.drew HB.out.drew
                 have HCL := hid hcall
                 clear hcall
                 go_wp2_with fail
                 go_still_tail 12, (by kernel_rfl)
                 change wpList _ _ _ _ _ wr.drew
                 go_wp2_with fail
                 refine HCL.out.mono ?_
                 rintro e5 w5 ⟨rfl, hb⟩
                 have HB5 := hid (HB.out.drew.call hb)
                 have HS5 := hid (HS.out.below ((Below.refl wr.heap.size wr).drew.trans hb))
                 clear hb HB HS p6 p7 q6 q7 x0
                 cases hr : eqJ (l.getD j JV.null) (l'.getD m JV.null) with
                 | false =>
                   have HR : Hid (R = false) := hid (HNO.out j hlt2 (by rw [HAJ.out, hr]))
                   clear hr
                   go_wp2_with fail
                   go_ret
                   exact ⟨by rw [HR.out]; rfl, HB5.out⟩
                 | true =>
                   have HAL2 : Hid (∀ q, q < j + 1 -> atJ (k == 5) ns ns' l l' q = true) := hid fun q hq => by
                     rcases Nat.lt_or_ge q j with h | h
                     · exact HAL.out q h
                     · obtain rfl : q = j := by omega
                       rw [HAJ.out, hr]
                   clear hr
                   go_wp2_with fail
                   exact ⟨⟨j + 1, by omega, by go_num, HAL2, HS5, HB5⟩, by simp [intOf]; omega⟩
             · have e5 : (k == 5) = false := by rw [beq_eq_false_iff_ne]; exact hk5
               have HAJ : Hid (atJ (k == 5) ns ns' l l' j = eqJ (l.getD j JV.null) (l'.getD j JV.null)) := hid (by rw [HAT.out j, e5]; rfl)
               have hjz2 : (j : Int) < (nl' : Int) := by have := HLE.out; omega
               obtain ⟨ga, oa, gb, ob, rfl, rfl, hcall⟩ := IH.out j j hlt2 (by omega) wr.drew HB.out.drew
               have HCL := hid hcall
               clear hcall hk5
               go_wp2_with fail
               go_still_tail 12, (by kernel_rfl)
               change wpList _ _ _ _ _ wr.drew
               go_wp2_with fail
               refine HCL.out.mono ?_
               rintro e5 w5 ⟨rfl, hb⟩
               have HB5 := hid (HB.out.drew.call hb)
               have HS5 := hid (HS.out.below ((Below.refl wr.heap.size wr).drew.trans hb))
               clear hb HB HS p6 p7 q6 q7 x0
               cases hr : eqJ (l.getD j JV.null) (l'.getD j JV.null) with
               | false =>
                 have HR : Hid (R = false) := hid (HNO.out j hlt2 (by rw [HAJ.out, hr]))
                 clear hr
                 go_wp2_with fail
                 go_ret
                 exact ⟨by rw [HR.out]; rfl, HB5.out⟩
               | true =>
                 have HAL2 : Hid (∀ q, q < j + 1 -> atJ (k == 5) ns ns' l l' q = true) := hid fun q hq => by
                   rcases Nat.lt_or_ge q j with h | h
                   · exact HAL.out q h
                   · obtain rfl : q = j := by omega
                     rw [HAJ.out, hr]
                 clear hr
                 go_wp2_with fail
                 exact ⟨⟨j + 1, by omega, by go_num, HAL2, HS5, HB5⟩, by simp [intOf]; omega⟩
           · obtain rfl : j = nl := by omega
             have HR : Hid (R = true) := hid (HYES.out (fun q hq => HAL.out q hq))
             go_wp2_with fail
             go_ret
             exact ⟨by rw [HR.out]; rfl, HB.out⟩
end Go.Proofs.YtmhbkjjkalnggaaGreatDoor
