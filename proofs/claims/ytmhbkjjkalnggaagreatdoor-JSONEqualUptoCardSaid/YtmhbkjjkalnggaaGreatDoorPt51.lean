import Derived.Test.YtmhbkjjkalnggaaGreatDoorPt50
set_option maxRecDepth 1000000
set_option maxHeartbeats 8000000
namespace Go.Proofs.YtmhbkjjkalnggaaGreatDoor
open Go.RowKit
theorem list_getD_ext {α : Type} (z : α) {l l' : List α} (h : l.length = l'.length) (hq : ∀ i, i < l.length -> l.getD i z = l'.getD i z) : l = l' := by
 apply List.ext_getElem h
 intro i h1 h2
 have := hq i h1
 rwa [List.getD_eq_getElem?_getD, List.getD_eq_getElem?_getD, List.getElem?_eq_getElem h1, List.getElem?_eq_getElem h2] at this
theorem jrefSame_ok : ∀ (n : Nat) (a : JV), SizeOf.sizeOf a <= n -> ∀ (b : JV) (F G : Nat -> Prop) (c1 c2 : Array Value) (w : World), JIs w F a c1.toList -> JIs w G b c2.toList ->
   Calls Tryz.prog 17 #[.agg c1, .agg c2] w fun e w' => (∃ r : Bool, (r = true ↔ a = b) /\ e = .returned (.bool r)) /\ Below w.heap.size w w' := by
 intro n
 induction n with
 | zero => intro a ha; cases a; simp at ha
 | succ n ih =>
   intro a ha b F G c1 c2 w hA hB
   obtain ⟨k, bb, d, t, l, ns⟩ := a
   obtain ⟨k', bb', d', t', l', ns'⟩ := b
   have hsz : ∀ x ∈ l, SizeOf.sizeOf x <= n := fun x hx => by
     have := List.sizeOf_lt_of_mem hx
     simp only [JV.mk.sizeOf_spec] at ha
     omega
   unfold JIs at hA hB
   obtain ⟨A, c, A', c', e1, u1, u2, u3, u4, hna, hka⟩ := hA
   obtain ⟨B, e, B', e', e2, v1, v2, v3, v4, hnb, hkb⟩ := hB
   have e1' := Array.toList_inj.1 e1
   have e2' := Array.toList_inj.1 e2
   subst e1' e2'
   obtain ⟨dn, dl, dx⟩ := d
   obtain ⟨dn', dl', dx'⟩ := d'
   by_cases hne : k ≠ k' ∨ bb ≠ bb' ∨ dn ≠ dn' ∨ dl ≠ dl' ∨ dx ≠ dx' ∨ t ≠ t' ∨ l.length ≠ l'.length ∨ ns.length ≠ ns'.length
   · refine (rsm_head w k k' bb bb' dn dl dx dn' dl' dx' t t' A A' B B' l.length c ns.length c' l'.length e ns'.length e' hne).mono fun e w' h => ⟨⟨false, ⟨fun h => (by cases h), fun h => ?_⟩, h.1⟩, h.2⟩
     injection h with h1 h2 h3 h4 h5 h6
     injection h3 with h7 h8 h9
     rcases hne with q | q | q | q | q | q | q | q
     · exact absurd h1 q
     · exact absurd h2 q
     · exact absurd h7 q
     · exact absurd h8 q
     · exact absurd h9 q
     · exact absurd h4 q
     · exact absurd (congrArg List.length h5) q
     · exact absurd (congrArg List.length h6) q
   · have hk : k = k' := Decidable.byContradiction fun h => hne (.inl h)
     have hb : bb = bb' := Decidable.byContradiction fun h => hne (.inr (.inl h))
     have h1 : dn = dn' := Decidable.byContradiction fun h => hne (.inr (.inr (.inl h)))
     have h2 : dl = dl' := Decidable.byContradiction fun h => hne (.inr (.inr (.inr (.inl h))))
     have h3 : dx = dx' := Decidable.byContradiction fun h => hne (.inr (.inr (.inr (.inr (.inl h)))))
     have h4 : t = t' := Decidable.byContradiction fun h => hne (.inr (.inr (.inr (.inr (.inr (.inl h))))))
     have hl : l.length = l'.length := Decidable.byContradiction fun h => hne (.inr (.inr (.inr (.inr (.inr (.inr (.inl h)))))))
     have hn : ns.length = ns'.length := Decidable.byContradiction fun h => hne (.inr (.inr (.inr (.inr (.inr (.inr (.inr h)))))))
     subst hk hb h1 h2 h3 h4
     have HYES : Hid ((∀ q, q < l.length -> l.getD q JV.null = l'.getD q JV.null) -> (∀ q, q < ns.length -> ns.getD q [] = ns'.getD q []) -> JV.mk k bb ⟨dn, dl, dx⟩ t l ns = JV.mk k bb ⟨dn, dl, dx⟩ t l' ns') := hid fun q1 q2 => by
       rw [list_getD_ext JV.null hl q1, list_getD_ext [] hn q2]
     have HNO1 : Hid (∀ q, l.getD q JV.null ≠ l'.getD q JV.null -> JV.mk k bb ⟨dn, dl, dx⟩ t l ns ≠ JV.mk k bb ⟨dn, dl, dx⟩ t l' ns') := hid fun q h he => by
       injection he with _ _ _ _ h5 _
       exact h (by rw [h5])
     have HNO2 : Hid (∀ q, ns.getD q [] ≠ ns'.getD q [] -> JV.mk k bb ⟨dn, dl, dx⟩ t l ns ≠ JV.mk k bb ⟨dn, dl, dx⟩ t l' ns') := hid fun q h he => by
       injection he with _ _ _ _ _ h6
       exact h (by rw [h6])
     generalize hP : (JV.mk k bb ⟨dn, dl, dx⟩ t l ns = JV.mk k bb ⟨dn, dl, dx⟩ t l' ns') = P at *
     have hNO1 : Hid (∀ q, l.getD q JV.null ≠ l'.getD q JV.null -> ¬ P) := hid fun q h => by rw [<- hP]; exact HNO1.out q h
     have hNO2 : Hid (∀ q, ns.getD q [] ≠ ns'.getD q [] -> ¬ P) := hid fun q h => by rw [<- hP]; exact HNO2.out q h
     clear hP HNO1 HNO2
     rw [<- hl, <- hn]
     have HSX := hid (RsmS.start (k := k) (b := bb) (dn := dn) (dl := dl) (dx := dx) (t := t) (k' := k) (b' := bb) (dn' := dn) (dl' := dl) (dx' := dx) (t' := t) (A := A) (A' := A') (B := B) (B' := B') (nl := l.length) (c := c) (nn := ns.length) (c' := c') (nl' := l.length) (e := e) (nn' := ns.length) (e' := e') w)
     obtain ⟨w2, hw2⟩ : ∃ w2, w2 = ((w.alloc (.cells (jvC k bb ⟨dn, dl, dx⟩ t (.slice A l.length c) (.slice A' ns.length c')) 28)).alloc (.cells (jvC k bb ⟨dn, dl, dx⟩ t (.slice B l.length e) (.slice B' ns.length e')) 28)) := ⟨_, rfl⟩
     rw [<- hw2] at HSX
     have IH : Hid (∀ i, i < l.length -> ∀ V, Below w.heap.size w V -> ∃ ga oa gb ob, ∃ k1 b1 d1 t1 L1 N1 k2 b2 d2 t2 L2 N2, A = some ⟨ga, oa, none⟩ /\ B = some ⟨gb, ob, none⟩ /\
         (∀ q u, (jvC k1 b1 d1 t1 L1 N1).toList[q]? = some u -> V.cell? ⟨ga, oa + i * 8 + q, none⟩ = some u) /\ (∀ q u, (jvC k2 b2 d2 t2 L2 N2).toList[q]? = some u -> V.cell? ⟨gb, ob + i * 8 + q, none⟩ = some u) /\
         ∀ U, Below V.heap.size V U -> Calls Tryz.prog 17 #[.agg (jvC k1 b1 d1 t1 L1 N1), .agg (jvC k2 b2 d2 t2 L2 N2)] U fun e w' => (∃ r : Bool, (r = true ↔ l.getD i JV.null = l'.getD i JV.null) /\ e = .returned (.bool r)) /\ Below U.heap.size U w') := hid fun i hi V hb => by
       obtain ⟨ga, oa, k1, b1, d1, t1, L1, N1, x1, x2, x3⟩ := kid_form hka i hi
       obtain ⟨gb, ob, k2, b2, d2, t2, L2, N2, y1, y2, y3⟩ := kid_form hkb i (by omega)
       have hm : l.getD i JV.null ∈ l := by rw [List.getD_eq_getElem?_getD, List.getElem?_eq_getElem hi]; exact List.getElem_mem _
       exact ⟨ga, oa, gb, ob, k1, b1, d1, t1, L1, N1, k2, b2, d2, t2, L2, N2, x1, y1, x3 V hb, y3 V hb, fun U hU => ih _ (hsz _ hm) _ F G _ _ U ((x2.below hb).below hU) ((y2.below hb).below hU)⟩
     have HNM : Hid (∀ i, i < ns.length -> ∃ ga oa gb ob, A' = some ⟨ga, oa, none⟩ /\ B' = some ⟨gb, ob, none⟩ /\ ∀ V, Below w.heap.size w V -> V.cell? ⟨ga, oa + i, none⟩ = some (.string (bs (ns.getD i []))) /\ V.cell? ⟨gb, ob + i, none⟩ = some (.string (bs (ns'.getD i [])))) := hid fun i hi => by
       obtain ⟨ga, oa, x1, _, x2, x3⟩ := hna i hi
       obtain ⟨gb, ob, y1, _, y2, y3⟩ := hnb i (by omega)
       exact ⟨ga, oa, gb, ob, x1, y1, fun V hb => ⟨(hb.cell (p := ⟨ga, oa + i, none⟩) x2).trans x3, (hb.cell (p := ⟨gb, ob + i, none⟩) y2).trans y3⟩⟩
     have sk : (k != k) = false := by simp
     have sb : (bb != bb) = false := by simp
     clear ih hsz ha hna hka hnb hkb v3 v1 e1 e2 hne hl hn
     unfold maxLen at u2 u4 v2 v4
     generalize hnl : l.length = nl at *
     generalize hnn : ns.length = nn at *
     clear hnl hnn
     obtain ⟨⟨p0, p1, p2, p3, p4, p5, p6, p7⟩, q0, q1, q2, q3, q4, q5, q6, q7⟩ := HSX.out.cells
     go_enter Tryz.func17, Tryz.ntmps17
     go_upto_region 1 with fail
     rw [<- hw2]
     clear hw2
     go_wp2_with fail
     clear p0 p1 p2 p3 p4 p5 p6 p7 q0 q1 q2 q3 q4 q5 q6 q7
     go_loopw [5] (fun v5 wr => ∃ i : Nat, i <= nl /\ v5 = .int .i64 (i : Int) /\ Hid (∀ q, q < i -> l.getD q JV.null = l'.getD q JV.null) /\ Hid (RsmS w wr k k bb bb dn dl dx dn dl dx t t A A' B B' nl c nn c' nl e nn e')) (fun v5 _ => nl - (intOf v5).toNat)
     case atStart => exact ⟨0, Nat.zero_le _, rfl, hid (fun q hq => by omega), HSX⟩
     case round =>
       clear HSX
       obtain ⟨i, hi, rfl, HAL, HW⟩ := hrel
       obtain ⟨⟨_, _, _, _, _, _, p6, p7⟩, _, _, _, _, _, _, q6, q7⟩ := HW.out.cells
       by_cases hlt : i < nl
       · obtain ⟨ga, oa, gb, ob, k1, b1, d1, t1, L1, N1, k2, b2, d2, t2, L2, N2, rfl, rfl, x, y, hcall⟩ := IH.out i hlt wr HW.out.below
         have x0 := x 0 _ rfl
         have x1 := x 1 _ rfl
         have x2 := x 2 _ rfl
         have x3 := x 3 _ rfl
         have x4 := x 4 _ rfl
         have x5 := x 5 _ rfl
         have x6 := x 6 _ rfl
         have x7 := x 7 _ rfl
         have y0 := y 0 _ rfl
         have y1 := y 1 _ rfl
         have y2 := y 2 _ rfl
         have y3 := y 3 _ rfl
         have y4 := y 4 _ rfl
         have y5 := y 5 _ rfl
         have y6 := y 6 _ rfl
         have y7 := y 7 _ rfl
         simp only [Nat.add_zero] at x0 y0
         obtain ⟨a1, ha1⟩ : ∃ a1, a1 = jvC k1 b1 d1 t1 L1 N1 := ⟨_, rfl⟩
         obtain ⟨a2, ha2⟩ : ∃ a2, a2 = jvC k2 b2 d2 t2 L2 N2 := ⟨_, rfl⟩
         rw [<- ha1, <- ha2] at hcall
         have HCL := hid hcall
         unfold jvC at ha1 ha2
         have HA1 := hid ha1
         have HA2 := hid ha2
         clear hcall x y ha1 ha2
         go_wp2_with fail
         go_still_tail 10, (by kernel_rfl)
         rw [<- HA1.out, <- HA2.out]
         clear x0 x1 x2 x3 x4 x5 x6 x7 y0 y1 y2 y3 y4 y5 y6 y7
         change wpList _ _ _ _ _ wr.drew
         have hbd : Below wr.heap.size wr wr.drew := (Below.refl _ _).drew
         go_wp2_with fail
         refine (HCL.out _ hbd).mono ?_
         rintro ee w3 ⟨⟨r, hr, rfl⟩, hb⟩
         have HW3 := hid (HW.out.call (hbd.trans hb))
         have HR := hid hr
         clear hb hbd hr
         cases r with
         | false =>
           have HF : Hid (¬ P) := hid (hNO1.out i (fun h => by have := HR.out.2 h; cases this))
           go_wp2_with fail
           go_ret
           exact ⟨⟨false, ⟨fun h => (by cases h), fun h => absurd h HF.out⟩, rfl⟩, HW3.out.below⟩
         | true =>
           have HAL2 : Hid (∀ q, q < i + 1 -> l.getD q JV.null = l'.getD q JV.null) := hid fun q hq => by
             rcases Nat.lt_or_ge q i with h | h
             · exact HAL.out q h
             · obtain rfl : q = i := by omega
               exact HR.out.1 rfl
           go_wp2_with fail
           exact ⟨⟨i + 1, by omega, by go_num, HAL2, HW3⟩, by simp [intOf]; omega⟩
       · obtain rfl : i = nl := by omega
         go_wp2_with fail
         clear p6 p7 q6 q7
         go_loopw [6] (fun v6 wx => ∃ j : Nat, j <= nn /\ v6 = .int .i64 (j : Int) /\ Hid (∀ q, q < j -> ns.getD q [] = ns'.getD q []) /\ Hid (RsmS w wx k k bb bb dn dl dx dn dl dx t t A A' B B' i c nn c' i e nn e')) (fun v6 _ => nn - (intOf v6).toNat)
         case atStart => exact ⟨0, Nat.zero_le _, rfl, hid (fun q hq => by omega), HW⟩
         case round =>
           clear HW
           obtain ⟨j, hj, rfl, HNL, HW⟩ := hrel
           obtain ⟨⟨_, _, _, _, _, _, p6, p7⟩, _, _, _, _, _, _, q6, q7⟩ := HW.out.cells
           by_cases hlt2 : j < nn
           · obtain ⟨ga, oa, gb, ob, rfl, rfl, hnmc⟩ := HNM.out j hlt2
             obtain ⟨x, y⟩ := hnmc _ HW.out.below
             clear hnmc
             by_cases hnm : ns.getD j [] = ns'.getD j []
             · have HNL2 : Hid (∀ q, q < j + 1 -> ns.getD q [] = ns'.getD q []) := hid fun q hq => by
                 rcases Nat.lt_or_ge q j with h | h
                 · exact HNL.out q h
                 · obtain rfl : q = j := by omega
                   exact hnm
               rw [<- hnm] at y
               clear hnm
               generalize ns.getD j [] = nm at *
               have sn : ((bs nm).toList != (bs nm).toList) = false := by simp
               go_wp2_with fail
               go_quiet (fail)
               clear x y p6 p7 q6 q7
               go_wp2_with fail
               exact ⟨⟨j + 1, by omega, by go_num, HNL2, hid (HW.out.call (below_drewN (Below.refl _ _) _))⟩, by simp [intOf]; omega⟩
             · have HF : Hid (¬ P) := hid (hNO2.out j hnm)
               have sn := bs_ne hnm
               clear hnm
               generalize ns.getD j [] = nm at *
               generalize ns'.getD j [] = nm' at *
               go_wp2_with fail
               go_quiet (fail)
               clear x y p6 p7 q6 q7
               go_wp2_with fail
               go_ret
               exact ⟨⟨false, ⟨fun h => (by cases h), fun h => absurd h HF.out⟩, rfl⟩, (HW.out.call (below_drewN (Below.refl _ _) _)).below⟩
           · obtain rfl : j = nn := by omega
             have HT : Hid P := hid (HYES.out (fun q hq => HAL.out q hq) (fun q hq => HNL.out q hq))
             go_wp2_with fail
             go_ret
             exact ⟨⟨true, ⟨fun _ => HT.out, fun _ => rfl⟩, rfl⟩, HW.out.below⟩
def Low (s r : List UInt8) : Prop := ∃ p, s = p ++ r /\ ∀ b ∈ p, b.toNat < 128
theorem depthKids_w : ∀ (l : List JV), (∀ x ∈ l, 2 * depthJ x <= wJ x) -> 2 * depthKids l <= wKids l
 | [], _ => by rw [depthKids, wKids]; omega
 | x :: l, h => by
   rw [depthKids, wKids]
   have h1 := h x List.mem_cons_self
   have h2 := depthKids_w l (fun y hy => h y (List.mem_cons_of_mem _ hy))
   omega
theorem depth_w : ∀ (n : Nat) (v : JV), SizeOf.sizeOf v <= n -> 2 * depthJ v <= wJ v := by
 intro n
 induction n with
 | zero => intro v hv; cases v; simp at hv
 | succ n ih =>
   intro v hv
   obtain ⟨k, b, d, t, l, ns⟩ := v
   have h := depthKids_w l (fun x hx => ih x (by
     have := List.sizeOf_lt_of_mem hx
     simp only [JV.mk.sizeOf_spec] at hv
     omega))
   rw [depthJ, wJ]
   split <;> omega
theorem wNames_mem {ns : List (List UInt8)} {x : List UInt8} (h : x ∈ ns) : x.length <= wNames ns := by
 induction ns with
 | nil => cases h
 | cons y l ih =>
   rw [wNames]
   rcases List.mem_cons.1 h with rfl | h
   · omega
   · have := ih h; omega
theorem wKids_memb {l : List JV} {x : JV} (h : x ∈ l) : wJ x <= wKids l := by
 induction l with
 | nil => cases h
 | cons y l ih =>
   rw [wKids]
   rcases List.mem_cons.1 h with rfl | h
   · omega
   · have := ih h; omega
theorem fineKids_of : ∀ {l : List JV}, (∀ x ∈ l, FineJ x) -> FineKids l
 | [], _ => by unfold FineKids; trivial
 | y :: l, h => by unfold FineKids; exact ⟨h y List.mem_cons_self, fineKids_of fun x hx => h x (List.mem_cons_of_mem _ hx)⟩
theorem ask_fine : ∀ (n : Nat) (v : JV), SizeOf.sizeOf v <= n -> wJ v <= 1000000000000 -> askJ v = true -> FineJ v := by
 intro n
 induction n with
 | zero => intro v hv; cases v; simp at hv
 | succ n ih =>
   intro v hv hw h
   obtain ⟨k, b, d, t, l, ns⟩ := v
   obtain ⟨_, f2, f3, _, _⟩ := ask_facts h
   rw [wJ] at hw
   have hk : FineKids l := fineKids_of fun x hx => ih x (by
     have := List.sizeOf_lt_of_mem hx
     simp only [JV.mk.sizeOf_spec] at hv
     omega) (by have := wKids_memb hx; omega) (f3 x hx)
   have hn : ∀ x ∈ ns, x.length <= 4611686018427387904 := fun x hx => by have := wNames_mem hx; omega
   have hz : Dec.zero.digits.length <= 1000000 := by decide
   unfold FineJ
   rcases ask_cases h with ⟨rfl, h1, h2, _⟩ | ⟨rfl, h2, _⟩ | ⟨rfl, h1, h2, _⟩ | ⟨rfl, h1, h2, _⟩ | ⟨rfl, h1, h2, _⟩ | ⟨rfl, h1, h2, _⟩
   · exact ⟨by omega, by rw [h2]; exact hz, by omega, f2, hn, hk⟩
   · exact ⟨by omega, by rw [h2]; exact hz, by omega, f2, hn, hk⟩
   · refine ⟨by omega, ?_, by omega, f2, hn, hk⟩
     have := ((mayB_iff d).1 h2).len
     omega
   · exact ⟨by omega, by rw [h2]; exact hz, by omega, f2, hn, hk⟩
   · exact ⟨by omega, by rw [h2]; exact hz, by omega, f2, hn, hk⟩
   · exact ⟨by omega, by rw [h2]; exact hz, by omega, f2, hn, hk⟩
end Go.Proofs.YtmhbkjjkalnggaaGreatDoor
