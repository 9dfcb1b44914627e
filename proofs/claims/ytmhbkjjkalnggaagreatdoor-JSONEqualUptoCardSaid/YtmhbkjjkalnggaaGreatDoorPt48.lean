import Derived.Test.YtmhbkjjkalnggaaGreatDoorPt47
set_option maxRecDepth 1000000
set_option maxHeartbeats 40000000
namespace Go.Proofs.YtmhbkjjkalnggaaGreatDoor
open Go.RowKit
theorem kids_many : ∀ l : List JV, 2 * l.length <= wKids l
 | [] => by simp
 | x :: l => by
   have := kids_many l
   have h2 : 2 <= wJ x := by cases x; rw [wJ]; omega
   rw [wKids, List.length_cons]; omega
theorem wpTill_l {md : Region.Mode} {ops : Array Oper} {Q : Exit -> Act -> World -> Prop} {S : World -> Prop} {z : Nat} (i : Nat) {oi : Oper} (x : Operand) (b o : Nat) (cs : Array Value) (h8 : cs.size = 8) (hr : ∀ w, S w -> w.rangeAt b o cs.toList) {fuel : Nat} {listed : Array Bool} {a : Act} {w : World}
   (h : wpTill Tryz.prog md ops Q z S fuel (listed.setIfInBounds i true) (a.put oi.dst (.agg cs)) w)
   (hi : ops[i]? = some oi := by (simp only [gA, gB, gC]; with_reducible rfl)) (hg : Region.wanted oi (yielded ops a.tmps) = true := by kernel_rfl)
   (ho : oi.op = .load 28 x := by with_reducible rfl) (hx : a.eval x = .pointer (some ⟨b, o, none⟩) := by kernel_rfl)
   (hc : (Region.noSelect ops && Region.free md ops listed i && (Region.ready md ops listed).contains i && waitsB md ops z i && !listed.getD z true) = true := by kernel_rfl)
   (hS : S w := by assumption) (hQ : ∀ c a w, Q (.panic c) (a.put oi.dst (.agg cs)) w -> Q (.panic c) a w := by exact fun _ _ _ h => h) : wpTill Tryz.prog md ops Q z S (fuel + 1) listed a w := by
 simp only [Bool.and_eq_true, Bool.not_eq_true'] at hc
 have hy := yieldsIf_load_mid (P := Tryz.prog) (S := S) hg 28 x ho b o hx cs.toList _ hr Tryz.underlying28 rfl (by rw [Array.length_toList]; exact info_of_size h8)
 rw [Array.toArray_toList] at hy
 exact wpTill_take hi hc.1.1.1.1 hc.1.1.1.2 hc.1.1.2 hc.1.2 hc.2 hQ hy hS h
theorem names_eq (PN : List (List UInt8)) (nm : List UInt8) (a : Nat) : ((PN.map keyV).take (a * 1) ++ [keyV nm]) ++ (PN.map keyV).drop (a * 1) = (PN.take a ++ nm :: PN.drop a).map keyV := by
 rw [Nat.mul_one, List.map_append, List.map_cons, List.map_take, List.map_drop, List.append_assoc]; rfl
theorem put_len {α : Type} (l : List α) (x : α) (a : Nat) (h : a <= l.length) : (l.take a ++ x :: l.drop a).length = l.length + 1 := by
 rw [List.length_append, List.length_cons, List.length_take, List.length_drop]; omega
theorem sorted_one (w : World) (F : Nat -> Prop) (k : Int) (b : Bool) (dn : Bool) (dl : List UInt8) (dx : Int) (t : List UInt8) (l : List JV) (ns : List (List UInt8)) (A A' : Option Addr) (c c' : Nat)
   (h1 : l.length <= c) (h2 : c <= maxLen) (h3 : ns.length <= c') (h4 : c' <= maxLen) (hnm : NamesAt w F A' ns) (hkd : KidsAt w F A 0 l) (hmany : l.length <= 1000000) (hnl : k = 5 -> ns.length = l.length)
   (IH0 : ∀ x ∈ l, ∀ (cs : Array Value) (V : World), Below w.heap.size w V -> JIs V F x cs.toList -> Calls Tryz.prog 19 #[.agg cs] V (CopPost V (sortJ x))) :
   Calls Tryz.prog 19 #[.agg (jvC k b ⟨dn, dl, dx⟩ t (.slice A l.length c) (.slice A' ns.length c'))] w (CopPost w (sortJ (.mk k b ⟨dn, dl, dx⟩ t l ns))) := by
 obtain ⟨cv, hcv⟩ : ∃ cv, cv = jvC k b ⟨dn, dl, dx⟩ t (.slice A l.length c) (.slice A' ns.length c') := ⟨_, rfl⟩
 have h8 : cv.size = 8 := by rw [hcv]; rfl
 have hone : cv.all (·.oneCell') = true := by rw [hcv]; kernel_rfl
 obtain ⟨w1, hw1⟩ : ∃ w1, w1 = w.alloc (.cells cv 28) := ⟨_, rfl⟩
 obtain ⟨w2, hw2⟩ : ∃ w2, w2 = w1.alloc (.cells zeroJ 28) := ⟨_, rfl⟩
 obtain ⟨w3, hw3⟩ : ∃ w3, w3 = w2.alloc (.cells zeroJ 28) := ⟨_, rfl⟩
 obtain ⟨w4, hw4⟩ : ∃ w4, w4 = w3.setCells (w.heap.size + 2) 0 cv.toList := ⟨_, rfl⟩
 have s1 : w1.heap.size = w.heap.size + 1 := by rw [hw1]; simp
 have s2 : w2.heap.size = w.heap.size + 2 := by rw [hw2]; simp [s1]
 have b1 : Below w.heap.size w w1 := by rw [hw1]; exact (Below.refl _ _).alloc (Nat.le_refl _) _
 have b2 : Below w1.heap.size w1 w2 := by rw [hw2]; exact (Below.refl _ _).alloc (Nat.le_refl _) _
 have b3 : Below w2.heap.size w2 w3 := by rw [hw3]; exact (Below.refl _ _).alloc (Nat.le_refl _) _
 have r1 : Row w1 w.heap.size 28 cv := by rw [hw1]; exact Row.new _ _ _
 have r2 : Row w2 (w.heap.size + 1) 28 zeroJ := by rw [<- s1, hw2]; exact Row.new _ _ _
 have r3 : Row w3 (w.heap.size + 2) 28 zeroJ := by rw [<- s2, hw3]; exact Row.new _ _ _
 have kk : Kept (· = w.heap.size + 2) w3 w4 := by rw [hw4]; exact kept_setCells _ _ _ _ _ (Kept.refl _ _)
 have HTH : Hid (w3.there (w.heap.size + 2) 0 cv.size) := hid (row_there r3 (by rw [h8]; exact Nat.le_refl _))
 have r4 : Row w4 (w.heap.size + 2) 28 cv := by
   rw [hw4]
   have h9 := row_laid cv.toList [] zeroJ.toList w3 (g := w.heap.size + 2) (by simpa using r3) (by rw [Array.length_toList, Array.length_toList, h8]; rfl)
   simpa using h9
 have r4' := r4
 rw [hcv] at r4'
 obtain ⟨w6, hw6⟩ : ∃ w6, w6 = (w4.setCell ⟨w.heap.size + 2, 6, none⟩ (.slice none 0 0)).setCell ⟨w.heap.size + 2, 7, none⟩ (.slice none 0 0) := ⟨_, rfl⟩
 have r5 : Row (w4.setCell ⟨w.heap.size + 2, 6, none⟩ (.slice none 0 0)) (w.heap.size + 2) 28 (jvC k b ⟨dn, dl, dx⟩ t (.slice none 0 0) (.slice A' ns.length c')) := by simpa [jvC] using r4'.set_ 6 (.slice none 0 0)
 have r6 : Row w6 (w.heap.size + 2) 28 (jvC k b ⟨dn, dl, dx⟩ t (.slice none 0 0) (.slice none 0 0)) := by rw [hw6]; simpa [jvC] using r5.set_ 7 (.slice none 0 0)
 have kk6 : Kept (· = w.heap.size + 2) w3 w6 := by rw [hw6]; exact (kk.setCell (grow.old rfl) _).setCell (grow.old rfl) _
 have b13 : Below w.heap.size w w3 := (b1.call b2).call b3
 have HSO : Hid (SoS w w.heap.size (w.heap.size + 1) (w.heap.size + 2) cv k b ⟨dn, dl, dx⟩ t [] [] (fun _ => 1) (.slice none 0 0) (.slice none 0 0) [] w6) := hid
   ⟨((r1.call b2).call b3).kept kk6 (fun e => by omega), (r2.call b3).kept kk6 (fun e => by omega), r6, rfl, rfl, rfl, trivial, Lies.empty _ _ _ _ _, Lies.empty _ _ _ _ _, b13.trans (kk6.below (by have := b13.size; omega) fun q e => by omega), by omega, by omega, by omega, by omega⟩
 have HX : Hid (w4.cell? ⟨w.heap.size + 2, 6, none⟩ = some (.slice A l.length c) /\ w4.frozen? ⟨w.heap.size + 2, 6, none⟩ = false /\ (w4.setCell ⟨w.heap.size + 2, 6, none⟩ (.slice none 0 0)).cell? ⟨w.heap.size + 2, 7, none⟩ = some (.slice A' ns.length c') /\ (w4.setCell ⟨w.heap.size + 2, 6, none⟩ (.slice none 0 0)).frozen? ⟨w.heap.size + 2, 7, none⟩ = false) := hid ⟨r4'.cell (i := 6) rfl, r4'.free 6, r5.cell (i := 7) rfl, r5.free 7⟩
 have HRA1 : Hid (w2.rangeAt w.heap.size 0 cv.toList) := hid (fun q u hu => by rw [Nat.zero_add]; exact (r1.call b2).cell (by simpa using hu))
 have HIN : Hid ((Tryz.prog.info? 28).map (·.size) = some cv.size) := hid (by rw [h8]; exact infoJ)
 have HONE := hid hone
 have HVC : Hid (∀ V PL PN ow L N css, SoS w w.heap.size (w.heap.size + 1) (w.heap.size + 2) cv k b ⟨dn, dl, dx⟩ t PL PN ow L N css V -> V.cell? ⟨w.heap.size, 0, none⟩ = some (.int .i64 k) /\ V.cell? ⟨w.heap.size, 6, none⟩ = some (.slice A l.length c) /\ V.cell? ⟨w.heap.size, 7, none⟩ = some (.slice A' ns.length c') /\ V.cell? ⟨w.heap.size + 2, 6, none⟩ = some L /\ V.cell? ⟨w.heap.size + 2, 7, none⟩ = some N /\ V.frozen? ⟨w.heap.size + 2, 6, none⟩ = false /\ V.frozen? ⟨w.heap.size + 2, 7, none⟩ = false) := hid fun V PL PN ow L N css h => by
   have hv := h.vrow
   rw [hcv] at hv
   exact ⟨hv.cell (i := 0) rfl, hv.cell (i := 6) rfl, hv.cell (i := 7) rfl, h.row.cell (i := 6) rfl, h.row.cell (i := 7) rfl, h.row.free 6, h.row.free 7⟩
 have IH : Hid (∀ i, i < l.length -> ∃ g2 off2, ∃ cs2 : Array Value, A = some ⟨g2, off2, none⟩ /\ cs2.size = 8 /\ (∀ U, Below w.heap.size w U -> U.rangeAt g2 (off2 + i * 8) cs2.toList) /\
     ∀ U, Below w.heap.size w U -> Calls Tryz.prog 19 #[.agg cs2] U (CopPost U ((sortKids l).getD i JV.null))) := hid fun i hi => by
   obtain ⟨g2, off2, cs2, hA, h8, hj, hr⟩ := kids_cells hkd i hi
   have hm : l.getD i JV.null ∈ l := by rw [List.getD_eq_getElem?_getD, List.getElem?_eq_getElem hi]; exact List.getElem_mem _
   exact ⟨g2, off2, cs2, hA, h8, hr, fun U hU => by rw [sortKids_getD l i hi]; exact IH0 _ hm cs2 U hU (hj.below hU)⟩
 have HNM : Hid (k = 5 -> ∀ i, i < l.length -> i < ns.length /\ ∃ g2 off2, A' = some ⟨g2, off2, none⟩ /\ (∀ V, Below w.heap.size w V -> V.cell? ⟨g2, off2 + i, none⟩ = some (.string (bs (ns.getD i []))))) := hid fun hk i hi => by
   have hi2 : i < ns.length := by rw [hnl hk]; exact hi
   obtain ⟨g2, off2, hA, _, hlt, hcl⟩ := hnm i hi2
   exact ⟨hi2, g2, off2, hA, fun V hb => (hb.cell (p := ⟨g2, off2 + i, none⟩) hlt).trans hcl⟩
 obtain ⟨st, hst⟩ : ∃ st : Nat -> List JV × List (List UInt8), st = stS (k == 5) (sortKids l) ns := ⟨_, rfl⟩
 have HST : Hid (st 0 = ([], []) /\ ∀ i, st (i + 1) = ((st i).1.take (placeN (k == 5) (ns.getD i []) (st i).2 (st i).1.length) ++ (sortKids l).getD i JV.null :: (st i).1.drop (placeN (k == 5) (ns.getD i []) (st i).2 (st i).1.length), if (k == 5) = true then (st i).2.take (placeN (k == 5) (ns.getD i []) (st i).2 (st i).1.length) ++ ns.getD i [] :: (st i).2.drop (placeN (k == 5) (ns.getD i []) (st i).2 (st i).1.length) else (st i).2)) := hid ⟨by rw [hst, stS], fun i => by rw [hst, stS]⟩
 have HSL : Hid (∀ i, (st i).1.length = i /\ (st i).2.length = if (k == 5) = true then i else 0) := hid fun i => by rw [hst]; exact stS_len _ _ _ i
 have HFIN : Hid (sortJ (.mk k b ⟨dn, dl, dx⟩ t l ns) = .mk k b ⟨dn, dl, dx⟩ t (st l.length).1 (st l.length).2) := hid (by rw [hst, sortJ])
 rw [HFIN.out]
 rw [<- hcv]
 clear hst HFIN hnm hkd IH0 hnl h8 hone b1 b2 b3 r1 r2 r3 r4 r4' r5 r6 kk kk6 b13 hcv
 unfold maxLen at h2 h4
 generalize sortKids l = lk at *
 generalize l.length = nl at *
 generalize hnn : ns.length = nn at *
 clear hnn
 have HW4 := hid hw4
 have HW6 := hid hw6
 unfold zeroJ at hw2 hw3
 have HW3 := hid hw3
 clear hw4 hw6 hw3
 go_enter Tryz.func19, Tryz.ntmps19
 go_upto_region 1 with fail
 rw [<- hw1, <- hw2]
 clear hw1 hw2
 try simp only [s1]
 obtain ⟨y1, y2, y3, y4⟩ := HX.out
 go_wp2_with (first
   | (refine ldJ (.tmp 1) w.heap.size 0 cv HRA1.out HIN.out ?_)
   | (refine wpList_store_mid ?_ 28 (.tmp 3) (.tmp 8) ?_ (w.heap.size + 2) 0 cv ?_ ?_ ?_ HIN.out HONE.out ?_
      · with_reducible rfl
      · with_reducible rfl
      · first | rfl | (simp only [s2]; rfl)
      · rfl
      · have h9 := HTH.out
        rw [HW3.out] at h9
        exact h9
      rw [<- HW3.out, <- HW4.out]))
 rw [<- HW6.out]
 clear y1 y2 y3 y4 HX HTH HRA1 HW3 HW4 HW6 HIN HONE
 go_loopw [4, 5, 6, 7] (fun v4 _ _ _ wr => ∃ (i : Nat) (ow : Nat -> Nat) (L N : Value) (css : List (List Value)), i <= nl /\ v4 = .int .i64 (i : Int) /\ Hid (SoS w w.heap.size (w.heap.size + 1) (w.heap.size + 2) cv k b ⟨dn, dl, dx⟩ t (st i).1 (st i).2 ow L N css wr)) (fun v4 _ _ _ _ => nl - (intOf v4).toNat)
 case atStart => exact ⟨0, _, _, _, _, Nat.zero_le _, rfl, by rw [HST.out.1]; exact HSO⟩
 case round =>
   clear HSO
   obtain ⟨i, ow, L, N, css, hi, rfl, HS⟩ := hrel
   obtain ⟨l1, l2⟩ := HSL.out i
   have HSN := hid (HST.out.2 i)
   obtain ⟨PL, hPL⟩ : ∃ PL, PL = (st i).1 := ⟨_, rfl⟩
   obtain ⟨PN, hPN⟩ : ∃ PN, PN = (st i).2 := ⟨_, rfl⟩
   rw [<- hPL, <- hPN] at HS
   rw [<- hPL] at l1
   rw [<- hPN] at l2
   rw [<- hPL, <- hPN] at HSN
   obtain ⟨AL, cL, rfl, hL1, hL2⟩ := HS.out.list.form
   obtain ⟨AN, cN, rfl, hN1, hN2⟩ := HS.out.names.form
   rw [l1] at HS hL1
   obtain ⟨x0, x6, x7, y6, y7, _, _⟩ := HVC.out _ _ _ _ _ _ _ HS.out
   by_cases hlt : i < nl
   · have hiz : (i : Int) < (nl : Int) := by omega
     obtain ⟨g2, off2, cs2, rfl, h8c, hrg, hcall⟩ := IH.out i hlt
     have HRG := hid hrg
     have HK := hid hcall
     have H8c := hid h8c
     clear hrg hcall h8c
     by_cases hk : k = 5
     · obtain ⟨hin, g3, off3, rfl, hcl⟩ := HNM.out hk i hlt
       have hinz : (i : Int) < (nn : Int) := by omega
       have HCL := hid hcl
       clear hcl
       have e5 : (k == 5) = true := by rw [hk]; rfl
       rw [e5] at HSN l2
       rw [if_pos rfl] at l2
       have hkf : ((k : Int) == 5) = true := e5
       obtain ⟨nm, hnm⟩ : ∃ nm, nm = ns.getD i [] := ⟨_, rfl⟩
       rw [<- hnm] at HSN HCL
       clear hnm
       rw [l2] at HS hN1
       have HLN := hid l2
       clear l1 l2 hPL hPN
       go_wp2_with fail
       clear x0 x6 x7 y6 y7
       go_loopw [5] (fun v5 wx => ∃ a : Nat, a <= i /\ v5 = .int .i64 (a : Int) /\ Hid (downN nm PN a = downN nm PN i) /\ Hid (SoS w w.heap.size (w.heap.size + 1) (w.heap.size + 2) cv k b ⟨dn, dl, dx⟩ t PL PN ow (.slice AL i cL) (.slice AN i cN) css wx)) (fun v5 _ => (intOf v5).toNat)
       case atStart => exact ⟨i, Nat.le_refl _, rfl, hid rfl, HS⟩
       case round =>
         clear HS
         obtain ⟨a, ha, rfl, HDN, HS⟩ := hrel
         obtain ⟨x0, x6, x7, y6, y7, _, _⟩ := HVC.out _ _ _ _ _ _ _ HS.out
         have z0 := HCL.out wr HS.out.below
         by_cases ha0 : a = 0
         · have hEND : Hid (downN nm PN i = a) := hid (by rw [<- HDN.out, ha0, downN])
           have haz : ¬ (a : Int) > 0 := by omega
           have haz3 : decide (0 < a) = false := decide_eq_false (by omega)
           have haz4 : decide ((0 : Int) < (a : Int)) = false := decide_eq_false (by omega)
           have hal : Hid (a <= i) := hid ha
           clear ha0
           go_wp2_with fail
           go_quiet (fail)
           clear x0 x6 x7 y6 y7 z0 haz haz3 haz4
           go_wp2_with fail
           generalize hwq : World.drewN _ _ = wq
           have HSq : Hid (SoS w w.heap.size (w.heap.size + 1) (w.heap.size + 2) cv k b ⟨dn, dl, dx⟩ t PL PN ow (.slice AL i cL) (.slice AN i cN) css wq) := hid (by rw [<- hwq]; exact HS.out.call (below_drewN (Below.refl _ _) _))
           have HLP : Hid (PL.length = i) := hid (by have := HSq.out.list.form; obtain ⟨_, _, e, _⟩ := this; injection e with _ e _; exact e.symm)
           have HFT : Hid (st (i + 1) = (PL.take a ++ lk.getD i JV.null :: PL.drop a, PN.take a ++ nm :: PN.drop a)) := hid (by rw [HSN.out]; simp only [placeN, if_true, HLP.out, hEND.out])
           have HNi : Hid (Lies wq (FB ow w.heap.size 3) 9 1 (.slice AN i cN) i (PN.map keyV)) := hid (by have h9 := HSq.out.names; rw [HLN.out] at h9; exact h9)
           clear HS HDN HSN hEND hwq
           refine wp_region_till 13 (fun W => Below wq.heap.size wq W) (by kernel_rfl) ?_
           have hS : Below wq.heap.size wq wq.drew := (Below.refl _ _).drew
           refine wpTill_z 0 ?_
           try simp only [Act.put, sA, sB, sC]
           refine wpTill_z 1 ?_
           try simp only [Act.put, sA, sB, sC]
           refine wpTill_y 2 ?_ ?_ ?_
           rotate_left
           · intro W hSw; have q := (HVC.out W _ _ _ _ _ _ (HSq.out.call hSw)).2.2.2.2.1; go_simp; try with_reducible rfl
           try simp only [Act.put, sA, sB, sC]
           refine wpTill_z 3 ?_
           try simp only [Act.put, sA, sB, sC]
           refine wpTill_y 4 ?_ ?_ ?_
           rotate_left
           · intro W hSw; have q := run_toL HNi.out hal.out W 26 9 Tryz.underlying26 (by kernel_rfl); go_simp; try with_reducible rfl
           try simp only [Act.put, sA, sB, sC]
           refine wpTill_z 6 ?_
           try simp only [Act.put, sA, sB, sC]
           refine wpTill_y 7 ?_ ?_ ?_
           rotate_left
           · intro W hSw; have q := (HVC.out W _ _ _ _ _ _ (HSq.out.call hSw)).2.2.1; go_simp; try with_reducible rfl
           try simp only [Act.put, sA, sB, sC]
           refine wpTill_z 8 ?_
           try simp only [Act.put, sA, sB, sC]
           refine wpTill_z 9 ?_
           try simp only [Act.put, sA, sB, sC]
           refine wpTill_y 10 ?_ ?_ ?_
           rotate_left
           · intro W hSw; have q := HCL.out W (HSq.out.below.call hSw); go_simp; try with_reducible rfl
           try simp only [Act.put, sA, sB, sC]
           have HN1 : Hid (∀ W, Below wq.heap.size wq W -> Lies W (FB ow w.heap.size 3) 9 1 (.slice AN a cN) a ((PN.map keyV).take (a * 1))) := hid fun W hb => by
             exact (HNi.out.below hb).take hal.out
           have HN2 : Hid (∀ u ∈ (PN.map keyV).take (a * 1), u.oneCell' = true) := hid fun u hu => keys_one PN u (List.mem_of_mem_take hu)
           have hal2 := hal.out
           have HZ : Hid (∀ V : World, Source (V.alloc (.cells #[.string (bs nm)] 9)) (some ⟨V.heap.size, 0, none⟩) 1 [keyV nm]) := hid fun V => .inr ⟨_, rfl, fun j u hu => by
             rw [Addr.add_lit, Nat.zero_add]
             exact (Row.new V 9 #[.string (bs nm)]).cell (by simpa [keyV] using hu)⟩
           refine wpTill_pair (i := 5) (j := 11) (oi := ?oi1_q1) (oj := ?oj1_q1) (fun v u W => ∃ A1 c1 g, v = .slice A1 a c1 /\ u = .slice (some ⟨g, 0, none⟩) 1 1 /\ Lies W (fun q => wq.heap.size <= q) 9 1 (.slice A1 a c1) a ((PN.map keyV).take (a * 1)) /\ Source W (some ⟨g, 0, none⟩) 1 [keyV nm] /\ Below wq.heap.size wq W) (by kernel_rfl) (by kernel_rfl) (by kernel_rfl) ?xhoi_q1 ?xhoj_q1 ?xhgi_q1 ?xhgj_q1 (by decide) ?xhc_q1 ?xhV_q1 ?xh1_q1 ?xh2_q1 ?xH_q1
           case xhoi_q1 => simp only [gA, gB, gC]; with_reducible rfl
           case xhoj_q1 => simp only [gA, gB, gC]; with_reducible rfl
           case xhgi_q1 => rfl
           case xhgj_q1 => rfl
           case xhc_q1 => intro v u; rfl
           case xhV_q1 => rintro v u W ⟨_, _, _, _, _, _, _, hb⟩; exact hb
           case xh1_q1 =>
             intro K1 hK1
             replace hK1 := hid hK1
             refine wp_append_any (fun _ => False) _ _ _ rfl 9 1 16 (.string ⟨#[]⟩) Tryz.underlying26 infoStrG rfl (by omega) _ 0 [] rfl (Lies.empty _ _ _ _ none) AN a cN ((PN.map keyV).take (a * 1)) rfl (HN1.out _ hS).length (HN1.out _ hS).src HN2.out (by omega) (by omega) ?_
             intro v1 u1 hl1 hk1
             rw [Nat.zero_add] at hl1
             obtain ⟨A1, c1, rfl, _, _⟩ := hl1.form
             have hb1 : Below wq.heap.size wq u1 := hS.trans (hk1.below (Nat.le_refl _) fun q e => e.1.elim)
             have hl2 : Lies u1 (fun q => wq.heap.size <= q) 9 1 (.slice A1 a c1) a ((PN.map keyV).take (a * 1)) := hl1.mono fun q e => e.elim (fun f => f.elim) id
             refine ⟨hb1, ?_⟩
             refine wp_build1s (.tmp 52) rfl (bs nm) ?_ ?_
             · kernel_rfl
             refine hK1.out _ _ _ ⟨A1, c1, _, rfl, rfl, hl2.below ((Below.refl _ _).alloc (Nat.le_refl _) _), HZ.out u1, hb1.alloc hb1.size _⟩
           case xh2_q1 =>
             intro K1 hK1
             replace hK1 := hid hK1
             refine wp_build1s (.tmp 52) rfl (bs nm) ?_ ?_
             · kernel_rfl
             have hb1 : Below wq.heap.size wq (wq.drew.alloc (.cells #[.string (bs nm)] 9)) := hS.alloc hS.size _
             refine ⟨hb1, ?_⟩
             have hz := HZ.out wq.drew
             generalize wq.drew.alloc _ = u1 at *
             refine wp_append_any (fun _ => False) _ _ _ rfl 9 1 16 (.string ⟨#[]⟩) Tryz.underlying26 infoStrG rfl (by omega) _ 0 [] rfl (Lies.empty _ _ _ _ none) AN a cN ((PN.map keyV).take (a * 1)) rfl (HN1.out _ hb1).length (HN1.out _ hb1).src HN2.out (by omega) (by omega) ?_
             intro v1 u2 hl1 hk1
             rw [Nat.zero_add] at hl1
             obtain ⟨A1, c1, rfl, _, _⟩ := hl1.form
             have hb2 : Below wq.heap.size wq u2 := hb1.trans (hk1.below hb1.size fun q e => e.1.elim)
             have hl2 : Lies u2 (fun q => wq.heap.size <= q) 9 1 (.slice A1 a c1) a ((PN.map keyV).take (a * 1)) := hl1.mono fun q e => e.elim (fun f => f.elim) fun f => Nat.le_trans hb1.size f
             refine hK1.out _ _ _ ⟨A1, c1, _, rfl, rfl, hl2, ?_, hb2⟩
             rcases hz with e | ⟨a9, e, hz⟩
             · cases e
             · exact .inr ⟨a9, e, fun j u hu => hk1.cellOf (hz j u hu) fun f => f.1.elim⟩
           rintro v u u3 ⟨A1, c1, g4, rfl, rfl, hl3, hz3, hb3⟩
           try simp only [Act.put, sA, sB, sC]
           have HL3 := hid hl3
           have HZ3 := hid hz3
           have HB3 := hid hb3
           clear hl3 hz3 hb3 hS HZ
           have hS := HB3.out
           refine wpTill_o 12 ?_
           intro K1 hK1
           refine wp_append_any (fun q => wq.heap.size <= q) _ _ _ rfl 9 1 16 (.string ⟨#[]⟩) Tryz.underlying26 infoStrG rfl (by omega) _ a ((PN.map keyV).take (a * 1)) rfl HL3.out _ 1 1 [keyV nm] rfl rfl HZ3.out (by simp [keyV, Value.oneCell']) (by omega) (by omega) ?_
           intro v4 u4 hl4 hk4
           obtain ⟨A4, c4, rfl, _, _⟩ := hl4.form
           have hS4 : Below wq.heap.size wq u4 := HB3.out.trans (hk4.below HB3.out.size fun q e => e.1)
           have HL4 : Hid (Lies u4 (fun q => wq.heap.size <= q) 9 1 (.slice A4 (a + 1) c4) (a + 1) ((PN.map keyV).take (a * 1) ++ [keyV nm])) := hid (hl4.mono fun q e => e.elim id fun f => Nat.le_trans HB3.out.size f)
           have HB4 := hid hS4
           refine hK1.out _ _ (fun _ => hS4) ?_
           clear hl4 hk4 hS
           clear hK1 K1
           try simp only [Act.put, sA, sB, sC]
           refine wpTill_o 13 ?_
           intro K1 hK1
           go_simp
           refine hK1.out _ _ (fun h => by cases h) ?_
           clear hS4
           clear hK1 K1
           try simp only [Act.put, sA, sB, sC]
           refine wpTill_past _ _ _ _ (by kernel_rfl) ?_
           refine wpAny_done (by kernel_rfl) ?_ _
           clear HL3 HZ3 HB3 HN1
           obtain ⟨AC, cC, rr, hrr, hcut, hlc⟩ := (HNi.out.below HB4.out).from_ hal.out
           have hsl := fun W => run_fromS (P := Tryz.prog) W 26 9 1 Tryz.underlying26 (by kernel_rfl) AN i cN a .i64 hal.out
           rw [hcut] at hsl
           have HLC := hid hlc
           have HRR := hid hrr
           have hrb : rr <= 1000000 := by omega
           have HOC : Hid (∀ u ∈ (PN.map keyV).drop (a * 1), u.oneCell' = true) := hid fun u hu => keys_one PN u (List.mem_of_mem_drop hu)
           clear hcut hlc hrr
           obtain ⟨_, _, _, y6, y7, _, _⟩ := HVC.out _ _ _ _ _ _ _ (HSq.out.call HB4.out)
           go_upto_region 14 with (
             at_builtin
             refine wpList_append_any ?_ (fun q => wq.heap.size <= q) (.tmp 55) (.tmp 59) 26 ?_ 9 1 16 (.string ⟨#[]⟩) Tryz.underlying26 infoStrG rfl (by omega) (.slice A4 (a + 1) c4) (a + 1) ((PN.map keyV).take (a * 1) ++ [keyV nm]) ?_ HL4.out AC rr cC ((PN.map keyV).drop (a * 1)) ?_ HLC.out.length HLC.out.src HOC.out (by omega) (by omega) ?_
             · with_reducible rfl
             · with_reducible rfl
             · rfl
             · rfl
             intro v5 u5 hl5 hk5
             obtain ⟨A5, c5, rfl, _, _⟩ := hl5.form
             have hb5 : Below wq.heap.size wq u5 := HB4.out.trans (hk5.below HB4.out.size fun q e => e.1)
             have hlen : a + 1 + rr = (PN.take a ++ nm :: PN.drop a).length := by rw [put_len _ _ _ (by rw [HLN.out]; exact hal.out), HLN.out, HRR.out]; omega
             have hl6 : Lies u5 (fun q => wq.heap.size <= q) 9 1 (.slice A5 (a + 1 + rr) c5) (PN.take a ++ nm :: PN.drop a).length ((PN.take a ++ nm :: PN.drop a).map keyV) := by
               rw [<- names_eq, <- hlen]
               exact hl5.mono fun q e => e.elim id fun f => Nat.le_trans HB4.out.size f
             obtain ⟨ow2, hS2⟩ := HSq.out.name hb5 hl6
             have HSz := hid hS2
             obtain ⟨PN2, hPN2⟩ : ∃ PN2, PN2 = PN.take a ++ nm :: PN.drop a := ⟨_, rfl⟩
             rw [<- hPN2] at HSz HFT
             obtain ⟨_, _, _, _, y7, _, f7⟩ := HVC.out _ _ _ _ _ _ _ (HSq.out.call hb5)
             generalize hn2 : a + 1 + rr = n2 at *
             clear hsl y6 hlen hl5 hk5 hl6 hb5 hS2 hPN2 HL4 HB4 HLC HOC HN2 hn2)
           try clear y7
           try clear f7
           clear HSq
           generalize World.setCell _ _ _ = wz at *
           go_wp2_with fail
           have HLi : Hid (Lies wz (FB ow2 w.heap.size 2) 28 8 (.slice AL i cL) i css.flatten) := hid (by have h9 := HSz.out.list; rw [HLP.out] at h9; exact h9)
           have HSP := hid (JsAt.split a PL css HSz.out.vals)
           have HO1 : Hid (∀ u ∈ css.flatten, u.oneCell' = true) := hid (JsAt.ones PL css HSz.out.vals)
           refine wp_region_till 14 (fun W => Below wz.heap.size wz W) (by kernel_rfl) ?_
           have hS : Below wz.heap.size wz wz.drew := (Below.refl _ _).drew
           refine wpTill_z 0 ?_
           try simp only [Act.put, sA, sB, sC]
           refine wpTill_z 1 ?_
           try simp only [Act.put, sA, sB, sC]
           refine wpTill_y 2 ?_ ?_ ?_
           rotate_left
           · intro W hSw; have q := (HVC.out W _ _ _ _ _ _ (HSz.out.call hSw)).2.2.2.1; go_simp; try with_reducible rfl
           try simp only [Act.put, sA, sB, sC]
           refine wpTill_z 3 ?_
           try simp only [Act.put, sA, sB, sC]
           refine wpTill_y 4 ?_ ?_ ?_
           rotate_left
           · intro W hSw; have q := run_toL HLi.out hal.out W 25 28 Tryz.underlying25 (by kernel_rfl); go_simp; try with_reducible rfl
           try simp only [Act.put, sA, sB, sC]
           refine wpTill_z 6 ?_
           try simp only [Act.put, sA, sB, sC]
           refine wpTill_y 7 ?_ ?_ ?_
           rotate_left
           · intro W hSw; have q := (HVC.out W _ _ _ _ _ _ (HSz.out.call hSw)).2.1; go_simp; try with_reducible rfl
           try simp only [Act.put, sA, sB, sC]
           refine wpTill_z 8 ?_
           try simp only [Act.put, sA, sB, sC]
           refine wpTill_z 9 ?_
           try simp only [Act.put, sA, sB, sC]
           refine wpTill_l 10 (.tmp 71) g2 (off2 + i * 8) cs2 H8c.out (fun W hSw => HRG.out W (HSz.out.below.call hSw)) ?_
           try simp only [Act.put, sA, sB, sC]
           have hal2 := hal.out
           refine wpTill_o 5 ?_
           intro K1 hK1
           refine wp_append_any (fun _ => False) _ _ _ rfl 28 8 112 (.agg zeroJ) Tryz.underlying25 infoJV rfl (by omega) _ 0 [] rfl (Lies.empty _ _ _ _ none) AL a cL (css.flatten.take (a * 8)) rfl ((HLi.out.below hS).take hal.out).length ((HLi.out.below hS).take hal.out).src (fun u hu => HO1.out u (List.mem_of_mem_take hu)) (by omega) (by omega) ?_
           intro v1 u1 hl1 hk1
           rw [Nat.zero_add] at hl1
           obtain ⟨A1, c1, rfl, _, _⟩ := hl1.form
           have hS1 : Below wz.heap.size wz u1 := hS.trans (hk1.below (Nat.le_refl _) fun q e => e.1.elim)
           have HL1 : Hid (Lies u1 (fun q => wz.heap.size <= q /\ q < u1.heap.size) 28 8 (.slice A1 a c1) a (css.flatten.take (a * 8))) := hid (hl1.there.mono fun q e => ⟨e.1.elim (fun f => f.elim) id, e.2⟩)
           have HB1 := hid hS1
           refine hK1.out _ _ (fun _ => hS1) ?_
           clear hl1 hk1 hS
           clear hK1 K1
           try simp only [Act.put, sA, sB, sC]
           refine wpTill_o 11 ?_
           intro K1 hK1
           go_simp
           (with_reducible refine (HK.out _ (HSz.out.below.call HB1.out)).mono ?_)
           rintro e1 u2 ⟨cs3, rfl, hcop, hb⟩
           obtain ⟨k3, b3, d3, t3, L3, N3, hc3⟩ := hcop.form
           go_wp2_with fail
           have hS2 : Below wz.heap.size wz u2 := HB1.out.call hb
           have HB2 := hid hS2
           have HB12 := hid hb
           have HC3 := hid hc3
           have HJ := hid (JIs.mono (G := fun q => wz.heap.size <= q /\ u1.heap.size <= q /\ q < u2.heap.size) (fun q e1 e2 => ⟨Nat.le_trans HB1.out.size e1, e1, e2⟩) _ _ hcop.jis)
           refine hK1.out _ _ (fun _ => hS2) ?_
           clear hb hS1 hcop hc3
           clear hK1 K1
           try simp only [Act.put, sA, sB, sC]
           refine wpTill_o 12 ?_
           intro K1 hK1
           refine wp_build1 (.tmp 73) rfl k3 b3 d3 t3 L3 N3 ?_ ?_
           · first | exact congrArg Value.agg HC3.out | rfl
           have hb3 : Below u2.heap.size u2 (u2.alloc (.cells (jvC k3 b3 d3 t3 L3 N3) 28)) := (Below.refl u2.heap.size u2).alloc (Nat.le_refl _) _
           have HZ : Hid (Source (u2.alloc (.cells (jvC k3 b3 d3 t3 L3 N3) 28)) (some ⟨u2.heap.size, 0, none⟩) 1 cs3.toList) := hid (.inr ⟨_, rfl, fun j u hu => by
             rw [Addr.add_lit, Nat.zero_add]
             rw [HC3.out] at hu
             exact (Row.new u2 28 (jvC k3 b3 d3 t3 L3 N3)).cell (by simpa using hu)⟩)
           have HB23 := hid hb3
           have hS3 := hS2.call hb3
           have HB3 := hid hS3
           refine hK1.out _ _ (fun _ => hS3) ?_
           clear hS2 hb3
           clear hK1 K1
           try simp only [Act.put, sA, sB, sC]
           generalize u2.alloc _ = u3 at *
           refine wpTill_o 13 ?_
           intro K1 hK1
           refine wp_append_any (fun q => wz.heap.size <= q /\ q < u1.heap.size) _ _ _ rfl 28 8 112 (.agg zeroJ) Tryz.underlying25 infoJV rfl (by omega) _ a (css.flatten.take (a * 8)) rfl (HL1.out.below (HB12.out.call HB23.out)) _ 1 1 cs3.toList rfl (by rw [HJ.out.len]) HZ.out (jv_one HJ.out) (by omega) (by omega) ?_
           intro v4 u4 hl4 hk4
           obtain ⟨A4, c4, rfl, _, _⟩ := hl4.form
           have hS4 : Below wz.heap.size wz u4 := HB3.out.trans (hk4.below HB3.out.size fun q e => e.1.1)
           have HB4 := hid hS4
           have hz1 := HB12.out.size
           have hz2 := HB23.out.size
           have hz3 := hk4.size
           have hz4 := HB3.out.size
           have HZZ : Hid (u2.heap.size <= u4.heap.size) := hid (by omega)
           have HL4 : Hid (Lies u4 (fun q => wz.heap.size <= q /\ ¬ (u1.heap.size <= q /\ q < u2.heap.size)) 28 8 (.slice A4 (a + 1) c4) (a + 1) (css.flatten.take (a * 8) ++ cs3.toList)) := hid (hl4.mono fun q e => e.elim (fun f => ⟨f.1, by omega⟩) fun f => ⟨by omega, by omega⟩)
           have HJ4 : Hid (JIs u4 (fun q => wz.heap.size <= q /\ u1.heap.size <= q /\ q < u2.heap.size) (lk.getD i JV.null) cs3.toList) := hid (JIs.kept hk4 (fun q e1 e2 => by have := e2.1.2; have := e1.2.1; omega) _ _ (HJ.out.below HB23.out))
           refine hK1.out _ _ (fun _ => hS4) ?_
           clear hl4 hk4 hS3 hz1 hz2 hz3 hz4
           clear hK1 K1
           try simp only [Act.put, sA, sB, sC]
           refine wpTill_o 14 ?_
           intro K1 hK1
           go_simp
           refine hK1.out _ _ (fun h => by cases h) ?_
           clear hS4
           clear hK1 K1
           try simp only [Act.put, sA, sB, sC]
           refine wpTill_past _ _ _ _ (by kernel_rfl) ?_
           refine wpAny_done (by kernel_rfl) ?_ _
           clear HL1 HZ HB1 HB2 HB3 HB12 HB23 HJ
           obtain ⟨AC, cC, rr, hrr, hcut, hlc⟩ := (HLi.out.below HB4.out).from_ hal.out
           have hsl := fun W => run_fromS (P := Tryz.prog) W 25 28 8 Tryz.underlying25 (by kernel_rfl) AL i cL a .i64 hal.out
           rw [hcut] at hsl
           have HLC := hid hlc
           have HRR := hid hrr
           have hrb : rr <= 1000000 := by omega
           clear hcut hlc hrr
           obtain ⟨_, _, _, y6, _, _, _⟩ := HVC.out _ _ _ _ _ _ _ (HSz.out.call HB4.out)
           go_upto_region 6 with (
             at_builtin
             refine wpList_append_any ?_ (fun q => wz.heap.size <= q /\ ¬ (u1.heap.size <= q /\ q < u2.heap.size)) (.tmp 76) (.tmp 80) 25 ?_ 28 8 112 (.agg zeroJ) Tryz.underlying25 infoJV rfl (by omega) (.slice A4 (a + 1) c4) (a + 1) (css.flatten.take (a * 8) ++ cs3.toList) ?_ HL4.out AC rr cC (css.flatten.drop (a * 8)) ?_ HLC.out.length HLC.out.src (fun u hu => HO1.out u (List.mem_of_mem_drop hu)) (by omega) (by omega) ?_
             · with_reducible rfl
             · with_reducible rfl
             · rfl
             · rfl
             intro v5 u5 hl5 hk5
             obtain ⟨A5', c5', rfl, _, _⟩ := hl5.form
             have hb5 : Below wz.heap.size wz u5 := HB4.out.trans (hk5.below HB4.out.size fun q e => e.1.1)
             have hlen : a + 1 + rr = (PL.take a ++ lk.getD i JV.null :: PL.drop a).length := by rw [put_len _ _ _ (by rw [HLP.out]; exact hal.out), HLP.out, HRR.out]; omega
             have hcs : (css.flatten.take (a * 8) ++ cs3.toList) ++ css.flatten.drop (a * 8) = (css.take a ++ cs3.toList :: css.drop a).flatten := by
               rw [List.flatten_append, List.flatten_cons, HSP.out.2.2.1, HSP.out.2.2.2, List.append_assoc]
             have hz5 := HZZ.out
             have hl6 : Lies u5 (fun q => wz.heap.size <= q /\ ¬ (u1.heap.size <= q /\ q < u2.heap.size)) 28 8 (.slice A5' (a + 1 + rr) c5') (PL.take a ++ lk.getD i JV.null :: PL.drop a).length (css.take a ++ cs3.toList :: css.drop a).flatten := by
               rw [<- hcs, <- hlen]
               have hz6 := HB4.out.size
               exact hl5.mono fun q e => e.elim id fun f => ⟨by omega, by omega⟩
             have hvals : JsAt u5 (fun q => FB ow2 w.heap.size 0 q /\ q < wz.heap.size ∨ wz.heap.size <= q /\ u1.heap.size <= q /\ q < u2.heap.size) (PL.take a ++ lk.getD i JV.null :: PL.drop a) (css.take a ++ cs3.toList :: css.drop a) := by
               refine JsAt.append _ _ (JsAt.mono (F := fun q => FB ow2 w.heap.size 0 q /\ q < wz.heap.size) (fun q e _ => .inl e) _ _ ?_) ⟨JIs.mono (fun q e _ => .inr e) _ _ (JIs.kept hk5 (fun q e1 e2 => e2.1.2 ⟨e1.2.1, e1.2.2⟩) _ _ HJ4.out), JsAt.mono (F := fun q => FB ow2 w.heap.size 0 q /\ q < wz.heap.size) (fun q e _ => .inl e) _ _ ?_⟩
               · exact JsAt.kept (G := fun _ => False) (keptOf_below hb5) (fun _ _ => id) _ _ (JsAt.mono (fun q e1 e2 => ⟨e1, e2⟩) _ _ HSP.out.1)
               · exact JsAt.kept (G := fun _ => False) (keptOf_below hb5) (fun _ _ => id) _ _ (JsAt.mono (fun q e1 e2 => ⟨e1, e2⟩) _ _ HSP.out.2.1)
             obtain ⟨ow3, hS3⟩ := HSz.out.item hb5 _ _ hvals hl6
             have HS3 : Hid (SoS w w.heap.size (w.heap.size + 1) (w.heap.size + 2) cv k b ⟨dn, dl, dx⟩ t (st (i + 1)).1 (st (i + 1)).2 ow3 (.slice A5' (a + 1 + rr) c5') (.slice A5 n2 c5) (css.take a ++ cs3.toList :: css.drop a) (u5.setCell ⟨w.heap.size + 2, 6, none⟩ (.slice A5' (a + 1 + rr) c5'))) := hid (by rw [HFT.out]; exact hS3)
             obtain ⟨_, _, _, y6, _, f6, _⟩ := HVC.out _ _ _ _ _ _ _ (HSz.out.call hb5)
             have HI2 : Hid (i + 1 <= nl) := hid hlt
             generalize hn3 : a + 1 + rr = n3 at *
             clear hsl hlen hl5 hk5 hl6 hb5 hS3 hvals hcs HL4 HB4 HLC HO1 HJ4 hn3)
           try clear y6
           try clear f6
           clear HSz HSP HLi
           generalize World.setCell _ _ _ = wr2 at *
           go_wp2_with fail
           exact ⟨⟨i + 1, ow3, _, _, _, HI2.out, by go_num, HS3⟩, by have := HI2.out; simp [intOf]; omega⟩
         · obtain ⟨a', ha'⟩ : ∃ a', a = a' + 1 := ⟨a - 1, by omega⟩
           have hN := HS.out.names
           rw [HLN.out] at hN
           obtain ⟨gN, oN, cN', hv, _, _, _, hltN, hrN⟩ := hN.cells (by omega)
           injection hv with e1 _ e3
           subst e1 e3
           have z1 : wr.cell? ⟨gN, oN + a', none⟩ = some (.string (bs (PN.getD a' []))) := by
             have hap : a' < PN.length := by rw [HLN.out]; omega
             have := hrN a' (keyV (PN.getD a' [])) (by simp [List.getD, List.getElem?_eq_getElem hap])
             exact this
           clear hN hrN
           have hcmp := gtr_val (PN.getD a' []) nm
           have haz : (a : Int) > 0 := by omega
           have haz3 : decide (0 < a) = true := decide_eq_true (by omega)
           have haz4 : decide ((0 : Int) < (a : Int)) = true := decide_eq_true (by omega)
           have haz2 : (a' : Int) < (i : Int) := by omega
           have haw : IntKind.i64.wrap ((a : Int) - 1) = (a' : Int) := by rw [show (a : Int) - 1 = (a' : Int) by omega]; exact IntWalk.i64_in _ (by omega)
           have hal : Hid (a <= i) := hid ha
           by_cases hgt : nm < PN.getD a' []
           · rw [decide_eq_true hgt] at hcmp
             have HD2 : Hid (downN nm PN a' = downN nm PN i) := hid (by rw [<- HDN.out, ha', downN, if_pos hgt])
             have HM : Hid (a' <= i /\ a' < a) := hid (by omega)
             clear hgt ha' ha0
             generalize PN.getD a' [] = nm2 at *
             go_wp2_with fail
             go_quiet (fail)
             clear x0 x6 x7 y6 y7 z0 z1 hcmp haz haz2 haz3 haz4
             go_wp2_with fail
             exact ⟨⟨a', HM.out.1, by go_num, HD2, hid (HS.out.call (below_drewN (Below.refl _ _) _))⟩, by have := HM.out; simp [intOf]; omega⟩
           · rw [decide_eq_false hgt] at hcmp
             have hEND : Hid (downN nm PN i = a) := hid (by rw [<- HDN.out, ha', downN, if_neg hgt])
             clear hgt ha' ha0
             generalize PN.getD a' [] = nm2 at *
             go_wp2_with fail
             go_quiet (fail)
             clear x0 x6 x7 y6 y7 z0 z1 hcmp haz haz2 haz3 haz4 haw
             go_wp2_with fail
             clear hltN
             generalize (some ⟨gN, oN, none⟩ : Option Addr) = AN at *
             generalize hwq : World.drewN _ _ = wq
             have HSq : Hid (SoS w w.heap.size (w.heap.size + 1) (w.heap.size + 2) cv k b ⟨dn, dl, dx⟩ t PL PN ow (.slice AL i cL) (.slice AN i cN) css wq) := hid (by rw [<- hwq]; exact HS.out.call (below_drewN (Below.refl _ _) _))
             have HLP : Hid (PL.length = i) := hid (by have := HSq.out.list.form; obtain ⟨_, _, e, _⟩ := this; injection e with _ e _; exact e.symm)
             have HFT : Hid (st (i + 1) = (PL.take a ++ lk.getD i JV.null :: PL.drop a, PN.take a ++ nm :: PN.drop a)) := hid (by rw [HSN.out]; simp only [placeN, if_true, HLP.out, hEND.out])
             have HNi : Hid (Lies wq (FB ow w.heap.size 3) 9 1 (.slice AN i cN) i (PN.map keyV)) := hid (by have h9 := HSq.out.names; rw [HLN.out] at h9; exact h9)
             clear HS HDN HSN hEND hwq
             refine wp_region_till 13 (fun W => Below wq.heap.size wq W) (by kernel_rfl) ?_
             have hS : Below wq.heap.size wq wq.drew := (Below.refl _ _).drew
             refine wpTill_z 0 ?_
             try simp only [Act.put, sA, sB, sC]
             refine wpTill_z 1 ?_
             try simp only [Act.put, sA, sB, sC]
             refine wpTill_y 2 ?_ ?_ ?_
             rotate_left
             · intro W hSw; have q := (HVC.out W _ _ _ _ _ _ (HSq.out.call hSw)).2.2.2.2.1; go_simp; try with_reducible rfl
             try simp only [Act.put, sA, sB, sC]
             refine wpTill_z 3 ?_
             try simp only [Act.put, sA, sB, sC]
             refine wpTill_y 4 ?_ ?_ ?_
             rotate_left
             · intro W hSw; have q := run_toL HNi.out hal.out W 26 9 Tryz.underlying26 (by kernel_rfl); go_simp; try with_reducible rfl
             try simp only [Act.put, sA, sB, sC]
             refine wpTill_z 6 ?_
             try simp only [Act.put, sA, sB, sC]
             refine wpTill_y 7 ?_ ?_ ?_
             rotate_left
             · intro W hSw; have q := (HVC.out W _ _ _ _ _ _ (HSq.out.call hSw)).2.2.1; go_simp; try with_reducible rfl
             try simp only [Act.put, sA, sB, sC]
             refine wpTill_z 8 ?_
             try simp only [Act.put, sA, sB, sC]
             refine wpTill_z 9 ?_
             try simp only [Act.put, sA, sB, sC]
             refine wpTill_y 10 ?_ ?_ ?_
             rotate_left
             · intro W hSw; have q := HCL.out W (HSq.out.below.call hSw); go_simp; try with_reducible rfl
             try simp only [Act.put, sA, sB, sC]
             have HN1 : Hid (∀ W, Below wq.heap.size wq W -> Lies W (FB ow w.heap.size 3) 9 1 (.slice AN a cN) a ((PN.map keyV).take (a * 1))) := hid fun W hb => by
               exact (HNi.out.below hb).take hal.out
             have HN2 : Hid (∀ u ∈ (PN.map keyV).take (a * 1), u.oneCell' = true) := hid fun u hu => keys_one PN u (List.mem_of_mem_take hu)
             have hal2 := hal.out
             have HZ : Hid (∀ V : World, Source (V.alloc (.cells #[.string (bs nm)] 9)) (some ⟨V.heap.size, 0, none⟩) 1 [keyV nm]) := hid fun V => .inr ⟨_, rfl, fun j u hu => by
               rw [Addr.add_lit, Nat.zero_add]
               exact (Row.new V 9 #[.string (bs nm)]).cell (by simpa [keyV] using hu)⟩
             refine wpTill_pair (i := 5) (j := 11) (oi := ?oi1_q2) (oj := ?oj1_q2) (fun v u W => ∃ A1 c1 g, v = .slice A1 a c1 /\ u = .slice (some ⟨g, 0, none⟩) 1 1 /\ Lies W (fun q => wq.heap.size <= q) 9 1 (.slice A1 a c1) a ((PN.map keyV).take (a * 1)) /\ Source W (some ⟨g, 0, none⟩) 1 [keyV nm] /\ Below wq.heap.size wq W) (by kernel_rfl) (by kernel_rfl) (by kernel_rfl) ?xhoi_q2 ?xhoj_q2 ?xhgi_q2 ?xhgj_q2 (by decide) ?xhc_q2 ?xhV_q2 ?xh1_q2 ?xh2_q2 ?xH_q2
             case xhoi_q2 => simp only [gA, gB, gC]; with_reducible rfl
             case xhoj_q2 => simp only [gA, gB, gC]; with_reducible rfl
             case xhgi_q2 => rfl
             case xhgj_q2 => rfl
             case xhc_q2 => intro v u; rfl
             case xhV_q2 => rintro v u W ⟨_, _, _, _, _, _, _, hb⟩; exact hb
             case xh1_q2 =>
               intro K1 hK1
               replace hK1 := hid hK1
               refine wp_append_any (fun _ => False) _ _ _ rfl 9 1 16 (.string ⟨#[]⟩) Tryz.underlying26 infoStrG rfl (by omega) _ 0 [] rfl (Lies.empty _ _ _ _ none) AN a cN ((PN.map keyV).take (a * 1)) rfl (HN1.out _ hS).length (HN1.out _ hS).src HN2.out (by omega) (by omega) ?_
               intro v1 u1 hl1 hk1
               rw [Nat.zero_add] at hl1
               obtain ⟨A1, c1, rfl, _, _⟩ := hl1.form
               have hb1 : Below wq.heap.size wq u1 := hS.trans (hk1.below (Nat.le_refl _) fun q e => e.1.elim)
               have hl2 : Lies u1 (fun q => wq.heap.size <= q) 9 1 (.slice A1 a c1) a ((PN.map keyV).take (a * 1)) := hl1.mono fun q e => e.elim (fun f => f.elim) id
               refine ⟨hb1, ?_⟩
               refine wp_build1s (.tmp 52) rfl (bs nm) ?_ ?_
               · kernel_rfl
               refine hK1.out _ _ _ ⟨A1, c1, _, rfl, rfl, hl2.below ((Below.refl _ _).alloc (Nat.le_refl _) _), HZ.out u1, hb1.alloc hb1.size _⟩
             case xh2_q2 =>
               intro K1 hK1
               replace hK1 := hid hK1
               refine wp_build1s (.tmp 52) rfl (bs nm) ?_ ?_
               · kernel_rfl
               have hb1 : Below wq.heap.size wq (wq.drew.alloc (.cells #[.string (bs nm)] 9)) := hS.alloc hS.size _
               refine ⟨hb1, ?_⟩
               have hz := HZ.out wq.drew
               generalize wq.drew.alloc _ = u1 at *
               refine wp_append_any (fun _ => False) _ _ _ rfl 9 1 16 (.string ⟨#[]⟩) Tryz.underlying26 infoStrG rfl (by omega) _ 0 [] rfl (Lies.empty _ _ _ _ none) AN a cN ((PN.map keyV).take (a * 1)) rfl (HN1.out _ hb1).length (HN1.out _ hb1).src HN2.out (by omega) (by omega) ?_
               intro v1 u2 hl1 hk1
               rw [Nat.zero_add] at hl1
               obtain ⟨A1, c1, rfl, _, _⟩ := hl1.form
               have hb2 : Below wq.heap.size wq u2 := hb1.trans (hk1.below hb1.size fun q e => e.1.elim)
               have hl2 : Lies u2 (fun q => wq.heap.size <= q) 9 1 (.slice A1 a c1) a ((PN.map keyV).take (a * 1)) := hl1.mono fun q e => e.elim (fun f => f.elim) fun f => Nat.le_trans hb1.size f
               refine hK1.out _ _ _ ⟨A1, c1, _, rfl, rfl, hl2, ?_, hb2⟩
               rcases hz with e | ⟨a9, e, hz⟩
               · cases e
               · exact .inr ⟨a9, e, fun j u hu => hk1.cellOf (hz j u hu) fun f => f.1.elim⟩
             rintro v u u3 ⟨A1, c1, g4, rfl, rfl, hl3, hz3, hb3⟩
             try simp only [Act.put, sA, sB, sC]
             have HL3 := hid hl3
             have HZ3 := hid hz3
             have HB3 := hid hb3
             clear hl3 hz3 hb3 hS HZ
             have hS := HB3.out
             refine wpTill_o 12 ?_
             intro K1 hK1
             refine wp_append_any (fun q => wq.heap.size <= q) _ _ _ rfl 9 1 16 (.string ⟨#[]⟩) Tryz.underlying26 infoStrG rfl (by omega) _ a ((PN.map keyV).take (a * 1)) rfl HL3.out _ 1 1 [keyV nm] rfl rfl HZ3.out (by simp [keyV, Value.oneCell']) (by omega) (by omega) ?_
             intro v4 u4 hl4 hk4
             obtain ⟨A4, c4, rfl, _, _⟩ := hl4.form
             have hS4 : Below wq.heap.size wq u4 := HB3.out.trans (hk4.below HB3.out.size fun q e => e.1)
             have HL4 : Hid (Lies u4 (fun q => wq.heap.size <= q) 9 1 (.slice A4 (a + 1) c4) (a + 1) ((PN.map keyV).take (a * 1) ++ [keyV nm])) := hid (hl4.mono fun q e => e.elim id fun f => Nat.le_trans HB3.out.size f)
             have HB4 := hid hS4
             refine hK1.out _ _ (fun _ => hS4) ?_
             clear hl4 hk4 hS
             clear hK1 K1
             try simp only [Act.put, sA, sB, sC]
             refine wpTill_o 13 ?_
             intro K1 hK1
             go_simp
             refine hK1.out _ _ (fun h => by cases h) ?_
             clear hS4
             clear hK1 K1
             try simp only [Act.put, sA, sB, sC]
             refine wpTill_past _ _ _ _ (by kernel_rfl) ?_
             refine wpAny_done (by kernel_rfl) ?_ _
             clear HL3 HZ3 HB3 HN1
             obtain ⟨AC, cC, rr, hrr, hcut, hlc⟩ := (HNi.out.below HB4.out).from_ hal.out
             have hsl := fun W => run_fromS (P := Tryz.prog) W 26 9 1 Tryz.underlying26 (by kernel_rfl) AN i cN a .i64 hal.out
             rw [hcut] at hsl
             have HLC := hid hlc
             have HRR := hid hrr
             have hrb : rr <= 1000000 := by omega
             have HOC : Hid (∀ u ∈ (PN.map keyV).drop (a * 1), u.oneCell' = true) := hid fun u hu => keys_one PN u (List.mem_of_mem_drop hu)
             clear hcut hlc hrr
             obtain ⟨_, _, _, y6, y7, _, _⟩ := HVC.out _ _ _ _ _ _ _ (HSq.out.call HB4.out)
             go_upto_region 14 with (
               at_builtin
               refine wpList_append_any ?_ (fun q => wq.heap.size <= q) (.tmp 55) (.tmp 59) 26 ?_ 9 1 16 (.string ⟨#[]⟩) Tryz.underlying26 infoStrG rfl (by omega) (.slice A4 (a + 1) c4) (a + 1) ((PN.map keyV).take (a * 1) ++ [keyV nm]) ?_ HL4.out AC rr cC ((PN.map keyV).drop (a * 1)) ?_ HLC.out.length HLC.out.src HOC.out (by omega) (by omega) ?_
               · with_reducible rfl
               · with_reducible rfl
               · rfl
               · rfl
               intro v5 u5 hl5 hk5
               obtain ⟨A5, c5, rfl, _, _⟩ := hl5.form
               have hb5 : Below wq.heap.size wq u5 := HB4.out.trans (hk5.below HB4.out.size fun q e => e.1)
               have hlen : a + 1 + rr = (PN.take a ++ nm :: PN.drop a).length := by rw [put_len _ _ _ (by rw [HLN.out]; exact hal.out), HLN.out, HRR.out]; omega
               have hl6 : Lies u5 (fun q => wq.heap.size <= q) 9 1 (.slice A5 (a + 1 + rr) c5) (PN.take a ++ nm :: PN.drop a).length ((PN.take a ++ nm :: PN.drop a).map keyV) := by
                 rw [<- names_eq, <- hlen]
                 exact hl5.mono fun q e => e.elim id fun f => Nat.le_trans HB4.out.size f
               obtain ⟨ow2, hS2⟩ := HSq.out.name hb5 hl6
               have HSz := hid hS2
               obtain ⟨PN2, hPN2⟩ : ∃ PN2, PN2 = PN.take a ++ nm :: PN.drop a := ⟨_, rfl⟩
               rw [<- hPN2] at HSz HFT
               obtain ⟨_, _, _, _, y7, _, f7⟩ := HVC.out _ _ _ _ _ _ _ (HSq.out.call hb5)
               generalize hn2 : a + 1 + rr = n2 at *
               clear hsl y6 hlen hl5 hk5 hl6 hb5 hS2 hPN2 HL4 HB4 HLC HOC HN2 hn2)
             try clear y7
             try clear f7
             clear HSq
             generalize World.setCell _ _ _ = wz at *
             go_wp2_with fail
             have HLi : Hid (Lies wz (FB ow2 w.heap.size 2) 28 8 (.slice AL i cL) i css.flatten) := hid (by have h9 := HSz.out.list; rw [HLP.out] at h9; exact h9)
             have HSP := hid (JsAt.split a PL css HSz.out.vals)
             have HO1 : Hid (∀ u ∈ css.flatten, u.oneCell' = true) := hid (JsAt.ones PL css HSz.out.vals)
             refine wp_region_till 14 (fun W => Below wz.heap.size wz W) (by kernel_rfl) ?_
             have hS : Below wz.heap.size wz wz.drew := (Below.refl _ _).drew
             refine wpTill_z 0 ?_
             try simp only [Act.put, sA, sB, sC]
             refine wpTill_z 1 ?_
             try simp only [Act.put, sA, sB, sC]
             refine wpTill_y 2 ?_ ?_ ?_
             rotate_left
             · intro W hSw; have q := (HVC.out W _ _ _ _ _ _ (HSz.out.call hSw)).2.2.2.1; go_simp; try with_reducible rfl
             try simp only [Act.put, sA, sB, sC]
             refine wpTill_z 3 ?_
             try simp only [Act.put, sA, sB, sC]
             refine wpTill_y 4 ?_ ?_ ?_
             rotate_left
             · intro W hSw; have q := run_toL HLi.out hal.out W 25 28 Tryz.underlying25 (by kernel_rfl); go_simp; try with_reducible rfl
             try simp only [Act.put, sA, sB, sC]
             refine wpTill_z 6 ?_
             try simp only [Act.put, sA, sB, sC]
             refine wpTill_y 7 ?_ ?_ ?_
             rotate_left
             · intro W hSw; have q := (HVC.out W _ _ _ _ _ _ (HSz.out.call hSw)).2.1; go_simp; try with_reducible rfl
             try simp only [Act.put, sA, sB, sC]
             refine wpTill_z 8 ?_
             try simp only [Act.put, sA, sB, sC]
             refine wpTill_z 9 ?_
             try simp only [Act.put, sA, sB, sC]
             refine wpTill_l 10 (.tmp 71) g2 (off2 + i * 8) cs2 H8c.out (fun W hSw => HRG.out W (HSz.out.below.call hSw)) ?_
             try simp only [Act.put, sA, sB, sC]
             have hal2 := hal.out
             refine wpTill_o 5 ?_
             intro K1 hK1
             refine wp_append_any (fun _ => False) _ _ _ rfl 28 8 112 (.agg zeroJ) Tryz.underlying25 infoJV rfl (by omega) _ 0 [] rfl (Lies.empty _ _ _ _ none) AL a cL (css.flatten.take (a * 8)) rfl ((HLi.out.below hS).take hal.out).length ((HLi.out.below hS).take hal.out).src (fun u hu => HO1.out u (List.mem_of_mem_take hu)) (by omega) (by omega) ?_
             intro v1 u1 hl1 hk1
             rw [Nat.zero_add] at hl1
             obtain ⟨A1, c1, rfl, _, _⟩ := hl1.form
             have hS1 : Below wz.heap.size wz u1 := hS.trans (hk1.below (Nat.le_refl _) fun q e => e.1.elim)
             have HL1 : Hid (Lies u1 (fun q => wz.heap.size <= q /\ q < u1.heap.size) 28 8 (.slice A1 a c1) a (css.flatten.take (a * 8))) := hid (hl1.there.mono fun q e => ⟨e.1.elim (fun f => f.elim) id, e.2⟩)
             have HB1 := hid hS1
             refine hK1.out _ _ (fun _ => hS1) ?_
             clear hl1 hk1 hS
             clear hK1 K1
             try simp only [Act.put, sA, sB, sC]
             refine wpTill_o 11 ?_
             intro K1 hK1
             go_simp
             (with_reducible refine (HK.out _ (HSz.out.below.call HB1.out)).mono ?_)
             rintro e1 u2 ⟨cs3, rfl, hcop, hb⟩
             obtain ⟨k3, b3, d3, t3, L3, N3, hc3⟩ := hcop.form
             go_wp2_with fail
             have hS2 : Below wz.heap.size wz u2 := HB1.out.call hb
             have HB2 := hid hS2
             have HB12 := hid hb
             have HC3 := hid hc3
             have HJ := hid (JIs.mono (G := fun q => wz.heap.size <= q /\ u1.heap.size <= q /\ q < u2.heap.size) (fun q e1 e2 => ⟨Nat.le_trans HB1.out.size e1, e1, e2⟩) _ _ hcop.jis)
             refine hK1.out _ _ (fun _ => hS2) ?_
             clear hb hS1 hcop hc3
             clear hK1 K1
             try simp only [Act.put, sA, sB, sC]
             refine wpTill_o 12 ?_
             intro K1 hK1
             refine wp_build1 (.tmp 73) rfl k3 b3 d3 t3 L3 N3 ?_ ?_
             · first | exact congrArg Value.agg HC3.out | rfl
             have hb3 : Below u2.heap.size u2 (u2.alloc (.cells (jvC k3 b3 d3 t3 L3 N3) 28)) := (Below.refl u2.heap.size u2).alloc (Nat.le_refl _) _
             have HZ : Hid (Source (u2.alloc (.cells (jvC k3 b3 d3 t3 L3 N3) 28)) (some ⟨u2.heap.size, 0, none⟩) 1 cs3.toList) := hid (.inr ⟨_, rfl, fun j u hu => by
               rw [Addr.add_lit, Nat.zero_add]
               rw [HC3.out] at hu
               exact (Row.new u2 28 (jvC k3 b3 d3 t3 L3 N3)).cell (by simpa using hu)⟩)
             have HB23 := hid hb3
             have hS3 := hS2.call hb3
             have HB3 := hid hS3
             refine hK1.out _ _ (fun _ => hS3) ?_
             clear hS2 hb3
             clear hK1 K1
             try simp only [Act.put, sA, sB, sC]
             generalize u2.alloc _ = u3 at *
             refine wpTill_o 13 ?_
             intro K1 hK1
             refine wp_append_any (fun q => wz.heap.size <= q /\ q < u1.heap.size) _ _ _ rfl 28 8 112 (.agg zeroJ) Tryz.underlying25 infoJV rfl (by omega) _ a (css.flatten.take (a * 8)) rfl (HL1.out.below (HB12.out.call HB23.out)) _ 1 1 cs3.toList rfl (by rw [HJ.out.len]) HZ.out (jv_one HJ.out) (by omega) (by omega) ?_
             intro v4 u4 hl4 hk4
             obtain ⟨A4, c4, rfl, _, _⟩ := hl4.form
             have hS4 : Below wz.heap.size wz u4 := HB3.out.trans (hk4.below HB3.out.size fun q e => e.1.1)
             have HB4 := hid hS4
             have hz1 := HB12.out.size
             have hz2 := HB23.out.size
             have hz3 := hk4.size
             have hz4 := HB3.out.size
             have HZZ : Hid (u2.heap.size <= u4.heap.size) := hid (by omega)
             have HL4 : Hid (Lies u4 (fun q => wz.heap.size <= q /\ ¬ (u1.heap.size <= q /\ q < u2.heap.size)) 28 8 (.slice A4 (a + 1) c4) (a + 1) (css.flatten.take (a * 8) ++ cs3.toList)) := hid (hl4.mono fun q e => e.elim (fun f => ⟨f.1, by omega⟩) fun f => ⟨by omega, by omega⟩)
             have HJ4 : Hid (JIs u4 (fun q => wz.heap.size <= q /\ u1.heap.size <= q /\ q < u2.heap.size) (lk.getD i JV.null) cs3.toList) := hid (JIs.kept hk4 (fun q e1 e2 => by have := e2.1.2; have := e1.2.1; omega) _ _ (HJ.out.below HB23.out))
             refine hK1.out _ _ (fun _ => hS4) ?_
             clear hl4 hk4 hS3 hz1 hz2 hz3 hz4
             clear hK1 K1
             try simp only [Act.put, sA, sB, sC]
             refine wpTill_o 14 ?_
             intro K1 hK1
             go_simp
             refine hK1.out _ _ (fun h => by cases h) ?_
             clear hS4
             clear hK1 K1
             try simp only [Act.put, sA, sB, sC]
             refine wpTill_past _ _ _ _ (by kernel_rfl) ?_
             refine wpAny_done (by kernel_rfl) ?_ _
             clear HL1 HZ HB1 HB2 HB3 HB12 HB23 HJ
             obtain ⟨AC, cC, rr, hrr, hcut, hlc⟩ := (HLi.out.below HB4.out).from_ hal.out
             have hsl := fun W => run_fromS (P := Tryz.prog) W 25 28 8 Tryz.underlying25 (by kernel_rfl) AL i cL a .i64 hal.out
             rw [hcut] at hsl
             have HLC := hid hlc
             have HRR := hid hrr
             have hrb : rr <= 1000000 := by omega
             clear hcut hlc hrr
             obtain ⟨_, _, _, y6, _, _, _⟩ := HVC.out _ _ _ _ _ _ _ (HSz.out.call HB4.out)
             go_upto_region 6 with (
               at_builtin
               refine wpList_append_any ?_ (fun q => wz.heap.size <= q /\ ¬ (u1.heap.size <= q /\ q < u2.heap.size)) (.tmp 76) (.tmp 80) 25 ?_ 28 8 112 (.agg zeroJ) Tryz.underlying25 infoJV rfl (by omega) (.slice A4 (a + 1) c4) (a + 1) (css.flatten.take (a * 8) ++ cs3.toList) ?_ HL4.out AC rr cC (css.flatten.drop (a * 8)) ?_ HLC.out.length HLC.out.src (fun u hu => HO1.out u (List.mem_of_mem_drop hu)) (by omega) (by omega) ?_
               · with_reducible rfl
               · with_reducible rfl
               · rfl
               · rfl
               intro v5 u5 hl5 hk5
               obtain ⟨A5', c5', rfl, _, _⟩ := hl5.form
               have hb5 : Below wz.heap.size wz u5 := HB4.out.trans (hk5.below HB4.out.size fun q e => e.1.1)
               have hlen : a + 1 + rr = (PL.take a ++ lk.getD i JV.null :: PL.drop a).length := by rw [put_len _ _ _ (by rw [HLP.out]; exact hal.out), HLP.out, HRR.out]; omega
               have hcs : (css.flatten.take (a * 8) ++ cs3.toList) ++ css.flatten.drop (a * 8) = (css.take a ++ cs3.toList :: css.drop a).flatten := by
                 rw [List.flatten_append, List.flatten_cons, HSP.out.2.2.1, HSP.out.2.2.2, List.append_assoc]
               have hz5 := HZZ.out
               have hl6 : Lies u5 (fun q => wz.heap.size <= q /\ ¬ (u1.heap.size <= q /\ q < u2.heap.size)) 28 8 (.slice A5' (a + 1 + rr) c5') (PL.take a ++ lk.getD i JV.null :: PL.drop a).length (css.take a ++ cs3.toList :: css.drop a).flatten := by
                 rw [<- hcs, <- hlen]
                 have hz6 := HB4.out.size
                 exact hl5.mono fun q e => e.elim id fun f => ⟨by omega, by omega⟩
               have hvals : JsAt u5 (fun q => FB ow2 w.heap.size 0 q /\ q < wz.heap.size ∨ wz.heap.size <= q /\ u1.heap.size <= q /\ q < u2.heap.size) (PL.take a ++ lk.getD i JV.null :: PL.drop a) (css.take a ++ cs3.toList :: css.drop a) := by
                 refine JsAt.append _ _ (JsAt.mono (F := fun q => FB ow2 w.heap.size 0 q /\ q < wz.heap.size) (fun q e _ => .inl e) _ _ ?_) ⟨JIs.mono (fun q e _ => .inr e) _ _ (JIs.kept hk5 (fun q e1 e2 => e2.1.2 ⟨e1.2.1, e1.2.2⟩) _ _ HJ4.out), JsAt.mono (F := fun q => FB ow2 w.heap.size 0 q /\ q < wz.heap.size) (fun q e _ => .inl e) _ _ ?_⟩
                 · exact JsAt.kept (G := fun _ => False) (keptOf_below hb5) (fun _ _ => id) _ _ (JsAt.mono (fun q e1 e2 => ⟨e1, e2⟩) _ _ HSP.out.1)
                 · exact JsAt.kept (G := fun _ => False) (keptOf_below hb5) (fun _ _ => id) _ _ (JsAt.mono (fun q e1 e2 => ⟨e1, e2⟩) _ _ HSP.out.2.1)
               obtain ⟨ow3, hS3⟩ := HSz.out.item hb5 _ _ hvals hl6
               have HS3 : Hid (SoS w w.heap.size (w.heap.size + 1) (w.heap.size + 2) cv k b ⟨dn, dl, dx⟩ t (st (i + 1)).1 (st (i + 1)).2 ow3 (.slice A5' (a + 1 + rr) c5') (.slice A5 n2 c5) (css.take a ++ cs3.toList :: css.drop a) (u5.setCell ⟨w.heap.size + 2, 6, none⟩ (.slice A5' (a + 1 + rr) c5'))) := hid (by rw [HFT.out]; exact hS3)
               obtain ⟨_, _, _, y6, _, f6, _⟩ := HVC.out _ _ _ _ _ _ _ (HSz.out.call hb5)
               have HI2 : Hid (i + 1 <= nl) := hid hlt
               generalize hn3 : a + 1 + rr = n3 at *
               clear hsl hlen hl5 hk5 hl6 hb5 hS3 hvals hcs HL4 HB4 HLC HO1 HJ4 hn3)
             try clear y6
             try clear f6
             clear HSz HSP HLi
             generalize World.setCell _ _ _ = wr2 at *
             go_wp2_with fail
             exact ⟨⟨i + 1, ow3, _, _, _, HI2.out, by go_num, HS3⟩, by have := HI2.out; simp [intOf]; omega⟩
     · have e5 : (k == 5) = false := by rw [beq_eq_false_iff_ne]; exact hk
       rw [e5] at HSN
       have hal : Hid (i <= i) := hid (Nat.le_refl _)
       have HLP : Hid (PL.length = i) := hid l1
       have HFT : Hid (st (i + 1) = (PL.take i ++ lk.getD i JV.null :: PL.drop i, PN)) := hid (by rw [HSN.out]; simp only [placeN, Bool.false_eq_true, if_false, HLP.out])
       have hkf : ((k : Int) == 5) = false := e5
       generalize PN.length = nN at *
       clear hk l1 l2 hPL hPN HSN e5
       go_upto_region 14 with fail
       clear x0 x6 x7 y6 y7 hkf
       obtain ⟨wz, hwz⟩ : ∃ wz, wz = wr := ⟨_, rfl⟩
       rw [<- hwz] at HS ⊢
       have HSz := HS
       clear HS hwz
       go_wp2_with fail
       have HLi : Hid (Lies wz (FB ow w.heap.size 2) 28 8 (.slice AL i cL) i css.flatten) := hid (by have h9 := HSz.out.list; rw [HLP.out] at h9; exact h9)
       have HSP := hid (JsAt.split i PL css HSz.out.vals)
       have HO1 : Hid (∀ u ∈ css.flatten, u.oneCell' = true) := hid (JsAt.ones PL css HSz.out.vals)
       refine wp_region_till 14 (fun W => Below wz.heap.size wz W) (by kernel_rfl) ?_
       have hS : Below wz.heap.size wz wz.drew := (Below.refl _ _).drew
       refine wpTill_z 0 ?_
       try simp only [Act.put, sA, sB, sC]
       refine wpTill_z 1 ?_
       try simp only [Act.put, sA, sB, sC]
       refine wpTill_y 2 ?_ ?_ ?_
       rotate_left
       · intro W hSw; have q := (HVC.out W _ _ _ _ _ _ (HSz.out.call hSw)).2.2.2.1; go_simp; try with_reducible rfl
       try simp only [Act.put, sA, sB, sC]
       refine wpTill_z 3 ?_
       try simp only [Act.put, sA, sB, sC]
       refine wpTill_y 4 ?_ ?_ ?_
       rotate_left
       · intro W hSw; have q := run_toL HLi.out hal.out W 25 28 Tryz.underlying25 (by kernel_rfl); go_simp; try with_reducible rfl
       try simp only [Act.put, sA, sB, sC]
       refine wpTill_z 6 ?_
       try simp only [Act.put, sA, sB, sC]
       refine wpTill_y 7 ?_ ?_ ?_
       rotate_left
       · intro W hSw; have q := (HVC.out W _ _ _ _ _ _ (HSz.out.call hSw)).2.1; go_simp; try with_reducible rfl
       try simp only [Act.put, sA, sB, sC]
       refine wpTill_z 8 ?_
       try simp only [Act.put, sA, sB, sC]
       refine wpTill_z 9 ?_
       try simp only [Act.put, sA, sB, sC]
       refine wpTill_l 10 (.tmp 71) g2 (off2 + i * 8) cs2 H8c.out (fun W hSw => HRG.out W (HSz.out.below.call hSw)) ?_
       try simp only [Act.put, sA, sB, sC]
       have hal2 := hal.out
       refine wpTill_o 5 ?_
       intro K1 hK1
       refine wp_append_any (fun _ => False) _ _ _ rfl 28 8 112 (.agg zeroJ) Tryz.underlying25 infoJV rfl (by omega) _ 0 [] rfl (Lies.empty _ _ _ _ none) AL i cL (css.flatten.take (i * 8)) rfl ((HLi.out.below hS).take hal.out).length ((HLi.out.below hS).take hal.out).src (fun u hu => HO1.out u (List.mem_of_mem_take hu)) (by omega) (by omega) ?_
       intro v1 u1 hl1 hk1
       rw [Nat.zero_add] at hl1
       obtain ⟨A1, c1, rfl, _, _⟩ := hl1.form
       have hS1 : Below wz.heap.size wz u1 := hS.trans (hk1.below (Nat.le_refl _) fun q e => e.1.elim)
       have HL1 : Hid (Lies u1 (fun q => wz.heap.size <= q /\ q < u1.heap.size) 28 8 (.slice A1 i c1) i (css.flatten.take (i * 8))) := hid (hl1.there.mono fun q e => ⟨e.1.elim (fun f => f.elim) id, e.2⟩)
       have HB1 := hid hS1
       refine hK1.out _ _ (fun _ => hS1) ?_
       clear hl1 hk1 hS
       clear hK1 K1
       try simp only [Act.put, sA, sB, sC]
       refine wpTill_o 11 ?_
       intro K1 hK1
       go_simp
       (with_reducible refine (HK.out _ (HSz.out.below.call HB1.out)).mono ?_)
       rintro e1 u2 ⟨cs3, rfl, hcop, hb⟩
       obtain ⟨k3, b3, d3, t3, L3, N3, hc3⟩ := hcop.form
       go_wp2_with fail
       have hS2 : Below wz.heap.size wz u2 := HB1.out.call hb
       have HB2 := hid hS2
       have HB12 := hid hb
       have HC3 := hid hc3
       have HJ := hid (JIs.mono (G := fun q => wz.heap.size <= q /\ u1.heap.size <= q /\ q < u2.heap.size) (fun q e1 e2 => ⟨Nat.le_trans HB1.out.size e1, e1, e2⟩) _ _ hcop.jis)
       refine hK1.out _ _ (fun _ => hS2) ?_
       clear hb hS1 hcop hc3
       clear hK1 K1
       try simp only [Act.put, sA, sB, sC]
       refine wpTill_o 12 ?_
       intro K1 hK1
       refine wp_build1 (.tmp 73) rfl k3 b3 d3 t3 L3 N3 ?_ ?_
       · first | exact congrArg Value.agg HC3.out | rfl
       have hb3 : Below u2.heap.size u2 (u2.alloc (.cells (jvC k3 b3 d3 t3 L3 N3) 28)) := (Below.refl u2.heap.size u2).alloc (Nat.le_refl _) _
       have HZ : Hid (Source (u2.alloc (.cells (jvC k3 b3 d3 t3 L3 N3) 28)) (some ⟨u2.heap.size, 0, none⟩) 1 cs3.toList) := hid (.inr ⟨_, rfl, fun j u hu => by
         rw [Addr.add_lit, Nat.zero_add]
         rw [HC3.out] at hu
         exact (Row.new u2 28 (jvC k3 b3 d3 t3 L3 N3)).cell (by simpa using hu)⟩)
       have HB23 := hid hb3
       have hS3 := hS2.call hb3
       have HB3 := hid hS3
       refine hK1.out _ _ (fun _ => hS3) ?_
       clear hS2 hb3
       clear hK1 K1
       try simp only [Act.put, sA, sB, sC]
       generalize u2.alloc _ = u3 at *
       refine wpTill_o 13 ?_
       intro K1 hK1
       refine wp_append_any (fun q => wz.heap.size <= q /\ q < u1.heap.size) _ _ _ rfl 28 8 112 (.agg zeroJ) Tryz.underlying25 infoJV rfl (by omega) _ i (css.flatten.take (i * 8)) rfl (HL1.out.below (HB12.out.call HB23.out)) _ 1 1 cs3.toList rfl (by rw [HJ.out.len]) HZ.out (jv_one HJ.out) (by omega) (by omega) ?_
       intro v4 u4 hl4 hk4
       obtain ⟨A4, c4, rfl, _, _⟩ := hl4.form
       have hS4 : Below wz.heap.size wz u4 := HB3.out.trans (hk4.below HB3.out.size fun q e => e.1.1)
       have HB4 := hid hS4
       have hz1 := HB12.out.size
       have hz2 := HB23.out.size
       have hz3 := hk4.size
       have hz4 := HB3.out.size
       have HZZ : Hid (u2.heap.size <= u4.heap.size) := hid (by omega)
       have HL4 : Hid (Lies u4 (fun q => wz.heap.size <= q /\ ¬ (u1.heap.size <= q /\ q < u2.heap.size)) 28 8 (.slice A4 (i + 1) c4) (i + 1) (css.flatten.take (i * 8) ++ cs3.toList)) := hid (hl4.mono fun q e => e.elim (fun f => ⟨f.1, by omega⟩) fun f => ⟨by omega, by omega⟩)
       have HJ4 : Hid (JIs u4 (fun q => wz.heap.size <= q /\ u1.heap.size <= q /\ q < u2.heap.size) (lk.getD i JV.null) cs3.toList) := hid (JIs.kept hk4 (fun q e1 e2 => by have := e2.1.2; have := e1.2.1; omega) _ _ (HJ.out.below HB23.out))
       refine hK1.out _ _ (fun _ => hS4) ?_
       clear hl4 hk4 hS3 hz1 hz2 hz3 hz4
       clear hK1 K1
       try simp only [Act.put, sA, sB, sC]
       refine wpTill_o 14 ?_
       intro K1 hK1
       go_simp
       refine hK1.out _ _ (fun h => by cases h) ?_
       clear hS4
       clear hK1 K1
       try simp only [Act.put, sA, sB, sC]
       refine wpTill_past _ _ _ _ (by kernel_rfl) ?_
       refine wpAny_done (by kernel_rfl) ?_ _
       clear HL1 HZ HB1 HB2 HB3 HB12 HB23 HJ
       obtain ⟨AC, cC, rr, hrr, hcut, hlc⟩ := (HLi.out.below HB4.out).from_ hal.out
       have hsl := fun W => run_fromS (P := Tryz.prog) W 25 28 8 Tryz.underlying25 (by kernel_rfl) AL i cL i .i64 hal.out
       rw [hcut] at hsl
       have HLC := hid hlc
       have HRR := hid hrr
       have hrb : rr <= 1000000 := by omega
       clear hcut hlc hrr
       obtain ⟨_, _, _, y6, _, _, _⟩ := HVC.out _ _ _ _ _ _ _ (HSz.out.call HB4.out)
       go_upto_region 6 with (
         at_builtin
         refine wpList_append_any ?_ (fun q => wz.heap.size <= q /\ ¬ (u1.heap.size <= q /\ q < u2.heap.size)) (.tmp 76) (.tmp 80) 25 ?_ 28 8 112 (.agg zeroJ) Tryz.underlying25 infoJV rfl (by omega) (.slice A4 (i + 1) c4) (i + 1) (css.flatten.take (i * 8) ++ cs3.toList) ?_ HL4.out AC rr cC (css.flatten.drop (i * 8)) ?_ HLC.out.length HLC.out.src (fun u hu => HO1.out u (List.mem_of_mem_drop hu)) (by omega) (by omega) ?_
         · with_reducible rfl
         · with_reducible rfl
         · rfl
         · rfl
         intro v5 u5 hl5 hk5
         obtain ⟨A5', c5', rfl, _, _⟩ := hl5.form
         have hb5 : Below wz.heap.size wz u5 := HB4.out.trans (hk5.below HB4.out.size fun q e => e.1.1)
         have hlen : i + 1 + rr = (PL.take i ++ lk.getD i JV.null :: PL.drop i).length := by rw [put_len _ _ _ (by rw [HLP.out]; exact hal.out), HLP.out, HRR.out]; omega
         have hcs : (css.flatten.take (i * 8) ++ cs3.toList) ++ css.flatten.drop (i * 8) = (css.take i ++ cs3.toList :: css.drop i).flatten := by
           rw [List.flatten_append, List.flatten_cons, HSP.out.2.2.1, HSP.out.2.2.2, List.append_assoc]
         have hz5 := HZZ.out
         have hl6 : Lies u5 (fun q => wz.heap.size <= q /\ ¬ (u1.heap.size <= q /\ q < u2.heap.size)) 28 8 (.slice A5' (i + 1 + rr) c5') (PL.take i ++ lk.getD i JV.null :: PL.drop i).length (css.take i ++ cs3.toList :: css.drop i).flatten := by
           rw [<- hcs, <- hlen]
           have hz6 := HB4.out.size
           exact hl5.mono fun q e => e.elim id fun f => ⟨by omega, by omega⟩
         have hvals : JsAt u5 (fun q => FB ow w.heap.size 0 q /\ q < wz.heap.size ∨ wz.heap.size <= q /\ u1.heap.size <= q /\ q < u2.heap.size) (PL.take i ++ lk.getD i JV.null :: PL.drop i) (css.take i ++ cs3.toList :: css.drop i) := by
           refine JsAt.append _ _ (JsAt.mono (F := fun q => FB ow w.heap.size 0 q /\ q < wz.heap.size) (fun q e _ => .inl e) _ _ ?_) ⟨JIs.mono (fun q e _ => .inr e) _ _ (JIs.kept hk5 (fun q e1 e2 => e2.1.2 ⟨e1.2.1, e1.2.2⟩) _ _ HJ4.out), JsAt.mono (F := fun q => FB ow w.heap.size 0 q /\ q < wz.heap.size) (fun q e _ => .inl e) _ _ ?_⟩
           · exact JsAt.kept (G := fun _ => False) (keptOf_below hb5) (fun _ _ => id) _ _ (JsAt.mono (fun q e1 e2 => ⟨e1, e2⟩) _ _ HSP.out.1)
           · exact JsAt.kept (G := fun _ => False) (keptOf_below hb5) (fun _ _ => id) _ _ (JsAt.mono (fun q e1 e2 => ⟨e1, e2⟩) _ _ HSP.out.2.1)
         obtain ⟨ow3, hS3⟩ := HSz.out.item hb5 _ _ hvals hl6
         have HS3 : Hid (SoS w w.heap.size (w.heap.size + 1) (w.heap.size + 2) cv k b ⟨dn, dl, dx⟩ t (st (i + 1)).1 (st (i + 1)).2 ow3 (.slice A5' (i + 1 + rr) c5') (.slice AN nN cN) (css.take i ++ cs3.toList :: css.drop i) (u5.setCell ⟨w.heap.size + 2, 6, none⟩ (.slice A5' (i + 1 + rr) c5'))) := hid (by rw [HFT.out]; exact hS3)
         obtain ⟨_, _, _, y6, _, f6, _⟩ := HVC.out _ _ _ _ _ _ _ (HSz.out.call hb5)
         have HI2 : Hid (i + 1 <= nl) := hid hlt
         generalize hn3 : i + 1 + rr = n3 at *
         clear hsl hlen hl5 hk5 hl6 hb5 hS3 hvals hcs HL4 HB4 HLC HO1 HJ4 hn3)
       try clear y6
       try clear f6
       clear HSz HSP HLi
       generalize World.setCell _ _ _ = wr2 at *
       go_wp2_with fail
       exact ⟨⟨i + 1, ow3, _, _, _, HI2.out, by go_num, HS3⟩, by have := HI2.out; simp [intOf]; omega⟩
   · obtain rfl : i = nl := by omega
     obtain ⟨f1, f2⟩ := HS.out.res_
     have HTR : Hid (wr.there (w.heap.size + 1) 0 (jvC k b ⟨dn, dl, dx⟩ t (.slice AL i cL) (.slice AN PN.length cN)).size) := hid (row_there HS.out.res (Nat.le_refl _))
     have HRG2 : Hid (wr.rangeAt (w.heap.size + 2) 0 (jvC k b ⟨dn, dl, dx⟩ t (.slice AL i cL) (.slice AN PN.length cN)).toList) := hid (fun q u hu => by rw [Nat.zero_add]; exact HS.out.row.cell (by simpa using hu))
     rw [hPL] at f2
     have e9 : CopPost w (JV.mk k b ⟨dn, dl, dx⟩ t (st i).1 PN) = CopPost w (JV.mk k b ⟨dn, dl, dx⟩ t (st i).1 (st i).2) := by rw [<- hPN]
     rw [e9] at f2
     have HF1 := hid f1
     have HF2 := hid f2
     have HIN : Hid ((Tryz.prog.info? 28).map (·.size) = some (jvC k b ⟨dn, dl, dx⟩ t (.slice AL i cL) (.slice AN PN.length cN)).size) := hid infoJ
     have HON : Hid ((jvC k b ⟨dn, dl, dx⟩ t (.slice AL i cL) (.slice AN PN.length cN)).all (·.oneCell') = true) := hid (by kernel_rfl)
     have H8 : Hid ((jvC k b ⟨dn, dl, dx⟩ t (.slice AL i cL) (.slice AN PN.length cN)).size = 8) := hid rfl
     clear f1 f2 HSN l1 l2 y6 y7 HS
     generalize hnN : PN.length = nN at *
     clear hnN
     generalize jvC k b ⟨dn, dl, dx⟩ t (.slice AL i cL) (.slice AN nN cN) = cz at *
     go_wp2_with (first
       | (refine ldJ (.tmp 3) (w.heap.size + 2) 0 cz HRG2.out HIN.out ?_)
       | (refine wpList_store_mid ?_ 28 (.tmp 2) (.tmp 83) ?_ (w.heap.size + 1) 0 cz ?_ ?_ HTR.out HIN.out HON.out ?_
          · with_reducible rfl
          · with_reducible rfl
          · rfl
          · rfl))
     refine bodyPost_ret_by (results_oneJ rfl _ _ (w.heap.size + 1) cz ?_ (load_jv HF1.out H8.out)) rfl ?_
     · rfl
     exact HF2.out
theorem dsorted_ok : ∀ (n : Nat) (v : JV), SizeOf.sizeOf v <= n -> askJ v = true -> wJ v <= 2000000 -> ∀ (F : Nat -> Prop) (cs : Array Value) (w : World), JIs w F v cs.toList ->
   Calls Tryz.prog 19 #[.agg cs] w (CopPost w (sortJ v)) := by
 intro n
 induction n with
 | zero => intro v hv; cases v; simp at hv
 | succ n ih =>
   intro v hv ha hwj F cs w h
   obtain ⟨k, b, d, t, l, ns⟩ := v
   have hsz : ∀ x ∈ l, SizeOf.sizeOf x <= n := fun x hx => by
     have := List.sizeOf_lt_of_mem hx
     simp only [JV.mk.sizeOf_spec] at hv
     omega
   obtain ⟨_, hnl, hak, hn4, _⟩ := ask_facts ha
   unfold JIs at h
   obtain ⟨A, c, A', c', hcs, h1, h2, h3, h4, hnm, hkd⟩ := h
   have hcs' := Array.toList_inj.1 hcs
   subst hcs'
   rw [wJ] at hwj
   obtain ⟨dn, dl, dx⟩ := d
   have hm := kids_many l
   exact sorted_one w F k b dn dl dx t l ns A A' c c' h1 h2 h3 h4 hnm hkd (by omega) hnl fun x hx cs V hb hj =>
     ih x (hsz x hx) (hak x hx) (by have := wKids_mem hx; omega) F cs V hj
end Go.Proofs.YtmhbkjjkalnggaaGreatDoor
