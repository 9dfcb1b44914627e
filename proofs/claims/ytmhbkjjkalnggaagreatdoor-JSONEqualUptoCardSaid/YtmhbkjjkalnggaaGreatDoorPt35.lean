import Derived.Test.YtmhbkjjkalnggaaGreatDoorPt31
namespace Go.Proofs.YtmhbkjjkalnggaaGreatDoor
open Go.RowKit
set_option maxRecDepth 1000000
set_option maxHeartbeats 40000000
structure CpR (w : World) (k : Int) (b : Bool) (d : Dec) (t : List UInt8) (L N : Value) (W : World) : Prop where
 row : Row W (w.heap.size + 1) 28 (jvC k b d t L N)
 res : Row W w.heap.size 28 zeroJ
 below : Below w.heap.size w W
section
variable {w W W' : World} {k : Int} {b : Bool} {d : Dec} {t : List UInt8} {L N : Value}
theorem CpR.call (h : CpR w k b d t L N W) (hb : Below W.heap.size W W') : CpR w k b d t L N W' := ⟨h.row.call hb, h.res.call hb, h.below.call hb⟩
theorem CpR.drew (h : CpR w k b d t L N W) : CpR w k b d t L N W.drew := h.call (Below.refl _ _).drew
theorem CpR.digits (h : CpR w k b d t L N W) : W.cell? ⟨w.heap.size + 1, 3, none⟩ = some (.string (bs d.digits)) /\ W.frozen? ⟨w.heap.size + 1, 3, none⟩ = false /\ CpR w k b d t L N (W.setCell ⟨w.heap.size + 1, 3, none⟩ (.string (bs d.digits))) := by
 have kk := Kept.cell W (w.heap.size + 1) 3 (.string (bs d.digits))
 refine ⟨h.row.cell (i := 3) rfl, h.row.free 3, ?_, h.res.kept kk (fun e => by omega), h.below.trans (kk.below h.below.size fun q e => by omega)⟩
 simpa [jvC] using h.row.set_ 3 (.string (bs d.digits))
theorem CpR.text (h : CpR w k b d t L N W) : W.cell? ⟨w.heap.size + 1, 5, none⟩ = some (.string (bs t)) /\ W.frozen? ⟨w.heap.size + 1, 5, none⟩ = false /\ CpR w k b d t L N (W.setCell ⟨w.heap.size + 1, 5, none⟩ (.string (bs t))) := by
 have kk := Kept.cell W (w.heap.size + 1) 5 (.string (bs t))
 refine ⟨h.row.cell (i := 5) rfl, h.row.free 5, ?_, h.res.kept kk (fun e => by omega), h.below.trans (kk.below h.below.size fun q e => by omega)⟩
 simpa [jvC] using h.row.set_ 5 (.string (bs t))
end
theorem CopAt.form {W : World} {base : Nat} {v : JV} {cs : Array Value} (h : CopAt W base v cs) : ∃ k b d t L N, cs = jvC k b d t L N := by
 obtain ⟨k, b, d, t, l, ns⟩ := v
 obtain ⟨own, L, N, css, rfl, _⟩ := h
 exact ⟨k, b, d, t, L, N, rfl⟩
theorem run_build1 (k : Int) (b : Bool) (d : Dec) (t : List UInt8) (L N : Value) (w : World) : (Instr.buildSlice 25 1 #[(0, .agg (jvC k b d t L N))]).run Tryz.prog w = .ok (.slice (some ⟨w.heap.size, 0, none⟩) 1 1) (w.alloc (.cells (jvC k b d t L N) 28)) := by
 obtain ⟨i, hi, hz, hs1, hb⟩ := info_parts infoJV
 have hsz : ∀ w : World, (sizeOf 28).run Tryz.prog w = .ok 8 w := fun w => by simp [sizeOf, typeInfo, hi, hs1]
 have hzv : ∀ w : World, (zeroValue 28).run Tryz.prog w = .ok (.agg zeroJ) w := fun w => by simp [zeroValue, typeInfo, hi, hz]
 have hf : Instr.fill (fun i => some (i * 8, 8)) ((Array.range (1 * 8)).map ((Value.agg zeroJ).cells[· % (Value.agg zeroJ).cells.size]!)) [(0, .agg (jvC k b d t L N))] = some (jvC k b d t L N) := by kernel_rfl
 unfold Instr.buildSlice
 simp only [Sem.run_bind, run_underlying Tryz.underlying25, Result.andThen_ok, hsz]
 rw [if_neg (by decide), if_neg (by decide)]
 simp only [Sem.run_bind, Result.andThen_ok, hzv, Sem.run_pure, hf]
 simp [newRow]
theorem wp_build1 {o : Oper} {a : Act} {w : World} {K : Act -> World -> Prop} {Q : Exit -> Act -> World -> Prop} (x : Operand) (ho : o.op = .buildSlice 25 1 #[(0, x)]) (k : Int) (b : Bool) (d : Dec) (t : List UInt8) (L N : Value) (hx : a.eval x = .agg (jvC k b d t L N))
   (h : K (a.put o.dst (.slice (some ⟨w.heap.size, 0, none⟩) 1 1)) (w.alloc (.cells (jvC k b d t L N) 28))) : o.wp Tryz.prog a w K Q := by
 unfold Oper.wp execOp
 simp [ho, hx, run_build1 k b d t L N w, Result.andThen]
 exact h
theorem jcopied_ok : ∀ (n : Nat) (v : JV), SizeOf.sizeOf v <= n -> CopJ v -> ∀ (F : Nat -> Prop) (g off : Nat) (w : World), JAtP w F g off v ->
   Calls Tryz.prog 38 #[.pointer (some ⟨g, off, none⟩)] w (CopPost w v) := by
 intro n
 induction n with
 | zero => intro v hv; cases v; simp at hv
 | succ n ih =>
   intro v hv hc F g off w h
   obtain ⟨k, b, d, t, l, ns⟩ := v
   have hsz : ∀ x ∈ l, SizeOf.sizeOf x <= n := fun x hx => by
     have := List.sizeOf_lt_of_mem hx
     simp only [JV.mk.sizeOf_spec] at hv
     omega
   unfold CopJ at hc
   obtain ⟨hc1, hc2, hc3, hc4, hc5, hc6⟩ := hc
   obtain ⟨A, c, A', c', q0, q1, q2, q3, q4, q5, q6, q7, h1, h2, h3, h4, hnm, hkd⟩ := h.open_
   have hgl := h.1
   unfold maxLen at h2 h4
   have HVC : Hid (∀ V, Below w.heap.size w V -> V.cell? ⟨g, off + 3, none⟩ = some (.string (bs d.digits)) /\ V.cell? ⟨g, off + 5, none⟩ = some (.string (bs t)) /\ V.cell? ⟨g, off + 6, none⟩ = some (.slice A l.length c) /\ V.cell? ⟨g, off + 7, none⟩ = some (.slice A' ns.length c')) := hid fun V hb =>
     ⟨(hb.cell (p := ⟨g, off + 3, none⟩) hgl).trans q3, (hb.cell (p := ⟨g, off + 5, none⟩) hgl).trans q5, (hb.cell (p := ⟨g, off + 6, none⟩) hgl).trans q6, (hb.cell (p := ⟨g, off + 7, none⟩) hgl).trans q7⟩
   have IH : Hid (∀ i, i < l.length -> ∀ V, Below w.heap.size w V -> ∃ g2 off2, A = some ⟨g2, off2, none⟩ /\ Calls Tryz.prog 38 #[.pointer (some ⟨g2, off2 + i * 8, none⟩)] V (CopPost V (l.getD i JV.null))) := hid fun i hi V hb => by
     obtain ⟨g2, off2, hA, hj⟩ := hkd i hi
     have hm : l.getD i JV.null ∈ l := by rw [List.getD_eq_getElem?_getD, List.getElem?_eq_getElem hi]; exact List.getElem_mem _
     exact ⟨g2, off2, hA, ih _ (hsz _ hm) (hc6.get _ hm) F g2 _ V (hj.below hb)⟩
   have HNM : Hid (∀ i, i < ns.length -> (ns.getD i []).length <= 100000000000000 /\ ∃ g2 off2, A' = some ⟨g2, off2, none⟩ /\ ∀ V, Below w.heap.size w V -> V.cell? ⟨g2, off2 + i, none⟩ = some (.string (bs (ns.getD i [])))) := hid fun i hi => by
     obtain ⟨g2, off2, hA, _, hlt, hcl⟩ := hnm i hi
     exact ⟨hc5 _ (by rw [List.getD_eq_getElem?_getD, List.getElem?_eq_getElem hi]; exact List.getElem_mem _), g2, off2, hA, fun V hb => (hb.cell (p := ⟨g2, off2 + i, none⟩) hlt).trans hcl⟩
   have HCD : Hid (∀ V, Calls Tryz.prog 56 #[.string (bs d.digits)] V fun e w' => e = .returned (.string (bs d.digits)) /\ Below V.heap.size V w') := hid fun V => clone_ok _ V hc1
   have HCT : Hid (∀ V, Calls Tryz.prog 56 #[.string (bs t)] V fun e w' => e = .returned (.string (bs t)) /\ Below V.heap.size V w') := hid fun V => clone_ok _ V hc2
   obtain ⟨_, cs, a1, a2⟩ := h
   have hone0 := jv_one a2
   unfold JIs at a2
   obtain ⟨A9, c9, A8, c8, rfl, _⟩ := a2
   have e6 := a1 6 _ rfl
   rw [q6] at e6
   have e7 := a1 7 _ rfl
   rw [q7] at e7
   simp only [Option.some.injEq] at e6 e7
   rw [<- e6, <- e7] at a1 hone0
   clear e6 e7
   obtain ⟨ca, hca⟩ : ∃ ca, ca = jvC k b d t (.slice A l.length c) (.slice A' ns.length c') := ⟨_, rfl⟩
   rw [<- hca] at a1 hone0
   have HCA := hid hca
   have hone : ca.all (·.oneCell') = true := by rw [Array.all_eq_true_iff_forall_mem]; intro u hu; exact hone0 u (Array.mem_toList_iff.2 hu)
   have h8s : ca.size = 8 := by rw [hca]; rfl
   have HIN : Hid ((Tryz.prog.info? 28).map (·.size) = some ca.size) := hid (by rw [h8s]; exact infoJ)
   have HRA : Hid (∀ V, Below w.heap.size w V -> V.rangeAt g off ca.toList) := hid fun V hb => fun j v hv => (hb.cell (p := ⟨g, off + j, none⟩) hgl).trans (a1 j v hv)
   have HONE := hid hone
   obtain ⟨w1, hw1⟩ : ∃ w1, w1 = w.alloc (.cells zeroJ 28) := ⟨_, rfl⟩
   obtain ⟨w2, hw2⟩ : ∃ w2, w2 = w1.alloc (.cells zeroJ 28) := ⟨_, rfl⟩
   obtain ⟨w3, hw3⟩ : ∃ w3, w3 = w2.setCells (w.heap.size + 1) 0 ca.toList := ⟨_, rfl⟩
   have s1 : w1.heap.size = w.heap.size + 1 := by rw [hw1]; simp
   have b1 : Below w.heap.size w w1 := by rw [hw1]; exact (Below.refl _ _).alloc (Nat.le_refl _) _
   have b2 : Below w1.heap.size w1 w2 := by rw [hw2]; exact (Below.refl _ _).alloc (Nat.le_refl _) _
   have r1 : Row w1 w.heap.size 28 zeroJ := by rw [hw1]; exact Row.new _ _ _
   have r2 : Row w2 (w.heap.size + 1) 28 zeroJ := by rw [<- s1, hw2]; exact Row.new _ _ _
   have kk : Kept (· = w.heap.size + 1) w2 w3 := by rw [hw3]; exact kept_setCells _ _ _ _ _ (Kept.refl _ _)
   have HTH : Hid (w2.there (w.heap.size + 1) 0 ca.size) := hid (row_there r2 (by rw [h8s]; exact Nat.le_refl _))
   have hr3 : Row w3 (w.heap.size + 1) 28 ca := by
     rw [hw3]
     have h9 := row_laid ca.toList [] zeroJ.toList w2 (g := w.heap.size + 1) (by simpa using r2) (by rw [Array.length_toList, Array.length_toList, h8s]; rfl)
     simpa using h9
   rw [hca] at hr3
   have HR3 : Hid (CpR w k b d t (.slice A l.length c) (.slice A' ns.length c') w3) := hid ⟨hr3, (r1.call b2).kept kk (fun e => by omega), (b1.call b2).trans (kk.below (by have := b2.size; omega) fun q e => by omega)⟩
   have HB1 := hid b1
   have HB2 := hid (b1.call b2)
   have HRA1 := hid (HRA.out w1 b1)
   have HW3 := hid hw3
   have HGN := hid (fun i => grow_names i)
   have HGL := hid (fun i => grow_list i)
   clear hsz hc1 hc2 hc5 hc6 hnm hkd hone0 hone a1 hca h8s b1 b2 r1 r2 kk hr3 hw3 ih hv q0 q1 q2 q3 q4 q5 q6 q7 hgl HRA
   generalize hnl : l.length = nl at *
   have HNL := hid hnl
   generalize hnn : ns.length = nn at *
   have HNN := hid hnn
   clear hnl hnn
   unfold zeroJ at hw1 hw2
   go_enter Tryz.func38, Tryz.ntmps38
   go_upto_region 1 with fail
   rw [<- hw1]
   have HW2 := hid hw2
   clear hw1 hw2
   go_wp2_with (first
     | (refine ldJ (.tmp 8) g off ca HRA1.out HIN.out ?_)
     | (refine wpList_store_mid ?_ 28 (.tmp 3) (.tmp 9) ?_ (w.heap.size + 1) 0 ca ?_ ?_ ?_ HIN.out HONE.out ?_
        · with_reducible rfl
        · with_reducible rfl
        · rfl
        · rfl
        · have h9 := HTH.out
          rw [HW2.out] at h9
          exact h9
        rw [<- HW2.out, <- HW3.out]))
   try simp only [Act.put]
   clear HTH HRA1 HW3 HW2 HONE HIN s1 HCA
   refine wp_region_till 15 (CpR w k b d t (.slice A nl c) (.slice A' nn c')) (by kernel_rfl) ?_
   have hS : CpR w k b d t (.slice A nl c) (.slice A' nn c') w3.drew := HR3.out.drew
   refine wpTill_z 0 ?_
   try simp only [Act.put, sA, sB, sC]
   refine wpTill_z 1 ?_
   try simp only [Act.put, sA, sB, sC]
   refine wpTill_z 2 ?_
   try simp only [Act.put, sA, sB, sC]
   refine wpTill_z 3 ?_
   try simp only [Act.put, sA, sB, sC]
   refine wpTill_y 4 ?_ ?_ ?_
   rotate_left
   · intro W hSw; have q := (HVC.out W hSw.below).1; go_simp; try with_reducible rfl
   try simp only [Act.put, sA, sB, sC]
   refine wpTill_z 6 ?_
   try simp only [Act.put, sA, sB, sC]
   refine wpTill_z 7 ?_
   try simp only [Act.put, sA, sB, sC]
   refine wpTill_z 8 ?_
   try simp only [Act.put, sA, sB, sC]
   refine wpTill_y 9 ?_ ?_ ?_
   rotate_left
   · intro W hSw; have q := (HVC.out W hSw.below).2.1; go_simp; try with_reducible rfl
   try simp only [Act.put, sA, sB, sC]
   refine wpTill_o 5 ?_
   intro K1 hK1
   go_simp
   refine (HCD.out _).mono ?_
   rintro e1 v1 ⟨rfl, hb⟩
   go_wp2_with fail
   have hS1 := hS.call hb
   refine hK1.out _ _ (fun _ => hS1) ?_
   clear hb hS
   clear hK1 K1
   try simp only [Act.put, sA, sB, sC]
   refine wpTill_z 11 ?_
   try simp only [Act.put, sA, sB, sC]
   refine wpTill_z 12 ?_
   try simp only [Act.put, sA, sB, sC]
   refine wpTill_o 10 ?_
   intro K1 hK1
   go_simp
   refine (HCT.out _).mono ?_
   rintro e1 v2 ⟨rfl, hb⟩
   go_wp2_with fail
   have hS2 := hS1.call hb
   refine hK1.out _ _ (fun _ => hS2) ?_
   clear hb hS1
   clear hK1 K1
   try simp only [Act.put, sA, sB, sC]
   refine wpTill_o 13 ?_
   intro K1 hK1
   obtain ⟨x1, x2, hS3⟩ := hS2.digits
   go_simp
   refine hK1.out _ _ (fun _ => hS3) ?_
   clear x1 x2 hS2
   clear hK1 K1
   try simp only [Act.put, sA, sB, sC]
   refine wpTill_z 14 ?_
   try simp only [Act.put, sA, sB, sC]
   refine wpTill_o 15 ?_
   intro K1 hK1
   obtain ⟨x1, x2, hS4⟩ := hS3.text
   go_simp
   refine hK1.out _ _ (fun _ => hS4) ?_
   clear x1 x2 hS3
   clear hK1 K1
   try simp only [Act.put, sA, sB, sC]
   refine wpTill_past _ _ _ _ (by kernel_rfl) ?_
   refine wpAny_done (by kernel_rfl) ?_ _
   have HS4 := hid hS4
   clear hS4
   generalize World.setCell _ _ _ = u0 at *
   go_upto_region 3 with fail
   refine wp_region_till 15 (fun W => Below w.heap.size w W) (by kernel_rfl) ?_
   have HS : Hid (CpR w k b d t (.slice A nl c) (.slice A' nn c') u0.drew) := hid HS4.out.drew
   have hS : Below w.heap.size w u0.drew := HS.out.below
   refine wpTill_z 0 ?_
   try simp only [Act.put, sA, sB, sC]
   refine wpTill_z 1 ?_
   try simp only [Act.put, sA, sB, sC]
   refine wpTill_z 2 ?_
   try simp only [Act.put, sA, sB, sC]
   refine wpTill_y 3 ?_ ?_ ?_
   rotate_left
   · intro W hSw; have q := (HVC.out W hSw).2.2.2; go_simp; try with_reducible rfl
   try simp only [Act.put, sA, sB, sC]
   refine wpTill_z 4 ?_
   try simp only [Act.put, sA, sB, sC]
   refine wpTill_z 6 ?_
   try simp only [Act.put, sA, sB, sC]
   refine wpTill_z 7 ?_
   try simp only [Act.put, sA, sB, sC]
   refine wpTill_z 8 ?_
   try simp only [Act.put, sA, sB, sC]
   refine wpTill_y 9 ?_ ?_ ?_
   rotate_left
   · intro W hSw; have q := (HVC.out W hSw).2.2.1; go_simp; try with_reducible rfl
   try simp only [Act.put, sA, sB, sC]
   refine wpTill_z 10 ?_
   try simp only [Act.put, sA, sB, sC]
   refine wpTill_o 5 ?_
   intro K1 hK1
   go_simp
   refine (HGN.out nn hc3 _).mono ?_
   rintro e1 v1 ⟨vN, rfl, hN, hb⟩
   obtain ⟨AN, cN, rfl, _, _⟩ := hN.form
   go_wp2_with fail
   have hS1 := hS.call hb
   have HN := hid hN
   have HB5 := hid hb
   refine hK1.out _ _ (fun _ => hS1) ?_
   clear hb hN hS
   clear hK1 K1
   try simp only [Act.put, sA, sB, sC]
   refine wpTill_z 12 ?_
   try simp only [Act.put, sA, sB, sC]
   refine wpTill_o 11 ?_
   intro K1 hK1
   go_simp
   refine (HGL.out nl hc4 _).mono ?_
   rintro e1 v2 ⟨vL, rfl, hL, hb⟩
   obtain ⟨AL, cL, rfl, _, _⟩ := hL.form
   go_wp2_with fail
   have hS2 := hS1.call hb
   have HST := hid (CpS.start (l := l) (ns := ns) HS.out.row HS.out.res HS.out.below (Nat.lt_succ_self _) HB5.out HN.out hb hL)
   refine hK1.out _ _ (fun _ => hS2) ?_
   clear hb hL hS1
   clear hK1 K1
   try simp only [Act.put, sA, sB, sC]
   obtain ⟨x1, x2, x3, x4, own, hC⟩ := HST.out
   have HC0 := hid hC
   clear hC HST HN HB5 HS
   refine wpTill_o 13 ?_
   intro K1 hK1
   go_simp
   have hS3 : Below w.heap.size w (v2.setCell ⟨w.heap.size + 1, 7, none⟩ (.slice AN 0 cN)) := hS2.setCell (p := ⟨w.heap.size + 1, 7, none⟩) (Nat.le_succ _) _
   refine hK1.out _ _ (fun _ => hS3) ?_
   clear hS2
   clear hK1 K1
   try simp only [Act.put, sA, sB, sC]
   refine wpTill_z 14 ?_
   try simp only [Act.put, sA, sB, sC]
   refine wpTill_o 15 ?_
   intro K1 hK1
   go_simp
   refine hK1.out _ _ (fun h => by cases h) ?_
   clear hS3
   clear hK1 K1
   try simp only [Act.put, sA, sB, sC]
   refine wpTill_past _ _ _ _ (by kernel_rfl) ?_
   refine wpAny_done (by kernel_rfl) ?_ _
   clear x1 x2 x3 x4 HS4 HCD HCT HGN HGL
   generalize World.setCell _ _ _ = u1 at *
   obtain ⟨_, _, _, y4⟩ := HVC.out u1 HC0.out.below
   go_wp2_with fail
   clear y4
   go_loopw [43, 5] (fun v43 _ wr => ∃ (i : Nat) (ow : Nat -> Nat) (N : Value), i <= nn /\ v43 = .int .i64 (i : Int) /\ Hid (CpS w (w.heap.size + 1) k b d t l ns i 0 ow N (.slice AL 0 cL) [] wr)) (fun v43 _ _ => nn - (intOf v43).toNat)
   case atStart => exact ⟨0, own, _, Nat.zero_le _, rfl, HC0⟩
   case round =>
     obtain ⟨i, ow, N, hi, rfl, HC⟩ := hrel
     by_cases hlt : i < nn
     · obtain ⟨hl1, g2, off2, rfl, hcl⟩ := HNM.out i hlt
       have y := hcl wr HC.out.below
       have HCN := hid (fun V => clone_ok (ns.getD i []) V hl1)
       obtain ⟨nm, hnm⟩ : ∃ nm, nm = ns.getD i [] := ⟨_, rfl⟩
       rw [<- hnm] at y HCN hl1
       have HNMI := hid hnm
       clear hnm hcl
       obtain ⟨AN, cN, rfl, _, _⟩ := HC.out.names.form
       go_wp2_with fail
       clear y
       refine wp_region_till 7 (fun W => Row W (w.heap.size + 1) 28 (jvC k b d t (.slice AL 0 cL) (.slice AN i cN))) (by kernel_rfl) ?_
       have HCD := hid HC.out.drew
       have hS : Row wr.drew (w.heap.size + 1) 28 (jvC k b d t (.slice AL 0 cL) (.slice AN i cN)) := HCD.out.row
       refine wpTill_z 0 ?_
       try simp only [Act.put, sA, sB, sC]
       refine wpTill_y 1 ?_ ?_ ?_
       rotate_left
       · intro W hSw; have q := hSw.cell (i := 7) rfl; go_simp; try with_reducible rfl
       try simp only [Act.put, sA, sB, sC]
       refine wpTill_z 2 ?_
       try simp only [Act.put, sA, sB, sC]
       refine wpTill_o 3 ?_
       intro K1 hK1
       go_simp
       refine (HCN.out _).mono ?_
       rintro e1 v1 ⟨rfl, hb⟩
       go_wp2_with fail
       have hS1 := hS.call hb
       have HB := hid hb
       refine hK1.out _ _ (fun _ => hS1) ?_
       clear hb hS
       clear hK1 K1
       try simp only [Act.put, sA, sB, sC]
       refine wpTill_o 4 ?_
       intro K1 hK1
       go_simp
       have HW1 : Hid (Below wr.drew.heap.size wr.drew (v1.alloc (.cells #[.string (bs nm)] 9))) := hid (HB.out.alloc HB.out.size _)
       have HZ : Hid (Source (v1.alloc (.cells #[.string (bs nm)] 9)) (some ⟨v1.heap.size, 0, none⟩) 1 [keyV nm]) := hid (.inr ⟨_, rfl, fun j u hu => by
         rw [Addr.add_lit, Nat.zero_add]
         exact (Row.new v1 9 #[.string (bs nm)]).cell (by simpa [keyV] using hu)⟩)
       have hS2 := hS1.call ((Below.refl v1.heap.size v1).alloc (Nat.le_refl _) (.cells #[.string (bs nm)] 9))
       have HS2 := hid hS2
       refine hK1.out _ _ (fun _ => hS2) ?_
       clear hS1
       clear hK1 K1
       try simp only [Act.put, sA, sB, sC]
       generalize v1.alloc _ = v2 at *
       refine wpTill_o 5 ?_
       intro K1 hK1
       refine wp_append_any (fun q => FB ow w.heap.size 3 q /\ q < wr.heap.size) _ _ _ rfl 9 1 16 (.string ⟨#[]⟩) Tryz.underlying26 infoStrG rfl (by omega) _ i ((ns.take i).map keyV) rfl (HCD.out.names.there.below HW1.out) _ 1 1 [keyV nm] rfl rfl HZ.out (by simp [keyV, Value.oneCell']) (by omega) (by omega) ?_
       intro v3 w3 hl3 hk3
       obtain ⟨A3, c3, rfl, _, _⟩ := hl3.form
       obtain ⟨hr3, ow2, hC2⟩ := HCD.out.name (by rw [HNN.out]; exact hlt) HW1.out (by rw [<- HNMI.out]; exact hl3) (kept_mono hk3 fun _ e => e.1)
       have HC2 := hid hC2
       have HR3 := hid hr3
       refine hK1.out _ _ (fun _ => hr3) ?_
       clear hl3 hk3 hC2 hr3 hS2
       clear hK1 K1
       try simp only [Act.put, sA, sB, sC]
       have hS := HR3.out
       refine wpTill_z 6 ?_
       try simp only [Act.put, sA, sB, sC]
       refine wpTill_o 7 ?_
       intro K1 hK1
       have x1 := HR3.out.cell (i := 7) rfl
       have x2 := HR3.out.free 7
       go_simp
       refine hK1.out _ _ (fun h => by cases h) ?_
       clear x1 x2 hS
       clear hK1 K1
       try simp only [Act.put, sA, sB, sC]
       refine wpTill_past _ _ _ _ (by kernel_rfl) ?_
       refine wpAny_done (by kernel_rfl) ?_ _
       clear HR3 HZ HW1 HS2 HB HCD
       generalize World.setCell _ _ _ = w4 at *
       go_wp2_with fail
       exact ⟨⟨i + 1, ow2, _, by omega, by go_num, HC2⟩, by simp [intOf]; omega⟩
     · obtain rfl : i = nn := by omega
       obtain ⟨_, _, y3, _⟩ := HVC.out wr HC.out.below
       go_wp2_with fail
       clear y3
       go_loopw [60, 6] (fun v60 _ wr => ∃ (j : Nat) (ow : Nat -> Nat) (L : Value) (css : List (List Value)), j <= nl /\ v60 = .int .i64 (j : Int) /\ Hid (CpS w (w.heap.size + 1) k b d t l ns i j ow N L css wr)) (fun v60 _ _ => nl - (intOf v60).toNat)
       case atStart => exact ⟨0, ow, _, [], Nat.zero_le _, rfl, HC⟩
       case round =>
         clear HC
         obtain ⟨j, ow, L, css, hj, rfl, HC⟩ := hrel
         obtain ⟨AL, cL, rfl, _, _⟩ := HC.out.list.form
         obtain ⟨AN, cN, rfl, _, _⟩ := HC.out.names.form
         by_cases hlt : j < nl
         · have HCD := hid HC.out.drew
           obtain ⟨g2, off2, rfl, hcall⟩ := IH.out j hlt wr.drew HCD.out.below
           have HK := hid hcall
           clear hcall
           go_wp2_with fail
           refine wp_region_till 12 (fun W => Row W (w.heap.size + 1) 28 (jvC k b d t (.slice AL j cL) (.slice AN i cN)) /\ Below w.heap.size w W) (by kernel_rfl) ?_
           have hS : Row wr.drew (w.heap.size + 1) 28 (jvC k b d t (.slice AL j cL) (.slice AN i cN)) /\ Below w.heap.size w wr.drew := ⟨HCD.out.row, HCD.out.below⟩
           refine wpTill_z 0 ?_
           try simp only [Act.put, sA, sB, sC]
           refine wpTill_y 1 ?_ ?_ ?_
           rotate_left
           · intro W hSw; have q := hSw.1.cell (i := 6) rfl; go_simp; try with_reducible rfl
           try simp only [Act.put, sA, sB, sC]
           refine wpTill_z 2 ?_
           try simp only [Act.put, sA, sB, sC]
           refine wpTill_z 3 ?_
           try simp only [Act.put, sA, sB, sC]
           refine wpTill_z 4 ?_
           try simp only [Act.put, sA, sB, sC]
           refine wpTill_y 5 ?_ ?_ ?_
           rotate_left
           · intro W hSw; have q := (HVC.out W hSw.2).2.2.1; go_simp; try with_reducible rfl
           try simp only [Act.put, sA, sB, sC]
           refine wpTill_z 6 ?_
           try simp only [Act.put, sA, sB, sC]
           refine wpTill_z 7 ?_
           try simp only [Act.put, sA, sB, sC]
           refine wpTill_o 8 ?_
           intro K1 hK1
           go_simp
           (with_reducible refine HK.out.mono ?_)
           rintro e1 v1 ⟨cs2, rfl, hcop, hb⟩
           obtain ⟨k2, b2, d2, t2, L2, N2, rfl⟩ := hcop.form
           go_wp2_with fail
           have hS1 : Row v1 (w.heap.size + 1) 28 (jvC k b d t (.slice AL j cL) (.slice AN i cN)) /\ Below w.heap.size w v1 := ⟨hS.1.call hb, hS.2.call hb⟩
           have HB := hid hb
           have HJ := hid hcop.jis
           refine hK1.out _ _ (fun _ => hS1) ?_
           clear hb hS hcop
           clear hK1 K1
           try simp only [Act.put, sA, sB, sC]
           refine wpTill_o 9 ?_
           intro K1 hK1
           refine wp_build1 (.tmp 71) rfl k2 b2 d2 t2 L2 N2 ?_ ?_
           · kernel_rfl
           have HW1 : Hid (Below wr.drew.heap.size wr.drew (v1.alloc (.cells (jvC k2 b2 d2 t2 L2 N2) 28))) := hid (HB.out.alloc HB.out.size _)
           have HZ : Hid (Source (v1.alloc (.cells (jvC k2 b2 d2 t2 L2 N2) 28)) (some ⟨v1.heap.size, 0, none⟩) 1 (jvC k2 b2 d2 t2 L2 N2).toList) := hid (.inr ⟨_, rfl, fun j u hu => by
             rw [Addr.add_lit, Nat.zero_add]
             exact (Row.new v1 28 (jvC k2 b2 d2 t2 L2 N2)).cell (by simpa using hu)⟩)
           have hb2 : Below v1.heap.size v1 (v1.alloc (.cells (jvC k2 b2 d2 t2 L2 N2) 28)) := (Below.refl v1.heap.size v1).alloc (Nat.le_refl _) _
           have HJ2 := hid (HJ.out.below hb2)
           have hS2 : Row (v1.alloc (.cells (jvC k2 b2 d2 t2 L2 N2) 28)) (w.heap.size + 1) 28 (jvC k b d t (.slice AL j cL) (.slice AN i cN)) /\ Below w.heap.size w (v1.alloc (.cells (jvC k2 b2 d2 t2 L2 N2) 28)) := ⟨hS1.1.call hb2, hS1.2.call hb2⟩
           refine hK1.out _ _ (fun _ => hS2) ?_
           clear hS1 hb2
           clear hK1 K1
           try simp only [Act.put, sA, sB, sC]
           generalize v1.alloc _ = v2 at *
           have hone := hid (jv_one HJ2.out)
           refine wpTill_o 10 ?_
           intro K1 hK1
           refine wp_append_any (fun q => FB ow w.heap.size 2 q /\ q < wr.heap.size) _ _ _ rfl 28 8 112 (.agg zeroJ) Tryz.underlying25 infoJV rfl (by omega) _ j css.flatten rfl (HCD.out.list.there.below HW1.out) _ 1 1 (jvC k2 b2 d2 t2 L2 N2).toList rfl rfl HZ.out hone.out (by omega) (by omega) ?_
           intro v3 w3 hl3 hk3
           obtain ⟨A3, c3, rfl, _, _⟩ := hl3.form
           obtain ⟨hr3, ow2, hC2⟩ := HCD.out.item (by rw [HNL.out]; exact hlt) HW1.out HJ2.out hl3 (kept_mono hk3 fun _ e => e.1)
           have HC2 := hid hC2
           have HR3 := hid hr3
           have hS3 : Row w3 (w.heap.size + 1) 28 (jvC k b d t (.slice AL j cL) (.slice AN i cN)) /\ Below w.heap.size w w3 := ⟨hr3, hS2.2.trans (hk3.below hS2.2.size (fun q e => e.1.1.2))⟩
           refine hK1.out _ _ (fun _ => hS3) ?_
           clear hl3 hk3 hC2 hr3 hS2
           clear hK1 K1
           try simp only [Act.put, sA, sB, sC]
           refine wpTill_z 11 ?_
           try simp only [Act.put, sA, sB, sC]
           refine wpTill_o 12 ?_
           intro K1 hK1
           have x1 := HR3.out.cell (i := 6) rfl
           have x2 := HR3.out.free 6
           go_simp
           refine hK1.out _ _ (fun h => by cases h) ?_
           clear x1 x2 hS3
           clear hK1 K1
           try simp only [Act.put, sA, sB, sC]
           refine wpTill_past _ _ _ _ (by kernel_rfl) ?_
           refine wpAny_done (by kernel_rfl) ?_ _
           clear HR3 HZ HW1 HB HCD HJ HJ2 hone HK
           generalize World.setCell _ _ _ = w4 at *
           go_wp2_with fail
           exact ⟨⟨j + 1, ow2, _, _, by omega, by go_num, HC2⟩, by simp [intOf]; omega⟩
         · obtain rfl : j = nl := by omega
           have hC := HC.out
           rw [<- HNN.out, <- HNL.out] at hC
           obtain ⟨f1, f2⟩ := hC.fin
           rw [HNN.out, HNL.out] at f1 f2
           have HRG : Hid (wr.rangeAt (w.heap.size + 1) 0 (jvC k b d t (.slice AL j cL) (.slice AN i cN)).toList) := hid (fun q u hu => by rw [Nat.zero_add]; exact HC.out.row.cell (by simpa using hu))
           have HTR : Hid (wr.there w.heap.size 0 (jvC k b d t (.slice AL j cL) (.slice AN i cN)).size) := hid (row_there HC.out.res (Nat.le_refl _))
           have HF1 := hid f1
           have HF2 := hid f2
           have HIN : Hid ((Tryz.prog.info? 28).map (·.size) = some (jvC k b d t (.slice AL j cL) (.slice AN i cN)).size) := hid infoJ
           have HON : Hid ((jvC k b d t (.slice AL j cL) (.slice AN i cN)).all (·.oneCell') = true) := hid (by kernel_rfl)
           have H8 : Hid ((jvC k b d t (.slice AL j cL) (.slice AN i cN)).size = 8) := hid rfl
           clear hC f1 f2
           generalize jvC k b d t (.slice AL j cL) (.slice AN i cN) = cz at *
           go_wp2_with (first
             | (refine ldJ (.tmp 3) (w.heap.size + 1) 0 cz HRG.out HIN.out ?_)
             | (refine wpList_store_mid ?_ 28 (.tmp 2) (.tmp 76) ?_ w.heap.size 0 cz ?_ ?_ HTR.out HIN.out HON.out ?_
                · with_reducible rfl
                · with_reducible rfl
                · rfl
                · rfl))
           refine bodyPost_ret_by (results_oneJ rfl _ _ w.heap.size cz ?_ (load_jv HF1.out H8.out)) rfl ?_
           · rfl
           exact HF2.out
end Go.Proofs.YtmhbkjjkalnggaaGreatDoor
