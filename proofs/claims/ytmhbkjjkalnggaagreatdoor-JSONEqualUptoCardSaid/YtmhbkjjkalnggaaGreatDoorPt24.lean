import Derived.Test.YtmhbkjjkalnggaaGreatDoorPt23
namespace Go.Proofs.YtmhbkjjkalnggaaGreatDoor
open Go.RowKit
set_option maxRecDepth 1000000
set_option maxHeartbeats 40000000
theorem valid_some (g o n c : Nat) (t : ByteArray) (w : World) (hsp : Spot w g o n c t) (hT : Lib.Utf8Tabs 0 1 w) :
   Calls Tryz.prog 46 #[.slice (some ⟨g, o, none⟩) n c] w fun e w' => e = .returned (.bool (Lib.validD t.data.toList)) /\ Below w.heap.size w w' := by
 obtain ⟨ANS, hANS⟩ : ∃ ANS, Lib.validD t.data.toList = ANS := ⟨_, rfl⟩
 rw [hANS]
 have hgw := hsp.2.2.2.1
 have hnc := hsp.2.1
 have hncz : (n : Int) <= (c : Int) := by omega
 have mixed : Tryz.prog.follows .mixedOrders = true := by kernel_rfl
 have hsl0 : ∀ V, (Instr.sliceAt 35 (.slice (some ⟨g, o, none⟩) n c) none (some (.int .i64 (n : Int))) (some (.int .i64 (n : Int)))).run Tryz.prog V = .ok (.slice (some ⟨g, o, none⟩) n n) V := fun V => by
   have hi1 : (Tryz.prog.info? 5).map (·.size) = some 1 := by kernel_rfl
   obtain ⟨i, hi, hs⟩ : ∃ i, Tryz.prog.info? 5 = some i /\ i.size = 1 := by
     cases h : Tryz.prog.info? 5 with
     | none => rw [h] at hi1; cases hi1
     | some i => rw [h] at hi1; exact ⟨i, rfl, Option.some.inj hi1⟩
   simp [Instr.sliceAt, Instr.slice, Instr.sliceBounds, Instr.sliceBound, asIntOf, go_sem, run_underlying Tryz.underlying35, sizeOf, typeInfo, hi, hnc, Addr.add]
 have sp0 : Spot w g o n n t := ⟨hsp.1, Nat.le_refl _, by have := hsp.2.2.1; omega, hsp.2.2.2.1, hsp.2.2.2.2⟩
 go_enter Tryz.func46, Tryz.ntmps46
 go_wp2
 clear hsl0
 go_loopg [0] (n + 1) (fun gk s0 wx => Below w.heap.size w wx /\ ∃ o' n' c' t', s0 = .slice (some ⟨g, o', none⟩) n' c' /\ Spot wx g o' n' c' t' /\ Lib.validD t'.data.toList = ANS /\ n' < gk)
 case atStart => exact ⟨Below.refl _ _, o, n, n, t, rfl, sp0, hANS, by omega⟩
 case round =>
   obtain ⟨hbw, o0, n0, c0, t0, rfl, sp0', v0, hg⟩ := hrel
   clear hANS hsp sp0 hnc hncz
   have sp0 := sp0'
   clear sp0'
   have hTr := Utf8Tabs_below hT hbw
   have hgr := sp0.2.2.2.1
   have hn0 := sp0.1
   by_cases h0 : 0 < n0
   · obtain ⟨g', rfl⟩ : ∃ g', gk = g' + 1 := ⟨gk - 1, by omega⟩
     have h0z : (0 : Int) < (n0 : Int) := by omega
     obtain ⟨x0, hx0⟩ : ∃ x0, t0.get! 0 = x0 := ⟨_, rfl⟩
     have hc0 : wr.cell? ⟨g, o0, none⟩ = some (.int .u8 (x0.toNat : Int)) := by rw [<- hx0]; exact sp0.2.2.2.2 0 h0
     have hx0lt : x0.toNat < 256 := x0.toNat_lt
     by_cases hasc : x0.toNat < 128
     · as_aux_lemma =>
         have hascz : (x0.toNat : Int) < 128 := by omega
         have a1 : Lib.Asc t0 1 := Lib.asc_one t0 (by omega) (by rw [hx0]; exact hasc)
         obtain ⟨o1, n1, c1, z1, hsl1, sp1⟩ := spot_cut sp0 35 5 Tryz.underlying35 (by kernel_rfl) 1 1 rfl (by omega)
         obtain ⟨t1, ht1⟩ : ∃ x, t0.extract 1 t0.size = x := ⟨_, rfl⟩
         rw [ht1] at sp1
         have v1 : Lib.validD t1.data.toList = ANS := by rw [<- ht1, Lib.valid_skip t0 1 a1]; exact v0
         clear hTr hT a1 hx0
         by_cases c8 : 8 < n1
         · have c8z : (8 : Int) < (n1 : Int) := by omega
           obtain ⟨A1, hA1⟩ : ∃ x, Lib.leNat [t1.get! 0, t1.get! 1, t1.get! 2, t1.get! 3, t1.get! 4, t1.get! 5, t1.get! 6, t1.get! 7] = x := ⟨_, rfl⟩
           have lA1 : A1 < 18446744073709551616 := hA1 ▸ Lib.word_lt t1
           have cA1 : ∀ q, Calls Tryz.prog 75 #[.slice (some ⟨g, o1, none⟩) n1 c1] (wr.drewN q) fun e w' => e = .returned (.int .u64 A1) /\ ∃ m, w' = (wr.drewN q).drewN m := fun q => by rw [<- hA1]; exact word_ok _ _ _ _ _ _ (sp1.drewN q) (by omega)
           have kA1 := Lib.word_asc t1 (by have := sp1.1; omega)
           rw [hA1] at kA1
           have hand1 : bits .and .u64 (A1 : Int) 9259542123273814144 = ((A1 &&& 9259542123273814144 : Nat) : Int) := u64_and_nat A1 9259542123273814144 lA1 (by omega)
           obtain ⟨Z1, hZ1⟩ : ∃ x, A1 &&& 9259542123273814144 = x := ⟨_, rfl⟩
           rw [hZ1] at hand1 kA1
           have cA1w : Calls Tryz.prog 75 #[.slice (some ⟨g, o1, none⟩) n1 c1] wr fun e w' => e = .returned (.int .u64 A1) /\ ∃ m, w' = wr.drewN m := by rw [<- hA1]; exact word_ok _ _ _ _ _ _ sp1 (by omega)
           clear cA1
           by_cases hz1 : Z1 = 0
           · have hz1b : ((Z1 : Int) == 0) = true := by simp [hz1]
             obtain ⟨o2, n2, c2, z2, hsl2, sp2⟩ := spot_cut sp1 35 5 Tryz.underlying35 (by kernel_rfl) 8 8 rfl (by omega)
             obtain ⟨t2, ht2⟩ : ∃ x, t1.extract 8 t1.size = x := ⟨_, rfl⟩
             rw [ht2] at sp2
             have v2 : Lib.validD t2.data.toList = ANS := by rw [<- ht2, Lib.valid_skip t1 8 (kA1.1 hz1)]; exact v1
             clear kA1 v1 ht1 ht2 hZ1 hA1
             go_wp2_with ((refine cA1w.mono ?_; rintro e W1 ⟨rfl, q1, rfl⟩))
             have hb1 : Below w.heap.size w (wr.drewN q1) := below_drewNv hbw q1
             have sq := sp2.drewN q1
             clear sp2
             generalize wr.drewN q1 = wq at hb1 sq ⊢
             have sp2 := sq
             clear sq cA1w
             by_cases c16 : 16 < n2
             · have c16z : (16 : Int) < (n2 : Int) := by omega
               obtain ⟨o2b, n2b, c2b, z2b, hsl2b, sp2b⟩ := spot_cut sp2 35 5 Tryz.underlying35 (by kernel_rfl) 8 8 rfl (by omega)
               obtain ⟨t2b, ht2b⟩ : ∃ x, t2.extract 8 t2.size = x := ⟨_, rfl⟩
               rw [ht2b] at sp2b
               obtain ⟨A2, hA2⟩ : ∃ x, Lib.leNat [t2.get! 0, t2.get! 1, t2.get! 2, t2.get! 3, t2.get! 4, t2.get! 5, t2.get! 6, t2.get! 7] = x := ⟨_, rfl⟩
               have lA2 : A2 < 18446744073709551616 := hA2 ▸ Lib.word_lt t2
               have cA2 : ∀ q, Calls Tryz.prog 75 #[.slice (some ⟨g, o2, none⟩) n2 c2] (wq.drewN q) fun e w' => e = .returned (.int .u64 A2) /\ ∃ m, w' = (wq.drewN q).drewN m := fun q => by rw [<- hA2]; exact word_ok _ _ _ _ _ _ (sp2.drewN q) (by omega)
               have kA2 := Lib.word_asc t2 (by have := sp2.1; omega)
               rw [hA2] at kA2
               obtain ⟨A3, hA3⟩ : ∃ x, Lib.leNat [t2b.get! 0, t2b.get! 1, t2b.get! 2, t2b.get! 3, t2b.get! 4, t2b.get! 5, t2b.get! 6, t2b.get! 7] = x := ⟨_, rfl⟩
               have lA3 : A3 < 18446744073709551616 := hA3 ▸ Lib.word_lt t2b
               have cA3 : ∀ q, Calls Tryz.prog 75 #[.slice (some ⟨g, o2b, none⟩) n2b c2b] (wq.drewN q) fun e w' => e = .returned (.int .u64 A3) /\ ∃ m, w' = (wq.drewN q).drewN m := fun q => by rw [<- hA3]; exact word_ok _ _ _ _ _ _ (sp2b.drewN q) (by omega)
               have kA3 := Lib.word_asc t2b (by have := sp2b.1; omega)
               rw [hA3] at kA3
               have hor2 : bits .or .u64 (A2 : Int) (A3 : Int) = ((A2 ||| A3 : Nat) : Int) := u64_or_nat A2 A3 lA2 lA3
               have lor2 : A2 ||| A3 < 18446744073709551616 := Nat.or_lt_two_pow (n := 64) lA2 lA3
               have hand2 : bits .and .u64 ((A2 ||| A3 : Nat) : Int) 9259542123273814144 = (((A2 ||| A3) &&& 9259542123273814144 : Nat) : Int) := u64_and_nat _ 9259542123273814144 lor2 (by omega)
               have k2 : (A2 ||| A3) &&& 9259542123273814144 = 0 -> Lib.Asc t2 16 := fun h' => Lib.asc_add t2 8 8 (kA2.1 ((Lib.or_mask A2 A3 _).1 h').1) (by rw [ht2b]; exact kA3.1 ((Lib.or_mask A2 A3 _).1 h').2)
               obtain ⟨O2, hO2⟩ : ∃ x, A2 ||| A3 = x := ⟨_, rfl⟩
               rw [hO2] at hor2 hand2 k2
               obtain ⟨Z2, hZ2⟩ : ∃ x, O2 &&& 9259542123273814144 = x := ⟨_, rfl⟩
               rw [hZ2] at hand2 k2
               clear kA2 kA3 lor2 hO2 hZ2
               by_cases hz2 : Z2 = 0
               · have hz2b : ((Z2 : Int) == 0) = true := by simp [hz2]
                 obtain ⟨o3, n3, c3, z3, hsl3, sp3⟩ := spot_cut sp2 35 5 Tryz.underlying35 (by kernel_rfl) 16 16 rfl (by omega)
                 obtain ⟨t3, ht3⟩ : ∃ x, t2.extract 16 t2.size = x := ⟨_, rfl⟩
                 rw [ht3] at sp3
                 have v3 : Lib.validD t3.data.toList = ANS := by rw [<- ht3, Lib.valid_skip t2 16 (k2 hz2)]; exact v2
                 clear k2 v2 ht2b ht3 hA2 hA3
                 go_big_quiet_o (first | (with_reducible refine Calls.quiet_of (cA2 _)) | (with_reducible refine Calls.quiet_of (cA3 _)))
                 have hb2 : Below w.heap.size w (wq.drewN nq) := below_drewNv hb1 nq
                 have sq := sp3.drewN nq
                 clear sp3
                 generalize wq.drewN nq = wq2 at hb2 sq ⊢
                 have sp3 := sq
                 clear sq cA2 cA3
                 go_wp2
                 go_loopg [0] (n3 + 1) (fun g2 s0 wx => Below w.heap.size w wx /\ ∃ o' n' c' t', s0 = .slice (some ⟨g, o', none⟩) n' c' /\ Spot wx g o' n' c' t' /\ Lib.validD t'.data.toList = ANS /\ n' < g2 /\ n' <= n3)
                 case atStart => exact ⟨hb2, _, _, _, _, rfl, sp3, v3, by omega, Nat.le_refl _⟩
                 case round =>
                   obtain ⟨hbu, o4, n4, c4, t4, rfl, sp4, v4, hg4, hn4⟩ := hrel
                   by_cases c32 : 32 < n4
                   · obtain ⟨g3, rfl⟩ : ∃ g3, gk = g3 + 1 := ⟨gk - 1, by omega⟩
                     have c32z : (32 : Int) < (n4 : Int) := by omega
                     obtain ⟨o5, n5, c5, z5, hsl5, sp5⟩ := spot_cut sp4 35 5 Tryz.underlying35 (by kernel_rfl) 8 8 rfl (by omega)
                     obtain ⟨t5, ht5⟩ : ∃ x, t4.extract 8 t4.size = x := ⟨_, rfl⟩
                     rw [ht5] at sp5
                     obtain ⟨o6, n6, c6, z6, hsl6, sp6⟩ := spot_cut sp4 35 5 Tryz.underlying35 (by kernel_rfl) 16 16 rfl (by omega)
                     obtain ⟨t6, ht6⟩ : ∃ x, t4.extract 16 t4.size = x := ⟨_, rfl⟩
                     rw [ht6] at sp6
                     obtain ⟨o7, n7, c7, z7, hsl7, sp7⟩ := spot_cut sp4 35 5 Tryz.underlying35 (by kernel_rfl) 24 24 rfl (by omega)
                     obtain ⟨t7, ht7⟩ : ∃ x, t4.extract 24 t4.size = x := ⟨_, rfl⟩
                     rw [ht7] at sp7
                     obtain ⟨B0, hB0⟩ : ∃ x, Lib.leNat [t4.get! 0, t4.get! 1, t4.get! 2, t4.get! 3, t4.get! 4, t4.get! 5, t4.get! 6, t4.get! 7] = x := ⟨_, rfl⟩
                     have lB0 : B0 < 18446744073709551616 := hB0 ▸ Lib.word_lt t4
                     have cB0 : ∀ q, Calls Tryz.prog 75 #[.slice (some ⟨g, o4, none⟩) n4 c4] (wr.drewN q) fun e w' => e = .returned (.int .u64 B0) /\ ∃ m, w' = (wr.drewN q).drewN m := fun q => by rw [<- hB0]; exact word_ok _ _ _ _ _ _ (sp4.drewN q) (by omega)
                     have kB0 := Lib.word_asc t4 (by have := sp4.1; omega)
                     rw [hB0] at kB0
                     obtain ⟨B1, hB1⟩ : ∃ x, Lib.leNat [t5.get! 0, t5.get! 1, t5.get! 2, t5.get! 3, t5.get! 4, t5.get! 5, t5.get! 6, t5.get! 7] = x := ⟨_, rfl⟩
                     have lB1 : B1 < 18446744073709551616 := hB1 ▸ Lib.word_lt t5
                     have cB1 : ∀ q, Calls Tryz.prog 75 #[.slice (some ⟨g, o5, none⟩) n5 c5] (wr.drewN q) fun e w' => e = .returned (.int .u64 B1) /\ ∃ m, w' = (wr.drewN q).drewN m := fun q => by rw [<- hB1]; exact word_ok _ _ _ _ _ _ (sp5.drewN q) (by omega)
                     have kB1 := Lib.word_asc t5 (by have := sp5.1; omega)
                     rw [hB1] at kB1
                     obtain ⟨B2, hB2⟩ : ∃ x, Lib.leNat [t6.get! 0, t6.get! 1, t6.get! 2, t6.get! 3, t6.get! 4, t6.get! 5, t6.get! 6, t6.get! 7] = x := ⟨_, rfl⟩
                     have lB2 : B2 < 18446744073709551616 := hB2 ▸ Lib.word_lt t6
                     have cB2 : ∀ q, Calls Tryz.prog 75 #[.slice (some ⟨g, o6, none⟩) n6 c6] (wr.drewN q) fun e w' => e = .returned (.int .u64 B2) /\ ∃ m, w' = (wr.drewN q).drewN m := fun q => by rw [<- hB2]; exact word_ok _ _ _ _ _ _ (sp6.drewN q) (by omega)
                     have kB2 := Lib.word_asc t6 (by have := sp6.1; omega)
                     rw [hB2] at kB2
                     obtain ⟨B3, hB3⟩ : ∃ x, Lib.leNat [t7.get! 0, t7.get! 1, t7.get! 2, t7.get! 3, t7.get! 4, t7.get! 5, t7.get! 6, t7.get! 7] = x := ⟨_, rfl⟩
                     have lB3 : B3 < 18446744073709551616 := hB3 ▸ Lib.word_lt t7
                     have cB3 : ∀ q, Calls Tryz.prog 75 #[.slice (some ⟨g, o7, none⟩) n7 c7] (wr.drewN q) fun e w' => e = .returned (.int .u64 B3) /\ ∃ m, w' = (wr.drewN q).drewN m := fun q => by rw [<- hB3]; exact word_ok _ _ _ _ _ _ (sp7.drewN q) (by omega)
                     have kB3 := Lib.word_asc t7 (by have := sp7.1; omega)
                     rw [hB3] at kB3
                     have ho1 : bits .or .u64 (B0 : Int) (B1 : Int) = ((B0 ||| B1 : Nat) : Int) := u64_or_nat B0 B1 lB0 lB1
                     have ho2 : bits .or .u64 (B2 : Int) (B3 : Int) = ((B2 ||| B3 : Nat) : Int) := u64_or_nat B2 B3 lB2 lB3
                     have lo1 : B0 ||| B1 < 18446744073709551616 := Nat.or_lt_two_pow (n := 64) lB0 lB1
                     have lo2 : B2 ||| B3 < 18446744073709551616 := Nat.or_lt_two_pow (n := 64) lB2 lB3
                     have ho3 : bits .or .u64 ((B0 ||| B1 : Nat) : Int) ((B2 ||| B3 : Nat) : Int) = (((B0 ||| B1) ||| (B2 ||| B3) : Nat) : Int) := u64_or_nat _ _ lo1 lo2
                     have lo3 : (B0 ||| B1) ||| (B2 ||| B3) < 18446744073709551616 := Nat.or_lt_two_pow (n := 64) lo1 lo2
                     have hand3 : bits .and .u64 (((B0 ||| B1) ||| (B2 ||| B3) : Nat) : Int) 9259542123273814144 = ((((B0 ||| B1) ||| (B2 ||| B3)) &&& 9259542123273814144 : Nat) : Int) := u64_and_nat _ 9259542123273814144 lo3 (by omega)
                     have k3 : ((B0 ||| B1) ||| (B2 ||| B3)) &&& 9259542123273814144 = 0 -> Lib.Asc t4 32 := fun h' => by
                       obtain ⟨e01, e23⟩ := (Lib.or_mask _ _ _).1 h'
                       obtain ⟨e0, e1⟩ := (Lib.or_mask _ _ _).1 e01
                       obtain ⟨e2, e3⟩ := (Lib.or_mask _ _ _).1 e23
                       exact Lib.asc_add t4 24 8 (Lib.asc_add t4 16 8 (Lib.asc_add t4 8 8 (kB0.1 e0) (by rw [ht5]; exact kB1.1 e1)) (by rw [ht6]; exact kB2.1 e2)) (by rw [ht7]; exact kB3.1 e3)
                     obtain ⟨P1, hP1⟩ : ∃ x, B0 ||| B1 = x := ⟨_, rfl⟩
                     obtain ⟨P2, hP2⟩ : ∃ x, B2 ||| B3 = x := ⟨_, rfl⟩
                     rw [hP1, hP2] at ho3 hand3 k3
                     rw [hP1] at ho1
                     rw [hP2] at ho2
                     obtain ⟨P3, hP3⟩ : ∃ x, P1 ||| P2 = x := ⟨_, rfl⟩
                     rw [hP3] at ho3 hand3 k3
                     obtain ⟨Z3, hZ3⟩ : ∃ x, P3 &&& 9259542123273814144 = x := ⟨_, rfl⟩
                     rw [hZ3] at hand3 k3
                     clear kB0 kB1 kB2 kB3 lo1 lo2 lo3 hP1 hP2 hP3 hZ3
                     by_cases hz3 : Z3 = 0
                     · have hz3b : ((Z3 : Int) == 0) = true := by simp [hz3]
                       obtain ⟨o8, n8, c8, z8, hsl8, sp8⟩ := spot_cut sp4 35 5 Tryz.underlying35 (by kernel_rfl) 32 32 rfl (by omega)
                       obtain ⟨t8, ht8⟩ : ∃ x, t4.extract 32 t4.size = x := ⟨_, rfl⟩
                       rw [ht8] at sp8
                       have v8 : Lib.validD t8.data.toList = ANS := by rw [<- ht8, Lib.valid_skip t4 32 (k3 hz3)]; exact v4
                       clear k3 v4 ht5 ht6 ht7 ht8 hB0 hB1 hB2 hB3
                       go_wp2_with fail
                       go_big_quiet_o (first | (with_reducible refine Calls.quiet_of (cB0 _)) | (with_reducible refine Calls.quiet_of (cB1 _)) | (with_reducible refine Calls.quiet_of (cB2 _)) | (with_reducible refine Calls.quiet_of (cB3 _)))
                       go_wp2
                       go_roundg g3
                       case measure => omega
                       case rel => exact ⟨below_drewNv hbu nq, _, _, _, _, rfl, sp8.drewN nq, v8, by omega, by omega⟩
                     · have hz3b : ((Z3 : Int) == 0) = false := by simp; omega
                       clear k3 ht5 ht6 ht7 hB0 hB1 hB2 hB3
                       go_wp2_with fail
                       go_big_quiet_o (first | (with_reducible refine Calls.quiet_of (cB0 _)) | (with_reducible refine Calls.quiet_of (cB1 _)) | (with_reducible refine Calls.quiet_of (cB2 _)) | (with_reducible refine Calls.quiet_of (cB3 _)))
                       go_wp2
                       go_roundg g'
                       case measure => omega
                       case rel => exact ⟨below_drewNv hbu nq, _, _, _, _, rfl, sp4.drewN nq, v4, by omega⟩
                   · have c32z : ¬ ((32 : Int) < (n4 : Int)) := by omega
                     have c32b : decide ((32 : Int) < (n4 : Int)) = false := decide_eq_false c32z
                     go_wp2_with fail
                     go_big_quiet_o (fail)
                     go_wp2
                     go_roundg g'
                     case measure => omega
                     case rel => exact ⟨below_drewNv hbu nq, _, _, _, _, rfl, sp4.drewN nq, v4, by omega⟩
               · have hz2b : ((Z2 : Int) == 0) = false := by simp; omega
                 clear k2 ht2b hA2 hA3
                 go_big_quiet_o (first | (with_reducible refine Calls.quiet_of (cA2 _)) | (with_reducible refine Calls.quiet_of (cA3 _)))
                 go_wp2
                 go_roundg g'
                 case measure => omega
                 case rel => exact ⟨below_drewNv hb1 nq, _, _, _, _, rfl, sp2.drewN nq, v2, by omega⟩
             · have c16z : ¬ ((16 : Int) < (n2 : Int)) := by omega
               have c16b : decide ((16 : Int) < (n2 : Int)) = false := decide_eq_false c16z
               go_big_quiet_o (fail)
               go_wp2
               go_roundg g'
               case measure => omega
               case rel => exact ⟨below_drewNv hb1 nq, _, _, _, _, rfl, sp2.drewN nq, v2, by omega⟩
           · have hz1b : ((Z1 : Int) == 0) = false := by simp; omega
             clear kA1 ht1 hZ1 hA1
             go_wp2_with ((refine cA1w.mono ?_; rintro e W1 ⟨rfl, q1, rfl⟩))
             go_roundg g'
             case measure => omega
             case rel => exact ⟨below_drewNv hbw q1, _, _, _, _, rfl, sp1.drewN q1, v1, by omega⟩
         · have c8z : ¬ ((8 : Int) < (n1 : Int)) := by omega
           go_wp2
           go_roundg g'
           case measure => omega
           case rel => exact ⟨hbw, _, _, _, _, rfl, sp1, v1, by omega⟩
     · as_aux_lemma =>
         have hge : 128 <= x0.toNat := by omega
         have hascz : ¬ ((x0.toNat : Int) < 128) := by omega
         obtain ⟨x1, hx1⟩ : ∃ x, t0.get! 1 = x := ⟨_, rfl⟩
         have l1 := x1.toNat_lt
         obtain ⟨x2, hx2⟩ : ∃ x, t0.get! 2 = x := ⟨_, rfl⟩
         have l2 := x2.toNat_lt
         obtain ⟨x3, hx3⟩ : ∃ x, t0.get! 3 = x := ⟨_, rfl⟩
         have l3 := x3.toNat_lt
         have hne : t0.data.toList ≠ [] := fun h => by rw [Lib.size_eq, h] at hn0; simp at hn0; omega
         have hlead := Lib.validD_lead t0.data.toList hne (by rw [Lib.getD_get!', hx0]; exact hge)
         rw [Lib.getD_get!', Lib.getD_get!', Lib.getD_get!', Lib.getD_get!', hx0, hx1, hx2, hx3, <- Lib.size_eq, hn0, v0] at hlead
         have hf0 := hTr.1 x0.toNat hx0lt
         have hXlt : Lib.firstT x0.toNat < 256 := by rcases Lib.firstT_cases x0.toNat with h | h | h | h | h | h | h | h | h <;> omega
         obtain ⟨X, hX⟩ : ∃ X, Lib.firstT x0.toNat = X := ⟨_, rfl⟩
         rw [hX] at hf0 hXlt hlead
         have h7 := and7 ⟨X, hXlt⟩
         simp only at h7
         have ha0 : wr.cell? ⟨1, X / 16 * 2, none⟩ = some (.int .u8 (Lib.accLo (X / 16))) := by rw [Nat.mul_comm]; exact (hTr.2 (X / 16) (by omega)).1
         have ha1 : wr.cell? ⟨1, X / 16 * 2 + 1, none⟩ = some (.int .u8 (Lib.accHi (X / 16))) := by rw [Nat.mul_comm]; exact (hTr.2 (X / 16) (by omega)).2
         obtain ⟨LO, hLO⟩ : ∃ x, Lib.accLo (X / 16) = x := ⟨_, rfl⟩
         obtain ⟨HI, hHI⟩ : ∃ x, Lib.accHi (X / 16) = x := ⟨_, rfl⟩
         rw [hLO] at ha0 hlead
         rw [hHI] at ha1 hlead
         obtain ⟨SZ, hSZ⟩ : ∃ x, X % 8 = x := ⟨_, rfl⟩
         rw [hSZ] at hlead
         have hcell : ∀ i, i < n0 -> ∀ b : Obj, (wr.alloc b).cell? ⟨g, o0 + i, none⟩ = some (.int .u8 ((t0.get! i).toNat : Int)) := fun i hi b => ((Below.refl wr.heap.size wr).alloc (Nat.le_refl _) b).cell (p := ⟨g, o0 + i, none⟩) hgr |>.trans (sp0.2.2.2.2 i hi)
         clear hTr hT hX hLO hHI hne
         by_cases s2 : SZ = 2
         · subst s2
           have hSZz : (X : Int) % 8 = 2 := by omega
           simp only [Lib.checkN, Nat.reduceEqDiff, if_true, if_false] at hlead
           go_upto_region 18 with fail
           generalize hW : wr.alloc (.cells #[.int .u8 (LO : Int), .int .u8 (HI : Int)] 96) = V
           have hbV : Below w.heap.size w V := by subst hW; exact hbw.alloc hbw.size _
           have hl0 : V.cell? ⟨wr.heap.size, 0, none⟩ = some (.int .u8 (LO : Int)) := by subst hW; exact (Row.new _ _ _).cell rfl
           have hl1 : V.cell? ⟨wr.heap.size, 1, none⟩ = some (.int .u8 (HI : Int)) := by subst hW; exact (Row.new _ _ _).cell rfl
           have hy1 : 1 < n0 -> V.cell? ⟨g, o0 + 1, none⟩ = some (.int .u8 (x1.toNat : Int)) := fun h => by rw [<- hx1, <- hW]; exact hcell 1 h _
           have spV : Spot V g o0 n0 c0 t0 := by subst hW; exact sp0.below ((Below.refl wr.heap.size wr).alloc (Nat.le_refl _) _) hgr
           clear hcell hW hbw ha0 ha1 hf0 hc0 sp0
           go_cut [103] from 85 to 103 (fun c wx => c = .bool (decide (n0 < 2 ∨ x1.toNat < LO ∨ HI < x1.toNat)) /\ ∃ q, wx = V.drewN q)
           case first =>
             by_cases q0 : n0 < 2
             · have q0z : (n0 : Int) < 2 := by omega
               go_big_quiet_o (fail)
               go_wp2
               go_meet
               exact ⟨congrArg Value.bool (decide_eq_true (p := n0 < 2 ∨ x1.toNat < LO ∨ HI < x1.toNat) (by omega)).symm, _, rfl⟩
             · have q0z : ¬ ((n0 : Int) < 2) := by omega
               have hz1 : (1 : Int) < (n0 : Int) := by omega
               have hp1 : 1 < n0 := by omega
               replace hy1 := hy1 hp1
               by_cases q1 : x1.toNat < LO
               · have q1z : (x1.toNat : Int) < (LO : Int) := by omega
                 go_big_quiet_o (fail)
                 go_wp2
                 go_meet
                 exact ⟨congrArg Value.bool (decide_eq_true (p := n0 < 2 ∨ x1.toNat < LO ∨ HI < x1.toNat) (by omega)).symm, _, rfl⟩
               · have q1z : ¬ ((x1.toNat : Int) < (LO : Int)) := by omega
                 by_cases q2 : HI < x1.toNat
                 · have q2z : (HI : Int) < (x1.toNat : Int) := by omega
                   go_big_quiet_o (fail)
                   go_wp2
                   go_meet
                   exact ⟨congrArg Value.bool (decide_eq_true (p := n0 < 2 ∨ x1.toNat < LO ∨ HI < x1.toNat) (by omega)).symm, _, rfl⟩
                 · have q2z : ¬ ((HI : Int) < (x1.toNat : Int)) := by omega
                   go_big_quiet_o (fail)
                   go_wp2
                   go_meet
                   exact ⟨congrArg Value.bool (decide_eq_false (p := n0 < 2 ∨ x1.toNat < LO ∨ HI < x1.toNat) (by omega)).symm, _, rfl⟩
           case rest =>
             obtain ⟨rfl, q, rfl⟩ := hcut
             replace hbV := below_drewNv hbV q
             replace spV := spV.drewN q
             generalize V.drewN q = V at hbV spV ⊢
             by_cases hb : n0 < 2 ∨ x1.toNat < LO ∨ HI < x1.toNat
             · have hbd : decide (n0 < 2 ∨ x1.toNat < LO ∨ HI < x1.toNat) = true := decide_eq_true hb
               rw [if_pos hb] at hlead
               go_wp2
               all_goals (go_ret; exact ⟨by first | rfl | rw [hlead], hbV⟩)
             · have hbd : decide (n0 < 2 ∨ x1.toNat < LO ∨ HI < x1.toNat) = false := decide_eq_false hb
               rw [if_neg hb] at hlead
               obtain ⟨o9, n9, c9, z9, hsl9, sp9⟩ := spot_cut spV 35 5 Tryz.underlying35 (by kernel_rfl) 2 2 rfl (by omega)
               go_wp2
               go_roundg g'
               case measure => omega
               case rel => exact ⟨hbV, _, _, _, _, rfl, sp9, by rw [Lib.ext_list, hlead], by omega⟩
         by_cases s3 : SZ = 3
         · subst s3
           have hSZz : (X : Int) % 8 = 3 := by omega
           simp only [Lib.checkN, Nat.reduceEqDiff, if_true, if_false] at hlead
           go_upto_region 22 with fail
           generalize hW : wr.alloc (.cells #[.int .u8 (LO : Int), .int .u8 (HI : Int)] 96) = V
           have hbV : Below w.heap.size w V := by subst hW; exact hbw.alloc hbw.size _
           have hl0 : V.cell? ⟨wr.heap.size, 0, none⟩ = some (.int .u8 (LO : Int)) := by subst hW; exact (Row.new _ _ _).cell rfl
           have hl1 : V.cell? ⟨wr.heap.size, 1, none⟩ = some (.int .u8 (HI : Int)) := by subst hW; exact (Row.new _ _ _).cell rfl
           have hy1 : 1 < n0 -> V.cell? ⟨g, o0 + 1, none⟩ = some (.int .u8 (x1.toNat : Int)) := fun h => by rw [<- hx1, <- hW]; exact hcell 1 h _
           have hy2 : 2 < n0 -> V.cell? ⟨g, o0 + 2, none⟩ = some (.int .u8 (x2.toNat : Int)) := fun h => by rw [<- hx2, <- hW]; exact hcell 2 h _
           have spV : Spot V g o0 n0 c0 t0 := by subst hW; exact sp0.below ((Below.refl wr.heap.size wr).alloc (Nat.le_refl _) _) hgr
           clear hcell hW hbw ha0 ha1 hf0 hc0 sp0
           go_cut [138] from 108 to 138 (fun c wx => c = .bool (decide (n0 < 3 ∨ x1.toNat < LO ∨ HI < x1.toNat ∨ x2.toNat < 128 ∨ 191 < x2.toNat)) /\ ∃ q, wx = V.drewN q)
           case first =>
             by_cases q0 : n0 < 3
             · have q0z : (n0 : Int) < 3 := by omega
               go_big_quiet_o (fail)
               go_wp2
               go_meet
               exact ⟨congrArg Value.bool (decide_eq_true (p := n0 < 3 ∨ x1.toNat < LO ∨ HI < x1.toNat ∨ x2.toNat < 128 ∨ 191 < x2.toNat) (by omega)).symm, _, rfl⟩
             · have q0z : ¬ ((n0 : Int) < 3) := by omega
               have hz1 : (1 : Int) < (n0 : Int) := by omega
               have hp1 : 1 < n0 := by omega
               replace hy1 := hy1 hp1
               have hz2 : (2 : Int) < (n0 : Int) := by omega
               have hp2 : 2 < n0 := by omega
               replace hy2 := hy2 hp2
               by_cases q1 : x1.toNat < LO
               · have q1z : (x1.toNat : Int) < (LO : Int) := by omega
                 go_big_quiet_o (fail)
                 go_wp2
                 go_meet
                 exact ⟨congrArg Value.bool (decide_eq_true (p := n0 < 3 ∨ x1.toNat < LO ∨ HI < x1.toNat ∨ x2.toNat < 128 ∨ 191 < x2.toNat) (by omega)).symm, _, rfl⟩
               · have q1z : ¬ ((x1.toNat : Int) < (LO : Int)) := by omega
                 by_cases q2 : HI < x1.toNat
                 · have q2z : (HI : Int) < (x1.toNat : Int) := by omega
                   go_big_quiet_o (fail)
                   go_wp2
                   go_meet
                   exact ⟨congrArg Value.bool (decide_eq_true (p := n0 < 3 ∨ x1.toNat < LO ∨ HI < x1.toNat ∨ x2.toNat < 128 ∨ 191 < x2.toNat) (by omega)).symm, _, rfl⟩
                 · have q2z : ¬ ((HI : Int) < (x1.toNat : Int)) := by omega
                   by_cases q3 : x2.toNat < 128
                   · have q3z : (x2.toNat : Int) < 128 := by omega
                     go_big_quiet_o (fail)
                     go_wp2
                     go_meet
                     exact ⟨congrArg Value.bool (decide_eq_true (p := n0 < 3 ∨ x1.toNat < LO ∨ HI < x1.toNat ∨ x2.toNat < 128 ∨ 191 < x2.toNat) (by omega)).symm, _, rfl⟩
                   · have q3z : ¬ ((x2.toNat : Int) < 128) := by omega
                     by_cases q4 : 191 < x2.toNat
                     · have q4z : (191 : Int) < (x2.toNat : Int) := by omega
                       go_big_quiet_o (fail)
                       go_wp2
                       go_meet
                       exact ⟨congrArg Value.bool (decide_eq_true (p := n0 < 3 ∨ x1.toNat < LO ∨ HI < x1.toNat ∨ x2.toNat < 128 ∨ 191 < x2.toNat) (by omega)).symm, _, rfl⟩
                     · have q4z : ¬ ((191 : Int) < (x2.toNat : Int)) := by omega
                       go_big_quiet_o (fail)
                       go_wp2
                       go_meet
                       exact ⟨congrArg Value.bool (decide_eq_false (p := n0 < 3 ∨ x1.toNat < LO ∨ HI < x1.toNat ∨ x2.toNat < 128 ∨ 191 < x2.toNat) (by omega)).symm, _, rfl⟩
           case rest =>
             obtain ⟨rfl, q, rfl⟩ := hcut
             replace hbV := below_drewNv hbV q
             replace spV := spV.drewN q
             generalize V.drewN q = V at hbV spV ⊢
             by_cases hb : n0 < 3 ∨ x1.toNat < LO ∨ HI < x1.toNat ∨ x2.toNat < 128 ∨ 191 < x2.toNat
             · have hbd : decide (n0 < 3 ∨ x1.toNat < LO ∨ HI < x1.toNat ∨ x2.toNat < 128 ∨ 191 < x2.toNat) = true := decide_eq_true hb
               rw [if_pos hb] at hlead
               go_wp2
               all_goals (go_ret; exact ⟨by first | rfl | rw [hlead], hbV⟩)
             · have hbd : decide (n0 < 3 ∨ x1.toNat < LO ∨ HI < x1.toNat ∨ x2.toNat < 128 ∨ 191 < x2.toNat) = false := decide_eq_false hb
               rw [if_neg hb] at hlead
               obtain ⟨o9, n9, c9, z9, hsl9, sp9⟩ := spot_cut spV 35 5 Tryz.underlying35 (by kernel_rfl) 3 3 rfl (by omega)
               go_wp2
               go_roundg g'
               case measure => omega
               case rel => exact ⟨hbV, _, _, _, _, rfl, sp9, by rw [Lib.ext_list, hlead], by omega⟩
         by_cases s4 : SZ = 4
         · subst s4
           have hSZz : (X : Int) % 8 = 4 := by omega
           simp only [Lib.checkN, Nat.reduceEqDiff, if_true, if_false] at hlead
           go_upto_region 26 with fail
           generalize hW : wr.alloc (.cells #[.int .u8 (LO : Int), .int .u8 (HI : Int)] 96) = V
           have hbV : Below w.heap.size w V := by subst hW; exact hbw.alloc hbw.size _
           have hl0 : V.cell? ⟨wr.heap.size, 0, none⟩ = some (.int .u8 (LO : Int)) := by subst hW; exact (Row.new _ _ _).cell rfl
           have hl1 : V.cell? ⟨wr.heap.size, 1, none⟩ = some (.int .u8 (HI : Int)) := by subst hW; exact (Row.new _ _ _).cell rfl
           have hy1 : 1 < n0 -> V.cell? ⟨g, o0 + 1, none⟩ = some (.int .u8 (x1.toNat : Int)) := fun h => by rw [<- hx1, <- hW]; exact hcell 1 h _
           have hy2 : 2 < n0 -> V.cell? ⟨g, o0 + 2, none⟩ = some (.int .u8 (x2.toNat : Int)) := fun h => by rw [<- hx2, <- hW]; exact hcell 2 h _
           have hy3 : 3 < n0 -> V.cell? ⟨g, o0 + 3, none⟩ = some (.int .u8 (x3.toNat : Int)) := fun h => by rw [<- hx3, <- hW]; exact hcell 3 h _
           have spV : Spot V g o0 n0 c0 t0 := by subst hW; exact sp0.below ((Below.refl wr.heap.size wr).alloc (Nat.le_refl _) _) hgr
           clear hcell hW hbw ha0 ha1 hf0 hc0 sp0
           go_cut [185] from 143 to 185 (fun c wx => c = .bool (decide (n0 < 4 ∨ x1.toNat < LO ∨ HI < x1.toNat ∨ x2.toNat < 128 ∨ 191 < x2.toNat ∨ x3.toNat < 128 ∨ 191 < x3.toNat)) /\ ∃ q, wx = V.drewN q)
           case first =>
             by_cases q0 : n0 < 4
             · have q0z : (n0 : Int) < 4 := by omega
               go_big_quiet_o (fail)
               go_wp2
               go_meet
               exact ⟨congrArg Value.bool (decide_eq_true (p := n0 < 4 ∨ x1.toNat < LO ∨ HI < x1.toNat ∨ x2.toNat < 128 ∨ 191 < x2.toNat ∨ x3.toNat < 128 ∨ 191 < x3.toNat) (by omega)).symm, _, rfl⟩
             · have q0z : ¬ ((n0 : Int) < 4) := by omega
               have hz1 : (1 : Int) < (n0 : Int) := by omega
               have hp1 : 1 < n0 := by omega
               replace hy1 := hy1 hp1
               have hz2 : (2 : Int) < (n0 : Int) := by omega
               have hp2 : 2 < n0 := by omega
               replace hy2 := hy2 hp2
               have hz3 : (3 : Int) < (n0 : Int) := by omega
               have hp3 : 3 < n0 := by omega
               replace hy3 := hy3 hp3
               by_cases q1 : x1.toNat < LO
               · have q1z : (x1.toNat : Int) < (LO : Int) := by omega
                 go_big_quiet_o (fail)
                 go_wp2
                 go_meet
                 exact ⟨congrArg Value.bool (decide_eq_true (p := n0 < 4 ∨ x1.toNat < LO ∨ HI < x1.toNat ∨ x2.toNat < 128 ∨ 191 < x2.toNat ∨ x3.toNat < 128 ∨ 191 < x3.toNat) (by omega)).symm, _, rfl⟩
               · have q1z : ¬ ((x1.toNat : Int) < (LO : Int)) := by omega
                 by_cases q2 : HI < x1.toNat
                 · have q2z : (HI : Int) < (x1.toNat : Int) := by omega
                   go_big_quiet_o (fail)
                   go_wp2
                   go_meet
                   exact ⟨congrArg Value.bool (decide_eq_true (p := n0 < 4 ∨ x1.toNat < LO ∨ HI < x1.toNat ∨ x2.toNat < 128 ∨ 191 < x2.toNat ∨ x3.toNat < 128 ∨ 191 < x3.toNat) (by omega)).symm, _, rfl⟩
                 · have q2z : ¬ ((HI : Int) < (x1.toNat : Int)) := by omega
                   by_cases q3 : x2.toNat < 128
                   · have q3z : (x2.toNat : Int) < 128 := by omega
                     go_big_quiet_o (fail)
                     go_wp2
                     go_meet
                     exact ⟨congrArg Value.bool (decide_eq_true (p := n0 < 4 ∨ x1.toNat < LO ∨ HI < x1.toNat ∨ x2.toNat < 128 ∨ 191 < x2.toNat ∨ x3.toNat < 128 ∨ 191 < x3.toNat) (by omega)).symm, _, rfl⟩
                   · have q3z : ¬ ((x2.toNat : Int) < 128) := by omega
                     by_cases q4 : 191 < x2.toNat
                     · have q4z : (191 : Int) < (x2.toNat : Int) := by omega
                       go_big_quiet_o (fail)
                       go_wp2
                       go_meet
                       exact ⟨congrArg Value.bool (decide_eq_true (p := n0 < 4 ∨ x1.toNat < LO ∨ HI < x1.toNat ∨ x2.toNat < 128 ∨ 191 < x2.toNat ∨ x3.toNat < 128 ∨ 191 < x3.toNat) (by omega)).symm, _, rfl⟩
                     · have q4z : ¬ ((191 : Int) < (x2.toNat : Int)) := by omega
                       by_cases q5 : x3.toNat < 128
                       · have q5z : (x3.toNat : Int) < 128 := by omega
                         go_big_quiet_o (fail)
                         go_wp2
                         go_meet
                         exact ⟨congrArg Value.bool (decide_eq_true (p := n0 < 4 ∨ x1.toNat < LO ∨ HI < x1.toNat ∨ x2.toNat < 128 ∨ 191 < x2.toNat ∨ x3.toNat < 128 ∨ 191 < x3.toNat) (by omega)).symm, _, rfl⟩
                       · have q5z : ¬ ((x3.toNat : Int) < 128) := by omega
                         by_cases q6 : 191 < x3.toNat
                         · have q6z : (191 : Int) < (x3.toNat : Int) := by omega
                           go_big_quiet_o (fail)
                           go_wp2
                           go_meet
                           exact ⟨congrArg Value.bool (decide_eq_true (p := n0 < 4 ∨ x1.toNat < LO ∨ HI < x1.toNat ∨ x2.toNat < 128 ∨ 191 < x2.toNat ∨ x3.toNat < 128 ∨ 191 < x3.toNat) (by omega)).symm, _, rfl⟩
                         · have q6z : ¬ ((191 : Int) < (x3.toNat : Int)) := by omega
                           go_big_quiet_o (fail)
                           go_wp2
                           go_meet
                           exact ⟨congrArg Value.bool (decide_eq_false (p := n0 < 4 ∨ x1.toNat < LO ∨ HI < x1.toNat ∨ x2.toNat < 128 ∨ 191 < x2.toNat ∨ x3.toNat < 128 ∨ 191 < x3.toNat) (by omega)).symm, _, rfl⟩
           case rest =>
             obtain ⟨rfl, q, rfl⟩ := hcut
             replace hbV := below_drewNv hbV q
             replace spV := spV.drewN q
             generalize V.drewN q = V at hbV spV ⊢
             by_cases hb : n0 < 4 ∨ x1.toNat < LO ∨ HI < x1.toNat ∨ x2.toNat < 128 ∨ 191 < x2.toNat ∨ x3.toNat < 128 ∨ 191 < x3.toNat
             · have hbd : decide (n0 < 4 ∨ x1.toNat < LO ∨ HI < x1.toNat ∨ x2.toNat < 128 ∨ 191 < x2.toNat ∨ x3.toNat < 128 ∨ 191 < x3.toNat) = true := decide_eq_true hb
               rw [if_pos hb] at hlead
               go_wp2
               all_goals (go_ret; exact ⟨by first | rfl | rw [hlead], hbV⟩)
             · have hbd : decide (n0 < 4 ∨ x1.toNat < LO ∨ HI < x1.toNat ∨ x2.toNat < 128 ∨ 191 < x2.toNat ∨ x3.toNat < 128 ∨ 191 < x3.toNat) = false := decide_eq_false hb
               rw [if_neg hb] at hlead
               obtain ⟨o9, n9, c9, z9, hsl9, sp9⟩ := spot_cut spV 35 5 Tryz.underlying35 (by kernel_rfl) 4 4 rfl (by omega)
               go_wp2
               go_roundg g'
               case measure => omega
               case rel => exact ⟨hbV, _, _, _, _, rfl, sp9, by rw [Lib.ext_list, hlead], by omega⟩
         · have e2 : ¬ ((X : Int) % 8 = 2) := by omega
           have e3 : ¬ ((X : Int) % 8 = 3) := by omega
           have e4 : ¬ ((X : Int) % 8 = 4) := by omega
           have e2b : (((X : Int) % 8) == 2) = false := by simp; omega
           have e3b : (((X : Int) % 8) == 3) = false := by simp; omega
           have e4b : (((X : Int) % 8) == 4) = false := by simp; omega
           simp only [Lib.checkN, s2, s3, s4, if_false] at hlead
           go_wp2
           all_goals (go_ret; exact ⟨by first | rfl | rw [hlead], hbw.alloc hbw.size _⟩)
   · have h0z : ¬ ((0 : Int) < (n0 : Int)) := by omega
     have ht0 : t0.data.toList = [] := List.eq_nil_of_length_eq_zero (by rw [<- Lib.size_eq]; omega)
     rw [ht0, Lib.validD_nil] at v0
     subst v0
     go_wp2
     go_ret
     exact ⟨rfl, hbw⟩
end Go.Proofs.YtmhbkjjkalnggaaGreatDoor
