import Derived.Test.YtmhbkjjkalnggaaGreatDoorPt27
namespace Go.Proofs.YtmhbkjjkalnggaaGreatDoor
open Go.RowKit
set_option maxRecDepth 1000000
set_option maxHeartbeats 40000000
theorem ask5 (F : Nat -> Prop) (g off : Nat) (w : World) (b : Bool) (d : Dec) (t : List UInt8) (l : List JV) (ns : List (List UInt8)) (hnl : ns.length <= 1000000000000) (hnx : ∀ x ∈ ns, x.length <= maxLen) (hU : Lib.Utf8Tabs 0 1 w) (hih : ∀ i, i < l.length -> ∀ g2 off2 V, Below w.heap.size w V -> JAtP V F g2 off2 (l.getD i JV.null) -> Calls Tryz.prog 32 #[.pointer (some ⟨g2, off2, none⟩)] V (AskPost V (askJ (l.getD i JV.null)))) (h : JAtP w F g off (.mk 5 b d t l ns)) :
   Calls Tryz.prog 32 #[.pointer (some ⟨g, off, none⟩)] w (AskPost w (ns.length == l.length && fitN ns && askKids l && zB b d t 0 0)) := by
 obtain ⟨hg, cs, h1, h2⟩ := h
 have hone0 := jv_one h2
 unfold JIs at h2
 obtain ⟨A, c, A', c', rfl, h3, h4, h5, h6, h7, h8⟩ := h2
 obtain ⟨n, hn⟩ : ∃ n, l.length = n := ⟨_, rfl⟩
 obtain ⟨m, hm⟩ : ∃ m, ns.length = m := ⟨_, rfl⟩
 try rw [hn]
 try rw [hm]
 rw [hn, hm] at h1 hone0
 obtain ⟨ca, hca⟩ : ∃ ca, jvC 5 b d t (.slice A n c) (.slice A' m c') = ca := ⟨_, rfl⟩
 have h8s : ca.size = 8 := by rw [<- hca]; rfl
 have hone : ca.all (·.oneCell') = true := by rw [Array.all_eq_true_iff_forall_mem]; intro u hu; exact hone0 u (by rw [hca]; exact Array.mem_toList_iff.2 hu)
 rw [hca] at h1
 have HIN : Hid ((Tryz.prog.info? 28).map (·.size) = some ca.size) := hid (by rw [h8s]; exact infoJ)
 have HRA : Hid (w.rangeAt g off ca.toList) := hid fun j v hv => h1 j v hv
 have hq0 : w.cell? ⟨g, off, none⟩ = some (.int .i64 5) := h1 0 _ (by rw [<- hca]; rfl)
 have HONE := hid hone
 have HTH : Hid ((w.alloc (.cells zeroJ 28)).there w.heap.size 0 ca.size) := hid (row_there (Row.new _ _ _) (by rw [h8s]; exact Nat.le_refl _))
 obtain ⟨w1, hw1⟩ : ∃ w1, w1 = (w.alloc (.cells zeroJ 28)).setCells w.heap.size 0 ca.toList := ⟨_, rfl⟩
 have hb1 : Below w.heap.size w w1 := by rw [hw1]; exact ((Below.refl _ _).alloc (Nat.le_refl _) _).trans ((kept_setCells _ _ _ _ _ (Kept.refl _ _)).below ((Below.refl w.heap.size w).alloc (Nat.le_refl _) _).size fun k hk => Nat.le_of_eq hk.symm)
 have hrow : Row w1 w.heap.size 28 ca := by
   rw [hw1]
   have h9 := row_laid ca.toList [] zeroJ.toList (w.alloc (.cells zeroJ 28)) (g := w.heap.size) (by simpa using Row.new w 28 zeroJ) (by rw [Array.length_toList, Array.length_toList, h8s]; rfl)
   simpa using h9
 have HW1 := hid hw1
 have HB1 := hid hb1
 have HROW := hid hrow
 have hq0' : w1.cell? ⟨g, off, none⟩ = some (.int .i64 5) := (hb1.cell (p := ⟨g, off, none⟩) hg).trans hq0
 have hs6 : w1.cell? ⟨w.heap.size, 6, none⟩ = some (.slice A n c) := hrow.cell (i := 6) (by rw [<- hca]; rfl)
 have hf6 : w1.frozen? ⟨w.heap.size, 6, none⟩ = false := hrow.free 6
 have hs7 : w1.cell? ⟨w.heap.size, 7, none⟩ = some (.slice A' m c') := hrow.cell (i := 7) (by rw [<- hca]; rfl)
 have hf7 : w1.frozen? ⟨w.heap.size, 7, none⟩ = false := hrow.free 7
 have HQ6 : Hid (∀ V, Below w.heap.size w V -> V.cell? ⟨g, off + 6, none⟩ = some (.slice A n c)) := hid fun V hb => (hb.cell (p := ⟨g, off + 6, none⟩) hg).trans (h1 6 _ (by rw [<- hca]; rfl))
 have HN : Hid (l.length = n) := hid hn
 have hn9 : n <= 9223372036854775807 := by have h4' := h4; have h3' := h3; unfold maxLen at h4'; omega
 have HQ7 : Hid (∀ V, Below w.heap.size w V -> V.cell? ⟨g, off + 7, none⟩ = some (.slice A' m c')) := hid fun V hb => (hb.cell (p := ⟨g, off + 7, none⟩) hg).trans (h1 7 _ (by rw [<- hca]; rfl))
 have HNF : Hid (∀ V, Below w.heap.size w V -> Calls Tryz.prog 60 #[.slice A' m c'] V fun e w' => e = .returned (.bool (fitN ns)) /\ Below V.heap.size V w') := hid fun V hb => jnamesFit_ok A' m c' ns V ⟨by rw [List.length_map, hm, Nat.mul_one], fun h0 => by
     obtain ⟨g2, off2, e1, _, e3, _⟩ := h7 0 (by rw [hm]; exact h0)
     refine ⟨g2, off2, e1, Nat.lt_of_lt_of_le e3 hb.size, fun j v hv => ?_⟩
     have hj : j < ns.length := by
       rcases Nat.lt_or_ge j ns.length with h' | h'
       · exact h'
       · rw [List.getElem?_eq_none (by simpa using h')] at hv; cases hv
     obtain ⟨g3, off3, f1, _, f3, f4⟩ := h7 j hj
     rw [e1] at f1
     injection f1 with f1
     injection f1 with f1 f2 _
     subst f1; subst f2
     rw [(hb.cell (p := ⟨g2, off2 + j, none⟩) f3).trans f4, <- hv]
     simp [keyV, List.getD, List.getElem?_eq_getElem hj]⟩ hm (by rw [<- hm]; exact hnl) hnx (Utf8Tabs_below hU hb)
 have HM : Hid (ns.length = m) := hid hm
 clear hnl hnx hU
 have HIH : Hid (∀ i, i < n -> ∀ V, Below w.heap.size w V -> ∃ g2 off2, A = some ⟨g2, off2, none⟩ /\ Calls Tryz.prog 32 #[.pointer (some ⟨g2, off2 + i * 8, none⟩)] V (AskPost V (askJ (l.getD i JV.null)))) := hid fun i hi V hb => by
   obtain ⟨g2, off2, cs2, e1, e2, e3, e4, e5⟩ := KidsAt.get l 0 h8 i (by rw [hn]; exact hi)
   refine ⟨g2, off2, e1, hih i (by rw [hn]; exact hi) g2 (off2 + i * 8) V hb (JAtP.below ⟨e3, cs2, fun q u hu => ?_, e5⟩ hb)⟩
   have := e4 q u hu
   rwa [Nat.zero_add, <- Nat.add_assoc] at this
 clear hih
 clear hb1 hrow hw1
 have HCA := hid hca
 have HSZ := hid h8s
 have HG := hid hg
 clear h1 h7 h8 hone0 hn hm hca h8s hone h3 h4 h5 h6 hg
 go_enter Tryz.func32, Tryz.ntmps32
 go_upto_region 15 with (first
   | (refine ldJ (.tmp 6) g off ca HRA.out HIN.out ?_)
   | (refine wpList_store_mid ?_ 28 (.tmp 2) (.tmp 7) ?_ w.heap.size 0 ca ?_ ?_ ?_ HIN.out HONE.out ?_
      · with_reducible rfl
      · with_reducible rfl
      · rfl
      · rfl
      · exact HTH.out
      show wpList _ _ _ _ _ ((w.alloc (.cells zeroJ 28)).setCells w.heap.size 0 ca.toList)
      rw [<- HW1.out]))
 generalize hW2 : w1.setCell ⟨w.heap.size, 7, none⟩ (.slice none 0 0) = w2
 have HR2 : Hid (Row w2 w.heap.size 28 (jvC 5 b d t (.slice A n c) (.slice none 0 0))) := hid (by
   rw [<- hW2]
   have := HROW.out
   rw [<- HCA.out] at this
   exact this.set_ 7 _)
 have HB2 : Hid (Below w.heap.size w w2) := hid (by rw [<- hW2]; exact HB1.out.setCell (Nat.le_refl _) _)
 clear hW2
 clear hs6 hf6 hs7 hf7 hq0 hq0'
 have hb0 : Below w2.heap.size w2 w2 := Below.refl _ _
 have hd6 : ∀ W : World, Below w2.heap.size w2 W -> W.cell? ⟨g, off + 6, none⟩ = some (.slice A n c) := fun W h => HQ6.out W (HB2.out.call h)
 have hd7 : ∀ W : World, Below w2.heap.size w2 W -> W.cell? ⟨g, off + 7, none⟩ = some (.slice A' m c') := fun W h => HQ7.out W (HB2.out.call h)
 have HNG : Hid (∀ V, Below w2.heap.size w2 V -> Calls Tryz.prog 60 #[.slice A' m c'] V fun e w' => e = .returned (.bool (fitN ns)) /\ Below V.heap.size V w') := hid fun V h => HNF.out V (HB2.out.call h)
 by_cases hmn : m = n
 · have e1 : ((m : Int) == (n : Int)) = true := by rw [beq_iff_eq]; omega
   have e2 : ((n : Int) == (m : Int)) = true := by rw [beq_iff_eq]; omega
   have HF2 : Hid ((m == n) = true) := hid (by rw [beq_iff_eq]; exact hmn)
   clear hmn
   obtain ⟨ff, hff⟩ : ∃ ff, fitN ns = ff := ⟨_, rfl⟩
   rw [hff] at HNG
   have HFF := hid hff
   clear hff
   go_region_held3 (fun W => Below w2.heap.size w2 W) (first | exact Below.refl _ _ | exact (Below.refl _ _).drew | assumption | (exact Below.call (by assumption) (by assumption)))
     (first
       | (go_at_call 60; refine (HNG.out _ (by assumption)).mono ?_; rintro e w5 ⟨rfl, hbx⟩))
   go_upto_region 16 with fail
   have HBx := hid (HB2.out.drew.call hbx)
   have HRx := hid (HR2.out.drew.call hbx)
   clear hbx hd6 hd7 hb0 HNG HNF
   have hs6 : w5.cell? ⟨w.heap.size, 6, none⟩ = some (.slice A n c) := HRx.out.cell (i := 6) rfl
   have hf6 : w5.frozen? ⟨w.heap.size, 6, none⟩ = false := HRx.out.free 6
   go_upto_region 17 with fail
   generalize hW6 : w5.setCell ⟨w.heap.size, 6, none⟩ (.slice none 0 0) = w6
   have HR6 : Hid (Row w6 w.heap.size 28 (jvC 5 b d t (.slice none 0 0) (.slice none 0 0))) := hid (by
     rw [<- hW6]
     exact HRx.out.set_ 6 _)
   have HB6 : Hid (Below w.heap.size w w6) := hid (by rw [<- hW6]; exact HBx.out.setCell (Nat.le_refl _) _)
   clear hW6
   have q6 := HQ6.out w6 HB6.out
   clear hs6 hf6
   go_wp2_with fail
   go_loopw [64] (fun v64 wr => ∃ i : Nat, i <= n /\ v64 = .int .i64 (i : Int) /\ Hid (askKids (l.take i) = true) /\ Hid (Below w.heap.size w wr) /\ Hid (Row wr w.heap.size 28 (jvC 5 b d t (.slice none 0 0) (.slice none 0 0)))) (fun v64 _ => n - (intOf v64).toNat)
   case atStart => exact ⟨0, Nat.zero_le _, rfl, hid (by simp [askKids]), HB6, HR6⟩
   case round =>
     obtain ⟨i, hi, rfl, HK, HB, HR⟩ := hrel
     clear q6
     by_cases hlt : i < n
     · obtain ⟨g2, off2, rfl, hcall⟩ := HIH.out i hlt wr HB.out
       have q6 := HQ6.out wr HB.out
       have HCL := hid hcall
       have HT : Hid (l.take (i + 1) = l.take i ++ [l.getD i JV.null]) := hid (by
         rw [List.take_add_one, List.getElem?_eq_getElem (by rw [HN.out]; exact hlt), List.getD_eq_getElem?_getD, List.getElem?_eq_getElem (by rw [HN.out]; exact hlt)]; rfl)
       have HNO : Hid (askJ (l.getD i JV.null) = false -> askKids l = false) := hid (askKids_no l i (by rw [HN.out]; exact hlt))
       clear hcall
       have HSN : Hid (askKids (l.take (i + 1)) = (askKids (l.take i) && askJ (l.getD i JV.null))) := hid (by rw [HT.out, askKids_snoc])
       generalize askJ (l.getD i JV.null) = y at *
       go_wp2_with fail
       refine HCL.out.mono ?_
       rintro e w4 ⟨he, hb4⟩
       have HB4 := hid (HB.out.call hb4)
       have HR4 := hid (HR.out.call hb4)
       clear hb4 q6
       cases y with
       | false =>
         obtain rfl : e = .panicked (panicOf 2) := he
         have HNK : Hid ((m == n && fitN ns && askKids l && zB b d t 0 0) = false) := hid (by rw [HNO.out rfl]; simp)
         exact ⟨rfl, by rw [HNK.out]; rfl, HB4.out⟩
       | true =>
         obtain rfl : e = .returned (.tuple #[]) := he
         go_wp2_with fail
         exact ⟨⟨i + 1, by omega, by go_num, hid (by rw [HSN.out, HK.out]; rfl), HB4, HR4⟩, by simp [intOf]; omega⟩
     · obtain rfl : i = n := by omega
       have HKL : Hid (askKids l = true) := hid (by have := HK.out; rwa [List.take_of_length_le (by rw [HN.out]; exact Nat.le_refl _)] at this)
       cases ff with
       | false =>
         have HNK : Hid ((m == i && fitN ns && askKids l && zB b d t 0 0) = false) := hid (by rw [HFF.out]; simp)
         go_wp2_with fail
         exact ⟨rfl, by rw [HNK.out]; rfl, HB.out⟩
       | true =>
         have HVV : Hid (∀ z : Bool, (m == i && fitN ns && askKids l && z) = z) := hid fun z => by rw [HFF.out, HKL.out, HF2.out]; rfl
         rw [HVV.out]
         have HZ := hid (zero_row (V := wr) (g1 := w.heap.size) (k := 5) (b := b) (d := d) (t := t) (A := none) (n := 0) (c := 0) (A' := none) (m := 0) (c' := 0) HR.out)
         generalize zB b d t 0 0 = z at *
         go_wp2_with fail
         refine HZ.out.mono ?_
         rintro e w9 ⟨rfl, rfl⟩
         cases z with
         | true =>
           go_wp2_with fail
           go_end0
           exact ⟨by first | rfl | (rw [HVV.out]; rfl), HB.out⟩
         | false =>
           go_wp2_with fail
           exact ⟨rfl, by first | rfl | (rw [HVV.out]; rfl), HB.out⟩
 · have e1 : ((m : Int) == (n : Int)) = false := by rw [beq_eq_false_iff_ne]; omega
   have e2 : ((n : Int) == (m : Int)) = false := by rw [beq_eq_false_iff_ne]; omega
   have q6 := hd6 w2 hb0
   have q7 := hd7 w2 hb0
   have HF2 : Hid ((m == n) = false) := hid (by rw [beq_eq_false_iff_ne]; exact hmn)
   clear hd6 hd7
   go_quiet (fail)
   go_upto_region 16 with fail
   have HBx := hid (below_drewNv HB2.out nq)
   have HRx := hid (HR2.out.drewN nq)
   clear q6 q7 hb0 HNG HNF
   generalize w2.drewN nq = w5 at HBx HRx ⊢
   have hs6 : w5.cell? ⟨w.heap.size, 6, none⟩ = some (.slice A n c) := HRx.out.cell (i := 6) rfl
   have hf6 : w5.frozen? ⟨w.heap.size, 6, none⟩ = false := HRx.out.free 6
   go_upto_region 17 with fail
   generalize hW6 : w5.setCell ⟨w.heap.size, 6, none⟩ (.slice none 0 0) = w6
   have HR6 : Hid (Row w6 w.heap.size 28 (jvC 5 b d t (.slice none 0 0) (.slice none 0 0))) := hid (by
     rw [<- hW6]
     exact HRx.out.set_ 6 _)
   have HB6 : Hid (Below w.heap.size w w6) := hid (by rw [<- hW6]; exact HBx.out.setCell (Nat.le_refl _) _)
   clear hW6
   have q6 := HQ6.out w6 HB6.out
   clear hs6 hf6
   go_wp2_with fail
   go_loopw [64] (fun v64 wr => ∃ i : Nat, i <= n /\ v64 = .int .i64 (i : Int) /\ Hid (askKids (l.take i) = true) /\ Hid (Below w.heap.size w wr) /\ Hid (Row wr w.heap.size 28 (jvC 5 b d t (.slice none 0 0) (.slice none 0 0)))) (fun v64 _ => n - (intOf v64).toNat)
   case atStart => exact ⟨0, Nat.zero_le _, rfl, hid (by simp [askKids]), HB6, HR6⟩
   case round =>
     obtain ⟨i, hi, rfl, HK, HB, HR⟩ := hrel
     clear q6
     by_cases hlt : i < n
     · obtain ⟨g2, off2, rfl, hcall⟩ := HIH.out i hlt wr HB.out
       have q6 := HQ6.out wr HB.out
       have HCL := hid hcall
       have HT : Hid (l.take (i + 1) = l.take i ++ [l.getD i JV.null]) := hid (by
         rw [List.take_add_one, List.getElem?_eq_getElem (by rw [HN.out]; exact hlt), List.getD_eq_getElem?_getD, List.getElem?_eq_getElem (by rw [HN.out]; exact hlt)]; rfl)
       have HNO : Hid (askJ (l.getD i JV.null) = false -> askKids l = false) := hid (askKids_no l i (by rw [HN.out]; exact hlt))
       clear hcall
       have HSN : Hid (askKids (l.take (i + 1)) = (askKids (l.take i) && askJ (l.getD i JV.null))) := hid (by rw [HT.out, askKids_snoc])
       generalize askJ (l.getD i JV.null) = y at *
       go_wp2_with fail
       refine HCL.out.mono ?_
       rintro e w4 ⟨he, hb4⟩
       have HB4 := hid (HB.out.call hb4)
       have HR4 := hid (HR.out.call hb4)
       clear hb4 q6
       cases y with
       | false =>
         obtain rfl : e = .panicked (panicOf 2) := he
         have HNK : Hid ((m == n && fitN ns && askKids l && zB b d t 0 0) = false) := hid (by rw [HNO.out rfl]; simp)
         exact ⟨rfl, by rw [HNK.out]; rfl, HB4.out⟩
       | true =>
         obtain rfl : e = .returned (.tuple #[]) := he
         go_wp2_with fail
         exact ⟨⟨i + 1, by omega, by go_num, hid (by rw [HSN.out, HK.out]; rfl), HB4, HR4⟩, by simp [intOf]; omega⟩
     · obtain rfl : i = n := by omega
       have HKL : Hid (askKids l = true) := hid (by have := HK.out; rwa [List.take_of_length_le (by rw [HN.out]; exact Nat.le_refl _)] at this)
       have HNK : Hid ((m == i && fitN ns && askKids l && zB b d t 0 0) = false) := hid (by rw [HF2.out]; simp)
       go_wp2_with fail
       exact ⟨rfl, by rw [HNK.out]; rfl, HB.out⟩
end Go.Proofs.YtmhbkjjkalnggaaGreatDoor
