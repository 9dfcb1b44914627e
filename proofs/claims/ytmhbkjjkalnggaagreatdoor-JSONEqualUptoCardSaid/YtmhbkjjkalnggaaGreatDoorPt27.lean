import Derived.Test.YtmhbkjjkalnggaaGreatDoorPt26
namespace Go.Proofs.YtmhbkjjkalnggaaGreatDoor
open Go.RowKit
set_option maxRecDepth 1000000
set_option maxHeartbeats 40000000
theorem askKids_snoc (l : List JV) (x : JV) : askKids (l ++ [x]) = (askKids l && askJ x) := by
 induction l with
 | nil => simp [askKids]
 | cons y l ih => simp [askKids, ih, Bool.and_assoc]
theorem askKids_no (l : List JV) (i : Nat) (hi : i < l.length) (h : askJ (l.getD i JV.null) = false) : askKids l = false := by
 induction l generalizing i with
 | nil => simp at hi
 | cons y l ih =>
   cases i with
   | zero =>
     have h' : askJ y = false := by simpa using h
     simp [askKids, h']
   | succ i =>
     have := ih i (by simpa using hi) (by simpa using h)
     simp [askKids, this]
theorem ask4 (F : Nat -> Prop) (g off : Nat) (w : World) (b : Bool) (d : Dec) (t : List UInt8) (l : List JV) (ns : List (List UInt8)) (hih : ∀ i, i < l.length -> ∀ g2 off2 V, Below w.heap.size w V -> JAtP V F g2 off2 (l.getD i JV.null) -> Calls Tryz.prog 32 #[.pointer (some ⟨g2, off2, none⟩)] V (AskPost V (askJ (l.getD i JV.null)))) (h : JAtP w F g off (.mk 4 b d t l ns)) :
   Calls Tryz.prog 32 #[.pointer (some ⟨g, off, none⟩)] w (AskPost w (askKids l && zB b d t 0 ns.length)) := by
 obtain ⟨hg, cs, h1, h2⟩ := h
 have hone0 := jv_one h2
 unfold JIs at h2
 obtain ⟨A, c, A', c', rfl, h3, h4, h5, h6, h7, h8⟩ := h2
 obtain ⟨n, hn⟩ : ∃ n, l.length = n := ⟨_, rfl⟩
 obtain ⟨m, hm⟩ : ∃ m, ns.length = m := ⟨_, rfl⟩
 try rw [hn]
 try rw [hm]
 rw [hn, hm] at h1 hone0
 obtain ⟨ca, hca⟩ : ∃ ca, jvC 4 b d t (.slice A n c) (.slice A' m c') = ca := ⟨_, rfl⟩
 have h8s : ca.size = 8 := by rw [<- hca]; rfl
 have hone : ca.all (·.oneCell') = true := by rw [Array.all_eq_true_iff_forall_mem]; intro u hu; exact hone0 u (by rw [hca]; exact Array.mem_toList_iff.2 hu)
 rw [hca] at h1
 have HIN : Hid ((Tryz.prog.info? 28).map (·.size) = some ca.size) := hid (by rw [h8s]; exact infoJ)
 have HRA : Hid (w.rangeAt g off ca.toList) := hid fun j v hv => h1 j v hv
 have hq0 : w.cell? ⟨g, off, none⟩ = some (.int .i64 4) := h1 0 _ (by rw [<- hca]; rfl)
 have HONE := hid hone
 have HTH : Hid ((w.alloc (.cells zeroJ 28)).there w.heap.size 0 ca.size) := hid (row_there (Row.new _ _ _) (by rw [h8s]; exact Nat.le_refl _))
 obtain ⟨w1, hw1⟩ : ∃ w1, w1 = (w.alloc (.cells zeroJ 28)).setCells w.heap.size 0 ca.toList := ⟨_, rfl⟩
 have hb1 : Below w.heap.size w w1 := by rw [hw1]; exact ((Below.refl _ _).alloc (Nat.le_refl _) _).trans ((kept_setCells _ _ _ _ _ (Kept.refl _ _)).below ((Below.refl w.heap.size w).alloc (Nat.le_refl _) _).size fun k hk => Nat.le_of_eq hk.symm)
 have hrow : Row w1 w.heap.size 28 ca := by
   rw [hw1]
   have h9 := row_laid ca.toList [] zeroJ.toList (w.alloc (.cells zeroJ 28)) (g := w.heap.size) (by simpa using Row.new w 28 zeroJ) (by rw [Array.length_toList, Array.length_toList, h8s]; rfl)
   simpa using h9
 have HW1 := hid hw1
 have HB1 := hid hb1
 have HROW := hid hrow
 have hq0' : w1.cell? ⟨g, off, none⟩ = some (.int .i64 4) := (hb1.cell (p := ⟨g, off, none⟩) hg).trans hq0
 have hs6 : w1.cell? ⟨w.heap.size, 6, none⟩ = some (.slice A n c) := hrow.cell (i := 6) (by rw [<- hca]; rfl)
 have hf6 : w1.frozen? ⟨w.heap.size, 6, none⟩ = false := hrow.free 6
 have HQ6 : Hid (∀ V, Below w.heap.size w V -> V.cell? ⟨g, off + 6, none⟩ = some (.slice A n c)) := hid fun V hb => (hb.cell (p := ⟨g, off + 6, none⟩) hg).trans (h1 6 _ (by rw [<- hca]; rfl))
 have HN : Hid (l.length = n) := hid hn
 have hn9 : n <= 9223372036854775807 := by have h4' := h4; have h3' := h3; unfold maxLen at h4'; omega
 have HIH : Hid (∀ i, i < n -> ∀ V, Below w.heap.size w V -> ∃ g2 off2, A = some ⟨g2, off2, none⟩ /\ Calls Tryz.prog 32 #[.pointer (some ⟨g2, off2 + i * 8, none⟩)] V (AskPost V (askJ (l.getD i JV.null)))) := hid fun i hi V hb => by
   obtain ⟨g2, off2, cs2, e1, e2, e3, e4, e5⟩ := KidsAt.get l 0 h8 i (by rw [hn]; exact hi)
   refine ⟨g2, off2, e1, hih i (by rw [hn]; exact hi) g2 (off2 + i * 8) V hb (JAtP.below ⟨e3, cs2, fun q u hu => ?_, e5⟩ hb)⟩
   have := e4 q u hu
   rwa [Nat.zero_add, <- Nat.add_assoc] at this
 clear hih
 clear hb1 hrow hw1
 have HCA := hid hca
 have HSZ := hid h8s
 have HG := hid hg
 clear h1 h7 h8 hone0 hn hm hca h8s hone h3 h4 h5 h6 hg
 go_enter Tryz.func32, Tryz.ntmps32
 go_upto_region 17 with (first
   | (refine ldJ (.tmp 6) g off ca HRA.out HIN.out ?_)
   | (refine wpList_store_mid ?_ 28 (.tmp 2) (.tmp 7) ?_ w.heap.size 0 ca ?_ ?_ ?_ HIN.out HONE.out ?_
      · with_reducible rfl
      · with_reducible rfl
      · rfl
      · rfl
      · exact HTH.out
      show wpList _ _ _ _ _ ((w.alloc (.cells zeroJ 28)).setCells w.heap.size 0 ca.toList)
      rw [<- HW1.out]))
 generalize hW2 : w1.setCell ⟨w.heap.size, 6, none⟩ (.slice none 0 0) = w2
 have HR2 : Hid (Row w2 w.heap.size 28 (jvC 4 b d t (.slice none 0 0) (.slice A' m c'))) := hid (by
   rw [<- hW2]
   have := HROW.out
   rw [<- HCA.out] at this
   exact this.set_ 6 _)
 have HB2 : Hid (Below w.heap.size w w2) := hid (by rw [<- hW2]; exact HB1.out.setCell (Nat.le_refl _) _)
 clear hW2
 have q6 := HQ6.out w2 HB2.out
 clear hs6 hf6 hq0 hq0'
 go_wp2_with fail
 go_loopw [64] (fun v64 wr => ∃ i : Nat, i <= n /\ v64 = .int .i64 (i : Int) /\ Hid (askKids (l.take i) = true) /\ Hid (Below w.heap.size w wr) /\ Hid (Row wr w.heap.size 28 (jvC 4 b d t (.slice none 0 0) (.slice A' m c')))) (fun v64 _ => n - (intOf v64).toNat)
 case atStart => exact ⟨0, Nat.zero_le _, rfl, hid (by simp [askKids]), HB2, HR2⟩
 case round =>
   obtain ⟨i, hi, rfl, HK, HB, HR⟩ := hrel
   clear q6
   by_cases hlt : i < n
   · obtain ⟨g2, off2, rfl, hcall⟩ := HIH.out i hlt wr HB.out
     have q6 := HQ6.out wr HB.out
     have HCL := hid hcall
     have HT : Hid (l.take (i + 1) = l.take i ++ [l.getD i JV.null]) := hid (by
       rw [List.take_add_one, List.getElem?_eq_getElem (by rw [HN.out]; exact hlt), List.getD_eq_getElem?_getD, List.getElem?_eq_getElem (by rw [HN.out]; exact hlt)]; rfl)
     have HNO : Hid (askJ (l.getD i JV.null) = false -> askKids l = false) := hid (askKids_no l i (by rw [HN.out]; exact hlt))
     clear hcall
     have HSN : Hid (askKids (l.take (i + 1)) = (askKids (l.take i) && askJ (l.getD i JV.null))) := hid (by rw [HT.out, askKids_snoc])
     generalize askJ (l.getD i JV.null) = y at *
     go_wp2_with fail
     refine HCL.out.mono ?_
     rintro e w4 ⟨he, hb4⟩
     have HB4 := hid (HB.out.call hb4)
     have HR4 := hid (HR.out.call hb4)
     clear hb4 q6
     cases y with
     | false =>
       obtain rfl : e = .panicked (panicOf 2) := he
       have HNK : Hid ((askKids l && zB b d t 0 m) = false) := hid (by rw [HNO.out rfl]; rfl)
       exact ⟨rfl, by rw [HNK.out]; rfl, HB4.out⟩
     | true =>
       obtain rfl : e = .returned (.tuple #[]) := he
       go_wp2_with fail
       exact ⟨⟨i + 1, by omega, by go_num, hid (by rw [HSN.out, HK.out]; rfl), HB4, HR4⟩, by simp [intOf]; omega⟩
   · obtain rfl : i = n := by omega
     have HKL : Hid (askKids l = true) := hid (by have := HK.out; rwa [List.take_of_length_le (by rw [HN.out]; exact Nat.le_refl _)] at this)
     have HVV : Hid (∀ z : Bool, (askKids l && z) = z) := hid fun z => by rw [HKL.out]; rfl
     rw [HVV.out]
     have HZ := hid (zero_row (V := wr) (g1 := w.heap.size) (k := 4) (b := b) (d := d) (t := t) (A := none) (n := 0) (c := 0) (A' := A') (m := m) (c' := c') HR.out)
     generalize zB b d t 0 m = z at *
     go_wp2_with fail
     refine HZ.out.mono ?_
     rintro e w9 ⟨rfl, rfl⟩
     cases z with
     | true =>
       go_wp2_with fail
       go_end0
       exact ⟨by first | rfl | (rw [HVV.out]; rfl), HB.out⟩
     | false =>
       go_wp2_with fail
       exact ⟨rfl, by first | rfl | (rw [HVV.out]; rfl), HB.out⟩
end Go.Proofs.YtmhbkjjkalnggaaGreatDoor
