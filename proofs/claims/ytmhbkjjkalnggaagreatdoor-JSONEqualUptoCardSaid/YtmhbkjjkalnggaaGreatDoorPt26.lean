import Derived.Test.YtmhbkjjkalnggaaGreatDoorPt25
namespace Go.Proofs.YtmhbkjjkalnggaaGreatDoor
open Go.RowKit
set_option maxRecDepth 1000000
set_option maxHeartbeats 40000000
mutual
def askJ : JV -> Bool
 | .mk k b d t l ns =>
   if k = 0 then zB b d t l.length ns.length
   else if k = 1 then zB false d t l.length ns.length
   else if k = 2 then (checkE d == 0) && zB b ⟨false, [], 0⟩ t l.length ns.length
   else if k = 3 then Lib.validD t && zB b d [] l.length ns.length
   else if k = 4 then askKids l && zB b d t 0 ns.length
   else if k = 5 then ns.length == l.length && fitN ns && askKids l && zB b d t 0 0
   else false
def askKids : List JV -> Bool
 | [] => true
 | x :: l => askJ x && askKids l
end
def AskPost (w : World) (r : Bool) (e : Ending) (w' : World) : Prop := e = (if r then .returned (.tuple #[]) else .panicked (panicOf 2)) /\ Below w.heap.size w w'
theorem zero_row {V : World} {g1 : Nat} {k : Int} {b : Bool} {d : Dec} {t : List UInt8} {A A' : Option Addr} {n c m c' : Nat} (h : Row V g1 28 (jvC k b d t (.slice A n c) (.slice A' m c'))) :
   Calls Tryz.prog 61 #[.pointer (some ⟨g1, 0, none⟩)] V fun e w' => e = .returned (.bool (zB b d t n m)) /\ V = w' :=
 jisZero_ok g1 0 b d t A A' n c m c' V (h.cell (i := 1) rfl) (h.cell (i := 2) rfl) (h.cell (i := 3) rfl) (h.cell (i := 4) rfl) (h.cell (i := 5) rfl) (h.cell (i := 6) rfl) (h.cell (i := 7) rfl)
theorem ask0 (F : Nat -> Prop) (g off : Nat) (w : World) (b : Bool) (d : Dec) (t : List UInt8) (l : List JV) (ns : List (List UInt8)) (h : JAtP w F g off (.mk 0 b d t l ns)) :
   Calls Tryz.prog 32 #[.pointer (some ⟨g, off, none⟩)] w (AskPost w (zB b d t l.length ns.length)) := by
 obtain ⟨hg, cs, h1, h2⟩ := h
 have hone0 := jv_one h2
 unfold JIs at h2
 obtain ⟨A, c, A', c', rfl, h3, h4, h5, h6, h7, h8⟩ := h2
 obtain ⟨n, hn⟩ : ∃ n, l.length = n := ⟨_, rfl⟩
 obtain ⟨m, hm⟩ : ∃ m, ns.length = m := ⟨_, rfl⟩
 try rw [hn]
 try rw [hm]
 rw [hn, hm] at h1 hone0
 obtain ⟨ca, hca⟩ : ∃ ca, jvC 0 b d t (.slice A n c) (.slice A' m c') = ca := ⟨_, rfl⟩
 have h8s : ca.size = 8 := by rw [<- hca]; rfl
 have hone : ca.all (·.oneCell') = true := by rw [Array.all_eq_true_iff_forall_mem]; intro u hu; exact hone0 u (by rw [hca]; exact Array.mem_toList_iff.2 hu)
 rw [hca] at h1
 have HIN : Hid ((Tryz.prog.info? 28).map (·.size) = some ca.size) := hid (by rw [h8s]; exact infoJ)
 have HRA : Hid (w.rangeAt g off ca.toList) := hid fun j v hv => h1 j v hv
 have hq0 : w.cell? ⟨g, off, none⟩ = some (.int .i64 0) := h1 0 _ (by rw [<- hca]; rfl)
 have HONE := hid hone
 have HTH : Hid ((w.alloc (.cells zeroJ 28)).there w.heap.size 0 ca.size) := hid (row_there (Row.new _ _ _) (by rw [h8s]; exact Nat.le_refl _))
 obtain ⟨w1, hw1⟩ : ∃ w1, w1 = (w.alloc (.cells zeroJ 28)).setCells w.heap.size 0 ca.toList := ⟨_, rfl⟩
 have hb1 : Below w.heap.size w w1 := by rw [hw1]; exact ((Below.refl _ _).alloc (Nat.le_refl _) _).trans ((kept_setCells _ _ _ _ _ (Kept.refl _ _)).below ((Below.refl w.heap.size w).alloc (Nat.le_refl _) _).size fun k hk => Nat.le_of_eq hk.symm)
 have hrow : Row w1 w.heap.size 28 ca := by
   rw [hw1]
   have h9 := row_laid ca.toList [] zeroJ.toList (w.alloc (.cells zeroJ 28)) (g := w.heap.size) (by simpa using Row.new w 28 zeroJ) (by rw [Array.length_toList, Array.length_toList, h8s]; rfl)
   simpa using h9
 have HW1 := hid hw1
 have HB1 := hid hb1
 have HROW := hid hrow
 have hq0' : w1.cell? ⟨g, off, none⟩ = some (.int .i64 0) := (hb1.cell (p := ⟨g, off, none⟩) hg).trans hq0
 clear hb1 hrow hw1
 have HCA := hid hca
 have HSZ := hid h8s
 have HG := hid hg
 clear h1 h7 h8 hone0 hn hm hca h8s hone h3 h4 h5 h6 hg
 go_enter Tryz.func32, Tryz.ntmps32
 go_wp2_with (first
   | (refine ldJ (.tmp 6) g off ca HRA.out HIN.out ?_)
   | (refine wpList_store_mid ?_ 28 (.tmp 2) (.tmp 7) ?_ w.heap.size 0 ca ?_ ?_ ?_ HIN.out HONE.out ?_
      · with_reducible rfl
      · with_reducible rfl
      · rfl
      · rfl
      · exact HTH.out
      show wpList _ _ _ _ _ ((w.alloc (.cells zeroJ 28)).setCells w.heap.size 0 ca.toList)
      rw [<- HW1.out]))
 have HZ := hid (zero_row (V := w1) (g1 := w.heap.size) (k := 0) (b := b) (d := d) (t := t) (A := A) (n := n) (c := c) (A' := A') (m := m) (c' := c') (by rw [HCA.out]; exact HROW.out))
 generalize zB b d t n m = z at *
 refine HZ.out.mono ?_
 rintro e w9 ⟨rfl, rfl⟩
 cases z with
 | true =>
   go_wp2_with fail
   go_end0
   exact ⟨by first | rfl | (rw [HVV.out]; rfl), HB1.out⟩
 | false =>
   go_wp2_with fail
   exact ⟨rfl, by first | rfl | (rw [HVV.out]; rfl), HB1.out⟩
theorem ask1 (F : Nat -> Prop) (g off : Nat) (w : World) (b : Bool) (d : Dec) (t : List UInt8) (l : List JV) (ns : List (List UInt8)) (h : JAtP w F g off (.mk 1 b d t l ns)) :
   Calls Tryz.prog 32 #[.pointer (some ⟨g, off, none⟩)] w (AskPost w (zB false d t l.length ns.length)) := by
 obtain ⟨hg, cs, h1, h2⟩ := h
 have hone0 := jv_one h2
 unfold JIs at h2
 obtain ⟨A, c, A', c', rfl, h3, h4, h5, h6, h7, h8⟩ := h2
 obtain ⟨n, hn⟩ : ∃ n, l.length = n := ⟨_, rfl⟩
 obtain ⟨m, hm⟩ : ∃ m, ns.length = m := ⟨_, rfl⟩
 try rw [hn]
 try rw [hm]
 rw [hn, hm] at h1 hone0
 obtain ⟨ca, hca⟩ : ∃ ca, jvC 1 b d t (.slice A n c) (.slice A' m c') = ca := ⟨_, rfl⟩
 have h8s : ca.size = 8 := by rw [<- hca]; rfl
 have hone : ca.all (·.oneCell') = true := by rw [Array.all_eq_true_iff_forall_mem]; intro u hu; exact hone0 u (by rw [hca]; exact Array.mem_toList_iff.2 hu)
 rw [hca] at h1
 have HIN : Hid ((Tryz.prog.info? 28).map (·.size) = some ca.size) := hid (by rw [h8s]; exact infoJ)
 have HRA : Hid (w.rangeAt g off ca.toList) := hid fun j v hv => h1 j v hv
 have hq0 : w.cell? ⟨g, off, none⟩ = some (.int .i64 1) := h1 0 _ (by rw [<- hca]; rfl)
 have HONE := hid hone
 have HTH : Hid ((w.alloc (.cells zeroJ 28)).there w.heap.size 0 ca.size) := hid (row_there (Row.new _ _ _) (by rw [h8s]; exact Nat.le_refl _))
 obtain ⟨w1, hw1⟩ : ∃ w1, w1 = (w.alloc (.cells zeroJ 28)).setCells w.heap.size 0 ca.toList := ⟨_, rfl⟩
 have hb1 : Below w.heap.size w w1 := by rw [hw1]; exact ((Below.refl _ _).alloc (Nat.le_refl _) _).trans ((kept_setCells _ _ _ _ _ (Kept.refl _ _)).below ((Below.refl w.heap.size w).alloc (Nat.le_refl _) _).size fun k hk => Nat.le_of_eq hk.symm)
 have hrow : Row w1 w.heap.size 28 ca := by
   rw [hw1]
   have h9 := row_laid ca.toList [] zeroJ.toList (w.alloc (.cells zeroJ 28)) (g := w.heap.size) (by simpa using Row.new w 28 zeroJ) (by rw [Array.length_toList, Array.length_toList, h8s]; rfl)
   simpa using h9
 have HW1 := hid hw1
 have HB1 := hid hb1
 have HROW := hid hrow
 have hq0' : w1.cell? ⟨g, off, none⟩ = some (.int .i64 1) := (hb1.cell (p := ⟨g, off, none⟩) hg).trans hq0
 have hs1 : w1.cell? ⟨w.heap.size, 1, none⟩ = some (.bool b) := hrow.cell (i := 1) (by rw [<- hca]; rfl)
 have hf1 : w1.frozen? ⟨w.heap.size, 1, none⟩ = false := hrow.free 1
 clear hb1 hrow hw1
 have HCA := hid hca
 have HSZ := hid h8s
 have HG := hid hg
 clear h1 h7 h8 hone0 hn hm hca h8s hone h3 h4 h5 h6 hg
 go_enter Tryz.func32, Tryz.ntmps32
 go_upto_region 23 with (first
   | (refine ldJ (.tmp 6) g off ca HRA.out HIN.out ?_)
   | (refine wpList_store_mid ?_ 28 (.tmp 2) (.tmp 7) ?_ w.heap.size 0 ca ?_ ?_ ?_ HIN.out HONE.out ?_
      · with_reducible rfl
      · with_reducible rfl
      · rfl
      · rfl
      · exact HTH.out
      show wpList _ _ _ _ _ ((w.alloc (.cells zeroJ 28)).setCells w.heap.size 0 ca.toList)
      rw [<- HW1.out]))
 generalize hW2 : w1.setCell ⟨w.heap.size, 1, none⟩ (.bool false) = w2
 have HR2 : Hid (Row w2 w.heap.size 28 (jvC 1 false d t (.slice A n c) (.slice A' m c'))) := hid (by
   rw [<- hW2]
   have := HROW.out
   rw [<- HCA.out] at this
   exact this.set_ 1 _)
 have HB2 : Hid (Below w.heap.size w w2) := hid (by rw [<- hW2]; exact HB1.out.setCell (Nat.le_refl _) _)
 clear hW2
 have HZ := hid (zero_row (V := w2) (g1 := w.heap.size) (k := 1) (b := false) (d := d) (t := t) (A := A) (n := n) (c := c) (A' := A') (m := m) (c' := c') HR2.out)
 generalize zB false d t n m = z at *
 go_wp2_with fail
 refine HZ.out.mono ?_
 rintro e w9 ⟨rfl, rfl⟩
 cases z with
 | true =>
   go_wp2_with fail
   go_end0
   exact ⟨by first | rfl | (rw [HVV.out]; rfl), HB2.out⟩
 | false =>
   go_wp2_with fail
   exact ⟨rfl, by first | rfl | (rw [HVV.out]; rfl), HB2.out⟩
theorem ask3 (F : Nat -> Prop) (g off : Nat) (w : World) (b : Bool) (d : Dec) (t : List UInt8) (l : List JV) (ns : List (List UInt8)) (htl : t.length <= maxLen) (hU : Lib.Utf8Tabs 0 1 w) (h : JAtP w F g off (.mk 3 b d t l ns)) :
   Calls Tryz.prog 32 #[.pointer (some ⟨g, off, none⟩)] w (AskPost w (Lib.validD t && zB b d [] l.length ns.length)) := by
 obtain ⟨hg, cs, h1, h2⟩ := h
 have hone0 := jv_one h2
 unfold JIs at h2
 obtain ⟨A, c, A', c', rfl, h3, h4, h5, h6, h7, h8⟩ := h2
 obtain ⟨n, hn⟩ : ∃ n, l.length = n := ⟨_, rfl⟩
 obtain ⟨m, hm⟩ : ∃ m, ns.length = m := ⟨_, rfl⟩
 try rw [hn]
 try rw [hm]
 rw [hn, hm] at h1 hone0
 obtain ⟨ca, hca⟩ : ∃ ca, jvC 3 b d t (.slice A n c) (.slice A' m c') = ca := ⟨_, rfl⟩
 have h8s : ca.size = 8 := by rw [<- hca]; rfl
 have hone : ca.all (·.oneCell') = true := by rw [Array.all_eq_true_iff_forall_mem]; intro u hu; exact hone0 u (by rw [hca]; exact Array.mem_toList_iff.2 hu)
 rw [hca] at h1
 have HIN : Hid ((Tryz.prog.info? 28).map (·.size) = some ca.size) := hid (by rw [h8s]; exact infoJ)
 have HRA : Hid (w.rangeAt g off ca.toList) := hid fun j v hv => h1 j v hv
 have hq0 : w.cell? ⟨g, off, none⟩ = some (.int .i64 3) := h1 0 _ (by rw [<- hca]; rfl)
 have HONE := hid hone
 have HTH : Hid ((w.alloc (.cells zeroJ 28)).there w.heap.size 0 ca.size) := hid (row_there (Row.new _ _ _) (by rw [h8s]; exact Nat.le_refl _))
 obtain ⟨w1, hw1⟩ : ∃ w1, w1 = (w.alloc (.cells zeroJ 28)).setCells w.heap.size 0 ca.toList := ⟨_, rfl⟩
 have hb1 : Below w.heap.size w w1 := by rw [hw1]; exact ((Below.refl _ _).alloc (Nat.le_refl _) _).trans ((kept_setCells _ _ _ _ _ (Kept.refl _ _)).below ((Below.refl w.heap.size w).alloc (Nat.le_refl _) _).size fun k hk => Nat.le_of_eq hk.symm)
 have hrow : Row w1 w.heap.size 28 ca := by
   rw [hw1]
   have h9 := row_laid ca.toList [] zeroJ.toList (w.alloc (.cells zeroJ 28)) (g := w.heap.size) (by simpa using Row.new w 28 zeroJ) (by rw [Array.length_toList, Array.length_toList, h8s]; rfl)
   simpa using h9
 have HW1 := hid hw1
 have HB1 := hid hb1
 have HROW := hid hrow
 have hq0' : w1.cell? ⟨g, off, none⟩ = some (.int .i64 3) := (hb1.cell (p := ⟨g, off, none⟩) hg).trans hq0
 have hs5 : w1.cell? ⟨w.heap.size, 5, none⟩ = some (.string (bs t)) := hrow.cell (i := 5) (by rw [<- hca]; rfl)
 have hf5 : w1.frozen? ⟨w.heap.size, 5, none⟩ = false := hrow.free 5
 have hq5 : Hid (∀ V, Below w.heap.size w V -> V.cell? ⟨g, off + 5, none⟩ = some (.string (bs t))) := hid fun V hb => (hb.cell (p := ⟨g, off + 5, none⟩) hg).trans (h1 5 _ (by rw [<- hca]; rfl))
 have HTL := hid htl
 have HU := hid hU
 clear htl hU
 clear hb1 hrow hw1
 have HCA := hid hca
 have HSZ := hid h8s
 have HG := hid hg
 clear h1 h7 h8 hone0 hn hm hca h8s hone h3 h4 h5 h6 hg
 go_enter Tryz.func32, Tryz.ntmps32
 go_upto_region 13 with (first
   | (refine ldJ (.tmp 6) g off ca HRA.out HIN.out ?_)
   | (refine wpList_store_mid ?_ 28 (.tmp 2) (.tmp 7) ?_ w.heap.size 0 ca ?_ ?_ ?_ HIN.out HONE.out ?_
      · with_reducible rfl
      · with_reducible rfl
      · rfl
      · rfl
      · exact HTH.out
      show wpList _ _ _ _ _ ((w.alloc (.cells zeroJ 28)).setCells w.heap.size 0 ca.toList)
      rw [<- HW1.out]))
 generalize hW2 : w1.setCell ⟨w.heap.size, 5, none⟩ (.string ⟨#[]⟩) = w2
 have HR2 : Hid (Row w2 w.heap.size 28 (jvC 3 b d [] (.slice A n c) (.slice A' m c'))) := hid (by
   rw [<- hW2]
   have := HROW.out
   rw [<- HCA.out] at this
   exact this.set_ 5 _)
 have HB2 : Hid (Below w.heap.size w w2) := hid (by rw [<- hW2]; exact HB1.out.setCell (Nat.le_refl _) _)
 clear hW2
 have q5 := hq5.out w2 HB2.out
 have HV : Hid (Calls Tryz.prog 59 #[.string (bs t)] w2 fun e w' => e = .returned (.bool (Lib.validD t)) /\ Below w2.heap.size w2 w') := hid (by
   have := Tryz.utf8_ValidString (bs t) w2 (by rw [bs_size]; have := HTL.out; unfold maxLen at this; omega) (Utf8Tabs_below HU.out HB2.out)
   have e : (bs t).data.toList = t := by simp [bs]
   rw [e] at this
   exact this)
 go_wp2_with fail
 refine HV.out.mono ?_
 rintro e w3 ⟨rfl, hb3⟩
 have HB3 := hid (HB2.out.call hb3)
 have HR3 := hid (HR2.out.call hb3)
 clear hb3 q5
 cases hv : Lib.validD t with
 | false =>
   go_wp2_with fail
   exact ⟨rfl, rfl, HB3.out⟩
 | true =>
   have HVV := hid hv
   clear hv
   have HZ := hid (zero_row (V := w3) (g1 := w.heap.size) (k := 3) (b := b) (d := d) (t := []) (A := A) (n := n) (c := c) (A' := A') (m := m) (c' := c') HR3.out)
   generalize zB b d [] n m = z at *
   go_wp2_with fail
   refine HZ.out.mono ?_
   rintro e w9 ⟨rfl, rfl⟩
   cases z with
   | true =>
     go_wp2_with fail
     go_end0
     exact ⟨by first | rfl | (rw [HVV.out]; rfl), HB3.out⟩
   | false =>
     go_wp2_with fail
     exact ⟨rfl, by first | rfl | (rw [HVV.out]; rfl), HB3.out⟩
theorem ask2 (F : Nat -> Prop) (g off : Nat) (w : World) (b : Bool) (d : Dec) (t : List UInt8) (l : List JV) (ns : List (List UInt8)) (hdl : d.digits.length <= 9223372036854775806) (h : JAtP w F g off (.mk 2 b d t l ns)) :
   Calls Tryz.prog 32 #[.pointer (some ⟨g, off, none⟩)] w (AskPost w ((checkE d == 0) && zB b ⟨false, [], 0⟩ t l.length ns.length)) := by
 obtain ⟨hg, cs, h1, h2⟩ := h
 have hone0 := jv_one h2
 unfold JIs at h2
 obtain ⟨A, c, A', c', rfl, h3, h4, h5, h6, h7, h8⟩ := h2
 obtain ⟨n, hn⟩ : ∃ n, l.length = n := ⟨_, rfl⟩
 obtain ⟨m, hm⟩ : ∃ m, ns.length = m := ⟨_, rfl⟩
 try rw [hn]
 try rw [hm]
 rw [hn, hm] at h1 hone0
 obtain ⟨ca, hca⟩ : ∃ ca, jvC 2 b d t (.slice A n c) (.slice A' m c') = ca := ⟨_, rfl⟩
 have h8s : ca.size = 8 := by rw [<- hca]; rfl
 have hone : ca.all (·.oneCell') = true := by rw [Array.all_eq_true_iff_forall_mem]; intro u hu; exact hone0 u (by rw [hca]; exact Array.mem_toList_iff.2 hu)
 rw [hca] at h1
 have HIN : Hid ((Tryz.prog.info? 28).map (·.size) = some ca.size) := hid (by rw [h8s]; exact infoJ)
 have HRA : Hid (w.rangeAt g off ca.toList) := hid fun j v hv => h1 j v hv
 have hq0 : w.cell? ⟨g, off, none⟩ = some (.int .i64 2) := h1 0 _ (by rw [<- hca]; rfl)
 have HONE := hid hone
 have HTH : Hid ((w.alloc (.cells zeroJ 28)).there w.heap.size 0 ca.size) := hid (row_there (Row.new _ _ _) (by rw [h8s]; exact Nat.le_refl _))
 obtain ⟨w1, hw1⟩ : ∃ w1, w1 = (w.alloc (.cells zeroJ 28)).setCells w.heap.size 0 ca.toList := ⟨_, rfl⟩
 have hb1 : Below w.heap.size w w1 := by rw [hw1]; exact ((Below.refl _ _).alloc (Nat.le_refl _) _).trans ((kept_setCells _ _ _ _ _ (Kept.refl _ _)).below ((Below.refl w.heap.size w).alloc (Nat.le_refl _) _).size fun k hk => Nat.le_of_eq hk.symm)
 have hrow : Row w1 w.heap.size 28 ca := by
   rw [hw1]
   have h9 := row_laid ca.toList [] zeroJ.toList (w.alloc (.cells zeroJ 28)) (g := w.heap.size) (by simpa using Row.new w 28 zeroJ) (by rw [Array.length_toList, Array.length_toList, h8s]; rfl)
   simpa using h9
 have HW1 := hid hw1
 have HB1 := hid hb1
 have HROW := hid hrow
 have hq0' : w1.cell? ⟨g, off, none⟩ = some (.int .i64 2) := (hb1.cell (p := ⟨g, off, none⟩) hg).trans hq0
 have HQ : Hid (∀ V, Below w.heap.size w V -> V.rangeAt g (off + 2) [.bool d.neg, .string (bs d.digits), .int .i64 d.exp]) := hid fun V hb j v hv => (hb.cell (p := ⟨g, off + 2 + j, none⟩) hg).trans (by
   rw [Nat.add_assoc]
   refine h1 (2 + j) _ ?_
   rw [<- hca]
   match j, hv with
   | 0, hv => exact hv
   | 1, hv => exact hv
   | 2, hv => exact hv)
 have HTH2 : Hid (w1.there w.heap.size 2 3) := hid fun j hj => ⟨by rw [hrow.cell (i := 2 + j) (v := ca[2 + j]'(by have h' : j < 3 := hj; rw [h8s]; omega)) (Array.getElem?_eq_getElem _)]; rfl, hrow.free _⟩
 have HI26 : Hid ((Tryz.prog.info? 24).map (·.size) = some (#[Value.bool false, Value.string ⟨#[]⟩, Value.int .i64 0] : Array Value).size) := hid (by kernel_rfl)
 have HO26 : Hid ((#[Value.bool false, Value.string ⟨#[]⟩, Value.int .i64 0] : Array Value).all (·.oneCell') = true) := hid (by kernel_rfl)
 have HDL := hid hdl
 clear hdl
 clear hb1 hrow hw1
 have HCA := hid hca
 have HSZ := hid h8s
 have HG := hid hg
 clear h1 h7 h8 hone0 hn hm hca h8s hone h3 h4 h5 h6 hg
 go_enter Tryz.func32, Tryz.ntmps32
 go_upto_region 11 with (first
   | (refine ldJ (.tmp 6) g off ca HRA.out HIN.out ?_)
   | (refine wpList_store_mid ?_ 28 (.tmp 2) (.tmp 7) ?_ w.heap.size 0 ca ?_ ?_ ?_ HIN.out HONE.out ?_
      · with_reducible rfl
      · with_reducible rfl
      · rfl
      · rfl
      · exact HTH.out
      show wpList _ _ _ _ _ ((w.alloc (.cells zeroJ 28)).setCells w.heap.size 0 ca.toList)
      rw [<- HW1.out])
   | (refine wpList_store_mid ?_ 24 (.tmp 26) (.tmp 25) ?_ w.heap.size 2 #[.bool false, .string ⟨#[]⟩, .int .i64 0] ?_ ?_ HTH2.out HI26.out HO26.out ?_
      · with_reducible rfl
      · with_reducible rfl
      · rfl
      · rfl))
 generalize hW2 : w1.setCells w.heap.size 2 (#[Value.bool false, Value.string ⟨#[]⟩, Value.int .i64 0] : Array Value).toList = w2
 have HR2 : Hid (Row w2 w.heap.size 28 (jvC 2 b ⟨false, [], 0⟩ t (.slice A n c) (.slice A' m c'))) := hid (by
   rw [<- hW2]
   have := HROW.out
   rw [<- HCA.out] at this
   exact ((this.set_ 2 _).set_ 3 _).set_ 4 _)
 have HB2 : Hid (Below w.heap.size w w2) := hid (by rw [<- hW2]; exact HB1.out.trans ((kept_setCells _ _ _ _ _ (Kept.refl _ _)).below HB1.out.size fun k hk => Nat.le_of_eq hk.symm))
 clear hW2
 have HC : Hid (Calls Tryz.prog 58 #[decV d] w2 fun e w' => e = .returned (.int .i64 (checkE d : Nat)) /\ Below w2.heap.size w2 w') := hid (check_ok d w2 HDL.out)
 have HR26 := hid (HQ.out w2 HB2.out)
 go_wp2_with (first
   | (refine wpList_load_mid ?_ 24 (.tmp 29) ?_ g (off + 2) ?_ [.bool d.neg, .string (bs d.digits), .int .i64 d.exp] _ HR26.out Tryz.underlying24 rfl rfl ?_
      · with_reducible rfl
      · with_reducible rfl
      · rfl))
 refine HC.out.mono ?_
 rintro e w3 ⟨rfl, hb3⟩
 have HB3 := hid (HB2.out.call hb3)
 have HR3 := hid (HR2.out.call hb3)
 clear hb3
 cases hv : (checkE d == 0) with
 | false =>
   have hv2 : ((checkE d : Int) == 0) = false := by rw [beq_eq_false_iff_ne] at hv ⊢; omega
   go_wp2_with fail
   exact ⟨rfl, rfl, HB3.out⟩
 | true =>
   have hv2 : ((checkE d : Int) == 0) = true := by rw [beq_iff_eq] at hv ⊢; omega
   have HVV := hid hv
   clear hv
   have HZ := hid (zero_row (V := w3) (g1 := w.heap.size) (k := 2) (b := b) (d := ⟨false, [], 0⟩) (t := t) (A := A) (n := n) (c := c) (A' := A') (m := m) (c' := c') HR3.out)
   generalize zB b ⟨false, [], 0⟩ t n m = z at *
   go_wp2_with fail
   refine HZ.out.mono ?_
   rintro e w9 ⟨rfl, rfl⟩
   cases z with
   | true =>
     go_wp2_with fail
     go_end0
     exact ⟨by first | rfl | (rw [HVV.out]; rfl), HB3.out⟩
   | false =>
     go_wp2_with fail
     exact ⟨rfl, by first | rfl | (rw [HVV.out]; rfl), HB3.out⟩
theorem askD (F : Nat -> Prop) (g off : Nat) (w : World) (b : Bool) (d : Dec) (t : List UInt8) (l : List JV) (ns : List (List UInt8)) (k : Int) (hk0 : ¬ k = 0) (hk1 : ¬ k = 1) (hk2 : ¬ k = 2) (hk3 : ¬ k = 3) (hk4 : ¬ k = 4) (hk5 : ¬ k = 5) (h : JAtP w F g off (.mk k b d t l ns)) :
   Calls Tryz.prog 32 #[.pointer (some ⟨g, off, none⟩)] w (AskPost w (false)) := by
 obtain ⟨hg, cs, h1, h2⟩ := h
 have hone0 := jv_one h2
 unfold JIs at h2
 obtain ⟨A, c, A', c', rfl, h3, h4, h5, h6, h7, h8⟩ := h2
 obtain ⟨n, hn⟩ : ∃ n, l.length = n := ⟨_, rfl⟩
 obtain ⟨m, hm⟩ : ∃ m, ns.length = m := ⟨_, rfl⟩
 try rw [hn]
 try rw [hm]
 rw [hn, hm] at h1 hone0
 obtain ⟨ca, hca⟩ : ∃ ca, jvC k b d t (.slice A n c) (.slice A' m c') = ca := ⟨_, rfl⟩
 have h8s : ca.size = 8 := by rw [<- hca]; rfl
 have hone : ca.all (·.oneCell') = true := by rw [Array.all_eq_true_iff_forall_mem]; intro u hu; exact hone0 u (by rw [hca]; exact Array.mem_toList_iff.2 hu)
 rw [hca] at h1
 have HIN : Hid ((Tryz.prog.info? 28).map (·.size) = some ca.size) := hid (by rw [h8s]; exact infoJ)
 have HRA : Hid (w.rangeAt g off ca.toList) := hid fun j v hv => h1 j v hv
 have hq0 : w.cell? ⟨g, off, none⟩ = some (.int .i64 k) := h1 0 _ (by rw [<- hca]; rfl)
 have HONE := hid hone
 have HTH : Hid ((w.alloc (.cells zeroJ 28)).there w.heap.size 0 ca.size) := hid (row_there (Row.new _ _ _) (by rw [h8s]; exact Nat.le_refl _))
 obtain ⟨w1, hw1⟩ : ∃ w1, w1 = (w.alloc (.cells zeroJ 28)).setCells w.heap.size 0 ca.toList := ⟨_, rfl⟩
 have hb1 : Below w.heap.size w w1 := by rw [hw1]; exact ((Below.refl _ _).alloc (Nat.le_refl _) _).trans ((kept_setCells _ _ _ _ _ (Kept.refl _ _)).below ((Below.refl w.heap.size w).alloc (Nat.le_refl _) _).size fun k hk => Nat.le_of_eq hk.symm)
 have hrow : Row w1 w.heap.size 28 ca := by
   rw [hw1]
   have h9 := row_laid ca.toList [] zeroJ.toList (w.alloc (.cells zeroJ 28)) (g := w.heap.size) (by simpa using Row.new w 28 zeroJ) (by rw [Array.length_toList, Array.length_toList, h8s]; rfl)
   simpa using h9
 have HW1 := hid hw1
 have HB1 := hid hb1
 have HROW := hid hrow
 have hq0' : w1.cell? ⟨g, off, none⟩ = some (.int .i64 k) := (hb1.cell (p := ⟨g, off, none⟩) hg).trans hq0
 have e0 : (k == 0) = false := by rw [beq_eq_false_iff_ne]; exact hk0
 have e1 : (k == 1) = false := by rw [beq_eq_false_iff_ne]; exact hk1
 have e2 : (k == 2) = false := by rw [beq_eq_false_iff_ne]; exact hk2
 have e3 : (k == 3) = false := by rw [beq_eq_false_iff_ne]; exact hk3
 have e4 : (k == 4) = false := by rw [beq_eq_false_iff_ne]; exact hk4
 have e5 : (k == 5) = false := by rw [beq_eq_false_iff_ne]; exact hk5
 clear hk0 hk1 hk2 hk3 hk4 hk5
 clear hb1 hrow hw1
 have HCA := hid hca
 have HSZ := hid h8s
 have HG := hid hg
 clear h1 h7 h8 hone0 hn hm hca h8s hone h3 h4 h5 h6 hg
 go_enter Tryz.func32, Tryz.ntmps32
 go_wp2_with (first
   | (refine ldJ (.tmp 6) g off ca HRA.out HIN.out ?_)
   | (refine wpList_store_mid ?_ 28 (.tmp 2) (.tmp 7) ?_ w.heap.size 0 ca ?_ ?_ ?_ HIN.out HONE.out ?_
      · with_reducible rfl
      · with_reducible rfl
      · rfl
      · rfl
      · exact HTH.out
      show wpList _ _ _ _ _ ((w.alloc (.cells zeroJ 28)).setCells w.heap.size 0 ca.toList)
      rw [<- HW1.out]))
 exact ⟨rfl, rfl, HB1.out⟩
end Go.Proofs.YtmhbkjjkalnggaaGreatDoor
