import Derived.Test.YtmhbkjjkalnggaaGreatDoorPt10
namespace Go.Proofs.YtmhbkjjkalnggaaGreatDoor
open Go.RowKit
set_option maxRecDepth 100000
set_option maxHeartbeats 4000000
theorem depthKids_take (l : List JV) : ∀ i, i < l.length -> depthKids (l.take (i + 1)) = max (depthKids (l.take i)) (depthJ (l.getD i JV.null)) := by
 induction l with
 | nil => intro i hi; simp at hi
 | cons x l ih =>
   intro i hi
   cases i with
   | zero =>
     simp only [List.take_succ_cons, List.take_zero, List.getD_cons_zero]
     have e0 : depthKids [] = 0 := by rw [depthKids]
     rw [e0, depthKids, e0]
     omega
   | succ i =>
     rw [List.take_succ_cons, List.take_succ_cons, depthKids, depthKids, ih i (by simpa using hi)]
     simp only [List.getD_cons_succ]
     omega
theorem depthKids_le (l : List JV) (i : Nat) : depthKids (l.take i) <= depthKids l := by
 induction l generalizing i with
 | nil => simp
 | cons x l ih =>
   cases i with
   | zero => rw [List.take_zero, depthKids]; exact Nat.zero_le _
   | succ i =>
     rw [List.take_succ_cons, depthKids, depthKids]
     have := ih i
     omega
theorem jdepth_ok : ∀ (n : Nat) (v : JV), SizeOf.sizeOf v <= n -> depthJ v <= 1000000 -> ∀ (F : Nat -> Prop) (g off : Nat) (w : World), JAtP w F g off v ->
   Calls Tryz.prog 33 #[.pointer (some ⟨g, off, none⟩)] w fun e w' => e = .returned (.int .i64 (depthJ v : Nat)) /\ Below w.heap.size w w' := by
 intro n
 induction n with
 | zero => intro v hv; cases v; simp at hv
 | succ n ih =>
   intro v hv hd F g off w h
   obtain ⟨k, b, d, t, l, ns⟩ := v
   have hsz : ∀ x ∈ l, SizeOf.sizeOf x <= n := fun x hx => by
     have := List.sizeOf_lt_of_mem hx
     simp only [JV.mk.sizeOf_spec] at hv
     omega
   obtain ⟨A, c, A', c', q0, _, _, _, _, _, q6, _, h1, h2, _, _, _, h8⟩ := h.open_
   by_cases hk : k = 4 ∨ k = 5
   · have hde : depthJ (.mk k b d t l ns) = depthKids l + 1 := by rw [depthJ, if_pos hk]
     rw [hde] at hd ⊢
     have IH : Hid (∀ i, i < l.length -> ∀ V, Below w.heap.size w V -> ∃ g2 off2, A = some ⟨g2, off2, none⟩ /\ Calls Tryz.prog 33 #[.pointer (some ⟨g2, off2 + i * 8, none⟩)] V fun e w' => e = .returned (.int .i64 (depthJ (l.getD i JV.null) : Nat)) /\ Below V.heap.size V w') := hid fun i hi V hb => by
       obtain ⟨g2, off2, hA, hj⟩ := h8 i hi
       have hm : l.getD i JV.null ∈ l := by rw [List.getD_eq_getElem?_getD, List.getElem?_eq_getElem hi]; exact List.getElem_mem _
       exact ⟨g2, off2, hA, ih _ (hsz _ hm) (by have := depthKids_mem _ hm; omega) F g2 (off2 + i * 8) V (hj.below hb)⟩
     have HT := hid (depthKids_take l)
     have HLE := hid (depthKids_le l)
     have hgl := h.1
     have HC := hid (fun (V : World) (hb : Below w.heap.size w V) => (hb.cell (p := ⟨g, off + 6, none⟩) hgl).trans q6)
     clear hsz h8 h hv hde ih
     generalize hm : l.length = m at *
     have HM := hid hm
     clear hm
     unfold maxLen at h2
     have fork : ∀ (_ : (k == 4) = true ∨ ((k == 4) = false /\ (k == 5) = true)), Calls Tryz.prog 33 #[.pointer (some ⟨g, off, none⟩)] w fun e w' => e = .returned (.int .i64 ((depthKids l + 1 : Nat) : Int)) /\ Below w.heap.size w w' := by
       intro hkk
       go_enter Tryz.func33, Tryz.ntmps33
       rcases hkk with e4 | ⟨e4, e5⟩
       · go_wp2_with fail
         go_loopw [3, 4, 17] (fun v3 v4 v17 wr => ∃ (i y : Nat), i <= m /\ v17 = .int .i64 (i : Int) /\ v3 = .int .i64 (y : Int) /\ y <= 1000000 /\ Hid (y = depthKids (l.take i)) /\ Hid (Below w.heap.size w wr)) (fun _ _ v17 _ => m - (intOf v17).toNat)
         case atStart => exact ⟨0, 0, Nat.zero_le _, rfl, rfl, by omega, hid (by rw [List.take_zero, depthKids]), hid (Below.refl _ _)⟩
         case round =>
           obtain ⟨i, y, hi, rfl, rfl, hy, HY, HB⟩ := hrel
           by_cases hlt : i < m
           · have q9 := HC.out wr HB.out
             obtain ⟨g2, off2, rfl, hcall⟩ := IH.out i hlt wr HB.out
             have HK := hid hcall
             have HT2 := hid (HT.out i hlt)
             have HL2 := HLE.out (i + 1)
             have HT3 : Hid (depthKids (l.take (i + 1)) = max y (depthJ (l.getD i JV.null))) := hid (by rw [HT2.out, <- HY.out])
             rw [HT3.out] at HL2
             clear HT2
             clear hcall
             generalize depthJ (l.getD i JV.null) = z at *
             have hz : max y z <= 1000000 := by omega
             go_wp2_with fail
             refine HK.out.mono ?_
             rintro e w2 ⟨rfl, hb⟩
             have HB2 := hid (HB.out.call hb)
             clear hb
             go_wp2_with fail
             have hmx : max (y : Int) (z : Int) = ((max y z : Nat) : Int) := by omega
             exact ⟨⟨i + 1, max y z, by omega, by go_num, by first | rfl | (rw [<- hmx]) | (simp only [Value.int.injEq, true_and]; omega), hz, hid HT3.out.symm, HB2⟩, by simp [intOf]; omega⟩
           · obtain rfl : i = m := by omega
             have HYF : Hid (y = depthKids l) := hid (by rw [HY.out, List.take_of_length_le (by rw [HM.out]; exact Nat.le_refl _)])
             go_wp2_with fail
             go_ret
             exact ⟨by rw [<- HYF.out]; rfl, HB.out⟩
       · go_wp2_with fail
         go_loopw [3, 4, 17] (fun v3 v4 v17 wr => ∃ (i y : Nat), i <= m /\ v17 = .int .i64 (i : Int) /\ v3 = .int .i64 (y : Int) /\ y <= 1000000 /\ Hid (y = depthKids (l.take i)) /\ Hid (Below w.heap.size w wr)) (fun _ _ v17 _ => m - (intOf v17).toNat)
         case atStart => exact ⟨0, 0, Nat.zero_le _, rfl, rfl, by omega, hid (by rw [List.take_zero, depthKids]), hid (Below.refl _ _)⟩
         case round =>
           obtain ⟨i, y, hi, rfl, rfl, hy, HY, HB⟩ := hrel
           by_cases hlt : i < m
           · have q9 := HC.out wr HB.out
             obtain ⟨g2, off2, rfl, hcall⟩ := IH.out i hlt wr HB.out
             have HK := hid hcall
             have HT2 := hid (HT.out i hlt)
             have HL2 := HLE.out (i + 1)
             have HT3 : Hid (depthKids (l.take (i + 1)) = max y (depthJ (l.getD i JV.null))) := hid (by rw [HT2.out, <- HY.out])
             rw [HT3.out] at HL2
             clear HT2
             clear hcall
             generalize depthJ (l.getD i JV.null) = z at *
             have hz : max y z <= 1000000 := by omega
             go_wp2_with fail
             refine HK.out.mono ?_
             rintro e w2 ⟨rfl, hb⟩
             have HB2 := hid (HB.out.call hb)
             clear hb
             go_wp2_with fail
             have hmx : max (y : Int) (z : Int) = ((max y z : Nat) : Int) := by omega
             exact ⟨⟨i + 1, max y z, by omega, by go_num, by first | rfl | (rw [<- hmx]) | (simp only [Value.int.injEq, true_and]; omega), hz, hid HT3.out.symm, HB2⟩, by simp [intOf]; omega⟩
           · obtain rfl : i = m := by omega
             have HYF : Hid (y = depthKids l) := hid (by rw [HY.out, List.take_of_length_le (by rw [HM.out]; exact Nat.le_refl _)])
             go_wp2_with fail
             go_ret
             exact ⟨by rw [<- HYF.out]; rfl, HB.out⟩
     refine fork ?_
     rcases hk with rfl | rfl
     · exact .inl rfl
     · exact .inr ⟨rfl, rfl⟩
   · have hde : depthJ (.mk k b d t l ns) = 0 := by rw [depthJ, if_neg hk]
     rw [hde]
     have e4 : (k == 4) = false := by rw [beq_eq_false_iff_ne]; exact fun e => hk (.inl e)
     have e5 : (k == 5) = false := by rw [beq_eq_false_iff_ne]; exact fun e => hk (.inr e)
     clear hsz h8 h hv hde ih hd hk
     go_enter Tryz.func33, Tryz.ntmps33
     go_wp2
     go_ret
     exact ⟨rfl, Below.refl _ _⟩
def zB (b : Bool) (d : Dec) (t : List UInt8) (n m : Nat) : Bool := !b && (!d.neg && d.digits.isEmpty && decide (d.exp = 0)) && t.isEmpty && decide (n = 0) && decide (m = 0)
theorem bs_no {l : List UInt8} (h : l ≠ []) : (bs l).toList.isEmpty = false /\ ¬ (bs l).toList = [] := by
 rw [bs_toList]
 exact ⟨by cases hh : l with | nil => exact absurd hh h | cons x r => rfl, h⟩
theorem jisZero_ok (g off : Nat) (b : Bool) (d : Dec) (t : List UInt8) (A A' : Option Addr) (n c m c' : Nat) (w : World)
   (q1 : w.cell? ⟨g, off + 1, none⟩ = some (.bool b)) (q2 : w.cell? ⟨g, off + 2, none⟩ = some (.bool d.neg)) (q3 : w.cell? ⟨g, off + 3, none⟩ = some (.string (bs d.digits))) (q4 : w.cell? ⟨g, off + 4, none⟩ = some (.int .i64 d.exp))
   (q5 : w.cell? ⟨g, off + 5, none⟩ = some (.string (bs t))) (q6 : w.cell? ⟨g, off + 6, none⟩ = some (.slice A n c)) (q7 : w.cell? ⟨g, off + 7, none⟩ = some (.slice A' m c')) :
   Calls Tryz.prog 61 #[.pointer (some ⟨g, off, none⟩)] w fun e w' => e = .returned (.bool (zB b d t n m)) /\ w = w' := by
 obtain ⟨dn, dl, dx⟩ := d
 simp only at q2 q3 q4
 have ht0 : (bs []).toList = [] := bs_toList []
 have fin : ∀ r, zB b ⟨dn, dl, dx⟩ t n m = r -> (Calls Tryz.prog 61 #[.pointer (some ⟨g, off, none⟩)] w fun e w' => e = .returned (.bool r) /\ w = w') -> Calls Tryz.prog 61 #[.pointer (some ⟨g, off, none⟩)] w fun e w' => e = .returned (.bool (zB b ⟨dn, dl, dx⟩ t n m)) /\ w = w' := fun r e h => by rw [e]; exact h
 cases b with
 | true =>
   refine fin false (by simp [zB]) ?_
   clear fin
   go_enter Tryz.func61, Tryz.ntmps61
   go_wp2
   go_ret
   exact ⟨rfl, rfl⟩
 | false =>
   cases dn with
   | true =>
     refine fin false (by simp [zB]) ?_
     clear fin
     go_enter Tryz.func61, Tryz.ntmps61
     go_wp2
     go_ret
     exact ⟨rfl, rfl⟩
   | false =>
     by_cases h1 : dl = []
     · subst h1
       by_cases h2 : dx = 0
       · subst h2
         by_cases h3 : t = []
         · subst h3
           by_cases h4 : n = 0
           · subst h4
             by_cases h5 : m = 0
             · subst h5
               refine fin true (by simp [zB]) ?_
               clear fin
               go_enter Tryz.func61, Tryz.ntmps61
               go_wp2
               go_ret
               exact ⟨rfl, rfl⟩
             · refine fin false (by simp [zB, h5]) ?_
               have e5 : ((m : Int) == 0) = false := by rw [beq_eq_false_iff_ne]; omega
               clear fin
               go_enter Tryz.func61, Tryz.ntmps61
               go_wp2
               go_ret
               exact ⟨rfl, rfl⟩
           · refine fin false (by simp [zB, h4]) ?_
             have e4 : ((n : Int) == 0) = false := by rw [beq_eq_false_iff_ne]; omega
             clear fin
             go_enter Tryz.func61, Tryz.ntmps61
             go_wp2
             go_ret
             exact ⟨rfl, rfl⟩
         · refine fin false (by simp [zB, h3]) ?_
           obtain ⟨e1, e2⟩ := bs_no h3
           clear fin h3
           go_enter Tryz.func61, Tryz.ntmps61
           go_wp2
           go_ret
           exact ⟨rfl, rfl⟩
       · refine fin false (by simp [zB, h2]) ?_
         have e2 : (dx == 0) = false := by rw [beq_eq_false_iff_ne]; exact h2
         clear fin
         go_enter Tryz.func61, Tryz.ntmps61
         go_wp2
         go_ret
         exact ⟨rfl, rfl⟩
     · refine fin false (by simp [zB, h1]) ?_
       obtain ⟨e1, e2⟩ := bs_no h1
       clear fin h1
       go_enter Tryz.func61, Tryz.ntmps61
       go_wp2
       go_ret
       exact ⟨rfl, rfl⟩
def lastB (l : List UInt8) : Nat := if l = [] then 0 else byteAt l (l.length - 1)
theorem jend_ok (p : Nat) (X : Txt) (k : Nat) (A : Option Addr) (n c : Nat) (l : List UInt8) (O : Value) (f : Fl) (w : World) (h : JRd w p X k (.slice A n c) O f) (hl : l.length = n) (hn : n <= 9223372036854775806) (hA : Holds w A n 1 (u8s l)) :
   Calls Tryz.prog 82 #[.pointer (some ⟨p, 0, none⟩)] w fun e w' => e = .returned (.int .u8 (lastB l : Nat)) /\ Below w.heap.size w w' := by
 have c2 := h.row.cell (i := 2) (v := .slice A n c) rfl
 have hp := h.row.lt
 clear h
 by_cases h0 : n = 0
 · subst h0
   have hb : lastB l = 0 := by unfold lastB; rw [if_pos (List.eq_nil_of_length_eq_zero hl)]
   rw [hb]
   clear hA hl hb
   go_enter Tryz.func82, Tryz.ntmps82
   go_wp2
   go_ret
   exact ⟨rfl, Below.refl _ _⟩
 · obtain ⟨g, off, rfl, hg, hr⟩ := hA.2 (by omega)
   have hb : lastB l = byteAt l (n - 1) := by unfold lastB; rw [if_neg (fun e => h0 (by rw [<- hl, e]; rfl)), hl]
   have q := hr (n - 1) (.int .u8 (byteAt l (n - 1) : Int)) (by
     rw [u8s_get, List.getElem?_eq_getElem (by omega)]
     unfold byteAt
     simp [List.getD, List.getElem?_eq_getElem (show n - 1 < l.length by omega)])
   rw [hb]
   obtain ⟨n1, hn1⟩ : ∃ n1, n = n1 + 1 := ⟨n - 1, by omega⟩
   have e0 : ((n : Int) == 0) = false := by rw [beq_eq_false_iff_ne]; omega
   have en : (n : Int) - 1 = ((n - 1 : Nat) : Int) := by omega
   have hlt : n - 1 < n := by omega
   clear hA hl hb hr hn1
   generalize byteAt l (n - 1) = y at *
   generalize n - 1 = j at *
   go_enter Tryz.func82, Tryz.ntmps82
   go_wp2_with fail
   go_quiet (fail)
   go_wp2
   go_ret
   exact ⟨rfl, below_drewN (Below.refl _ _) _⟩
theorem run_sub_bsJ {P : Program} (W : World) (t : TypeId) (ht : P.underlying t = some .string) (l : List UInt8) (i j : Nat) (hij : i <= j) (hj : j <= l.length) :
   (Instr.slice t (.string (bs l)) (some (.int .i64 (i : Int))) (some (.int .i64 (j : Int))) none).run P W = .ok (.string (bs ((l.take j).drop i))) W := by
 simp [Instr.slice, run_underlying ht, Instr.sliceBounds, run_sliceBound, bs_size, (by omega : (i : Int) <= (j : Int)), (by omega : (j : Int) <= (l.length : Int)), bs_extract]
def esc1 (b : UInt8) : Option UInt8 :=
 if b = 34 then some 34 else if b = 92 then some 92 else if b = 8 then some 98 else if b = 12 then some 102
 else if b = 10 then some 110 else if b = 13 then some 114 else if b = 9 then some 116 else if b = 47 then some 47 else none
def esc1Ok (b : UInt8) : Bool := match esc1 b with
 | none => decide (Lib.indexByte escLetters b = -1)
 | some x => decide (0 <= Lib.indexByte escLetters b /\ Lib.indexByte escLetters b < 8 /\ (escSigns.take ((Lib.indexByte escLetters b).toNat + 1)).drop (Lib.indexByte escLetters b).toNat = [x])
theorem esc1Ok_all : ∀ b : Fin 256, esc1Ok (UInt8.ofNat b.val) = true := by decide +kernel
theorem esc1Ok_at (b : UInt8) : esc1Ok b = true := by
 have := esc1Ok_all ⟨b.toNat, b.toNat_lt⟩
 simpa only [UInt8.ofNat_toNat] using this
theorem esc1_some {b x : UInt8} (h : esc1 b = some x) : ∃ i : Nat, Lib.indexByte escLetters b = (i : Int) /\ i < 8 /\ (escSigns.take (i + 1)).drop i = [x] := by
 have := esc1Ok_at b
 unfold esc1Ok at this
 rw [h] at this
 obtain ⟨h1, h2, h3⟩ := of_decide_eq_true this
 exact ⟨(Lib.indexByte escLetters b).toNat, by omega, by omega, h3⟩
theorem escL_one {b x : UInt8} (h : esc1 b = some x) (hb : b ≠ 47) : escL b = [92, x] := by
 unfold esc1 at h
 unfold escL
 split at h
 · rename_i e; injection h with h; subst h; rw [if_pos e]
 · rename_i e1; rw [if_neg e1]
   split at h
   · rename_i e; injection h with h; subst h; rw [if_pos e]
   · rename_i e2; rw [if_neg e2]
     split at h
     · rename_i e; injection h with h; subst h; rw [if_pos e]
     · rename_i e3; rw [if_neg e3]
       split at h
       · rename_i e; injection h with h; subst h; rw [if_pos e]
       · rename_i e4; rw [if_neg e4]
         split at h
         · rename_i e; injection h with h; subst h; rw [if_pos e]
         · rename_i e5; rw [if_neg e5]
           split at h
           · rename_i e; injection h with h; subst h; rw [if_pos e]
           · rename_i e6; rw [if_neg e6]
             split at h
             · rename_i e; injection h with h; subst h; rw [if_pos e]
             · first | cases h | (split at h <;> first | cases h | (exact absurd (by assumption) hb))
theorem jescape_one (b x : UInt8) (h : esc1 b = some x) (hb : b.toNat < 128) (w : World) :
   Calls Tryz.prog 96 #[.int .i32 (b.toNat : Int)] w fun e w' => e = .returned (.string (bs [92, x])) /\ Below w.heap.size w w' := by
 obtain ⟨i, h1, h2, h3⟩ := esc1_some h
 have HI : Hid (∀ W, Calls Tryz.prog 112 #[.string ⟨#[34, 92, 8, 12, 10, 13, 9, 47]⟩, .int .i32 (b.toNat : Int)] W fun e w' => e = .returned (.int .i64 (i : Int)) /\ w' = W) := hid fun W => by
   have h9 := Tryz.strings_IndexRune_ascii (bs escLetters) (b.toNat : Int) W (by omega) (by omega)
   have e : ((b.toNat : Int)).toNat.toUInt8 = b := by simp
   rw [e] at h9
   have e2 : Lib.indexByte (bs escLetters).data.toList b = (i : Int) := h1
   rw [e2] at h9
   exact h9
 have hsl : ∀ W : World, (Instr.slice 9 (.string ⟨#[34, 92, 98, 102, 110, 114, 116, 47]⟩) (some (.int .i64 (i : Int))) (some (.int .i64 ((i : Int) + 1))) none).run Tryz.prog W = .ok (.string (bs [x])) W := fun W => by
   have h9 := run_sub_bsJ (P := Tryz.prog) W 9 Tryz.underlying9 escSigns i (i + 1) (by omega) (by show i + 1 <= 8; omega)
   rw [h3] at h9
   exact h9
 have hadd : ∀ W : World, (Op.stringOp .add ⟨#[92]⟩ (bs [x])).run Tryz.prog W = .ok (.string (bs [92, x])) W := fun W => by
   have h9 := run_add_bs (P := Tryz.prog) (W := W) [92] [x] (by simp)
   exact h9
 clear h h1 h3 hb
 generalize (b.toNat : Int) = y at *
 go_enter Tryz.func96, Tryz.ntmps96
 go_wp2_with fail
 refine (HI.out _).mono ?_
 rintro e w2 ⟨rfl, rfl⟩
 go_wp2
 go_ret
 exact ⟨rfl, Below.refl _ _⟩
end Go.Proofs.YtmhbkjjkalnggaaGreatDoor
