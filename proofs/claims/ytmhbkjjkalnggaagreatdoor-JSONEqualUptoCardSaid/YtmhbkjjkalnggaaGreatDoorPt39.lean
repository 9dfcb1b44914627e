import Derived.Test.YtmhbkjjkalnggaaGreatDoorPt29
namespace Go.Proofs.YtmhbkjjkalnggaaGreatDoor
open Go.RowKit
set_option maxHeartbeats 2000000
def decC (d : Dec) : Array Value := #[.bool d.neg, .string (bs d.digits), .int .i64 d.exp]
structure Decs (w W : World) (L : List (Nat × Dec)) : Prop where
 below : Below w.heap.size w W
 at_ : ∀ (i b : Nat) (d : Dec), L[i]? = some (b, d) -> Row W b 24 (decC d)
section
variable {w W W' : World} {L : List (Nat × Dec)} {i b : Nat} {d : Dec}
theorem Decs.call (h : Decs w W L) (hb : Below W.heap.size W W') : Decs w W' L := ⟨h.below.call hb, fun i b d hi => (h.at_ i b d hi).call hb⟩
theorem Decs.c0 (h : Decs w W L) (hi : L[i]? = some (b, d)) : W.cell? ⟨b, 0, none⟩ = some (.bool d.neg) := (h.at_ i b d hi).cell rfl
theorem Decs.c1 (h : Decs w W L) (hi : L[i]? = some (b, d)) : W.cell? ⟨b, 1, none⟩ = some (.string (bs d.digits)) := (h.at_ i b d hi).cell rfl
theorem Decs.c2 (h : Decs w W L) (hi : L[i]? = some (b, d)) : W.cell? ⟨b, 2, none⟩ = some (.int .i64 d.exp) := (h.at_ i b d hi).cell rfl
theorem Decs.drew (h : Decs w W L) : Decs w W.drew L := ⟨h.below.drew, fun i b d hi => (h.at_ i b d hi).drew⟩
end
theorem Decs.one {w W : World} {b : Nat} {d : Dec} (hb : Below w.heap.size w W) (hr : Row W b 24 (decC d)) : Decs w W [(b, d)] :=
 ⟨hb, fun i b' d' hi => by
   cases i with
   | zero => injection hi with hi; injection hi with q1 q2; subst q1; subst q2; exact hr
   | succ i => simp at hi⟩
theorem mayB_some {neg : Bool} {l : List UInt8} {x : Int} (h0 : l ≠ []) (hd : allDig l = true) : mayB ⟨neg, l, x⟩ = (decide (l.length <= 100) && !decide (byteAt l 0 = 48) && !decide (byteAt l (l.length - 1) = 48) && decide (-1000 <= x) && decide (x <= 1000)) := by
 unfold mayB
 simp only
 rw [if_neg h0, hd]
 have e1 : (l.head? == some 48) = decide (byteAt l 0 = 48) := by rw [Bool.eq_iff_iff]; simp only [beq_iff_eq, decide_eq_true_eq]; exact head_byte h0
 have e2 : (l.getLast? == some 48) = decide (byteAt l (l.length - 1) = 48) := by rw [Bool.eq_iff_iff]; simp only [beq_iff_eq, decide_eq_true_eq]; exact last_byte h0
 rw [e1, e2]
 cases decide (l.length <= 100) <;> cases decide (byteAt l 0 = 48) <;> cases decide (byteAt l (l.length - 1) = 48) <;> cases decide (-1000 <= x) <;> cases decide (x <= 1000) <;> rfl
theorem may_ok (d : Dec) (w : World) (hl : d.digits.length <= 9223372036854775806) :
   Calls Tryz.prog 71 #[decV d] w fun e w' => e = .returned (.bool (mayB d)) /\ Below w.heap.size w w' := by
 obtain ⟨neg, l, x⟩ := d
 unfold decV
 simp only at hl ⊢
 obtain ⟨w1, hw1⟩ : ∃ w1, w1 = w.alloc (.cells #[.bool neg, .string (bs l), .int .i64 x] 24) := ⟨_, rfl⟩
 have HB : Hid (Below w.heap.size w w1) := hid (by subst hw1; exact (Below.refl _ _).alloc (Nat.le_refl _) _)
 have hr : Row w1 w.heap.size 24 #[.bool neg, .string (bs l), .int .i64 x] := by subst hw1; exact Row.new _ _ _
 have c0 := hr.cell (i := 0) (v := .bool neg) rfl
 have c1 := hr.cell (i := 1) (v := .string (bs l)) rfl
 have c2 := hr.cell (i := 2) (v := .int .i64 x) rfl
 clear hr
 have hs := bs_size l
 have HMS : Hid (l ≠ [] -> allDig l = true -> mayB ⟨neg, l, x⟩ = (decide (l.length <= 100) && !decide (byteAt l 0 = 48) && !decide (byteAt l (l.length - 1) = 48) && decide (-1000 <= x) && decide (x <= 1000))) := hid mayB_some
 obtain ⟨n, hn⟩ : ∃ n, n = l.length := ⟨_, rfl⟩
 have HN := hid hn
 rw [<- hn] at hs hl HMS
 clear hn
 have HI : Hid (∀ k : Nat, k < n -> ∀ W : World, (Instr.index 9 (.string (bs l)) (.int .i64 (k : Int))).run Tryz.prog W = .ok (.int .u8 (byteAt l k : Int)) W) := hid fun k hk W => run_byte _ Tryz.underlying9 l k (by rw [<- HN.out]; exact hk) W
 go_enter Tryz.func71, Tryz.ntmps71
 go_upto_region 1 with fail
 rw [<- hw1]
 clear hw1
 generalize bs l = s at *
 go_wp2_with fail
 go_loop [4] (fun v4 => ∃ j : Nat, j <= n /\ v4 = .int .i64 j /\ Hid (allDig (l.take j) = true)) (fun v4 => n - (intOf v4).toNat)
 case atStart => exact ⟨0, Nat.zero_le _, rfl, hid rfl⟩
 case round =>
   obtain ⟨j, hj, rfl, Hj⟩ := hrel
   by_cases hlt : j < n
   · have hidx := HI.out j hlt
     clear HMS
     cases hd : isDig (l.getD j 0) with
     | true =>
       have HX : Hid (allDig (l.take (j + 1)) = true) := hid (by rw [allDig_take_succ l j (by rw [<- HN.out]; exact hlt), allDig_snoc, Hj.out, hd]; rfl)
       have hy : 48 <= byteAt l j /\ byteAt l j <= 57 := ⟨isDig_lo hd, isDig_hi hd⟩
       clear hd
       generalize byteAt l j = y at *
       have d1 : decide ((y : Int) < 48) = false := by simp; omega
       have d2 : decide ((57 : Int) < (y : Int)) = false := by simp; omega
       go_wp2
       exact ⟨⟨j + 1, by omega, by go_num, HX⟩, by simp [intOf]; omega⟩
     | false =>
       have HX : Hid (mayB ⟨neg, l, x⟩ = false) := hid (mayB_no fun m => by have h1 := allDig_iff.2 m.digs; have h2 := allDig_false (l := l) (by rw [<- HN.out]; exact hlt) hd; exact absurd (h2.symm.trans h1) (by decide))
       have hy : byteAt l j < 48 ∨ 57 < byteAt l j := isDig_not hd
       clear hd
       generalize byteAt l j = y at *
       rcases hy with hy | hy
       · have d1 : decide ((y : Int) < 48) = true := by simp; omega
         go_wp2
         go_ret
         exact ⟨by rw [HX.out]; rfl, HB.out⟩
       · have d1 : decide ((y : Int) < 48) = false := by simp; omega
         have d2 : decide ((57 : Int) < (y : Int)) = true := by simp; omega
         go_wp2
         go_ret
         exact ⟨by rw [HX.out]; rfl, HB.out⟩
   · obtain rfl : j = n := by omega
     have hall : allDig l = true := by rw [<- Hj.out, HN.out, List.take_length]
     rcases Nat.eq_zero_or_pos j with h0 | h0
     · subst h0
       have hl0 : l = [] := List.eq_nil_of_length_eq_zero HN.out.symm
       have HX : Hid (mayB ⟨neg, l, x⟩ = (!neg && decide (x = 0))) := hid (by unfold mayB; simp [hl0])
       clear HMS hl0 hall
       cases neg
       · by_cases hx : x = 0
         · subst hx
           have HY : Hid (mayB ⟨false, l, 0⟩ = true) := hid (by rw [HX.out]; rfl)
           go_wp2
           go_ret
           exact ⟨by rw [HY.out]; rfl, HB.out⟩
         · have d1 : (x == 0) = false := by rw [beq_eq_false_iff_ne]; exact hx
           have HY : Hid (mayB ⟨false, l, x⟩ = false) := hid (by rw [HX.out]; simp [hx])
           go_wp2
           go_ret
           exact ⟨by rw [HY.out]; rfl, HB.out⟩
       · have HY : Hid (mayB ⟨true, l, x⟩ = false) := hid (by rw [HX.out]; rfl)
         go_wp2
         go_ret
         exact ⟨by rw [HY.out]; rfl, HB.out⟩
     · have hn0 : ((j : Int) == 0) = false := by rw [beq_eq_false_iff_ne]; omega
       have HX := hid (HMS.out (by intro e; have := HN.out; rw [e] at this; simp at this; omega) hall)
       have i0 : ∀ W : World, (Instr.index 9 (.string s) (.int .i64 0)).run Tryz.prog W = .ok (.int .u8 (byteAt l 0 : Int)) W := HI.out 0 h0
       have i1 := HI.out (j - 1) (by omega)
       rw [show ((j - 1 : Nat) : Int) = (j : Int) - 1 by omega] at i1
       clear HMS HI hall
       generalize byteAt l 0 = y at *
       generalize byteAt l (j - 1) = z at *
       by_cases q1 : j <= 100
       rotate_left 1
       · have HY : Hid (mayB ⟨neg, l, x⟩ = false) := hid (by rw [HX.out, decide_eq_false q1]; rfl)
         have d1 : decide ((j : Int) <= 100) = false := by simp; omega
         go_wp2
         go_ret
         exact ⟨by rw [HY.out]; rfl, HB.out⟩
       have d1 : decide ((j : Int) <= 100) = true := by simp; omega
       by_cases q2 : y = 48
       · have HY : Hid (mayB ⟨neg, l, x⟩ = false) := hid (by rw [HX.out, decide_eq_true q2]; simp)
         subst q2
         go_wp2
         go_ret
         exact ⟨by rw [HY.out]; rfl, HB.out⟩
       have d2 : ((y : Int) == 48) = false := by rw [beq_eq_false_iff_ne]; omega
       have d5 : ((y : Int) != 48) = true := by rw [bne, d2]; rfl
       by_cases q3 : z = 48
       · have HY : Hid (mayB ⟨neg, l, x⟩ = false) := hid (by rw [HX.out, decide_eq_true q3]; simp)
         subst q3
         go_wp2
         go_ret
         exact ⟨by rw [HY.out]; rfl, HB.out⟩
       have d3 : ((z : Int) == 48) = false := by rw [beq_eq_false_iff_ne]; omega
       have d6 : ((z : Int) != 48) = true := by rw [bne, d3]; rfl
       by_cases q4 : -1000 <= x
       rotate_left 1
       · have HY : Hid (mayB ⟨neg, l, x⟩ = false) := hid (by rw [HX.out, decide_eq_false q4]; simp)
         have d4 : decide ((-1000 : Int) <= x) = false := decide_eq_false q4
         go_wp2
         go_ret
         exact ⟨by rw [HY.out]; rfl, HB.out⟩
       have d4 : decide ((-1000 : Int) <= x) = true := decide_eq_true q4
       have HY : Hid (mayB ⟨neg, l, x⟩ = decide (x <= 1000)) := hid (by rw [HX.out, d4, decide_eq_false q2, decide_eq_false q3, decide_eq_true q1]; simp)
       go_wp2
       go_ret
       exact ⟨by rw [HY.out]; rfl, HB.out⟩
section
variable {P : Program} {ops : Array Oper} {rest : List Oper} {o : Oper} {a : Act} {w : World} {Q : Exit -> Act -> World -> Prop}
theorem wpList_make_u8 (hgd : o.guard = none) (t e : TypeId) (x : Operand) (ho : o.op = .makeSlice t x x) (n : Nat) (hx : a.eval x = .int .i64 n) (ht : P.underlying t = some (.slice e))
   (hi : (P.info? e).map (fun i => (i.zero, i.size, i.bytes)) = some (some (.int .u8 0), 1, 1)) (hn : n <= 17592186044416)
   (h : wpList P ops Q rest (a.put o.dst (.slice (some ⟨w.heap.size, 0, none⟩) n n)) (w.alloc (.cells (u8s (List.replicate n 0)).toArray e))) : wpList P ops Q (o :: rest) a w := by
 obtain ⟨i, hi, hz, hs, hb⟩ := info_parts hi
 have hr := run_make (P := P) w t e i _ ht hi hz .i64 .i64 n n (by omega) (Int.le_refl _) (by rw [hb]; omega) (by omega)
 rw [hs, Nat.mul_one] at hr
 have e1 : madeCells (Value.int .u8 0).cells n = (u8s (List.replicate n 0)).toArray := by
   apply Array.toList_inj.1
   have := toList_madeCells_one (.int .u8 0) n
   simp only [u8s, List.map_replicate]
   exact this
 simp only [Int.toNat_natCast] at hr
 rw [e1] at hr
 refine wpList_plain hgd fun K hK => ?_
 unfold Oper.wp
 simp [execOp, ho, hx, hr, Result.andThen]
 exact hK _ _ h
end
theorem u8s_getR (l : List UInt8) {j : Nat} (h : j < l.length) : (u8s l)[j]? = some (.int .u8 ((l.getD j 0).toNat : Int)) := by
 simp [u8s, List.getD, List.getElem?_eq_getElem h]
theorem u8s_set (l : List UInt8) (p : Nat) (v : UInt8) : (u8s l).toArray.setIfInBounds p (.int .u8 (v.toNat : Int)) = (u8s (l.set p v)).toArray := by
 simp [u8s, List.map_set]
theorem zeros_step (k j : Nat) (h : j < k) : (zeros j ++ List.replicate (k - j) 0).set j 48 = zeros (j + 1) ++ List.replicate (k - (j + 1)) 0 := by
 rw [show k - j = (k - (j + 1)) + 1 by omega, List.replicate_succ]
 unfold zeros
 rw [List.set_append_right _ _ (by simp)]
 simp only [List.length_replicate, Nat.sub_self, sB]
 rw [show List.replicate (j + 1) (48 : UInt8) = List.replicate j 48 ++ [48] by rw [List.replicate_succ'], List.append_assoc]
 rfl
theorem rnoughts_ok (n : Int) (w : World) (hn : n <= 1000000000) :
   Calls Tryz.prog 73 #[.int .i64 n] w fun e w' => e = .returned (.string (bs (zeros n.toNat))) /\ Below w.heap.size w w' := by
 obtain ⟨k, hk⟩ : ∃ k : Nat, k = n.toNat := ⟨_, rfl⟩
 have hmax : max (0 : Int) n = (k : Int) := by omega
 have hk2 : k <= 1000000000 := by omega
 rw [<- hk]
 clear hk
 obtain ⟨w1, hw1⟩ : ∃ w1, w1 = w.alloc (.cells (u8s (List.replicate k 0)).toArray 5) := ⟨_, rfl⟩
 have HR1 : Hid (Row w1 w.heap.size 5 (u8s (zeros 0 ++ List.replicate (k - 0) 0)).toArray) := hid (by subst hw1; exact Row.new _ _ _)
 have HB1 : Hid (Below w.heap.size w w1) := hid (by subst hw1; exact (Below.refl _ _).alloc (Nat.le_refl _) _)
 go_enter Tryz.func73, Tryz.ntmps73
 go_upto_region 2 with (
     skip
     refine wpList_make_u8 ?_ 35 5 (.tmp 6) ?_ k ?_ Tryz.underlying35 infoU8 (by omega) ?_
     · with_reducible rfl
     · with_reducible rfl
     · exact congrArg (Value.int .i64) (by omega))
 rw [<- hw1]
 clear hw1
 go_wp2_with fail
 go_loopw [4] (fun v4 wr => ∃ j : Nat, j <= k /\ v4 = .int .i64 j /\ Hid (Row wr w.heap.size 5 (u8s (zeros j ++ List.replicate (k - j) 0)).toArray /\ Below w.heap.size w wr)) (fun v4 _ => k - (intOf v4).toNat)
 case atStart => exact ⟨0, Nat.zero_le _, rfl, hid ⟨HR1.out, HB1.out⟩⟩
 case round =>
   obtain ⟨j, hj, rfl, HR⟩ := hrel
   have hlen : (zeros j ++ List.replicate (k - j) (0 : UInt8)).length = k := by simp [zeros]; omega
   by_cases hlt : j < k
   · have kc := HR.out.1.cell (i := j) (v := .int .u8 (((zeros j ++ List.replicate (k - j) (0 : UInt8)).getD j 0).toNat : Int)) (by rw [List.getElem?_toArray]; exact u8s_getR _ (by rw [hlen]; exact hlt))
     have fc := HR.out.1.free j
     have HROW := hid (HR.out.1.set_ j (.int .u8 ((48 : UInt8).toNat : Int)))
     rw [u8s_set, zeros_step k j hlt] at HROW
     have HBL := hid (HR.out.2.setCell (p := ⟨w.heap.size, j, none⟩) (Nat.le_refl _) (.int .u8 ((48 : UInt8).toNat : Int)))
     clear hlen
     generalize ((zeros j ++ List.replicate (k - j) (0 : UInt8)).getD j 0).toNat = z at *
     go_wp2
     exact ⟨⟨j + 1, by omega, by go_num, hid ⟨HROW.out, HBL.out⟩⟩, by simp [intOf]; omega⟩
   · obtain rfl : j = k := by omega
     have hlz : (zeros j).length = j := by simp [zeros]
     have hrow : Row wr w.heap.size 5 (u8s (zeros j)).toArray := by have := HR.out.1; rwa [Nat.sub_self, List.replicate_zero, List.append_nil] at this
     have hh : Holds wr (some ⟨w.heap.size, 0, none⟩) (zeros j).length 1 (u8s (zeros j)) := ⟨by rw [u8s_length, Nat.mul_one], fun _ => ⟨w.heap.size, 0, rfl, hrow.lt, fun i v hv => by rw [Nat.zero_add]; exact hrow.cell (by rw [List.getElem?_toArray]; exact hv)⟩⟩
     have hcv := run_text_bs hh 35 9 5 j Tryz.underlying35 Tryz.underlying5 Tryz.underlying9
     rw [hlz] at hcv
     clear hrow hh hlen hlz
     go_wp2
     go_ret
     exact ⟨rfl, HR.out.2⟩
end Go.Proofs.YtmhbkjjkalnggaaGreatDoor
