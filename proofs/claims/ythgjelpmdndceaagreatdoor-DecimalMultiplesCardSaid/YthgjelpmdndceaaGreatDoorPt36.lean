/- Layer 7: the document's Div. -/
import Derived.Test.YthgjelpmdndceaaGreatDoorPt29
import Derived.Test.YthgjelpmdndceaaGreatDoorPt35
namespace Go.Proofs.YthgjelpmdndceaaGreatDoor
open Go.RowKit

section
variable {P : Program} {ops : Array Oper} {rest : List Oper} {o : Oper} {a : Act} {w : World} {Q : Exit → Act → World → Prop}
/-- 'make([]byte, 0, n)'. -/
theorem wpList_make_u8c (hgd : o.guard = none) (t e : TypeId) (x : Operand) (ho : o.op = .makeSlice t (.const (.int .i64 0)) x) (n : Nat) (hx : a.eval x = .int .i64 n) (ht : P.underlying t = some (.slice e))
    (hi : (P.info? e).map (fun i => (i.zero, i.size, i.bytes)) = some (some (.int .u8 0), 1, 1)) (hn : n ≤ 17592186044416)
    (h : wpList P ops Q rest (a.put o.dst (.slice (some ⟨w.heap.size, 0, none⟩) 0 n)) (w.alloc (.cells (u8s (List.replicate n 0)).toArray e))) : wpList P ops Q (o :: rest) a w := by
  obtain ⟨i, hi, hz, hs, hb⟩ := info_parts hi
  have hr := run_make (P := P) w t e i _ ht hi hz .i64 .i64 0 n (by omega) (by omega) (by rw [hb]; omega) (by omega)
  rw [hs, Nat.mul_one] at hr
  have e1 : madeCells (Value.int .u8 0).cells n = (u8s (List.replicate n 0)).toArray := by
    apply Array.toList_inj.1
    have := toList_madeCells_one (.int .u8 0) n
    simp only [u8s, List.map_replicate]
    exact this
  simp only [Int.toNat_natCast] at hr
  rw [e1] at hr
  have hev : a.eval (.const (.int .i64 0)) = .int .i64 0 := rfl
  refine wpList_plain hgd fun K hK => ?_
  unfold Oper.wp
  simp [execOp, ho, hx, hev, hr, Result.andThen]
  exact hK _ _ h
end
theorem Lies.made8 (w : World) (F : Nat → Prop) (n : Nat) (hn : n ≤ maxLen) (hF : F w.heap.size) : Lies (w.alloc (.cells (u8s (List.replicate n 0)).toArray 5)) F 5 1 (.slice (some ⟨w.heap.size, 0, none⟩) 0 n) 0 [] :=
  ⟨by simp, .inr ⟨w.heap.size, 0, n, (u8s (List.replicate n 0)).toArray, rfl, hF, heap_alloc_new w _, by omega, hn, by simp [u8s_length], by simp⟩⟩
theorem getD_dig {l : List UInt8} (h : Digs l) {i : Nat} (hi : i < l.length) : isDig (l.getD i 0) = true := by
  rw [show l.getD i 0 = l[i]'hi by simp [List.getD, List.getElem?_eq_getElem hi]]
  exact h _ (List.getElem_mem hi)
theorem take_next (l : List UInt8) {i : Nat} (hi : i < l.length) : l.take (i + 1) = l.take i ++ [l.getD i 0] := by
  rw [List.take_add_one, List.getElem?_eq_getElem hi]
  simp [List.getD, List.getElem?_eq_getElem hi]
theorem mid_one (l : List UInt8) {i : Nat} (hi : i < l.length) : (l.take (i + 1)).drop i = [l.getD i 0] := by
  rw [take_next l hi, List.drop_append_of_le_length (by rw [List.length_take]; omega), List.drop_of_length_le (by rw [List.length_take]; omega)]
  rfl
theorem rdiv_next {V B d : Nat} (hB : 0 < B) : (10 * V + d) / B = 10 * (V / B) + (10 * (V % B) + d) / B ∧ (10 * V + d) % B = (10 * (V % B) + d) % B := by
  have e : 10 * V + d = (10 * (V % B) + d) + B * (10 * (V / B)) := by
    have h := Nat.div_add_mod V B
    have h2 : B * (10 * (V / B)) = 10 * (B * (V / B)) := by rw [Nat.mul_left_comm]
    omega
  rw [e, Nat.add_mul_div_left _ _ hB, Nat.add_mul_mod_self_left]
  exact ⟨by omega, rfl⟩
theorem dig_cmp (R B : Nat) : cmpC (dig R) (dig B) = cmpZ R B := by
  rw [cmpC_num (dig_digs R) (dig_digs B) (dig_head R) (dig_head B), num_dig, num_dig]
set_option maxRecDepth 100000 in
set_option maxHeartbeats 4000000 in
theorem rdiv_ok (a : List UInt8) (B : Nat) (w : World) (ha : Digs a) (hB : 0 < B) (hl : a.length ≤ 1000000) (hlb : (dig B).length ≤ 900000) :
    Calls Tryz.prog 40 #[.string (bs a), .string (bs (dig B))] w fun e w' => e = .returned (.tuple #[.string (bs (dig (num a / B))), .string (bs (dig (num a % B)))]) ∧ Below w.heap.size w w' := by
  have hsa := bs_size a
  obtain ⟨n, hn⟩ : ∃ n, n = a.length := ⟨_, rfl⟩
  have HN := Lib.hid hn
  rw [← hn] at hsa hl
  have HA := Lib.hid ha
  have HB0 := Lib.hid hB
  have HLB := Lib.hid hlb
  have HSL : Hid (∀ i : Nat, i < n → ∀ W : World, (Instr.slice 9 (.string (bs a)) (some (.int .i64 (i : Int))) (some (.int .i64 ((i : Int) + 1))) none).run Tryz.prog W = .ok (.string (bs [a.getD i 0])) W) := Lib.hid fun i hi W => by
    have h := run_slice_string W 9 (bs a) .i64 .i64 (i : Int) ((i : Int) + 1) Tryz.underlying9 (by omega) (by omega) (by rw [bs_size]; omega)
    rw [h, bs_extract, Int.toNat_natCast, show ((i : Int) + 1).toNat = i + 1 by omega, mid_one a (by rw [← hn]; exact hi)]
  clear hn ha hB hlb
  obtain ⟨w1, hw1⟩ : ∃ w1, w1 = w.alloc (.cells (u8s (List.replicate n 0)).toArray 5) := ⟨_, rfl⟩
  have HL1 : Hid (Lies w1 (fun g => w.heap.size ≤ g) 5 1 (.slice (some ⟨w.heap.size, 0, none⟩) 0 n) 0 []) := Lib.hid (by subst hw1; exact Lies.made8 w _ n (by unfold maxLen; omega) (Nat.le_refl _))
  have HB1 : Hid (Below w.heap.size w w1) := Lib.hid (by subst hw1; exact (Below.refl _ _).alloc (Nat.le_refl _) _)
  go_enter Tryz.func40, Tryz.ntmps40
  generalize bs a = sa at *
  go_upto_region 2 with (
      skip
      refine wpList_make_u8c ?_ 68 5 (.tmp 11) ?_ n ?_ Tryz.underlying68 infoU8 (by omega) ?_
      · with_reducible rfl
      · with_reducible rfl
      · exact congrArg (Value.int .i64) (by omega))
  rw [← hw1]
  clear hw1
  go_wp2_with fail
  go_loopw [6, 7, 8] (fun v6 v7 v8 wr => ∃ (i : Nat) (out : List UInt8) (A2 : Option Addr) (c2 R : Nat), i ≤ n ∧ v8 = .int .i64 i ∧ v6 = .slice A2 i c2 ∧ v7 = .string (bs (dig R)) ∧ Hid (R = num (a.take i) % B) ∧ Hid (Digs out ∧ out.length = i ∧ num out = num (a.take i) / B) ∧ Hid (Lies wr (fun g => w.heap.size ≤ g) 5 1 (.slice A2 i c2) i (u8s out)) ∧ Hid (Below w.heap.size w wr)) (fun _ _ v8 _ => n - (intOf v8).toNat)
  case atStart => exact ⟨0, [], _, _, 0, Nat.zero_le _, rfl, rfl, rfl, Lib.hid (by simp [num]), Lib.hid ⟨Digs.nil, rfl, by simp [num]⟩, HL1, HB1⟩
  case round =>
    obtain ⟨i, out, A2, c2, R, hi, rfl, rfl, rfl, HR, HO, HL, HBW⟩ := hrel
    by_cases hlt : i < n
    · have hsl := HSL.out i hlt
      have hia : i < a.length := by rw [← HN.out]; exact hlt
      obtain ⟨x, hx⟩ : ∃ x, x = a.getD i 0 := ⟨_, rfl⟩
      have hxd := getD_dig HA.out hia
      rw [← hx] at hsl hxd
      obtain ⟨X, hX⟩ : ∃ X, X = 10 * R + dval x := ⟨_, rfl⟩
      have hRB : R < B := by rw [HR.out]; exact Nat.mod_lt _ HB0.out
      have hXB : X < 10 * B := by have := dval_lt hxd; omega
      have HNEXT : Hid (num (a.take (i + 1)) / B = 10 * (num (a.take i) / B) + X / B ∧ num (a.take (i + 1)) % B = X % B) := Lib.hid (by
        rw [take_next a hia, ← hx, num_snoc, hX, HR.out]
        exact rdiv_next HB0.out)
      have hrl : (dig R).length ≤ 1000000 := by
        have h1 : R < 10 ^ (dig B).length := by
          have := num_lt (dig_digs B)
          rw [num_dig] at this
          omega
        exact Nat.le_trans (dig_len_le R h1) (by have := HLB.out; omega)
      have HADD : Hid (∀ W, (Op.stringOp .add (bs (dig R)) (bs [x])).run Tryz.prog W = .ok (.string (bs (dig R ++ [x]))) W) := Lib.hid fun W => run_add_bs W (dig R) [x] (by simp; omega)
      have HPL : Hid (∀ W, Calls Tryz.prog 59 #[.string (bs (dig R ++ [x]))] W fun e w' => e = .returned (.string (bs (dig X))) ∧ W = w') := Lib.hid fun W => by
        have h := plain_ok (dig R ++ [x]) W (by simp; omega)
        rwa [plain_eq ((dig_digs R).append (Digs.one hxd)), num_snoc, num_dig, ← hX] at h
      have hadd := HADD.out
      have HXB := Lib.hid hXB
      have hi1 : IntKind.i64.wrap ((i : Int) + 1) = (i : Int) + 1 := IntWalk.i64_in _ (by omega)
      clear hx hxd hX hRB hrl hia hXB
      generalize bs (dig R) = sR at *
      generalize bs [x] = sx at *
      go_wp2_with fail
      refine (HPL.out _).mono ?_
      rintro e w9 ⟨rfl, rfl⟩
      clear hsl hadd
      go_wp2_with fail
      go_loopw [7, 9] (fun v7 v9 wq => ∃ (Y j : Nat), v7 = .string (bs (dig Y)) ∧ v9 = .int .u8 ((48 + j : Nat) : Int) ∧ j ≤ 9 ∧ Hid (Y + j * B = X) ∧ Hid (Lies wq (fun g => w.heap.size ≤ g) 5 1 (.slice A2 i c2) i (u8s out)) ∧ Hid (Below w.heap.size w wq)) (fun _ v9 _ => 58 - (intOf v9).toNat)
      case atStart => exact ⟨X, 0, rfl, rfl, by omega, Lib.hid (by omega), HL, HBW⟩
      case round =>
        obtain ⟨Y, j, rfl, rfl, hj, HY, HL2, HBW2⟩ := hrel
        have HC := Lib.hid (fun W => rcmp_ok (dig Y) (dig B) W)
        rw [dig_cmp] at HC
        by_cases hge : B ≤ Y
        · have hcz : 0 ≤ cmpZ Y B := by unfold cmpZ; split <;> (try split) <;> omega
          have hj8 : j ≤ 8 := by
            rcases Nat.lt_or_ge j 9 with h | h
            · omega
            · exfalso
              have h1 : j = 9 := by omega
              have h2 := HY.out
              have h3 := HXB.out
              rw [h1] at h2
              omega
          have hyl : (dig Y).length ≤ 1000000 := by
            have h1 : Y < 10 ^ ((dig B).length + 1) := by
              have := num_lt (dig_digs B)
              rw [num_dig] at this
              have h3 := HXB.out
              have h4 := HY.out
              rw [Nat.pow_succ]
              omega
            exact Nat.le_trans (dig_len_le Y h1) (by have := HLB.out; omega)
          have hbl : (dig B).length ≤ (dig Y).length := by
            rcases Nat.lt_or_ge (dig Y).length (dig B).length with h | h
            · exfalso
              have h1 := cmpC_num (dig_digs Y) (dig_digs B) (dig_head Y) (dig_head B)
              unfold cmpC at h1
              rw [if_pos h, num_dig, num_dig] at h1
              omega
            · exact h
          have HSB : Hid (∀ W, Calls Tryz.prog 31 #[.string (bs (dig Y)), .string (bs (dig B))] W fun e w' => e = .returned (.string (bs (dig (Y - B)))) ∧ Below W.heap.size W w') := Lib.hid fun W => by
            have h := rsub_ok (dig Y) (dig B) W (dig_digs Y) (dig_digs B) (by omega) hbl (by rw [num_dig, num_dig]; exact hge)
            rwa [num_dig, num_dig] at h
          have HY2 : Hid ((Y - B) + (j + 1) * B = X) := Lib.hid (by have := HY.out; rw [Nat.add_mul]; omega)
          have hw8 : IntKind.u8.wrap (48 + (j : Int) + 1) = 48 + (j : Int) + 1 := by simp [IntKind.wrap, IntKind.bits, IntKind.signed]; omega
          have hcast : ((48 + j : Nat) : Int) = 48 + (j : Int) := by omega
          have hdec : decide ((0 : Int) ≤ cmpZ Y B) = true := decide_eq_true hcz
          rw [hcast]
          clear hge hyl hbl hcast
          generalize cmpZ (Y : Int) (B : Int) = cz at *
          go_wp2_with fail
          refine (HC.out _).mono ?_
          rintro e w9 ⟨rfl, rfl⟩
          go_wp2_with fail
          refine (HSB.out _).mono ?_
          rintro e w10 ⟨rfl, hb10⟩
          have HL3 := Lib.hid (HL2.out.below hb10)
          have HB3 := Lib.hid (HBW2.out.call hb10)
          clear hb10
          go_wp2_with fail
          exact ⟨⟨Y - B, j + 1, rfl, by go_num, by omega, HY2, HL3, HB3⟩, by simp [intOf]; omega⟩
        · have hcz : cmpZ Y B < 0 := by unfold cmpZ; rw [if_pos (by omega)]; decide
          have hdec : decide ((0 : Int) ≤ cmpZ Y B) = false := decide_eq_false (by omega)
          have HQ : Hid (X / B = j ∧ X % B = Y) := Lib.hid (by
            have h := HY.out
            have h2 : X = Y + B * j := by rw [Nat.mul_comm]; exact h.symm
            rw [h2, Nat.add_mul_div_left _ _ HB0.out, Nat.add_mul_mod_self_left, Nat.div_eq_of_lt (by omega), Nat.mod_eq_of_lt (by omega)]
            exact ⟨by omega, rfl⟩)
          have hcz2 : ¬ (0 : Int) ≤ cmpZ Y B := by omega
          clear hge hcz
          generalize cmpZ (Y : Int) (B : Int) = cz at *
          go_wp2_with fail
          refine (HC.out _).mono ?_
          rintro e w9 ⟨rfl, rfl⟩
          have hsrc : Hid (Source (wr.alloc (.cells #[.int .u8 (48 + (j : Int))] 5)) (some ⟨wr.heap.size, 0, none⟩) 1 [.int .u8 (48 + (j : Int))]) := Lib.hid (.inr ⟨_, rfl, World.news_of_block (w := wr.alloc (.cells #[.int .u8 (48 + (j : Int))] 5)) (heap_alloc_new wr _)⟩)
          have hb5 : Below wr.heap.size wr (wr.alloc (.cells #[.int .u8 (48 + (j : Int))] 5)) := (Below.refl _ _).alloc (Nat.le_refl _) _
          have HL5 := Lib.hid (HL2.out.below hb5)
          have HB5 := Lib.hid (HBW2.out.call hb5)
          have HSZ := Lib.hid hb5.size
          have HSZ2 := Lib.hid HBW2.out.size
          have HO2 : Hid (Digs (out ++ [UInt8.ofNat (48 + j)]) ∧ (out ++ [UInt8.ofNat (48 + j)]).length = i + 1 ∧ num (out ++ [UInt8.ofNat (48 + j)]) = num (a.take (i + 1)) / B) := Lib.hid (by
            refine ⟨HO.out.1.append (Digs.one (digOf_dig j (by omega))), by rw [List.length_append, HO.out.2.1]; rfl, ?_⟩
            rw [num_snoc, HO.out.2.2, digOf_val j (by omega), HNEXT.out.1, HQ.out.1])
          have HRN : Hid (Y = num (a.take (i + 1)) % B) := Lib.hid (by rw [HNEXT.out.2, HQ.out.2])
          have HU8 : Hid (u8s (out ++ [UInt8.ofNat (48 + j)]) = u8s out ++ [.int .u8 (48 + (j : Int))]) := Lib.hid (by
            rw [u8s_append]
            show _ ++ [Value.int .u8 ((UInt8.ofNat (48 + j)).toNat : Int)] = _
            rw [ofNat_val (by omega), show ((48 + j : Nat) : Int) = 48 + (j : Int) by omega])
          clear hb5
          go_wp2_with (
               at_builtin
               refine wpList_append_any ?_ (fun g => w.heap.size ≤ g) (.tmp 36) (.tmp 38) 68 ?_ 5 1 1 (.int .u8 0) Tryz.underlying68 infoU8 rfl (by decide) (.slice A2 i c2) i (u8s out) ?_ HL5.out _ 1 1 [.int .u8 (48 + (j : Int))] ?_ rfl hsrc.out ?_ (by omega) (by decide) ?_
               · with_reducible rfl
               · with_reducible rfl
               · rfl
               · rfl
               · intro u hu; simp at hu; subst hu; rfl
               intro v' w6 hl6 hk6
               obtain ⟨A6, c6, rfl, _, _⟩ := hl6.form
               have HL6 : Hid (Lies w6 (fun g => w.heap.size ≤ g) 5 1 (.slice A6 (i + 1) c6) (i + 1) (u8s (out ++ [UInt8.ofNat (48 + j)]))) := Lib.hid (by
                 rw [HU8.out]
                 exact hl6.mono fun y hy => by
                   rcases hy with hy | hy
                   · exact hy
                   · exact Nat.le_trans (Nat.le_trans HSZ2.out HSZ.out) hy)
               have HB6 := Lib.hid (HB5.out.trans (hk6.below HB5.out.size fun y hy => hy.1))
               clear hl6 hk6)
          exact ⟨⟨i + 1, _, A6, c6, Y, by omega, by go_num, rfl, rfl, HRN, HO2, HL6, HB6⟩, by simp [intOf]; omega⟩
    · obtain rfl : i = n := by omega
      have ht : a.take i = a := List.take_of_length_le (by rw [← HN.out]; exact Nat.le_refl _)
      have ho := HO.out
      have hr := HR.out
      rw [ht] at ho hr
      have hh := HL.out.holds
      obtain ⟨A', c', e, _, _, hhold⟩ := hh
      injection e with e1 e2 e3
      rw [← e1] at hhold
      rw [← ho.2.1] at hhold
      have hcv := run_text_bs hhold 68 9 5 c2 Tryz.underlying68 Tryz.underlying5 Tryz.underlying9
      rw [ho.2.1] at hcv
      have HPL : Hid (∀ W, Calls Tryz.prog 59 #[.string (bs out)] W fun e w' => e = .returned (.string (bs (dig (num a / B)))) ∧ W = w') := Lib.hid fun W => by
        have h := plain_ok out W (by rw [ho.2.1]; omega)
        rwa [plain_eq ho.1, ho.2.2] at h
      have HRR := Lib.hid hr
      clear ht ho hr hhold e1 e2 e3
      go_wp2_with fail
      refine (HPL.out _).mono ?_
      rintro e w9 ⟨rfl, rfl⟩
      clear hcv
      go_wp2
      refine bodyPost_ret_by (results_tmp2 rfl _ _ _) rfl ?_
      exact ⟨by rw [← HRR.out]; rfl, HBW.out⟩
end Go.Proofs.YthgjelpmdndceaaGreatDoor
