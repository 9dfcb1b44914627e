/- Layer 7: what the document's answers are made of: digits, Plain, May. -/
import Derived.Test.YtlcbjikiodmlfaaGreatDoorPt26
import Derived.Test.YtlcbjikiodmlfaaGreatDoorPt27
namespace Go.Proofs.YtlcbjikiodmlfaaGreatDoor
open Go.RowKit

theorem drop_getD (l : List UInt8) (j : Nat) (h : j < l.length) : l.drop j = l.getD j 0 :: l.drop (j + 1) := by
  rw [List.drop_eq_getElem_cons h]
  simp [List.getD, List.getElem?_eq_getElem h]
theorem spanT_at {l : List UInt8} {j : Nat} (h : j < l.length) (hd : isDig (l.getD j 0) = true) : (spanT (l.drop j)).length = (spanT (l.drop (j + 1))).length + 1 := by
  rw [drop_getD l j h]; unfold spanT; rw [List.takeWhile_cons, if_pos hd, List.length_cons]
theorem spanT_no {l : List UInt8} {j : Nat} (h : j < l.length) (hd : isDig (l.getD j 0) = false) : (spanT (l.drop j)).length = 0 := by
  rw [drop_getD l j h]; unfold spanT; rw [List.takeWhile_cons, if_neg (by rw [hd]; decide)]; rfl
theorem dig_yes {b : UInt8} (h : isDig b = true) : decide ((48 : Int) ≤ (b.toNat : Int)) = true ∧ decide ((b.toNat : Int) ≤ 57) = true := by
  have := isDig_lo h; have := isDig_hi h; simp; omega
theorem plain_drop {l : List UInt8} {j : Nat} (h : j < l.length) : plain (l.drop j) = if l.getD j 0 = 48 then plain (l.drop (j + 1)) else l.drop j := by
  rw [drop_getD l j h]; rfl
set_option maxHeartbeats 1000000 in
theorem plain_ok (l : List UInt8) (w : World) (hl : l.length ≤ 9223372036854775806) :
    Calls Tryz.prog 49 #[.string (bs l)] w fun e w' => e = .returned (.string (bs (plain l))) ∧ w = w' := by
  have hs := bs_size l
  obtain ⟨n, hn⟩ : ∃ n, n = l.length := ⟨_, rfl⟩
  have HN := Lib.hid hn
  rw [← hn] at hs hl
  clear hn
  have HI : Hid (∀ k : Nat, k < n → ∀ W : World, (Instr.index 9 (.string (bs l)) (.int .i64 (k : Int))).run Tryz.prog W = .ok (.int .u8 (byteAt l k : Int)) W) := Lib.hid fun k hk W => run_byte _ Tryz.underlying9 l k (by rw [← HN.out]; exact hk) W
  have HF : Hid (∀ k : Nat, k ≤ n → ∀ W : World, (Instr.slice 9 (.string (bs l)) (some (.int .i64 (k : Int))) none none).run Tryz.prog W = .ok (.string (bs (l.drop k))) W) := Lib.hid fun k hk W => run_from_bs W _ Tryz.underlying9 l k (by rw [← HN.out]; exact hk)
  go_enter Tryz.func49, Tryz.ntmps49
  generalize hS : bs l = s at *
  clear hS
  go_wp2_with fail
  go_loop [3] (fun v3 => ∃ j : Nat, j ≤ n ∧ v3 = .int .i64 j ∧ Hid (plain l = plain (l.drop j))) (fun v3 => n - (intOf v3).toNat)
  case atStart => exact ⟨0, Nat.zero_le _, rfl, Lib.hid rfl⟩
  case round =>
    obtain ⟨j, hj, rfl, Hj⟩ := hrel
    by_cases hlt : j < n
    · have hidx := HI.out j hlt
      have HP : Hid (plain (l.drop j) = if l.getD j 0 = 48 then plain (l.drop (j + 1)) else l.drop j) := Lib.hid (plain_drop (by rw [← HN.out]; exact hlt))
      have HE : Hid (l.getD j 0 = 48 ↔ byteAt l j = 48) := Lib.hid ⟨fun h => by unfold byteAt; rw [h]; rfl, fun h => UInt8.toNat_inj.1 h⟩
      by_cases hy : byteAt l j = 48
      · have HX : Hid (plain l = plain (l.drop (j + 1))) := Lib.hid (by rw [Hj.out, HP.out, if_pos (HE.out.2 hy)])
        rw [hy] at hidx
        clear HE HP
        go_wp2
        exact ⟨⟨j + 1, by omega, by go_num, HX⟩, by simp [intOf]; omega⟩
      · have HX : Hid (plain l = l.drop j) := Lib.hid (by rw [Hj.out, HP.out, if_neg (fun h => hy (HE.out.1 h))])
        have hf := HF.out j hj
        have d1 : ((byteAt l j : Int) == 48) = false := by rw [beq_eq_false_iff_ne]; omega
        clear HE HP
        generalize byteAt l j = y at *
        go_wp2
        go_ret
        exact ⟨by rw [HX.out]; rfl, rfl⟩
    · obtain rfl : j = n := by omega
      have HX : Hid (plain l = l.drop j) := Lib.hid (by rw [Hj.out, List.drop_of_length_le (by rw [← HN.out]; exact Nat.le_refl _)]; rfl)
      have hf := HF.out j hj
      go_wp2
      go_ret
      exact ⟨by rw [HX.out]; rfl, rfl⟩
theorem mayB_some {neg : Bool} {l : List UInt8} {x : Int} (h0 : l ≠ []) (hd : allDig l = true) : mayB ⟨neg, l, x⟩ = (decide (l.length ≤ 100) && !decide (byteAt l 0 = 48) && !decide (byteAt l (l.length - 1) = 48) && decide (-1000 ≤ x) && decide (x ≤ 1000)) := by
  unfold mayB
  simp only
  rw [if_neg h0, hd]
  have e1 : (l.head? == some 48) = decide (byteAt l 0 = 48) := by rw [Bool.eq_iff_iff]; simp only [beq_iff_eq, decide_eq_true_eq]; exact head_byte h0
  have e2 : (l.getLast? == some 48) = decide (byteAt l (l.length - 1) = 48) := by rw [Bool.eq_iff_iff]; simp only [beq_iff_eq, decide_eq_true_eq]; exact last_byte h0
  rw [e1, e2]
  cases decide (l.length ≤ 100) <;> cases decide (byteAt l 0 = 48) <;> cases decide (byteAt l (l.length - 1) = 48) <;> cases decide (-1000 ≤ x) <;> cases decide (x ≤ 1000) <;> rfl
set_option maxHeartbeats 2000000 in
theorem may_ok (d : Dec) (w : World) (hl : d.digits.length ≤ 9223372036854775806) :
    Calls Tryz.prog 7 #[decV d] w fun e w' => e = .returned (.bool (mayB d)) ∧ Below w.heap.size w w' := by
  obtain ⟨neg, l, x⟩ := d
  unfold decV
  simp only at hl ⊢
  obtain ⟨w1, hw1⟩ : ∃ w1, w1 = w.alloc (.cells #[.bool neg, .string (bs l), .int .i64 x] 24) := ⟨_, rfl⟩
  have HB : Hid (Below w.heap.size w w1) := Lib.hid (by subst hw1; exact (Below.refl _ _).alloc (Nat.le_refl _) _)
  have hr : Row w1 w.heap.size 24 #[.bool neg, .string (bs l), .int .i64 x] := by subst hw1; exact Row.new _ _ _
  have c0 := hr.cell (i := 0) (v := .bool neg) rfl
  have c1 := hr.cell (i := 1) (v := .string (bs l)) rfl
  have c2 := hr.cell (i := 2) (v := .int .i64 x) rfl
  clear hr
  have hs := bs_size l
  have HMS : Hid (l ≠ [] → allDig l = true → mayB ⟨neg, l, x⟩ = (decide (l.length ≤ 100) && !decide (byteAt l 0 = 48) && !decide (byteAt l (l.length - 1) = 48) && decide (-1000 ≤ x) && decide (x ≤ 1000))) := Lib.hid mayB_some
  obtain ⟨n, hn⟩ : ∃ n, n = l.length := ⟨_, rfl⟩
  have HN := Lib.hid hn
  rw [← hn] at hs hl HMS
  clear hn
  have HI : Hid (∀ k : Nat, k < n → ∀ W : World, (Instr.index 9 (.string (bs l)) (.int .i64 (k : Int))).run Tryz.prog W = .ok (.int .u8 (byteAt l k : Int)) W) := Lib.hid fun k hk W => run_byte _ Tryz.underlying9 l k (by rw [← HN.out]; exact hk) W
  go_enter Tryz.func7, Tryz.ntmps7
  go_upto_region 1 with fail
  rw [← hw1]
  clear hw1
  generalize bs l = s at *
  go_wp2_with fail
  go_loop [4] (fun v4 => ∃ j : Nat, j ≤ n ∧ v4 = .int .i64 j ∧ Hid (allDig (l.take j) = true)) (fun v4 => n - (intOf v4).toNat)
  case atStart => exact ⟨0, Nat.zero_le _, rfl, Lib.hid rfl⟩
  case round =>
    obtain ⟨j, hj, rfl, Hj⟩ := hrel
    by_cases hlt : j < n
    · have hidx := HI.out j hlt
      clear HMS
      cases hd : isDig (l.getD j 0) with
      | true =>
        have HX : Hid (allDig (l.take (j + 1)) = true) := Lib.hid (by rw [allDig_take_succ l j (by rw [← HN.out]; exact hlt), allDig_snoc, Hj.out, hd]; rfl)
        have hy : 48 ≤ byteAt l j ∧ byteAt l j ≤ 57 := ⟨isDig_lo hd, isDig_hi hd⟩
        clear hd
        generalize byteAt l j = y at *
        have d1 : decide ((y : Int) < 48) = false := by simp; omega
        have d2 : decide ((57 : Int) < (y : Int)) = false := by simp; omega
        go_wp2
        exact ⟨⟨j + 1, by omega, by go_num, HX⟩, by simp [intOf]; omega⟩
      | false =>
        have HX : Hid (mayB ⟨neg, l, x⟩ = false) := Lib.hid (mayB_no fun m => by have h1 := allDig_iff.2 m.digs; have h2 := allDig_false (l := l) (by rw [← HN.out]; exact hlt) hd; exact absurd (h2.symm.trans h1) (by decide))
        have hy : byteAt l j < 48 ∨ 57 < byteAt l j := isDig_not hd
        clear hd
        generalize byteAt l j = y at *
        rcases hy with hy | hy
        · have d1 : decide ((y : Int) < 48) = true := by simp; omega
          go_wp2
          go_ret
          exact ⟨by rw [HX.out]; rfl, HB.out⟩
        · have d1 : decide ((y : Int) < 48) = false := by simp; omega
          have d2 : decide ((57 : Int) < (y : Int)) = true := by simp; omega
          go_wp2
          go_ret
          exact ⟨by rw [HX.out]; rfl, HB.out⟩
    · obtain rfl : j = n := by omega
      have hall : allDig l = true := by rw [← Hj.out, HN.out, List.take_length]
      rcases Nat.eq_zero_or_pos j with h0 | h0
      · subst h0
        have hl0 : l = [] := List.eq_nil_of_length_eq_zero HN.out.symm
        have HX : Hid (mayB ⟨neg, l, x⟩ = (!neg && decide (x = 0))) := Lib.hid (by unfold mayB; simp [hl0])
        clear HMS hl0 hall
        cases neg
        · by_cases hx : x = 0
          · subst hx
            have HY : Hid (mayB ⟨false, l, 0⟩ = true) := Lib.hid (by rw [HX.out]; rfl)
            go_wp2
            go_ret
            exact ⟨by rw [HY.out]; rfl, HB.out⟩
          · have d1 : (x == 0) = false := by rw [beq_eq_false_iff_ne]; exact hx
            have HY : Hid (mayB ⟨false, l, x⟩ = false) := Lib.hid (by rw [HX.out]; simp [hx])
            go_wp2
            go_ret
            exact ⟨by rw [HY.out]; rfl, HB.out⟩
        · have HY : Hid (mayB ⟨true, l, x⟩ = false) := Lib.hid (by rw [HX.out]; rfl)
          go_wp2
          go_ret
          exact ⟨by rw [HY.out]; rfl, HB.out⟩
      · have hn0 : ((j : Int) == 0) = false := by rw [beq_eq_false_iff_ne]; omega
        have HX := Lib.hid (HMS.out (by intro e; have := HN.out; rw [e] at this; simp at this; omega) hall)
        have i0 : ∀ W : World, (Instr.index 9 (.string s) (.int .i64 0)).run Tryz.prog W = .ok (.int .u8 (byteAt l 0 : Int)) W := HI.out 0 h0
        have i1 := HI.out (j - 1) (by omega)
        rw [show ((j - 1 : Nat) : Int) = (j : Int) - 1 by omega] at i1
        clear HMS HI hall
        generalize byteAt l 0 = y at *
        generalize byteAt l (j - 1) = z at *
        by_cases q1 : j ≤ 100
        rotate_left 1
        · have HY : Hid (mayB ⟨neg, l, x⟩ = false) := Lib.hid (by rw [HX.out, decide_eq_false q1]; rfl)
          have d1 : decide ((j : Int) ≤ 100) = false := by simp; omega
          go_wp2
          go_ret
          exact ⟨by rw [HY.out]; rfl, HB.out⟩
        have d1 : decide ((j : Int) ≤ 100) = true := by simp; omega
        by_cases q2 : y = 48
        · have HY : Hid (mayB ⟨neg, l, x⟩ = false) := Lib.hid (by rw [HX.out, decide_eq_true q2]; simp)
          subst q2
          go_wp2
          go_ret
          exact ⟨by rw [HY.out]; rfl, HB.out⟩
        have d2 : ((y : Int) == 48) = false := by rw [beq_eq_false_iff_ne]; omega
        have d5 : ((y : Int) != 48) = true := by rw [bne, d2]; rfl
        by_cases q3 : z = 48
        · have HY : Hid (mayB ⟨neg, l, x⟩ = false) := Lib.hid (by rw [HX.out, decide_eq_true q3]; simp)
          subst q3
          go_wp2
          go_ret
          exact ⟨by rw [HY.out]; rfl, HB.out⟩
        have d3 : ((z : Int) == 48) = false := by rw [beq_eq_false_iff_ne]; omega
        have d6 : ((z : Int) != 48) = true := by rw [bne, d3]; rfl
        by_cases q4 : -1000 ≤ x
        rotate_left 1
        · have HY : Hid (mayB ⟨neg, l, x⟩ = false) := Lib.hid (by rw [HX.out, decide_eq_false q4]; simp)
          have d4 : decide ((-1000 : Int) ≤ x) = false := decide_eq_false q4
          go_wp2
          go_ret
          exact ⟨by rw [HY.out]; rfl, HB.out⟩
        have d4 : decide ((-1000 : Int) ≤ x) = true := decide_eq_true q4
        have HY : Hid (mayB ⟨neg, l, x⟩ = decide (x ≤ 1000)) := Lib.hid (by rw [HX.out, d4, decide_eq_false q2, decide_eq_false q3, decide_eq_true q1]; simp)
        go_wp2
        go_ret
        exact ⟨by rw [HY.out]; rfl, HB.out⟩
end Go.Proofs.YtlcbjikiodmlfaaGreatDoor
