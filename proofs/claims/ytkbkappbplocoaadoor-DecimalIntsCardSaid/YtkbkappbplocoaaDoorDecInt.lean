/- Layer 7: Whole and Int. -/
import Derived.Test.YtkbkappbplocoaaDoorDecLaw1
namespace Go.Proofs.YtkbkappbplocoaaDoor
open Go.RowKit

def wholeB (d : Dec) : Bool := mayB d && decide (0 ≤ d.exp)
set_option maxHeartbeats 1000000 in
theorem whole_ok (d : Dec) (w : World) (hl : d.digits.length ≤ 9223372036854775806) :
    Calls Tryd.prog 22 #[decV d] w fun e w' => e = .returned (.bool (wholeB d)) ∧ Below w.heap.size w w' := by
  have HCK := Lib.hid (fun W => check_ok d W hl)
  have HN : Hid (mayB d = false → wholeB d = false) := Lib.hid fun h => by unfold wholeB; rw [h]; rfl
  have HY : Hid (mayB d = true → wholeB d = decide (0 ≤ d.exp)) := Lib.hid fun h => by unfold wholeB; rw [h]; rfl
  obtain ⟨neg, l, x⟩ := d
  unfold decV at *
  simp only at HCK HY hl ⊢
  obtain ⟨w1, hw1⟩ : ∃ w1, w1 = w.alloc (.cells #[.bool neg, .string (bs l), .int .i64 x] 23) := ⟨_, rfl⟩
  have HB1 : Hid (Below w.heap.size w w1) := Lib.hid (by subst hw1; exact (Below.refl _ _).alloc (Nat.le_refl _) _)
  have HR1 : Hid (Row w1 w.heap.size 23 #[.bool neg, .string (bs l), .int .i64 x]) := Lib.hid (by subst hw1; exact Row.new _ _ _)
  have c0 := HR1.out.cell (i := 0) (v := .bool neg) rfl
  have c1 := HR1.out.cell (i := 1) (v := .string (bs l)) rfl
  have c2 := HR1.out.cell (i := 2) (v := .int .i64 x) rfl
  go_enter Tryd.func22, Tryd.ntmps22
  go_upto_region 1 with fail
  rw [← hw1]
  clear hw1
  go_wp2_with fail
  refine (HCK.out _).mono ?_
  rintro e w2 ⟨rfl, hb2⟩
  have HB2 := Lib.hid (HB1.out.call hb2)
  have k2 := (HR1.out.call hb2).cell (i := 2) (v := .int .i64 x) rfl
  clear c0 c1 c2 HB1 HR1 hb2 HCK
  cases hm : mayB ⟨neg, l, x⟩ with
  | false =>
    have HX := Lib.hid (HN.out hm)
    rw [checkE_no hm]
    clear hm HN HY
    go_wp2
    go_ret
    exact ⟨by rw [HX.out]; rfl, HB2.out⟩
  | true =>
    have HX := Lib.hid (HY.out hm)
    rw [checkE_yes hm]
    clear hm HN HY
    go_wp2
    go_ret
    exact ⟨by rw [HX.out]; rfl, HB2.out⟩
/-! ### The number itself -/
/-- What is gathered behind i places. -/
def upTo (l : List UInt8) (i : Nat) : Nat := num (l.take i) * 10 ^ (i - l.length)
theorem upTo_dig {l : List UInt8} {i : Nat} (h : i < l.length) : upTo l (i + 1) = 10 * upTo l i + dval (l.getD i 0) := by
  unfold upTo
  rw [show i + 1 - l.length = 0 by omega, show i - l.length = 0 by omega, allDig_take_succ l i h, num_snoc]
  simp
theorem upTo_more {l : List UInt8} {i : Nat} (h : l.length ≤ i) : upTo l (i + 1) = 10 * upTo l i := by
  unfold upTo
  rw [List.take_of_length_le h, List.take_of_length_le (by omega), show i + 1 - l.length = (i - l.length) + 1 by omega, Nat.pow_succ]
  rw [← Nat.mul_assoc, Nat.mul_comm]
theorem upTo_lt {l : List UInt8} (hd : Digs l) (i : Nat) : upTo l i < 10 ^ i := by
  unfold upTo
  have h1 := num_lt (hd.take i)
  rw [List.length_take] at h1
  rcases Nat.lt_or_ge i l.length with h | h
  · rw [Nat.min_eq_left (by omega)] at h1
    rw [show i - l.length = 0 by omega, Nat.pow_zero, Nat.mul_one]
    exact h1
  · rw [Nat.min_eq_right h] at h1
    have e : (10 : Nat) ^ i = 10 ^ l.length * 10 ^ (i - l.length) := by rw [← Nat.pow_add]; congr 1; omega
    rw [e]
    exact Nat.mul_lt_mul_of_pos_right h1 (Nat.pow_pos (by omega))
theorem upTo_all {l : List UInt8} (k : Nat) : upTo l (l.length + k) = num l * 10 ^ k := by
  unfold upTo
  rw [List.take_of_length_le (by omega), Nat.add_sub_cancel_left]
def intR (d : Dec) : Int × Bool :=
  if wholeB d = true ∧ (d.digits.length : Int) + d.exp ≤ 19 then
    (if d.neg = true then (if num d.digits * 10 ^ d.exp.toNat ≤ 9223372036854775808 then (-((num d.digits * 10 ^ d.exp.toNat : Nat) : Int), true) else (0, false))
     else (if num d.digits * 10 ^ d.exp.toNat < 9223372036854775808 then (((num d.digits * 10 ^ d.exp.toNat : Nat) : Int), true) else (0, false)))
  else (0, false)
def IntPost (w : World) (r : Int × Bool) (e : Ending) (w' : World) : Prop := e = .returned (.tuple #[.int .i64 r.1, .bool r.2]) ∧ Below w.heap.size w w'
theorem wrap_neg {u : Nat} (h : u ≤ 9223372036854775808) : IntKind.i64.wrap (IntKind.u64.wrap (-(u : Int))) = -(u : Int) := by
  simp [IntKind.wrap, IntKind.bits, IntKind.signed]; omega
set_option maxRecDepth 100000 in
set_option maxHeartbeats 4000000 in
theorem int_ok (d : Dec) (w : World) (hl : d.digits.length ≤ 9223372036854775806) :
    Calls Tryd.prog 19 #[decV d] w (IntPost w (intR d)) := by
  have HWH := Lib.hid (fun W => whole_ok d W hl)
  have HM : Hid (wholeB d = true → May d ∧ 0 ≤ d.exp) := Lib.hid fun h => by
    unfold wholeB at h
    rw [Bool.and_eq_true, decide_eq_true_iff] at h
    exact ⟨(mayB_iff d).1 h.1, h.2⟩
  obtain ⟨R, hR⟩ : ∃ R, R = intR d := ⟨_, rfl⟩
  rw [← hR]
  have HR := Lib.hid hR
  clear hR
  unfold intR at HR
  obtain ⟨neg, l, x⟩ := d
  unfold decV at *
  simp only at HWH HM HR hl ⊢
  obtain ⟨w1, hw1⟩ : ∃ w1, w1 = w.alloc (.cells #[.bool neg, .string (bs l), .int .i64 x] 23) := ⟨_, rfl⟩
  have HD1 : Hid (Decs w w1 [(w.heap.size, ⟨neg, l, x⟩)]) := Lib.hid (by
    subst hw1
    have h0 : Decs w w [] := ⟨Below.refl _ _, fun i b d hi => by simp at hi⟩
    exact h0.var neg l x)
  have c0 : w1.cell? ⟨w.heap.size, 0, none⟩ = some (.bool neg) := HD1.out.c0 (i := 0) (d := ⟨neg, l, x⟩) rfl
  have c1 : w1.cell? ⟨w.heap.size, 1, none⟩ = some (.string (bs l)) := HD1.out.c1 (i := 0) (d := ⟨neg, l, x⟩) rfl
  have c2 : w1.cell? ⟨w.heap.size, 2, none⟩ = some (.int .i64 x) := HD1.out.c2 (i := 0) (d := ⟨neg, l, x⟩) rfl
  go_enter Tryd.func19, Tryd.ntmps19
  go_upto_region 1 with fail
  rw [← hw1]
  clear hw1
  go_wp2_with fail
  refine (HWH.out _).mono ?_
  rintro e w2 ⟨rfl, hb2⟩
  have HD2 := Lib.hid (HD1.out.call hb2)
  clear c0 c1 c2 HD1 hb2 HWH
  cases hm : wholeB ⟨neg, l, x⟩ with
  | false =>
    have HX : Hid (R = (0, false)) := Lib.hid (by rw [HR.out, hm]; simp)
    clear hm HR HM
    go_wp2
    go_ret2
    exact ⟨by rw [HX.out]; rfl, HD2.out.below⟩
  | true =>
    obtain ⟨hmay, hx0⟩ := HM.out hm
    have hl100 := hmay.len
    have hx1000 := hmay.hi
    simp only at hl100 hx1000
    have HDG := Lib.hid hmay.digs
    simp only at HDG
    have HPL := Lib.hid (fun W => place_ok ⟨neg, l, x⟩ W (by simp only; omega) (by simp only; omega) (by simp only; omega))
    unfold decV at HPL
    simp only at HPL
    obtain ⟨k, rfl⟩ := Int.eq_ofNat_of_zero_le hx0
    obtain ⟨P, hP⟩ : ∃ P : Nat, P = l.length + k := ⟨_, rfl⟩
    have hPi : (l.length : Int) + (k : Int) = (P : Int) := by omega
    rw [hPi] at HPL HR
    rw [hm, Int.toNat_natCast, ← upTo_all, ← hP] at HR
    have HPP := Lib.hid hP
    clear hm HM hmay hx0 hPi hP
    have x0 : w2.cell? ⟨w.heap.size, 0, none⟩ = some (.bool neg) := HD2.out.c0 (i := 0) (d := ⟨neg, l, (k : Int)⟩) rfl
    have x1 : w2.cell? ⟨w.heap.size, 1, none⟩ = some (.string (bs l)) := HD2.out.c1 (i := 0) (d := ⟨neg, l, (k : Int)⟩) rfl
    have x2 : w2.cell? ⟨w.heap.size, 2, none⟩ = some (.int .i64 (k : Int)) := HD2.out.c2 (i := 0) (d := ⟨neg, l, (k : Int)⟩) rfl
    go_wp2_with fail
    refine (HPL.out _).mono ?_
    rintro e w3 ⟨rfl, hb3⟩
    have HD3 := Lib.hid (HD2.out.call hb3)
    clear x0 x1 x2 hb3 HD2
    by_cases hp : P ≤ 19
    rotate_left 1
    · have HX : Hid (R = (0, false)) := Lib.hid (by rw [HR.out, if_neg (by intro h; have := h.2; omega)])
      have d1 : decide ((19 : Int) < (P : Int)) = true := by simp; omega
      clear HR HPL
      go_wp2
      go_ret2
      exact ⟨by rw [HX.out]; rfl, HD3.out.below⟩
    rw [if_pos ⟨trivial, by omega⟩] at HR
    have d1 : decide ((19 : Int) < (P : Int)) = false := by simp; omega
    have x0 : w3.cell? ⟨w.heap.size, 0, none⟩ = some (.bool neg) := HD3.out.c0 (i := 0) (d := ⟨neg, l, (k : Int)⟩) rfl
    have x1 : w3.cell? ⟨w.heap.size, 1, none⟩ = some (.string (bs l)) := HD3.out.c1 (i := 0) (d := ⟨neg, l, (k : Int)⟩) rfl
    have x2 : w3.cell? ⟨w.heap.size, 2, none⟩ = some (.int .i64 (k : Int)) := HD3.out.c2 (i := 0) (d := ⟨neg, l, (k : Int)⟩) rfl
    go_wp2_with fail
    refine (HPL.out _).mono ?_
    rintro e w4 ⟨rfl, hb4⟩
    have HD4 := Lib.hid (HD3.out.call hb4)
    clear x0 x1 x2 hb4 HD3 HPL d1
    have x0 : w4.cell? ⟨w.heap.size, 0, none⟩ = some (.bool neg) := HD4.out.c0 (i := 0) (d := ⟨neg, l, (k : Int)⟩) rfl
    have x1 : w4.cell? ⟨w.heap.size, 1, none⟩ = some (.string (bs l)) := HD4.out.c1 (i := 0) (d := ⟨neg, l, (k : Int)⟩) rfl
    have hs := bs_size l
    have HU := Lib.hid (fun i => upTo_lt HDG.out i)
    obtain ⟨n, hn⟩ : ∃ n, n = l.length := ⟨_, rfl⟩
    have HN := Lib.hid hn
    rw [← hn] at hs hl hl100
    clear hn
    go_wp2_with fail
    go_loop [4, 16] (fun v4 v16 => ∃ i : Nat, i ≤ P ∧ v16 = .int .i64 i ∧ v4 = .int .u64 ((upTo l i : Nat) : Int)) (fun _ v16 => P - (intOf v16).toNat)
    case atStart => exact ⟨0, Nat.zero_le _, rfl, by unfold upTo; simp [num_nil]⟩
    case round =>
      obtain ⟨i, hi, rfl, rfl⟩ := hrel
      by_cases hlt : i < P
      · have hb1 := HU.out (i + 1)
        have hpow : (10 : Nat) ^ (i + 1) ≤ 10 ^ 19 := Nat.pow_le_pow_right (by omega) (by omega)
        have h19 : (10 : Nat) ^ 19 = 10000000000000000000 := by decide
        by_cases hdg : i < n
        · have hst := upTo_dig (l := l) (i := i) (by rw [← HN.out]; exact hdg)
          have hdd : isDig (l.getD i 0) = true := by
            refine HDG.out _ ?_
            rw [List.getD_eq_getElem?_getD, List.getElem?_eq_getElem (by rw [← HN.out]; exact hdg)]
            exact List.getElem_mem _
          have hidx : ∀ W, (Instr.index 9 (.string (bs l)) (.int .i64 (i : Int))).run Tryd.prog W = .ok (.int .u8 (byteAt l i : Int)) W := fun W => run_byte _ Tryd.underlying9 l i (by rw [← HN.out]; exact hdg) W
          have hyl : 48 ≤ byteAt l i := isDig_lo hdd
          have hyh : byteAt l i ≤ 57 := isDig_hi hdd
          have hdv : dval (l.getD i 0) = byteAt l i - 48 := rfl
          rw [hdv] at hst
          obtain ⟨u, hu⟩ : ∃ u, u = upTo l i := ⟨_, rfl⟩
          obtain ⟨u2, hu2⟩ : ∃ u2, u2 = upTo l (i + 1) := ⟨_, rfl⟩
          rw [← hu, ← hu2] at hst
          rw [← hu2] at hb1
          rw [← hu]
          have HU2 := Lib.hid hu2
          obtain ⟨y, hy⟩ : ∃ y, y = byteAt l i := ⟨_, rfl⟩
          rw [← hy] at hidx hyl hyh hst
          obtain ⟨dv, hdv2⟩ : ∃ dv, dv = y - 48 := ⟨_, rfl⟩
          obtain ⟨m1, hm1⟩ : ∃ m1, m1 = 10 * u := ⟨_, rfl⟩
          have f1 : (u : Int) * 10 = (m1 : Int) := by omega
          have f2 : (y : Int) - 48 = (dv : Int) := by omega
          have f3 : (m1 : Int) + (dv : Int) = (u2 : Int) := by omega
          have hm1b : m1 ≤ 10000000000000000000 := by omega
          have hu2b : u2 ≤ 10000000000000000000 := by omega
          have hdvb : dv ≤ 9 := by omega
          clear hst hb1 hpow h19 hdd hdv hu hu2 hy hdv2 hm1 hyl hyh HR HU
          go_wp2
          exact ⟨⟨i + 1, by omega, by go_num, by rw [← HU2.out]⟩, by simp [intOf]; omega⟩
        · have hst := upTo_more (l := l) (i := i) (by rw [← HN.out]; omega)
          obtain ⟨u, hu⟩ : ∃ u, u = upTo l i := ⟨_, rfl⟩
          obtain ⟨u2, hu2⟩ : ∃ u2, u2 = upTo l (i + 1) := ⟨_, rfl⟩
          rw [← hu, ← hu2] at hst
          rw [← hu2] at hb1
          rw [← hu]
          have HU2 := Lib.hid hu2
          have f1 : (u : Int) * 10 = (u2 : Int) := by omega
          have hu2b : u2 ≤ 10000000000000000000 := by omega
          clear hst hb1 hpow h19 hu hu2 HR HU
          go_wp2
          exact ⟨⟨i + 1, by omega, by go_num, by rw [← HU2.out]⟩, by simp [intOf]; omega⟩
      · obtain rfl : i = P := by omega
        obtain ⟨u, hu⟩ : ∃ u, u = upTo l i := ⟨_, rfl⟩
        rw [← hu] at HR ⊢
        clear hu HU
        cases neg
        · rw [if_neg (by decide)] at HR
          by_cases hb : u < 9223372036854775808
          · rw [if_pos hb] at HR
            have e1 : decide ((u : Int) < 9223372036854775808) = true := decide_eq_true (by omega)
            have e2 : IntKind.i64.wrap (u : Int) = u := by simp [IntKind.wrap, IntKind.bits, IntKind.signed]; omega
            clear hb
            go_wp2
            go_ret2
            exact ⟨by rw [HR.out]; rfl, HD4.out.below⟩
          · rw [if_neg hb] at HR
            have e1 : decide ((u : Int) < 9223372036854775808) = false := decide_eq_false (by omega)
            clear hb
            go_wp2
            go_ret2
            exact ⟨by rw [HR.out]; rfl, HD4.out.below⟩
        · rw [if_pos rfl] at HR
          by_cases hb : u ≤ 9223372036854775808
          · rw [if_pos hb] at HR
            have hwn := wrap_neg hb
            have e1 : decide ((u : Int) ≤ 9223372036854775808) = true := decide_eq_true (by omega)
            clear hb
            go_wp2
            go_ret2
            exact ⟨by rw [HR.out, ← hwn]; rfl, HD4.out.below⟩
          · rw [if_neg hb] at HR
            have e1 : decide ((u : Int) ≤ 9223372036854775808) = false := decide_eq_false (by omega)
            clear hb
            go_wp2
            go_ret2
            exact ⟨by rw [HR.out]; rfl, HD4.out.below⟩
end Go.Proofs.YtkbkappbplocoaaDoor
