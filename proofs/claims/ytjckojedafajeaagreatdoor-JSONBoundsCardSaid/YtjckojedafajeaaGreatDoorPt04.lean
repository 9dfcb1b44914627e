/- Layer 7: Check. -/
import Derived.Test.YtjckojedafajeaaGreatDoorPt03
import Derived.Outline
namespace Go.Proofs.YtjckojedafajeaaGreatDoor
open Go.RowKit

theorem allDig_take_succ (l : List UInt8) (k : Nat) (hk : k < l.length) : l.take (k + 1) = l.take k ++ [l.getD k 0] := by
  rw [List.take_add_one, List.getElem?_eq_getElem hk, Option.toList_some]
  simp [List.getD, List.getElem?_eq_getElem hk]
theorem allDig_snoc (l : List UInt8) (b : UInt8) : allDig (l ++ [b]) = (allDig l && isDig b) := by simp [allDig]
theorem allDig_false {l : List UInt8} {k : Nat} (hk : k < l.length) (h : isDig (l.getD k 0) = false) : allDig l = false := by
  cases ha : allDig l with
  | false => rfl
  | true =>
    have hd := allDig_iff.1 ha
    have hm : l.getD k 0 ∈ l := by
      simp only [List.getD, List.getElem?_eq_getElem hk, Option.getD_some]
      exact List.getElem_mem _
    rw [hd _ hm] at h; cases h
/-- What Check tells. -/
def checkE (d : Dec) : Nat := if mayB d then 0 else 2
theorem checkE_yes {d : Dec} (h : mayB d = true) : checkE d = 0 := by unfold checkE; rw [h]; rfl
theorem checkE_no {d : Dec} (h : mayB d = false) : checkE d = 2 := by unfold checkE; rw [h]; rfl
theorem mayB_no {d : Dec} (h : ¬ May d) : mayB d = false := by
  cases hb : mayB d with
  | false => rfl
  | true => exact absurd ((mayB_iff d).1 hb) h
theorem checkE_lt (d : Dec) : checkE d = 0 ∨ checkE d = 2 := by unfold checkE; split <;> simp
theorem isDigit_at (l : List UInt8) (k : Nat) (w : World) : Calls Tryz.prog 99 #[.int .u8 (byteAt l k : Int)] w fun e w' => e = .returned (.bool (isDig (l.getD k 0))) ∧ w = w' :=
  isDigit_ok (l.getD k 0) w
theorem head_byte {l : List UInt8} (h : l ≠ []) : l.head? = some 48 ↔ byteAt l 0 = 48 := by
  cases l with
  | nil => exact absurd rfl h
  | cons b r =>
    show some b = some 48 ↔ b.toNat = 48
    constructor
    · intro e; injection e with e; rw [e]; rfl
    · intro e; rw [show b = 48 from UInt8.toNat_inj.1 e]
theorem last_byte {l : List UInt8} (h : l ≠ []) : l.getLast? = some 48 ↔ byteAt l (l.length - 1) = 48 := by
  obtain ⟨r, b, rfl⟩ : ∃ r b, l = r ++ [b] := ⟨l.dropLast, l.getLast h, (List.dropLast_concat_getLast h).symm⟩
  unfold byteAt
  simp only [List.getLast?_append, List.getLast?_singleton, Option.some_or, List.length_append, List.length_singleton, Nat.add_sub_cancel, List.getD, List.getElem?_append_right (Nat.le_refl _), Nat.sub_self, List.getElem?_cons_zero, Option.getD_some]
  constructor
  · intro e; injection e with e; rw [e]; rfl
  · intro e; rw [show b = 48 from UInt8.toNat_inj.1 e]

set_option maxHeartbeats 2000000 in
theorem check_nil (neg : Bool) (e : Int) (w : World) :
    Calls Tryz.prog 75 #[.agg #[.bool neg, .string (bs []), .int .i64 e]] w fun x w' => x = .returned (.int .i64 (checkE ⟨neg, [], e⟩ : Nat)) ∧ Below w.heap.size w w' := by
  have hb : Below w.heap.size w (w.alloc (.cells #[.bool neg, .string (bs []), .int .i64 e] 26)) := (Below.refl _ _).alloc (Nat.le_refl _) _
  have hr : Row (w.alloc (.cells #[.bool neg, .string (bs []), .int .i64 e] 26)) w.heap.size 26 #[.bool neg, .string (bs []), .int .i64 e] := Row.new _ _ _
  have c0 := hr.cell (i := 0) (v := .bool neg) rfl
  have c1 := hr.cell (i := 1) (v := .string (bs [])) rfl
  have c2 := hr.cell (i := 2) (v := .int .i64 e) rfl
  have HB := Lib.hid hb
  have hs0 : (bs []).size = 0 := rfl
  have ht0 : (bs []).toList = [] := bs_toList []
  clear hb hr
  by_cases h : neg = false ∧ e = 0
  · obtain ⟨rfl, rfl⟩ := h
    rw [checkE_yes (by rfl)]
    go_enter Tryz.func75, Tryz.ntmps75
    go_wp2
    go_ret
    exact ⟨rfl, HB.out⟩
  · have hn : mayB ⟨neg, [], e⟩ = false := by
      unfold mayB
      cases neg
      · simp; intro e0; exact h ⟨rfl, e0⟩
      · rfl
    rw [checkE_no hn]
    clear hn
    cases neg
    · have he : ¬ e = 0 := fun e0 => h ⟨rfl, e0⟩
      clear h
      go_enter Tryz.func75, Tryz.ntmps75
      go_wp2
      go_ret
      exact ⟨rfl, HB.out⟩
    · clear h
      go_enter Tryz.func75, Tryz.ntmps75
      go_wp2
      go_ret
      exact ⟨rfl, HB.out⟩

set_option maxHeartbeats 4000000 in
theorem check_some (neg : Bool) (l : List UInt8) (e : Int) (w : World) (hl : ¬ l = []) (hn : l.length ≤ 9223372036854775806) :
    Calls Tryz.prog 75 #[.agg #[.bool neg, .string (bs l), .int .i64 e]] w fun x w' => x = .returned (.int .i64 (checkE ⟨neg, l, e⟩ : Nat)) ∧ Below w.heap.size w w' := by
  obtain ⟨w0, hw0⟩ : ∃ w0, w0 = w.alloc (.cells #[.bool neg, .string (bs l), .int .i64 e] 26) := ⟨_, rfl⟩
  have hb : Below w.heap.size w w0 := by subst hw0; exact (Below.refl _ _).alloc (Nat.le_refl _) _
  have hr : Row w0 w.heap.size 26 #[.bool neg, .string (bs l), .int .i64 e] := by subst hw0; exact Row.new _ _ _
  have c0 := hr.cell (i := 0) (v := .bool neg) rfl
  have c1 := hr.cell (i := 1) (v := .string (bs l)) rfl
  have c2 := hr.cell (i := 2) (v := .int .i64 e) rfl
  have hs := bs_size l
  have HB := Lib.hid hb
  clear hb hr
  have hpos : 0 < l.length := List.length_pos_iff.2 hl
  have HL := Lib.hid hl
  have hE : ¬ (bs l).toList = [] := by rw [bs_toList]; exact hl
  have HI : ∀ k : Nat, k < l.length → ∀ W : World, (Instr.index 9 (.string (bs l)) (.int .i64 (k : Int))).run Tryz.prog W = .ok (.int .u8 (byteAt l k : Int)) W := fun k hk W => run_byte _ Tryz.underlying9 l k hk W
  have HII := Lib.hid HI
  clear HI hl
  have hz : ((l.length : Int) == 0) = false := by rw [beq_eq_false_iff_ne]; omega
  by_cases hm : l.length ≤ 100 ∧ -1000 ≤ e ∧ e ≤ 1000
  · obtain ⟨h1, h2, h3⟩ := hm
    go_enter Tryz.func75, Tryz.ntmps75
    go_upto_region 1 with fail
    rw [← hw0]
    generalize bs l = s at *
    obtain ⟨n, hn'⟩ : ∃ n, n = l.length := ⟨_, rfl⟩
    have HN := Lib.hid hn'
    rw [← hn'] at hs hn hpos hz h1
    clear hn'
    have hd1 : decide ((100 : Int) < (n : Int)) = false := by simp; omega
    have hd2 : decide (e < (-1000 : Int)) = false := by simp; omega
    have hd3 : decide ((1000 : Int) < e) = false := by simp; omega
    clear hw0
    go_wp2_with fail
    go_loop [28] (fun v28 => ∃ k : Nat, k ≤ n ∧ v28 = .int .i64 k ∧ Hid (allDig (l.take k) = true)) (fun v28 => n - (intOf v28).toNat)
    case atStart => exact ⟨0, Nat.zero_le _, rfl, Lib.hid rfl⟩
    case round =>
      obtain ⟨k, hk, rfl, Hk⟩ := hrel
      by_cases hlt : k < n
      · have hidx := HII.out k (by rw [← HN.out]; exact hlt)
        have HT : Hid (allDig (l.take (k + 1)) = isDig (l.getD k 0)) := Lib.hid (by rw [allDig_take_succ l k (by rw [← HN.out]; exact hlt), allDig_snoc, Hk.out, Bool.true_and])
        have HF : Hid (isDig (l.getD k 0) = false → checkE ⟨neg, l, e⟩ = 2) := Lib.hid (fun h => checkE_no (mayB_no fun m => by have h1 := allDig_iff.2 m.digs; have h2 := allDig_false (l := l) (by rw [← HN.out]; exact hlt) h; exact absurd (h2.symm.trans h1) (by decide)))
        clear HII
        go_wp2_with fail
        refine (isDigit_at l k _).mono ?_
        rintro x w1 ⟨rfl, rfl⟩
        cases hd : isDig (l.getD k 0) with
        | false =>
          have HE := Lib.hid (HF.out hd)
          clear HF HT hd
          go_wp2
          go_ret
          exact ⟨congrArg (fun n : Nat => Ending.returned (.int .i64 (n : Int))) HE.out.symm, HB.out⟩
        | true =>
          have HT2 : Hid (allDig (l.take (k + 1)) = true) := Lib.hid (by rw [HT.out, hd])
          clear HF HT hd
          go_wp2
          go_round
          case rel => exact ⟨k + 1, by omega, by go_num, HT2⟩
          case measure => simp [intOf]; omega
      · obtain rfl : k = n := by omega
        have i0 : ∀ W : World, (Instr.index 9 (.string s) (.int .i64 0)).run Tryz.prog W = .ok (.int .u8 (byteAt l 0 : Int)) W := HII.out 0 (by rw [← HN.out]; exact hpos)
        have i1 := HII.out (k - 1) (by rw [← HN.out]; omega)
        have HA : Hid (allDig l = true) := Lib.hid (by rw [← Hk.out, HN.out, List.take_length])
        by_cases e0 : byteAt l 0 = 48
        · have HE := Lib.hid (checkE_no (d := ⟨neg, l, e⟩) (mayB_no fun m => m.head ((head_byte HL.out).2 e0)))
          have i00 : ∀ W : World, (Instr.index 9 (.string s) (.int .i64 0)).run Tryz.prog W = .ok (.int .u8 48) W := by intro W; rw [i0 W, e0]; rfl
          clear i0
          clear e0 HII HA Hk
          go_wp2
          go_ret
          exact ⟨congrArg (fun n : Nat => Ending.returned (.int .i64 (n : Int))) HE.out.symm, HB.out⟩
        · obtain ⟨m, rfl⟩ : ∃ m, k = m + 1 := ⟨k - 1, by omega⟩
          rw [Nat.add_sub_cancel] at i1
          by_cases e1 : byteAt l m = 48
          · have HE := Lib.hid (checkE_no (d := ⟨neg, l, e⟩) (mayB_no fun mm => mm.last ((last_byte HL.out).2 (by rw [← HN.out]; exact e1))))
            have i11 : ∀ W : World, (Instr.index 9 (.string s) (.int .i64 (m : Int))).run Tryz.prog W = .ok (.int .u8 48) W := by intro W; rw [i1 W, e1]; rfl
            clear i1
            have q0 : ((byteAt l 0 : Int) == 48) = false := by simp; omega
            clear e1 HII HA Hk e0
            generalize byteAt l 0 = b0 at *
            go_wp2
            go_ret
            exact ⟨congrArg (fun n : Nat => Ending.returned (.int .i64 (n : Int))) HE.out.symm, HB.out⟩
          · have HE := Lib.hid (checkE_yes (d := ⟨neg, l, e⟩) ((mayB_iff _).2 ⟨allDig_iff.1 HA.out, by show l.length ≤ 100; rw [← HN.out]; exact h1, fun x => e0 ((head_byte HL.out).1 x), fun x => e1 (by have := (last_byte HL.out).1 x; rwa [← HN.out] at this), h2, h3, fun x => absurd x HL.out⟩))
            have q0 : ((byteAt l 0 : Int) == 48) = false := by simp; omega
            have q1 : ((byteAt l m : Int) == 48) = false := by simp; omega
            clear e1 HII HA Hk e0
            generalize byteAt l 0 = b0 at *
            generalize byteAt l m = b1 at *
            go_wp2
            go_ret
            exact ⟨congrArg (fun n : Nat => Ending.returned (.int .i64 (n : Int))) HE.out.symm, HB.out⟩
  · have HM : Hid (checkE ⟨neg, l, e⟩ = 2) := Lib.hid (checkE_no (mayB_no fun m => hm ⟨m.len, m.lo, m.hi⟩))
    rw [HM.out]
    go_enter Tryz.func75, Tryz.ntmps75
    go_upto_region 1 with fail
    rw [← hw0]
    generalize bs l = s at *
    generalize l.length = n at *
    clear hw0
    by_cases h1 : (100 : Int) < (n : Int)
    · have hd1 : decide ((100 : Int) < (n : Int)) = true := by simp; omega
      clear HM hm HII
      go_wp2
      go_ret
      exact ⟨rfl, HB.out⟩
    · have hd1 : decide ((100 : Int) < (n : Int)) = false := by simp; omega
      by_cases h2 : e < -1000
      · have hd2 : decide (e < (-1000 : Int)) = true := by simp; omega
        clear HM hm HII
        go_wp2
        go_ret
        exact ⟨rfl, HB.out⟩
      · have hd2 : decide (e < (-1000 : Int)) = false := by simp; omega
        have hd3 : decide ((1000 : Int) < e) = true := by simp; omega
        clear HM hm HII
        go_wp2
        go_ret
        exact ⟨rfl, HB.out⟩
theorem check_ok (d : Dec) (w : World) (hn : d.digits.length ≤ 9223372036854775806) :
    Calls Tryz.prog 75 #[decV d] w fun e w' => e = .returned (.int .i64 (checkE d : Nat)) ∧ Below w.heap.size w w' := by
  obtain ⟨neg, l, e⟩ := d
  by_cases hl : l = []
  · subst hl; exact check_nil neg e w
  · exact check_some neg l e w hl hn
end Go.Proofs.YtjckojedafajeaaGreatDoor
