/- Layer 7: the document's Parse, whole. -/
import Derived.Test.YtkbkappbplocoaaDoorDecRefR
namespace Go.Proofs.YtkbkappbplocoaaDoor
open Go.RowKit

theorem run_sub_bs {P : Program} (W : World) (t : TypeId) (ht : P.underlying t = some .string) (l : List UInt8) (i j : Nat) (hij : i ≤ j) (hj : j ≤ l.length) :
    (Instr.slice t (.string (bs l)) (some (.int .i64 (i : Int))) (some (.int .i64 (j : Int))) none).run P W = .ok (.string (bs ((l.take j).drop i))) W := by
  simp [Instr.slice, run_underlying ht, Instr.sliceBounds, run_sliceBound, bs_size, (by omega : (i : Int) ≤ (j : Int)), (by omega : (j : Int) ≤ (l.length : Int)), bs_extract]
set_option maxRecDepth 1000000 in
set_option maxHeartbeats 4000000 in
theorem suf13 (w W : World) (l all : List UInt8) (k : Nat) (neg : Bool) (R : Dec × Nat) (hS : RpS w W) (hk : k ≤ l.length) (hl : l.length ≤ 1000) (hd : Digs all) (ha : all.length ≤ k) (hR : R = stepB neg all (l.drop k)) (h : Nat → Value) :
    Code.wp Tryd.prog (rpSuf 13) (bodyPost Tryd.prog Tryd.f12 (Told w R.1 R.2)) ⟨(frP h (bs l) (.pointer (some ⟨w.heap.size, 0, none⟩)) k neg (.string (bs all)) (.int .i64 0)).toArray, []⟩ W := by
  have hs := bs_size l
  conv => arg 2; whnf
  dsimp only [frP]
  by_cases hlt : k < l.length ∧ byteAt l k = 46
  rotate_left 1
  · have hn : ¬ (l.drop k).head? = some 46 := by
      by_cases h9 : k < l.length
      · rw [drop_head h9]
        simp only [Option.some.injEq, byte_is]
        exact fun h8 => hlt ⟨h9, h8⟩
      · rw [List.drop_of_length_le (by omega)]; simp
    rw [stepB_no hn] at hR
    go_upto_region 13 with fail
    rename_i K2 hK2 K1 hK1
    have HK2 := Lib.hid hK2
    clear hK2
    by_cases h9 : k < l.length
    · have hidx : ∀ W, (Instr.index 9 (.string (bs l)) (.int .i64 (k : Int))).run Tryd.prog W = .ok (.int .u8 (byteAt l k : Int)) W := fun W => run_byte _ Tryd.underlying9 l k h9 W
      have e1 : ((byteAt l k : Int) == 46) = false := by rw [beq_eq_false_iff_ne]; omega
      clear hlt
      generalize byteAt l k = y at *
      go_wp2_with fail
      refine HK2.out _ _ ?_
      refine wp_code (rpSuf 20) (by kernel_rfl) ?_
      refine frP_end (K := fun a w => Code.wp Tryd.prog (rpSuf 20) _ a w) (bs l) (.pointer (some ⟨w.heap.size, 0, none⟩)) k neg (.string (bs all)) (.int .i64 (-((0 : Nat) : Int))) ?_ ?_
      · kernel_rfl
      · exact suf20 w W l all k 0 neg R hS hk hl hd (by omega) (by omega) hR _
    · clear hlt
      go_wp2_with fail
      refine HK2.out _ _ ?_
      refine wp_code (rpSuf 20) (by kernel_rfl) ?_
      refine frP_end (K := fun a w => Code.wp Tryd.prog (rpSuf 20) _ a w) (bs l) (.pointer (some ⟨w.heap.size, 0, none⟩)) k neg (.string (bs all)) (.int .i64 (-((0 : Nat) : Int))) ?_ ?_
      · kernel_rfl
      · exact suf20 w W l all k 0 neg R hS hk hl hd (by omega) (by omega) hR _
  obtain ⟨hlt, hy⟩ := hlt
  have hidx : ∀ W, (Instr.index 9 (.string (bs l)) (.int .i64 (k : Int))).run Tryd.prog W = .ok (.int .u8 (byteAt l k : Int)) W := fun W => run_byte _ Tryd.underlying9 l k hlt W
  rw [hy] at hidx
  have hh : (l.drop k).head? = some 46 := by rw [drop_head hlt, (byte_is 46).2 hy]
  obtain ⟨k1, hk1⟩ : ∃ k1, k1 = k + 1 := ⟨_, rfl⟩
  have hk1i : (k : Int) + 1 = (k1 : Int) := by omega
  have hk1l : k1 ≤ l.length := by omega
  have hd1 : (l.drop k).drop 1 = l.drop k1 := by rw [List.drop_drop, hk1]
  have HDG := Lib.hid (fun W => digits_ok l k1 W hk1l (by omega))
  have HSP := Lib.hid (span_le l hk1l)
  have HSL := Lib.hid (span_slice l k1)
  have HB := Lib.hid (spanT_digs (l.drop k1))
  have HPN : Hid (spanT (l.drop k1) = [] → R = (Dec.zero, 170)) := Lib.hid fun h9 => by rw [hR, stepB_none hh (by rw [hd1]; exact h9)]
  have HPS : Hid (spanT (l.drop k1) ≠ [] → R = stepP neg (all ++ spanT (l.drop k1)) (spanT (l.drop k1)).length (l.drop (k1 + (spanT (l.drop k1)).length))) := Lib.hid fun h9 => by
    rw [hR, stepB_some hh (by rw [hd1]; exact h9), hd1, span_drop]
  clear hd1 hh hy hk1
  obtain ⟨B, hB⟩ : ∃ B, B = spanT (l.drop k1) := ⟨_, rfl⟩
  rw [← hB] at HDG HSP HSL HB HPN HPS
  clear hB hR
  obtain ⟨ee, hee⟩ : ∃ ee, ee = k1 + B.length := ⟨_, rfl⟩
  rw [← hee] at HDG HSP HSL HPS
  have HEE := Lib.hid hee
  clear hee
  go_upto_region 13 with fail
  rename_i K2 hK2 K1 hK1
  have HK2 := Lib.hid hK2
  clear hK2
  go_wp2_with fail
  refine (HDG.out _).mono ?_
  rintro e w2 ⟨rfl, rfl⟩
  by_cases hp : B = []
  · have HR := Lib.hid (HPN.out hp)
    have e0 : ee = k1 := by rw [HEE.out, hp]; rfl
    subst e0
    have y0 := hS.row.cell (i := 0) (v := .bool false) rfl
    have y1 := hS.row.cell (i := 1) (v := .string ⟨#[]⟩) rfl
    have y2 := hS.row.cell (i := 2) (v := .int .i64 0) rfl
    have g0 := hS.row.free 0
    have g1 := hS.row.free 1
    have g2 := hS.row.free 2
    clear HEE HPN HPS HSP HSL HB hp HDG
    go_wp2_with fail
    have hrow := ((hS.row.set_ 0 (.bool false)).set_ 1 (.string ⟨#[]⟩)).set_ 2 (.int .i64 0)
    refine bodyPost_ret_by (results_row_tmp rfl _ _ w.heap.size #[.bool false, .string ⟨#[]⟩, .int .i64 0] rfl (load_dec hrow rfl)) rfl ?_
    exact ⟨by rw [HR.out]; rfl, ((hS.below.setCell (p := ⟨w.heap.size, 0, none⟩) (Nat.le_refl _) _).setCell (p := ⟨w.heap.size, 1, none⟩) (Nat.le_refl _) _).setCell (p := ⟨w.heap.size, 2, none⟩) (Nat.le_refl _) _⟩
  · have hpl : 0 < B.length := List.length_pos_iff.2 hp
    have hee := HEE.out
    have hsp := HSP.out
    have hne : ((ee : Int) == (k1 : Int)) = false := by rw [beq_eq_false_iff_ne]; omega
    have hsub : ∀ W, (Instr.slice 9 (.string (bs l)) (some (.int .i64 (k1 : Int))) (some (.int .i64 (ee : Int))) none).run Tryd.prog W = .ok (.string (bs B)) W := fun W => by
      have := run_sub_bs (P := Tryd.prog) W 9 Tryd.underlying9 l k1 ee (by omega) hsp
      rwa [HSL.out] at this
    have hadd : ∀ W, (Op.stringOp .add (bs all) (bs B)).run Tryd.prog W = .ok (.string (bs (all ++ B))) W := fun W => run_add_bs W _ _ (by omega)
    obtain ⟨m, hm⟩ : ∃ m, m = B.length := ⟨_, rfl⟩
    have HS9 := Lib.hid (suf20 w W l (all ++ B) ee m neg R hS hsp hl (hd.append HB.out) (by rw [List.length_append]; omega) (by omega) (by rw [hm]; exact HPS.out hp))
    have f1 : (ee : Int) - (k : Int) = ((m + 1 : Nat) : Int) := by omega
    obtain ⟨m1, hm1⟩ : ∃ m1, m1 = m + 1 := ⟨_, rfl⟩
    rw [← hm1] at f1
    have f2 : (m1 : Int) - 1 = (m : Int) := by omega
    have hmb : m ≤ 1000 := by omega
    have hm1b : m1 ≤ 1001 := by omega
    have hwm : IntKind.i64.wrap (-(m : Int)) = -(m : Int) := by simp [IntKind.wrap, IntKind.bits, IntKind.signed]; omega
    generalize all ++ B = C at *
    clear hee HEE HPN HPS HSP HSL HB hp HDG hm hm1 hpl
    go_wp2_with fail
    refine HK2.out _ _ ?_
    refine wp_code (rpSuf 20) (by kernel_rfl) ?_
    refine frP_end (K := fun a w => Code.wp Tryd.prog (rpSuf 20) _ a w) (bs l) (.pointer (some ⟨w.heap.size, 0, none⟩)) ee neg (.string (bs C)) (.int .i64 (-(m : Int))) ?_ ?_
    · kernel_rfl
    · exact HS9.out _
noncomputable def rp7R : Code := match rpSuf 7 with | .seq r _ => r | _ => .skip
noncomputable def rp7C : Code := match rpSuf 7 with | .seq _ c => c | _ => .skip
set_option maxRecDepth 1000000 in
set_option maxHeartbeats 4000000 in
theorem rp7 (w W : World) (l : List UInt8) (k : Nat) (neg : Bool) (R : Dec × Nat) (hS : RpS w W) (hk : k ≤ l.length) (hl : l.length ≤ 1000) (hR : R = stepA neg (l.drop k)) (h : Nat → Value) (v7 v8 : Value)
    {c : Code} (hc : c = rp7C) {K : Act → World → Prop} (hKc : ∀ a w', c.wp Tryd.prog (bodyPost Tryd.prog Tryd.f12 (Told w R.1 R.2)) a w' → K a w') :
    Code.wp Tryd.prog rp7R (Exit.then K (bodyPost Tryd.prog Tryd.f12 (Told w R.1 R.2))) ⟨(frP h (bs l) (.pointer (some ⟨w.heap.size, 0, none⟩)) k neg v7 v8).toArray, []⟩ W := by
  subst hc
  have HKC := Lib.hid hKc
  clear hKc
  have hs := bs_size l
  have HDG := Lib.hid (fun W => digits_ok l k W hk (by omega))
  have HSP := Lib.hid (span_le l hk)
  have HSL := Lib.hid (span_slice l k)
  have HB := Lib.hid (spanT_digs (l.drop k))
  have HPN : Hid (spanT (l.drop k) = [] → R = (Dec.zero, 170)) := Lib.hid fun h9 => by rw [hR, stepA_none h9]
  have HPL : Hid (k < l.length → byteAt l k = 48 → 1 < (spanT (l.drop k)).length → R = (Dec.zero, 170)) := Lib.hid fun h9 h8 h7 => by rw [hR, stepA_long (by rw [drop_head h9, (byte_is 48).2 h8]) h7]
  have HPS : Hid (spanT (l.drop k) ≠ [] → (k < l.length → byteAt l k = 48 → ¬ 1 < (spanT (l.drop k)).length) → R = stepB neg (spanT (l.drop k)) (l.drop (k + (spanT (l.drop k)).length))) := Lib.hid fun h9 h8 => by
    rw [hR, stepA_some h9 (by
      rintro ⟨h7, h6⟩
      by_cases h5 : k < l.length
      · rw [drop_head h5] at h7
        injection h7 with h7
        exact h8 h5 ((byte_is 48).1 h7) h6
      · rw [List.drop_of_length_le (by omega)] at h7; simp at h7), span_drop]
  obtain ⟨B, hB⟩ : ∃ B, B = spanT (l.drop k) := ⟨_, rfl⟩
  rw [← hB] at HDG HSP HSL HB HPN HPS HPL
  clear hB hR
  obtain ⟨ee, hee⟩ : ∃ ee, ee = k + B.length := ⟨_, rfl⟩
  rw [← hee] at HDG HSP HSL HPS
  have HEE := Lib.hid hee
  clear hee
  conv => arg 2; whnf
  dsimp only [frP]
  go_wp2_with fail
  refine (HDG.out _).mono ?_
  rintro e w2 ⟨rfl, rfl⟩
  clear HDG
  go_wp2_with fail
  refine HKC.out _ _ ?_
  conv => arg 2; whnf
  clear HKC
  have y0 := hS.row.cell (i := 0) (v := .bool false) rfl
  have y1 := hS.row.cell (i := 1) (v := .string ⟨#[]⟩) rfl
  have y2 := hS.row.cell (i := 2) (v := .int .i64 0) rfl
  have g0 := hS.row.free 0
  have g1 := hS.row.free 1
  have g2 := hS.row.free 2
  by_cases hp : B = []
  · have HR := Lib.hid (HPN.out hp)
    have e0 : ee = k := by rw [HEE.out, hp]; rfl
    subst e0
    clear HEE HPN HPS HPL HSP HSL HB hp
    go_wp2_with fail
    have hrow := ((hS.row.set_ 0 (.bool false)).set_ 1 (.string ⟨#[]⟩)).set_ 2 (.int .i64 0)
    refine bodyPost_ret_by (results_row_tmp rfl _ _ w.heap.size #[.bool false, .string ⟨#[]⟩, .int .i64 0] rfl (load_dec hrow rfl)) rfl ?_
    exact ⟨by rw [HR.out]; rfl, ((hS.below.setCell (p := ⟨w.heap.size, 0, none⟩) (Nat.le_refl _) _).setCell (p := ⟨w.heap.size, 1, none⟩) (Nat.le_refl _) _).setCell (p := ⟨w.heap.size, 2, none⟩) (Nat.le_refl _) _⟩
  have hpl : 0 < B.length := List.length_pos_iff.2 hp
  have hee := HEE.out
  have hsp := HSP.out
  have hlt : k < l.length := by omega
  have hne : ((ee : Int) == (k : Int)) = false := by rw [beq_eq_false_iff_ne]; omega
  have hidx : ∀ W, (Instr.index 9 (.string (bs l)) (.int .i64 (k : Int))).run Tryd.prog W = .ok (.int .u8 (byteAt l k : Int)) W := fun W => run_byte _ Tryd.underlying9 l k hlt W
  obtain ⟨k1, hk1⟩ : ∃ k1, k1 = k + 1 := ⟨_, rfl⟩
  have hk1i : (k : Int) + 1 = (k1 : Int) := by omega
  have hsub : ∀ W, (Instr.slice 9 (.string (bs l)) (some (.int .i64 (k : Int))) (some (.int .i64 (ee : Int))) none).run Tryd.prog W = .ok (.string (bs B)) W := fun W => by
    have := run_sub_bs (P := Tryd.prog) W 9 Tryd.underlying9 l k ee (by omega) hsp
    rwa [HSL.out] at this
  by_cases hlong : byteAt l k = 48 ∧ 1 < B.length
  · have HR := Lib.hid (HPL.out hlt hlong.1 hlong.2)
    have d1 : k1 < ee := by have := hlong.2; omega
    rw [hlong.1] at hidx
    clear HEE HPN HPS HPL HSP HSL HB hp hlong hee hk1
    go_wp2_with fail
    have hrow := ((hS.row.set_ 0 (.bool false)).set_ 1 (.string ⟨#[]⟩)).set_ 2 (.int .i64 0)
    refine bodyPost_ret_by (results_row_tmp rfl _ _ w.heap.size #[.bool false, .string ⟨#[]⟩, .int .i64 0] rfl (load_dec hrow rfl)) rfl ?_
    exact ⟨by rw [HR.out]; rfl, ((hS.below.setCell (p := ⟨w.heap.size, 0, none⟩) (Nat.le_refl _) _).setCell (p := ⟨w.heap.size, 1, none⟩) (Nat.le_refl _) _).setCell (p := ⟨w.heap.size, 2, none⟩) (Nat.le_refl _) _⟩
  have HS9 := Lib.hid (suf13 w W l B ee neg R hS hsp hl HB.out (by omega) (HPS.out hp (fun _ h8 h7 => hlong ⟨h8, h7⟩)))
  by_cases h48 : byteAt l k = 48
  · have d1 : ¬ k1 < ee := by
      have : ¬ 1 < B.length := fun h9 => hlong ⟨h48, h9⟩
      omega
    rw [h48] at hidx
    clear HEE HPN HPS HPL HSP HSL HB hp hlong hee hk1 y0 y1 y2 g0 g1 g2 h48
    go_upto_region 12 with fail
    rename_i K12 hK12
    have HK12 := Lib.hid hK12
    clear hK12
    go_wp2_with fail
    refine HK12.out _ _ ?_
    refine wp_code (rpSuf 13) (by kernel_rfl) ?_
    refine frP_end (K := fun a w => Code.wp Tryd.prog (rpSuf 13) _ a w) (bs l) (.pointer (some ⟨w.heap.size, 0, none⟩)) ee neg (.string (bs B)) (.int .i64 0) ?_ ?_
    · kernel_rfl
    · exact HS9.out _
  · have d1 : ((byteAt l k : Int) == 48) = false := by rw [beq_eq_false_iff_ne]; omega
    clear HEE HPN HPS HPL HSP HSL HB hp hlong hee hk1 y0 y1 y2 g0 g1 g2 h48
    generalize byteAt l k = y at *
    go_upto_region 12 with fail
    rename_i K12 hK12
    have HK12 := Lib.hid hK12
    clear hK12
    go_wp2_with fail
    refine HK12.out _ _ ?_
    refine wp_code (rpSuf 13) (by kernel_rfl) ?_
    refine frP_end (K := fun a w => Code.wp Tryd.prog (rpSuf 13) _ a w) (bs l) (.pointer (some ⟨w.heap.size, 0, none⟩)) ee neg (.string (bs B)) (.int .i64 0) ?_ ?_
    · kernel_rfl
    · exact HS9.out _
set_option maxRecDepth 1000000 in
set_option maxHeartbeats 4000000 in
theorem refparse_ok (l : List UInt8) (w : World) (hl : l.length ≤ 9223372036854775806) :
    Calls Tryd.prog 12 #[.string (bs l)] w (Told w (parseD l) (parseE l)) := by
  obtain ⟨R, hR⟩ : ∃ R : Dec × Nat, R = (parseD l, parseE l) := ⟨_, rfl⟩
  rw [show parseD l = R.1 by rw [hR], show parseE l = R.2 by rw [hR]]
  have HR0 := Lib.hid hR
  clear hR
  have hs := bs_size l
  obtain ⟨w1, hw1⟩ : ∃ w1, w1 = w.alloc (.cells #[.bool false, .string ⟨#[]⟩, .int .i64 0] 23) := ⟨_, rfl⟩
  have hS : RpS w w1 := by subst hw1; exact ⟨(Below.refl _ _).alloc (Nat.le_refl _) _, Row.new _ _ _⟩
  go_enter Tryd.func12, Tryd.ntmps12
  go_upto_region 1 with fail
  rw [← hw1]
  clear hw1
  by_cases h9 : 1000 < l.length
  · have HR : Hid (R = (Dec.zero, 3)) := Lib.hid (by rw [HR0.out]; unfold parseD parseE; rw [if_pos h9, if_pos h9])
    have y0 := hS.row.cell (i := 0) (v := .bool false) rfl
    have y1 := hS.row.cell (i := 1) (v := .string ⟨#[]⟩) rfl
    have y2 := hS.row.cell (i := 2) (v := .int .i64 0) rfl
    have g0 := hS.row.free 0
    have g1 := hS.row.free 1
    have g2 := hS.row.free 2
    clear HR0
    go_wp2_with fail
    have hrow := ((hS.row.set_ 0 (.bool false)).set_ 1 (.string ⟨#[]⟩)).set_ 2 (.int .i64 0)
    refine bodyPost_ret_by (results_row_tmp rfl _ _ w.heap.size #[.bool false, .string ⟨#[]⟩, .int .i64 0] rfl (load_dec hrow rfl)) rfl ?_
    exact ⟨by rw [HR.out]; rfl, ((hS.below.setCell (p := ⟨w.heap.size, 0, none⟩) (Nat.le_refl _) _).setCell (p := ⟨w.heap.size, 1, none⟩) (Nat.le_refl _) _).setCell (p := ⟨w.heap.size, 2, none⟩) (Nat.le_refl _) _⟩
  have HR1 : Hid (R = stepA (signed l).1 (signed l).2) := Lib.hid (by rw [HR0.out, parse_steps l h9])
  clear HR0
  have hl9 : l.length ≤ 1000 := by omega
  rcases signed_at l with ⟨s1, s2⟩ | ⟨s1, s2⟩
  · rw [s2] at HR1
    have hlt : 0 < l.length := by cases l with | nil => simp at s1 | cons b r => simp
    have hy : byteAt l 0 = 45 := by
      have := drop_head (l := l) (k := 0) hlt
      rw [List.drop_zero, s1] at this
      injection this with this
      exact (byte_is 45).1 this.symm
    have hidx : ∀ W, (Instr.index 9 (.string (bs l)) (.int .i64 0)).run Tryd.prog W = .ok (.int .u8 (byteAt l 0 : Int)) W := fun W => run_byte _ Tryd.underlying9 l 0 hlt W
    rw [hy] at hidx
    clear s1 s2 hy h9
    go_upto_region 7 with fail
    refine wp_code rp7R (by kernel_rfl) ?_
    refine frP_end (K := fun a w => Code.wp Tryd.prog rp7R _ a w) (bs l) (.pointer (some ⟨w.heap.size, 0, none⟩)) (1 : Nat) true undef undef ?_ ?_
    · kernel_rfl
    · refine rp7 w w1 l 1 true R hS hlt hl9 HR1.out _ _ _ (c := ?cc1) (hc := ?ca1) (hKc := ?ka1)
      case ka1 => assumption
      case ca1 => kernel_rfl
  · rw [s2] at HR1
    by_cases hlt : 0 < l.length
    · have hy : ¬ byteAt l 0 = 45 := fun h8 => s1 (by
        have := drop_head (l := l) (k := 0) hlt
        rw [List.drop_zero] at this
        rw [this, (byte_is 45).2 h8])
      have hidx : ∀ W, (Instr.index 9 (.string (bs l)) (.int .i64 0)).run Tryd.prog W = .ok (.int .u8 (byteAt l 0 : Int)) W := fun W => run_byte _ Tryd.underlying9 l 0 hlt W
      have d1 : ((byteAt l 0 : Int) == 45) = false := by rw [beq_eq_false_iff_ne]; omega
      clear s1 s2 hy h9
      generalize byteAt l 0 = y at *
      go_upto_region 7 with fail
      refine wp_code rp7R (by kernel_rfl) ?_
      refine frP_end (K := fun a w => Code.wp Tryd.prog rp7R _ a w) (bs l) (.pointer (some ⟨w.heap.size, 0, none⟩)) (0 : Nat) false undef undef ?_ ?_
      · kernel_rfl
      · refine rp7 w w1 l 0 false R hS (by omega) hl9 HR1.out _ _ _ (c := ?cc2) (hc := ?ca2) (hKc := ?ka2)
        case ka2 => assumption
        case ca2 => kernel_rfl
    · clear s1 s2 h9
      go_upto_region 7 with fail
      refine wp_code rp7R (by kernel_rfl) ?_
      refine frP_end (K := fun a w => Code.wp Tryd.prog rp7R _ a w) (bs l) (.pointer (some ⟨w.heap.size, 0, none⟩)) (0 : Nat) false undef undef ?_ ?_
      · kernel_rfl
      · refine rp7 w w1 l 0 false R hS (by omega) hl9 HR1.out _ _ _ (c := ?cc3) (hc := ?ca3) (hKc := ?ka3)
        case ka3 => assumption
        case ca3 => kernel_rfl
end Go.Proofs.YtkbkappbplocoaaDoor
