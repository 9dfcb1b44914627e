/- Layer 7: the document's Parse: the power. -/
import Derived.Test.YtkbkappbplocoaaDoorDecRefP
namespace Go.Proofs.YtkbkappbplocoaaDoor
open Go.RowKit

def frQ (h : Nat → Value) (tv : ByteArray) (pv : Value) (at_ : Int) (neg : Bool) (allv expv : Value) (less : Bool) : List Value := [.string tv, h 1, pv, .int .i64 0, .int .i64 at_, .bool neg, h 6, allv, expv, .bool less, h 10, h 11, h 12, h 13, h 14, h 15, h 16, h 17, h 18, h 19, h 20, h 21, h 22, h 23, h 24, h 25, h 26, h 27, h 28, h 29, h 30, h 31, h 32, h 33, h 34, h 35, h 36, h 37, h 38, h 39, h 40, h 41, h 42, h 43, h 44, h 45, h 46, h 47, h 48, h 49, h 50, h 51, h 52, h 53, h 54, h 55, h 56, h 57, h 58, h 59, h 60, h 61, h 62, h 63, h 64, h 65, h 66, h 67, h 68, h 69, h 70, h 71, h 72, h 73, h 74, h 75, h 76, h 77, h 78, h 79, h 80, h 81, h 82, h 83, h 84, h 85, h 86, h 87, h 88, h 89, h 90, h 91, h 92, h 93, h 94, h 95, h 96, h 97, h 98, h 99, h 100, h 101, h 102, h 103, h 104, h 105, h 106, h 107, h 108, h 109, h 110, h 111, h 112, h 113, h 114, h 115, h 116, h 117, h 118, h 119, h 120, h 121, h 122, h 123, h 124, h 125, h 126, h 127, h 128, h 129, h 130, h 131, h 132, h 133, h 134, h 135, h 136, h 137, h 138, h 139, h 140, h 141, h 142, h 143, h 144, h 145, h 146, h 147, h 148, h 149, h 150, h 151, h 152, h 153, h 154, h 155, h 156, h 157, h 158, h 159, h 160, h 161, h 162, h 163, h 164, h 165, h 166, h 167, h 168, h 169, h 170, h 171, h 172, h 173]
set_option maxRecDepth 1000000 in
theorem frQ_end {K : Act → World → Prop} {a' : Act} {W' : World} (tv : ByteArray) (pv : Value) (at_ : Int) (neg : Bool) (allv expv : Value) (less : Bool) (e : a' = ⟨(frQ (fun k => a'.tmps.getD k undef) tv pv at_ neg allv expv less).toArray, []⟩) (h : K ⟨(frQ (fun k => a'.tmps.getD k undef) tv pv at_ neg allv expv less).toArray, []⟩ W') : K a' W' := by
  rw [← e] at h
  exact h
theorem spanT_byte (l : List UInt8) (k j : Nat) (h : j < (spanT (l.drop k)).length) : (spanT (l.drop k)).getD j 0 = l.getD (k + j) 0 ∧ isDig (l.getD (k + j) 0) = true := by
  have h1 : spanT (l.drop k) ++ spanD (l.drop k) = l.drop k := List.takeWhile_append_dropWhile
  have h2 : (l.drop k)[j]? = (spanT (l.drop k))[j]? := by conv => lhs; rw [← h1]
                                                          exact List.getElem?_append_left h
  have h3 : (spanT (l.drop k)).getD j 0 = l.getD (k + j) 0 := by
    rw [List.getD_eq_getElem?_getD, ← h2, List.getElem?_drop, ← List.getD_eq_getElem?_getD]
  refine ⟨h3, ?_⟩
  rw [← h3]
  refine spanT_digs (l.drop k) _ ?_
  rw [List.getD_eq_getElem?_getD, List.getElem?_eq_getElem h]
  exact List.getElem_mem h
theorem useK {P : Program} {K : Act → World → Prop} {c : Code} {Q : Exit → Act → World → Prop} {a : Act} {w : World} (h : ∀ a w, c.wp P Q a w → K a w) (h2 : c.wp P Q a w) : K a w := h a w h2
noncomputable def rp25R : Code := match rpSuf 25 with | .seq r _ => r | _ => .skip
noncomputable def rp25C : Code := match rpSuf 25 with | .seq _ c => c | _ => .skip
set_option maxRecDepth 1000000 in
set_option maxHeartbeats 8000000 in
theorem rp25 (w W : World) (l all : List UInt8) (k b : Nat) (neg less : Bool) (R : Dec × Nat) (hS : RpS w W) (hk : k ≤ l.length) (hl : l.length ≤ 1000) (hb : b ≤ 1000)
    (h : Nat → Value) (hE : spanT (l.drop k) = [] → R = (Dec.zero, 170)) {Kq : Act → World → Prop}
    (hK : spanT (l.drop k) ≠ [] → ∀ h', Kq ⟨(frP h' (bs l) (.pointer (some ⟨w.heap.size, 0, none⟩)) ((k + (spanT (l.drop k)).length : Nat) : Int) neg (.string (bs all)) (.int .i64 ((if less then -((min (num (spanT (l.drop k))) 1000000 : Nat) : Int) else ((min (num (spanT (l.drop k))) 1000000 : Nat) : Int)) - (b : Int)))).toArray, []⟩ W)
    {c : Code} (hc : c = rp25C) {K : Act → World → Prop} (hKc : ∀ a w', c.wp Tryd.prog (Exit.then Kq (bodyPost Tryd.prog Tryd.f12 (Told w R.1 R.2))) a w' → K a w') :
    Code.wp Tryd.prog rp25R (Exit.then K (Exit.then Kq (bodyPost Tryd.prog Tryd.f12 (Told w R.1 R.2)))) ⟨(frQ h (bs l) (.pointer (some ⟨w.heap.size, 0, none⟩)) k neg (.string (bs all)) (.int .i64 (-(b : Int))) less).toArray, []⟩ W := by
  subst hc
  have HKC := Lib.hid hKc
  have HK := Lib.hid hK
  have HE := Lib.hid hE
  have HS := Lib.hid hS
  have hs := bs_size l
  have HDG := Lib.hid (fun W => digits_ok l k W hk (by omega))
  have HSP := Lib.hid (span_le l hk)
  obtain ⟨n, hn⟩ : ∃ n, n = l.length := ⟨_, rfl⟩
  have HN := Lib.hid hn
  rw [← hn] at hs hk hl HSP
  clear hK hE hS hn hKc
  have HI : Hid (∀ k : Nat, k < n → ∀ W : World, (Instr.index 9 (.string (bs l)) (.int .i64 (k : Int))).run Tryd.prog W = .ok (.int .u8 (byteAt l k : Int)) W) := Lib.hid fun k hk W => run_byte _ Tryd.underlying9 l k (by rw [← HN.out]; exact hk) W
  have HB9 : Hid (∀ j, j < (spanT (l.drop k)).length → (spanT (l.drop k)).getD j 0 = l.getD (k + j) 0 ∧ isDig (l.getD (k + j) 0) = true) := Lib.hid (spanT_byte l k)
  obtain ⟨P, hP⟩ : ∃ P, P = spanT (l.drop k) := ⟨_, rfl⟩
  rw [← hP] at HK HE HDG HSP HB9
  clear hP
  obtain ⟨ee, hee⟩ : ∃ ee, ee = k + P.length := ⟨_, rfl⟩
  rw [← hee] at HK HDG HSP
  have HEE := Lib.hid hee
  clear hee
  conv => arg 2; whnf
  dsimp only [frQ]
  generalize bs l = s at *
  go_wp2_with fail
  refine (HDG.out _).mono ?_
  rintro e w2 ⟨rfl, rfl⟩
  go_wp2_with fail
  refine HKC.out _ _ ?_
  conv => arg 2; whnf
  clear HKC
  by_cases hp : P = []
  · have HR := Lib.hid (HE.out hp)
    have e0 : ee = k := by rw [HEE.out, hp]; rfl
    subst e0
    have y0 := HS.out.row.cell (i := 0) (v := .bool false) rfl
    have y1 := HS.out.row.cell (i := 1) (v := .string ⟨#[]⟩) rfl
    have y2 := HS.out.row.cell (i := 2) (v := .int .i64 0) rfl
    have g0 := HS.out.row.free 0
    have g1 := HS.out.row.free 1
    have g2 := HS.out.row.free 2
    clear HK HE hp HDG HSP HB9 HEE
    go_wp2_with fail
    have hrow := ((HS.out.row.set_ 0 (.bool false)).set_ 1 (.string ⟨#[]⟩)).set_ 2 (.int .i64 0)
    refine bodyPost_ret_by (results_row_tmp rfl _ _ w.heap.size #[.bool false, .string ⟨#[]⟩, .int .i64 0] rfl (load_dec hrow rfl)) rfl ?_
    exact ⟨by rw [HR.out]; rfl, ((HS.out.below.setCell (p := ⟨w.heap.size, 0, none⟩) (Nat.le_refl _) _).setCell (p := ⟨w.heap.size, 1, none⟩) (Nat.le_refl _) _).setCell (p := ⟨w.heap.size, 2, none⟩) (Nat.le_refl _) _⟩
  · have hpl : 0 < P.length := List.length_pos_iff.2 hp
    have HKK := Lib.hid (HK.out hp)
    obtain ⟨m, hm⟩ : ∃ m, m = P.length := ⟨_, rfl⟩
    have HMM := Lib.hid hm
    have hee := HEE.out
    rw [← hm] at hpl HB9 hee
    have hsp := HSP.out
    have hne : ((ee : Int) == (k : Int)) = false := by rw [beq_eq_false_iff_ne]; omega
    have HEM := Lib.hid hee
    clear hm HK HE hp HDG HSP hee HEE
    go_wp2_with fail
    go_loop [10, 11] (fun v10 v11 => ∃ j : Nat, j ≤ m ∧ v11 = .int .i64 ((k + j : Nat) : Int) ∧ v10 = .int .i64 ((min (num (P.take j)) 1000000 : Nat) : Int)) (fun _ v11 => ee - (intOf v11).toNat)
    case atStart => exact ⟨0, Nat.zero_le _, rfl, rfl⟩
    case round =>
      obtain ⟨j, hj, rfl, rfl⟩ := hrel
      by_cases hlt : j < m
      · obtain ⟨q1, q2⟩ := HB9.out j hlt
        have hee := HEM.out
        have hidx := HI.out (k + j) (by omega)
        have hyl : 48 ≤ byteAt l (k + j) := isDig_lo q2
        have hyh : byteAt l (k + j) ≤ 57 := isDig_hi q2
        have hnum : num (P.take (j + 1)) = 10 * num (P.take j) + (byteAt l (k + j) - 48) := by
          have : P.take (j + 1) = P.take j ++ [P.getD j 0] := allDig_take_succ P j (by rw [← HMM.out]; exact hlt)
          rw [this, num_snoc, q1]; rfl
        obtain ⟨c, hc⟩ : ∃ c, c = min (num (P.take j)) 1000000 := ⟨_, rfl⟩
        obtain ⟨c2, hc2⟩ : ∃ c2, c2 = min (num (P.take (j + 1))) 1000000 := ⟨_, rfl⟩
        obtain ⟨y, hy⟩ : ∃ y, y = byteAt l (k + j) := ⟨_, rfl⟩
        rw [← hy] at hidx hyl hyh hnum
        have hcb : c ≤ 1000000 := by omega
        have hmn : c2 = min (10 * c + (y - 48)) 1000000 := by omega
        rw [← hc]
        obtain ⟨p, hp⟩ : ∃ p, p = k + j := ⟨_, rfl⟩
        rw [← hp] at hidx ⊢
        obtain ⟨dv, hdv⟩ : ∃ dv, dv = y - 48 := ⟨_, rfl⟩
        obtain ⟨m1, hm1⟩ : ∃ m1, m1 = 10 * c := ⟨_, rfl⟩
        obtain ⟨s1, hs1⟩ : ∃ s1, s1 = m1 + dv := ⟨_, rfl⟩
        have f1 : (10 : Int) * (c : Int) = (m1 : Int) := by omega
        have f2 : (y : Int) - 48 = (dv : Int) := by omega
        have f3 : (m1 : Int) + (dv : Int) = (s1 : Int) := by omega
        have f4 : min (1000000 : Int) (s1 : Int) = (c2 : Int) := by omega
        have hpe : p < ee := by omega
        clear hee
        have hm1b : m1 ≤ 10000000 := by omega
        have hdvb : dv ≤ 9 := by omega
        have hs1b : s1 ≤ 10000009 := by omega
        have HC2 := Lib.hid hc2
        have HPJ : Hid (p + 1 = k + (j + 1)) := Lib.hid (by omega)
        clear hc hy hp hdv hm1 hs1 hmn hnum q1 q2 hc2 hne HKK HB9 HI hyl hyh
        go_wp2
        refine ⟨⟨j + 1, by omega, ?_, ?_⟩, ?_⟩
        · rw [← HPJ.out]; simp
        · rw [← HC2.out]
        · simp [intOf]; omega
      · obtain rfl : j = m := by omega
        have hfull : P.take j = P := by rw [HMM.out, List.take_length]
        rw [hfull]
        obtain ⟨c, hc⟩ : ∃ c, c = min (num P) 1000000 := ⟨_, rfl⟩
        have hcb : c ≤ 1000000 := by omega
        rw [← hc] at HKK ⊢
        rw [← HEM.out]
        clear hc hfull
        cases less
        · have f1 : -(b : Int) + (c : Int) = (c : Int) - (b : Int) := by omega
          go_wp2_with fail
          refine frP_end (K := Kq) s (.pointer (some ⟨w.heap.size, 0, none⟩)) ((ee : Nat) : Int) neg (.string (bs all)) (.int .i64 ((c : Int) - (b : Int))) ?_ ?_
          · kernel_rfl
          · exact HKK.out _
        · have f1 : -(b : Int) + -(c : Int) = -(c : Int) - (b : Int) := by omega
          go_wp2_with fail
          refine frP_end (K := Kq) s (.pointer (some ⟨w.heap.size, 0, none⟩)) ((ee : Nat) : Int) neg (.string (bs all)) (.int .i64 (-(c : Int) - (b : Int))) ?_ ?_
          · kernel_rfl
          · exact HKK.out _
end Go.Proofs.YtkbkappbplocoaaDoor
