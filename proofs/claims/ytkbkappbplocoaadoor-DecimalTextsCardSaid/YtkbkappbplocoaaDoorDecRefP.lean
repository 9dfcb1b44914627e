/- Layer 7: the document's Parse. -/
import Derived.Test.YtkbkappbplocoaaDoorDecRefP0
namespace Go.Proofs.YtkbkappbplocoaaDoor
open Go.RowKit

def frP (h : Nat → Value) (tv : ByteArray) (pv : Value) (at_ : Int) (neg : Bool) (allv expv : Value) : List Value := [.string tv, h 1, pv, .int .i64 0, .int .i64 at_, .bool neg, h 6, allv, expv, h 9, h 10, h 11, h 12, h 13, h 14, h 15, h 16, h 17, h 18, h 19, h 20, h 21, h 22, h 23, h 24, h 25, h 26, h 27, h 28, h 29, h 30, h 31, h 32, h 33, h 34, h 35, h 36, h 37, h 38, h 39, h 40, h 41, h 42, h 43, h 44, h 45, h 46, h 47, h 48, h 49, h 50, h 51, h 52, h 53, h 54, h 55, h 56, h 57, h 58, h 59, h 60, h 61, h 62, h 63, h 64, h 65, h 66, h 67, h 68, h 69, h 70, h 71, h 72, h 73, h 74, h 75, h 76, h 77, h 78, h 79, h 80, h 81, h 82, h 83, h 84, h 85, h 86, h 87, h 88, h 89, h 90, h 91, h 92, h 93, h 94, h 95, h 96, h 97, h 98, h 99, h 100, h 101, h 102, h 103, h 104, h 105, h 106, h 107, h 108, h 109, h 110, h 111, h 112, h 113, h 114, h 115, h 116, h 117, h 118, h 119, h 120, h 121, h 122, h 123, h 124, h 125, h 126, h 127, h 128, h 129, h 130, h 131, h 132, h 133, h 134, h 135, h 136, h 137, h 138, h 139, h 140, h 141, h 142, h 143, h 144, h 145, h 146, h 147, h 148, h 149, h 150, h 151, h 152, h 153, h 154, h 155, h 156, h 157, h 158, h 159, h 160, h 161, h 162, h 163, h 164, h 165, h 166, h 167, h 168, h 169, h 170, h 171, h 172, h 173]
set_option maxRecDepth 1000000 in
theorem frP_end {K : Act → World → Prop} {a' : Act} {W' : World} (tv : ByteArray) (pv : Value) (at_ : Int) (neg : Bool) (allv expv : Value) (e : a' = ⟨(frP (fun k => a'.tmps.getD k undef) tv pv at_ neg allv expv).toArray, []⟩) (h : K ⟨(frP (fun k => a'.tmps.getD k undef) tv pv at_ neg allv expv).toArray, []⟩ W') : K a' W' := by
  rw [← e] at h
  exact h
/-- What a call of Parse has and wants. -/
structure RpS (w W : World) : Prop where
  below : Below w.heap.size w W
  row : Row W w.heap.size 23 #[.bool false, .string ⟨#[]⟩, .int .i64 0]
theorem dec_may0 (neg : Bool) (n : Nat) (e : Int) : (mayB (dec neg n e) = true → mkD neg n e = dec neg n e ∧ mkE neg n e = 0) ∧ (mayB (dec neg n e) = false → mkD neg n e = Dec.zero ∧ mkE neg n e = 4) := by
  unfold mkD mkE
  exact ⟨fun h => by rw [if_pos h, if_pos h]; exact ⟨rfl, rfl⟩, fun h => by rw [h]; exact ⟨rfl, rfl⟩⟩
set_option maxRecDepth 1000000 in
set_option maxHeartbeats 4000000 in
theorem rp37 (w W : World) (l all : List UInt8) (k : Nat) (neg : Bool) (x : Int) (R : Dec × Nat) (hS : RpS w W) (hk : k ≤ l.length) (hd : Digs all) (ha : all.length ≤ 1000) (h1 : -100000000 ≤ x) (h2 : x ≤ 100000000) (hR : R = fin neg all x (l.drop k))
    (h : Nat → Value) {c rest : Code} (hc : c = rpC 37) (hr : rest = rpT 37) {K K2 : Act → World → Prop} (hK : ∀ a w', c.wp Tryd.prog (Exit.then K2 (bodyPost Tryd.prog Tryd.f12 (Told w R.1 R.2))) a w' → K a w') (hK2 : ∀ a w', rest.wp Tryd.prog (bodyPost Tryd.prog Tryd.f12 (Told w R.1 R.2)) a w' → K2 a w') :
    Code.wp Tryd.prog (rpR 37) (Exit.then K (Exit.then K2 (bodyPost Tryd.prog Tryd.f12 (Told w R.1 R.2)))) ⟨(frP h (bs l) (.pointer (some ⟨w.heap.size, 0, none⟩)) k neg (.string (bs all)) (.int .i64 x)).toArray, []⟩ W := by
  subst hc hr
  have HK := Lib.hid hK
  have HK2 := Lib.hid hK2
  have HS := Lib.hid hS
  have hs := bs_size l
  have HM := Lib.hid (fun W => made_ok neg all x W hd (by omega) (by omega) (by omega))
  clear hK hK2 hS
  have y0 := HS.out.row.cell (i := 0) (v := .bool false) rfl
  have y1 := HS.out.row.cell (i := 1) (v := .string ⟨#[]⟩) rfl
  have y2 := HS.out.row.cell (i := 2) (v := .int .i64 0) rfl
  have g0 := HS.out.row.free 0
  have g1 := HS.out.row.free 1
  have g2 := HS.out.row.free 2
  by_cases hlt : k < l.length
  · have HR : Hid (R = (Dec.zero, 170)) := Lib.hid (by rw [hR]; unfold fin; rw [if_neg (by intro e; have := congrArg List.length e; rw [List.length_drop] at this; simp at this; omega)])
    clear hR HM
    conv => arg 2; whnf
    dsimp only [frP]
    generalize bs l = s at *
    go_wp2_with fail
    refine HK.out _ _ ?_
    conv => arg 2; whnf
    go_wp2_with fail
    have hrow := ((HS.out.row.set_ 0 (.bool false)).set_ 1 (.string ⟨#[]⟩)).set_ 2 (.int .i64 0)
    refine bodyPost_ret_by (results_row_tmp rfl _ _ w.heap.size #[.bool false, .string ⟨#[]⟩, .int .i64 0] rfl (load_dec hrow rfl)) rfl ?_
    exact ⟨by rw [HR.out]; rfl, ((HS.out.below.setCell (p := ⟨w.heap.size, 0, none⟩) (Nat.le_refl _) _).setCell (p := ⟨w.heap.size, 1, none⟩) (Nat.le_refl _) _).setCell (p := ⟨w.heap.size, 2, none⟩) (Nat.le_refl _) _⟩
  · obtain rfl : k = l.length := by omega
    have HF : Hid (R = (mkD neg (num all) x, mkE neg (num all) x)) := Lib.hid (by rw [hR]; unfold fin; rw [if_pos (List.drop_of_length_le (Nat.le_refl _))])
    have HDM := Lib.hid (dec_may0 neg (num all) x)
    clear hR hlt
    unfold MadePost decV at HM
    obtain ⟨⟨dn, dl, dx⟩, hD⟩ : ∃ D, D = dec neg (num all) x := ⟨_, rfl⟩
    rw [← hD] at HM HDM
    clear hD
    simp only at HM
    conv => arg 2; whnf
    dsimp only [frP]
    generalize bs l = s at *
    go_wp2_with fail
    refine HK.out _ _ ?_
    conv => arg 2; whnf
    go_wp2_with fail
    refine HK2.out _ _ ?_
    conv => arg 2; whnf
    clear y0 y1 y2 g0 g1 g2
    go_wp2_with fail
    refine (HM.out _).mono ?_
    rintro e w2 ⟨rfl, hb2⟩
    obtain ⟨w3, hw3⟩ : ∃ w3, w3 = w2.alloc (.cells #[.bool dn, .string (bs dl), .int .i64 dx] 23) := ⟨_, rfl⟩
    have HB3 : Hid (Below w.heap.size w w3) := Lib.hid (by subst hw3; exact (HS.out.below.call hb2).alloc (HS.out.below.call hb2).size _)
    have HR3 : Hid (Row w3 w.heap.size 23 #[.bool false, .string ⟨#[]⟩, .int .i64 0]) := Lib.hid (by subst hw3; exact (HS.out.row.call hb2).alloc _)
    have HX3 : Hid (Row w3 w2.heap.size 23 #[.bool dn, .string (bs dl), .int .i64 dx]) := Lib.hid (by subst hw3; exact Row.new _ _ _)
    clear hb2 HK HK2
    have y0 := HR3.out.cell (i := 0) (v := .bool false) rfl
    have y1 := HR3.out.cell (i := 1) (v := .string ⟨#[]⟩) rfl
    have y2 := HR3.out.cell (i := 2) (v := .int .i64 0) rfl
    have g0 := HR3.out.free 0
    have g1 := HR3.out.free 1
    have g2 := HR3.out.free 2
    have x0 := HX3.out.cell (i := 0) (v := .bool dn) rfl
    have x1 := HX3.out.cell (i := 1) (v := .string (bs dl)) rfl
    have x2 := HX3.out.cell (i := 2) (v := .int .i64 dx) rfl
    cases hmm : mayB ⟨dn, dl, dx⟩ with
    | false =>
      have HR : Hid (R = (Dec.zero, 4)) := Lib.hid (by rw [HF.out, (HDM.out.2 hmm).1, (HDM.out.2 hmm).2])
      clear hmm
      go_upto_region 40 with fail
      rw [← hw3]
      clear hw3
      go_wp2_with fail
      have hrow := ((HR3.out.set_ 0 (.bool false)).set_ 1 (.string ⟨#[]⟩)).set_ 2 (.int .i64 0)
      refine bodyPost_ret_by (results_row_tmp rfl _ _ w.heap.size #[.bool false, .string ⟨#[]⟩, .int .i64 0] rfl (load_dec hrow rfl)) rfl ?_
      exact ⟨by rw [HR.out]; rfl, ((HB3.out.setCell (p := ⟨w.heap.size, 0, none⟩) (Nat.le_refl _) _).setCell (p := ⟨w.heap.size, 1, none⟩) (Nat.le_refl _) _).setCell (p := ⟨w.heap.size, 2, none⟩) (Nat.le_refl _) _⟩
    | true =>
      have HR : Hid (R = (⟨dn, dl, dx⟩, 0)) := Lib.hid (by rw [HF.out, (HDM.out.1 hmm).1, (HDM.out.1 hmm).2])
      clear hmm
      go_upto_region 40 with fail
      rw [← hw3]
      clear hw3
      go_wp2_with fail
      have hrow := ((HR3.out.set_ 0 (.bool dn)).set_ 1 (.string (bs dl))).set_ 2 (.int .i64 dx)
      refine bodyPost_ret_by (results_row_tmp rfl _ _ w.heap.size #[.bool dn, .string (bs dl), .int .i64 dx] rfl (load_dec hrow rfl)) rfl ?_
      exact ⟨by rw [HR.out]; rfl, ((HB3.out.setCell (p := ⟨w.heap.size, 0, none⟩) (Nat.le_refl _) _).setCell (p := ⟨w.heap.size, 1, none⟩) (Nat.le_refl _) _).setCell (p := ⟨w.heap.size, 2, none⟩) (Nat.le_refl _) _⟩
end Go.Proofs.YtkbkappbplocoaaDoor
