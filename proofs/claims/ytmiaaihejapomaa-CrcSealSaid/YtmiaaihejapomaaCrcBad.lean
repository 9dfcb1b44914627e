/- Sealed bytes with one byte changed do not agree. Plain lists and numbers. -/
import Derived.Test.YtmiaaihejapomaaCrcKnown
import Derived.Test.YtmiaaihejapomaaCrcErr
namespace Go.Proofs.Ytmiaaihejapomaa
open Go.RowKit
open Crc

theorem byteOf_inj {a b : Nat} (ha : U32 a) (hb : U32 b) (h : ∀ j, j < 4 → byteOf a j = byteOf b j) : a = b := by
  unfold U32 at ha hb
  have h0 := h 0 (by omega)
  have h1 := h 1 (by omega)
  have h2 := h 2 (by omega)
  have h3 := h 3 (by omega)
  simp [byteOf] at h0 h1 h2 h3
  omega
theorem lows_getD (s j : Nat) (hj : j < 4) : (lows s).getD j 0 = byteOf s j := by
  obtain rfl | rfl | rfl | rfl : j = 0 ∨ j = 1 ∨ j = 2 ∨ j = 3 := by omega
  all_goals rfl
theorem sealed_tail (l : List Nat) (j : Nat) (hj : j < 4) : (sealed l).getD (l.length + j) 0 = byteOf (sumL l) j := by
  rw [← lows_getD _ j hj]
  simp [sealed, List.getD_eq_getElem?_getD, List.getElem?_append_right]
/-- Bytes agree just if they are a sealed text. -/
theorem agree_iff (l : List Nat) (h4 : 4 ≤ l.length) : agree l 4 ↔ sealed (headOf l) = l := by
  constructor
  · intro h
    have hl : l = l.take (l.length - 4) ++ l.drop (l.length - 4) := (List.take_append_drop _ _).symm
    have hd : l.drop (l.length - 4) = lows (sumL (headOf l)) := by
      apply List.ext_getElem?
      intro j
      by_cases hj : j < 4
      · have h1 := h j hj
        rw [← lows_getD _ j hj] at h1
        rw [List.getElem?_drop]
        simp only [List.getD_eq_getElem?_getD] at h1
        rw [List.getElem?_eq_getElem (show l.length - 4 + j < l.length by omega)] at h1 ⊢
        rw [List.getElem?_eq_getElem (show j < (lows (sumL (headOf l))).length by simp [lows]; omega)] at h1 ⊢
        simpa using h1
      · rw [List.getElem?_eq_none (by rw [List.length_drop]; omega), List.getElem?_eq_none (by simp [lows]; omega)]
    conv => rhs; rw [hl, hd]
    rfl
  · intro h
    rw [← h]
    exact agree_sealed _
theorem set_split (l : List Nat) (k v : Nat) (hk : k < l.length) : l.set k v = l.take k ++ v :: l.drop (k + 1) := by
  rw [List.set_eq_take_append_cons_drop, if_pos hk]
theorem split_at_ (l : List Nat) (k : Nat) (hk : k < l.length) : l = l.take k ++ l.getD k 0 :: l.drop (k + 1) := by
  conv => lhs; rw [← List.take_append_drop k l, List.drop_eq_getElem_cons hk]
  simp [List.getD_eq_getElem?_getD, hk]

theorem changed_bad (l : List Nat) (hl : Small l) (k d : Nat) (hk : k < l.length + 4) (hd : d < 256) (h0 : d ≠ 0) :
    ¬ agree ((sealed l).set k ((sealed l).getD k 0 ^^^ d)) 4 := by
  intro h
  have hlen : ((sealed l).set k ((sealed l).getD k 0 ^^^ d)).length = l.length + 4 := by rw [List.length_set, sealed_length]
  unfold agree at h
  unfold headOf at h
  rw [hlen, Nat.add_sub_cancel] at h
  by_cases hkl : k < l.length
  · have hx : (sealed l).getD k 0 = l.getD k 0 := by simp [sealed, List.getD_eq_getElem?_getD, List.getElem?_append_left, hkl]
    have e1 : ((sealed l).set k ((sealed l).getD k 0 ^^^ d)).take l.length = l.set k (l.getD k 0 ^^^ d) := by
      rw [hx, sealed, List.set_append_left _ _ hkl, List.take_left' (by rw [List.length_set])]
    have hsm : Small (l.set k (l.getD k 0 ^^^ d)) := by
      intro y hy
      rcases List.mem_or_eq_of_mem_set hy with h1 | h1
      · exact hl y h1
      · subst h1
        refine Nat.xor_lt_two_pow (n := 8) ?_ hd
        rw [List.getD_eq_getElem?_getD, List.getElem?_eq_getElem hkl]
        exact hl _ (List.getElem_mem hkl)
    rw [e1] at h
    have h2 : sumL l = sumL (l.set k (l.getD k 0 ^^^ d)) := byteOf_inj (sumL_lt l hl) (sumL_lt _ hsm) fun j hj => by
      rw [← h j hj, ← sealed_tail l j hj]
      simp only [List.getD_eq_getElem?_getD]
      rw [List.getElem?_set_ne (by omega)]
    have h3 := sum_other (l.take k) (l.drop (k + 1)) (l.getD k 0) d hd h0
    rw [← set_split l k _ hkl, ← split_at_ l k hkl] at h3
    exact h3 h2.symm
  · obtain ⟨j, rfl⟩ : ∃ j, k = l.length + j := ⟨k - l.length, by omega⟩
    have e1 : ((sealed l).set (l.length + j) ((sealed l).getD (l.length + j) 0 ^^^ d)).take l.length = l := by
      rw [List.take_set_of_le (by omega), sealed, List.take_left]
    rw [e1] at h
    have h1 := h j (by omega)
    rw [← sealed_tail l j (by omega)] at h1
    have hj : l.length + j < (sealed l).length := by rw [sealed_length]; omega
    simp only [List.getD_eq_getElem?_getD] at h1
    rw [List.getElem?_set_self hj] at h1
    have h2 := congrArg ((sealed l)[l.length + j]?.getD 0 ^^^ ·) h1
    simp only [Option.getD_some, Nat.xor_self] at h2
    rw [xor_self_left] at h2
    exact h0 h2
end Go.Proofs.Ytmiaaihejapomaa
