/- Layer 7: the document's numbers as digit texts: a digit from behind; digits laid from behind. -/
import Derived.Test.YtlcbjikiodmlfaaGreatDoorPt29
import Derived.Test.YtlcbjikiodmlfaaGreatDoorPt19
namespace Go.Proofs.YtlcbjikiodmlfaaGreatDoor
open Go.RowKit

/-- The k-th digit from behind. -/
def dAt (l : List UInt8) (k : Nat) : Nat := num l / 10 ^ k % 10
theorem num_split (l : List UInt8) (m : Nat) : num l = num (l.take m) * 10 ^ (l.length - m) + num (l.drop m) := by
  conv => lhs; rw [← List.take_append_drop m l]
  rw [num_append, List.length_drop]
theorem dAt_in {l : List UInt8} (h : Digs l) {k : Nat} (hk : k < l.length) : dval (l.getD (l.length - 1 - k) 0) = dAt l k := by
  have h1 := num_split l (l.length - k)
  rw [show l.length - (l.length - k) = k by omega] at h1
  have h2 := num_lt (h.drop (l.length - k))
  rw [List.length_drop, show l.length - (l.length - k) = k by omega] at h2
  have h3 : num l / 10 ^ k = num (l.take (l.length - k)) := by
    rw [h1, Nat.mul_comm, Nat.mul_add_div (Nat.pow_pos (by omega)), Nat.div_eq_of_lt h2]; rfl
  have h4 : l.take (l.length - k) = l.take (l.length - 1 - k) ++ [l.getD (l.length - 1 - k) 0] := by
    rw [show l.length - k = (l.length - 1 - k) + 1 by omega, List.take_add_one, List.getElem?_eq_getElem (by omega)]
    simp [List.getD, List.getElem?_eq_getElem (show l.length - 1 - k < l.length by omega)]
  unfold dAt
  rw [h3, h4, num_snoc]
  have := dval_lt (h _ (List.getElem_mem (show l.length - 1 - k < l.length by omega)))
  rw [show l.getD (l.length - 1 - k) 0 = l[l.length - 1 - k]'(by omega) by simp [List.getD, List.getElem?_eq_getElem (show l.length - 1 - k < l.length by omega)]]
  omega
theorem dAt_out {l : List UInt8} (h : Digs l) {k : Nat} (hk : l.length ≤ k) : dAt l k = 0 := by
  have h1 := num_lt h
  have h2 : 10 ^ l.length ≤ 10 ^ k := Nat.pow_le_pow_right (by omega) hk
  unfold dAt
  rw [Nat.div_eq_of_lt (by omega)]
theorem dAt_lt (l : List UInt8) (k : Nat) : dAt l k < 10 := Nat.mod_lt _ (by omega)
set_option maxHeartbeats 1000000 in
theorem rdigit_ok (l : List UInt8) (k : Nat) (w : World) (hd : Digs l) (hl : l.length ≤ 4611686018427387904) (hk : k ≤ 4611686018427387904) :
    Calls Tryz.prog 48 #[.string (bs l), .int .i64 (k : Int)] w fun e w' => e = .returned (.int .i64 (dAt l k : Nat)) ∧ w = w' := by
  have hs := bs_size l
  by_cases hlt : k < l.length
  · have hi : l.length - 1 - k < l.length := by omega
    have hidx : ∀ W : World, (Instr.index 9 (.string (bs l)) (.int .i64 ((l.length - 1 - k : Nat) : Int))).run Tryz.prog W = .ok (.int .u8 (byteAt l (l.length - 1 - k) : Int)) W := run_byte _ Tryz.underlying9 l _ hi
    have hv := dAt_in hd hlt
    rw [← hv]
    have hb := hd _ (List.getElem_mem hi)
    rw [show l[l.length - 1 - k]'hi = l.getD (l.length - 1 - k) 0 by simp [List.getD, List.getElem?_eq_getElem hi]] at hb
    have h1 := isDig_lo hb
    have h2 := isDig_hi hb
    have h3 : dval (l.getD (l.length - 1 - k) 0) = byteAt l (l.length - 1 - k) - 48 := rfl
    have h4 : 48 ≤ byteAt l (l.length - 1 - k) := h1
    have h5 : byteAt l (l.length - 1 - k) ≤ 57 := h2
    rw [h3]
    have hsub : (l.length : Int) - 1 - (k : Int) = ((l.length - 1 - k : Nat) : Int) := by omega
    have hge : decide ((l.length : Int) ≤ (k : Int)) = false := by simp; omega
    clear hv hb h1 h2 h3
    generalize byteAt l (l.length - 1 - k) = y at *
    obtain ⟨d, rfl⟩ : ∃ d, y = 48 + d := ⟨y - 48, by omega⟩
    generalize l.length - 1 - k = m at *
    have hr : 48 + d - 48 = d := by omega
    rw [hr]
    have e1 : ((48 + d : Nat) : Int) - 48 = (d : Int) := by omega
    have e2 : IntKind.u8.wrap (d : Int) = (d : Int) := by simp [IntKind.wrap, IntKind.bits, IntKind.signed]; omega
    have e3 : ((48 + d : Nat) : Int) = 48 + (d : Int) := by omega
    rw [e3] at hidx e1
    clear hr e3
    generalize l.length = n at *
    generalize bs l = s at *
    have hn1 : IntKind.i64.wrap ((n : Int) - 1) = (n : Int) - 1 := IntWalk.i64_in _ (by omega)
    go_enter Tryz.func48, Tryz.ntmps48
    go_wp2
    go_ret
    exact ⟨rfl, rfl⟩
  · rw [dAt_out hd (by omega)]
    have hge : (l.length : Int) ≤ (k : Int) := by omega
    generalize l.length = n at *
    generalize bs l = s at *
    go_enter Tryz.func48, Tryz.ntmps48
    go_wp2
    go_ret
    exact ⟨rfl, rfl⟩

/-- Digits laid from behind: k of n lie there; they tell S. -/
structure OutAt (n k : Nat) (out : List UInt8) (S : Nat) : Prop where
  len : out.length = n
  digs : Digs (out.drop (n - k))
  val : num (out.drop (n - k)) = S
theorem OutAt.start (n : Nat) : OutAt n 0 (List.replicate n 0) 0 := ⟨by simp, by simp [Digs.nil], by simp [num]⟩
theorem OutAt.step {n k S d : Nat} {out : List UInt8} (h : OutAt n k out S) (hk : k < n) (hd : d < 10) : OutAt n (k + 1) (out.set (n - 1 - k) (UInt8.ofNat (48 + d))) (S + 10 ^ k * d) := by
  have hl : n - 1 - k < out.length := by rw [h.len]; omega
  have e : (out.set (n - 1 - k) (UInt8.ofNat (48 + d))).drop (n - (k + 1)) = UInt8.ofNat (48 + d) :: out.drop (n - k) := by
    rw [show n - (k + 1) = n - 1 - k by omega, List.drop_eq_getElem_cons (by rw [List.length_set]; exact hl), List.getElem_set_self, List.drop_set_of_lt (by omega), show n - 1 - k + 1 = n - k by omega]
  refine ⟨by rw [List.length_set]; exact h.len, ?_, ?_⟩
  · rw [e]
    intro x hx
    rcases List.mem_cons.1 hx with rfl | hx
    · exact digOf_dig d hd
    · exact h.digs x hx
  · rw [e, num_cons, digOf_val d hd, h.val, List.length_drop, h.len, show n - (n - k) = k by omega, Nat.mul_comm]
    omega
theorem OutAt.done {n S : Nat} {out : List UInt8} (h : OutAt n n out S) : plain out = dig S ∧ Digs out := by
  have h1 := h.digs
  have h2 := h.val
  rw [Nat.sub_self, List.drop_zero] at h1 h2
  exact ⟨by rw [plain_eq h1, h2], h1⟩
theorem ofNat_val {d : Nat} (hd : d < 10) : (UInt8.ofNat (48 + d)).toNat = 48 + d := by rw [UInt8.toNat_ofNat']; omega
theorem dig_len_le (n : Nat) {k : Nat} (h : n < 10 ^ k) : (dig n).length ≤ k := by
  unfold dig
  split
  · simp
  · rcases Nat.eq_zero_or_pos k with e | e
    · rw [e] at h; simp at h; omega
    · exact decDigits_len e h
end Go.Proofs.YtlcbjikiodmlfaaGreatDoor
