/- Of no program: a number's text read step by step, as the document's own answer reads it. -/
import Derived.Test.YtkbkappbplocoaaDoorDecRefM
import Derived.Test.YtkbkappbplocoaaDoorDecGoto
namespace Go.Proofs.YtkbkappbplocoaaDoor
open Go.RowKit

def fin (neg : Bool) (all : List UInt8) (e : Int) (r : List UInt8) : Dec × Nat := if r = [] then (mkD neg (num all) e, mkE neg (num all) e) else (Dec.zero, 170)
def stepP (neg : Bool) (all : List UInt8) (b : Nat) (r : List UInt8) : Dec × Nat := match power r with
  | none => (Dec.zero, 170)
  | some (sg, p, r') => fin neg all ((if sg then -(num p : Int) else num p) - (b : Int)) r'
def stepB (neg : Bool) (all r : List UInt8) : Dec × Nat := match behind r with
  | none => (Dec.zero, 170)
  | some (bb, r') => stepP neg (all ++ bb) bb.length r'
def stepA (neg : Bool) (r : List UInt8) : Dec × Nat := match ahead r with
  | none => (Dec.zero, 170)
  | some (a, r') => stepB neg a r'
theorem parse_steps (l : List UInt8) (h : ¬ 1000 < l.length) : (parseD l, parseE l) = stepA (signed l).1 (signed l).2 := by
  unfold parseD parseE
  rw [if_neg h, if_neg h]
  unfold parts stepA
  cases ahead (signed l).2 with
  | none => rfl
  | some ar =>
    obtain ⟨a, r⟩ := ar
    simp only
    unfold stepB
    cases behind r with
    | none => rfl
    | some br =>
      obtain ⟨b, r⟩ := br
      simp only
      unfold stepP
      cases power r with
      | none => rfl
      | some pr =>
        obtain ⟨sg, p, r⟩ := pr
        simp only
        unfold fin
        by_cases hr : r = []
        · rw [if_pos hr, if_pos hr]; rfl
        · rw [if_neg hr, if_neg hr]
theorem fin_num {neg : Bool} {a b : List UInt8} (h : num a = num b) (e : Int) (r : List UInt8) : fin neg a e r = fin neg b e r := by unfold fin; rw [h]
theorem stepB_num {neg : Bool} {a a' r : List UInt8} (h : num a = num a') : stepB neg a r = stepB neg a' r := by
  unfold stepB
  cases behind r with
  | none => rfl
  | some br =>
    obtain ⟨b, r⟩ := br
    simp only
    unfold stepP
    cases power r with
    | none => rfl
    | some pr =>
      obtain ⟨sg, p, r⟩ := pr
      exact fin_num (by rw [num_append, num_append, h]) _ _
/-- The power, cut at a million. -/
theorem fin_cut (neg sg : Bool) {all p r : List UInt8} (hd : Digs all) (hl : all.length ≤ 1000) {b : Nat} (hb : b ≤ 1000) :
    fin neg all ((if sg then -((min (num p) 1000000 : Nat) : Int) else ((min (num p) 1000000 : Nat) : Int)) - (b : Int)) r = fin neg all ((if sg then -(num p : Int) else num p) - (b : Int)) r := by
  unfold fin
  have := mayB_cut neg sg hd (num p) b 1000000 hl hb (by omega)
  rw [this.1, this.2]
theorem drop_head {l : List UInt8} {k : Nat} (h : k < l.length) : (l.drop k).head? = some (l.getD k 0) := by rw [drop_getD l k h]; rfl
theorem byte_is {l : List UInt8} {k : Nat} (c : UInt8) : l.getD k 0 = c ↔ byteAt l k = c.toNat := ⟨fun h => by unfold byteAt; rw [h], fun h => UInt8.toNat_inj.1 h⟩
theorem span_drop (l : List UInt8) (k : Nat) : spanD (l.drop k) = l.drop (k + (spanT (l.drop k)).length) := by
  have h : spanT (l.drop k) ++ spanD (l.drop k) = l.drop k := List.takeWhile_append_dropWhile
  have h2 := congrArg (List.drop (spanT (l.drop k)).length) h
  rw [List.drop_left, List.drop_drop] at h2
  exact h2
theorem span_le (l : List UInt8) {k : Nat} (hk : k ≤ l.length) : k + (spanT (l.drop k)).length ≤ l.length := by
  have h := span_len (l.drop k)
  rw [List.length_drop] at h
  omega
theorem span_slice (l : List UInt8) (k : Nat) : (l.take (k + (spanT (l.drop k)).length)).drop k = spanT (l.drop k) := by
  have h : spanT (l.drop k) ++ spanD (l.drop k) = l.drop k := List.takeWhile_append_dropWhile
  rw [List.drop_take, Nat.add_sub_cancel_left]
  have h9 := congrArg (List.take (spanT (l.drop k)).length) h
  rw [List.take_left] at h9
  exact h9.symm
/-! ### Which way the text goes -/
theorem signed_at (l : List UInt8) : (l.head? = some 45 ∧ signed l = (true, l.drop 1)) ∨ (¬ l.head? = some 45 ∧ signed l = (false, l.drop 0)) := by
  unfold signed
  by_cases h : l.head? = some 45
  · exact .inl ⟨h, if_pos h⟩
  · exact .inr ⟨h, by rw [if_neg h]; rfl⟩
theorem stepA_none {neg : Bool} {r : List UInt8} (h : spanT r = []) : stepA neg r = (Dec.zero, 170) := by
  unfold stepA ahead
  have h0 : ¬ r.head? = some 48 := fun e => by
    cases r with
    | nil => simp at e
    | cons b t => injection e with e; subst e; unfold spanT at h; rw [List.takeWhile_cons] at h; simp [isDig] at h
  rw [if_neg h0, if_pos h]
theorem digit_not {c : UInt8} (h : isDig c = true) : c ≠ 46 ∧ c ≠ 101 ∧ c ≠ 69 := by
  refine ⟨fun e => ?_, fun e => ?_, fun e => ?_⟩ <;> (subst e; revert h; decide)
theorem stepA_long {neg : Bool} {r : List UInt8} (h : r.head? = some 48) (h1 : 1 < (spanT r).length) : stepA neg r = (Dec.zero, 170) := by
  cases r with
  | nil => simp at h
  | cons b t =>
    injection h with h
    subst h
    have ht : spanT (48 :: t) = 48 :: spanT t := by unfold spanT; rw [List.takeWhile_cons]; rfl
    rw [ht, List.length_cons] at h1
    cases t with
    | nil => simp [spanT] at h1
    | cons c u =>
      have hc : isDig c = true := by
        cases hc : isDig c with
        | true => rfl
        | false => unfold spanT at h1; rw [List.takeWhile_cons, if_neg (by rw [hc]; decide)] at h1; simp at h1
      obtain ⟨n1, n2, n3⟩ := digit_not hc
      unfold stepA ahead
      simp only [List.head?_cons, if_true, List.drop_succ_cons, List.drop_zero]
      unfold stepB behind
      simp only [List.head?_cons, Option.some.injEq, if_neg n1]
      unfold stepP power
      simp only [List.head?_cons, Option.some.injEq, n2, n3, or_self, if_false]
      unfold fin
      rw [if_neg (by simp)]
theorem stepA_some {neg : Bool} {r : List UInt8} (h : spanT r ≠ []) (h1 : ¬ (r.head? = some 48 ∧ 1 < (spanT r).length)) : stepA neg r = stepB neg (spanT r) (spanD r) := by
  unfold stepA ahead
  by_cases h0 : r.head? = some 48
  · rw [if_pos h0]
    cases r with
    | nil => simp at h0
    | cons b t =>
      injection h0 with h0
      subst h0
      have ht : spanT (48 :: t) = 48 :: spanT t := by unfold spanT; rw [List.takeWhile_cons]; rfl
      have htd : spanD (48 :: t) = spanD t := by unfold spanD; rw [List.dropWhile_cons]; rfl
      have hz : spanT t = [] := by
        cases hz : spanT t with
        | nil => rfl
        | cons c u => exact absurd ⟨rfl, by rw [ht, hz]; simp⟩ h1
      have hd : spanD t = t := by
        have : spanT t ++ spanD t = t := List.takeWhile_append_dropWhile
        rw [hz] at this
        exact this
      rw [ht, htd, hz, hd]
      exact stepB_num rfl
  · rw [if_neg h0, if_neg h]
theorem stepB_no {neg : Bool} {all r : List UInt8} (h : ¬ r.head? = some 46) : stepB neg all r = stepP neg all 0 r := by
  unfold stepB behind
  rw [if_neg h]
  simp
theorem stepB_none {neg : Bool} {all r : List UInt8} (h : r.head? = some 46) (h1 : spanT (r.drop 1) = []) : stepB neg all r = (Dec.zero, 170) := by
  unfold stepB behind
  rw [if_pos h, if_pos h1]
theorem stepB_some {neg : Bool} {all r : List UInt8} (h : r.head? = some 46) (h1 : spanT (r.drop 1) ≠ []) : stepB neg all r = stepP neg (all ++ spanT (r.drop 1)) (spanT (r.drop 1)).length (spanD (r.drop 1)) := by
  unfold stepB behind
  rw [if_pos h, if_neg h1]
theorem stepP_no {neg : Bool} {all r : List UInt8} {b : Nat} (h : ¬ (r.head? = some 101 ∨ r.head? = some 69)) : stepP neg all b r = fin neg all (-(b : Int)) r := by
  unfold stepP power
  rw [if_neg h]
  simp [num_nil]
theorem stepP_none {neg : Bool} {all r q : List UInt8} {b : Nat} (h : r.head? = some 101 ∨ r.head? = some 69) (hq : q = if (r.drop 1).head? = some 45 ∨ (r.drop 1).head? = some 43 then (r.drop 1).drop 1 else r.drop 1) (h1 : spanT q = []) : stepP neg all b r = (Dec.zero, 170) := by
  unfold stepP power
  rw [if_pos h]
  simp only
  rw [← hq, if_pos h1]
theorem stepP_some {neg : Bool} {all r q : List UInt8} {b : Nat} (h : r.head? = some 101 ∨ r.head? = some 69) (hq : q = if (r.drop 1).head? = some 45 ∨ (r.drop 1).head? = some 43 then (r.drop 1).drop 1 else r.drop 1) (h1 : spanT q ≠ []) :
    stepP neg all b r = fin neg all ((if (r.drop 1).head? == some 45 then -(num (spanT q) : Int) else num (spanT q)) - (b : Int)) (spanD q) := by
  unfold stepP power
  rw [if_pos h]
  simp only
  rw [← hq, if_neg h1]
/-! ### What is left of a function's code from one region on -/
def headIs (i : Nat) : Code → Bool
  | .region j _ _ => i == j
  | .seq a _ => headIs i a
  | .block _ c => headIs i c
  | _ => false
def sufOf (i : Nat) : Code → Option Code
  | .seq a b => if headIs i a then some (.seq a b) else match sufOf i b with
    | some c => some c
    | none => sufOf i a
  | .cond _ a b => match sufOf i a with
    | some c => some c
    | none => sufOf i b
  | _ => none
noncomputable def rpSuf (i : Nat) : Code := (Tryd.f12.body.bind (sufOf i)).getD .skip
noncomputable def rpR (i : Nat) : Code := match rpSuf i with | .seq (.seq r _) _ => r | _ => .skip
noncomputable def rpC (i : Nat) : Code := match rpSuf i with | .seq (.seq _ c) _ => c | _ => .skip
noncomputable def rpT (i : Nat) : Code := match rpSuf i with | .seq (.seq _ _) t => t | _ => .skip
end Go.Proofs.YtkbkappbplocoaaDoor
