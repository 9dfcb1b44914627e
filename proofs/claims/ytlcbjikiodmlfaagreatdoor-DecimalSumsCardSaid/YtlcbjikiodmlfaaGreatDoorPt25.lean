/- Layer 7: a decimal's text tells that decimal. Of no program. -/
import Derived.Test.YtlcbjikiodmlfaaGreatDoorPt02
import Derived.Lib.ItoaLen
namespace Go.Proofs.YtlcbjikiodmlfaaGreatDoor
open Go.Lib

theorem digs_head {l : List UInt8} (h : Digs l) {c : UInt8} (hc : isDig c = false) : l.head? ≠ some c := by
  cases l with
  | nil => simp
  | cons b r =>
    intro e
    have : b = c := by simpa using e
    have hb := h b (by simp)
    rw [this, hc] at hb; cases hb
theorem nodig {r : List UInt8} {c : UInt8} (hc : isDig c = false) (h : r.head? = some c ∨ r = []) : ∀ x, r.head? = some x → isDig x = false := by
  intro x hx
  rcases h with h | h
  · rw [h] at hx; injection hx with hx; rw [← hx]; exact hc
  · rw [h] at hx; cases hx
/-- Digits without a 0 in front, and what is no digit behind them. -/
theorem ahead_of {a r : List UInt8} (ha : Digs a) (h0 : a ≠ []) (hh : a.head? ≠ some 48) (hr : ∀ x, r.head? = some x → isDig x = false) : ahead (a ++ r) = some (a, r) := by
  have hs := spanT_append ha hr
  have hq : (a ++ r).head? = a.head? := by cases a; · exact absurd rfl h0
                                           · rfl
  unfold ahead
  rw [hq, if_neg hh, hs.1, hs.2, if_neg h0]
theorem behind_of {b r : List UInt8} (hb : Digs b) (h0 : b ≠ []) (hr : ∀ x, r.head? = some x → isDig x = false) : behind (46 :: (b ++ r)) = some (b, r) := by
  have hs := spanT_append hb hr
  unfold behind
  rw [if_pos List.head?_cons]
  show (if spanT (b ++ r) = [] then none else some (spanT (b ++ r), spanD (b ++ r))) = _
  rw [hs.1, hs.2, if_neg h0]
theorem behind_no {r : List UInt8} (h : r.head? ≠ some 46) : behind r = some ([], r) := by unfold behind; rw [if_neg h]
theorem power_no {r : List UInt8} (h : r.head? ≠ some 101) (h' : r.head? ≠ some 69) : power r = some (false, [], r) := by
  unfold power; rw [if_neg (fun x => x.elim h h')]
theorem power_itoa (q : Int) : power (101 :: itoa q) = some (decide (q < 0), decDigits q.natAbs, []) := by
  unfold power
  rw [if_pos (Or.inl List.head?_cons)]
  have e : (101 :: itoa q).drop 1 = itoa q := rfl
  simp only [e]
  have hs := spanT_append (r := []) (decDigits_digs q.natAbs) (by intro c hc; cases hc)
  rw [List.append_nil] at hs
  have hn := decDigits_ne q.natAbs
  by_cases h : q < 0
  · have hi : itoa q = 45 :: decDigits q.natAbs := by unfold itoa; rw [if_pos h]
    rw [hi]
    simp only [List.head?_cons, true_or, if_true, List.drop_succ_cons, List.drop_zero, hs.1, hs.2, if_neg hn, beq_self_eq_true, decide_eq_true h]
  · have hi : itoa q = decDigits q.natAbs := by unfold itoa; rw [if_neg h, show q.toNat = q.natAbs by omega]
    have h1 : (itoa q).head? ≠ some 45 := by rw [hi]; exact digs_head (decDigits_digs _) (by decide)
    have h2 : (itoa q).head? ≠ some 43 := by rw [hi]; exact digs_head (decDigits_digs _) (by decide)
    have h3 : ((itoa q).head? == some 45) = false := by rw [beq_eq_false_iff_ne]; exact h1
    have h4 : ¬ ((itoa q).head? = some 45 ∨ (itoa q).head? = some 43) := fun x => x.elim h1 h2
    rw [if_neg h4, h3, hi, hs.1, hs.2, if_neg hn, decide_eq_false h]
/-- What the text of digits and a power consists of. -/
theorem ahead_one {l : List UInt8} (hl : l ≠ []) : l.take 1 ≠ [] := by
  cases l with
  | nil => exact absurd rfl hl
  | cons b r => simp
theorem take_head {l : List UInt8} {k : Nat} (hk : 0 < k) : (l.take k).head? = l.head? := by
  cases l with
  | nil => simp
  | cons b r => obtain ⟨m, rfl⟩ : ∃ m, k = m + 1 := ⟨k - 1, by omega⟩; simp
/-- The parts, with the sign left out. -/
def partsB (neg : Bool) (l : List UInt8) : Option Parts :=
  match ahead l with
  | none => none
  | some (a, r) => match behind r with
    | none => none
    | some (b, r) => match power r with
      | none => none
      | some (sg, p, r) => if r = [] then some ⟨neg, a, b, sg, p⟩ else none
theorem body_parts (neg : Bool) (l : List UInt8) (e : Int) (hd : Digs l) (h0 : l ≠ []) (hh : l.head? ≠ some 48) :
    ∃ q, partsB neg (bodyL l e) = some q ∧ q.neg = neg ∧ ((num (q.a ++ q.b) = num l ∧ q.exp = e) ∨ (0 ≤ e ∧ num (q.a ++ q.b) = num l * 10 ^ e.toNat ∧ q.exp = 0)) := by
  have hp : 0 < l.length := List.length_pos_iff.2 h0
  have nil_no : ∀ x : UInt8, ([] : List UInt8).head? = some x → isDig x = false := fun x h => by cases h
  unfold bodyL
  simp only
  by_cases c1 : 0 ≤ e ∧ (l.length : Int) + e ≤ 21
  · rw [if_pos c1]
    have ha : Digs (l ++ zeros e.toNat) := hd.append (Digs.zeros _)
    have h1 : ahead (l ++ zeros e.toNat) = some (l ++ zeros e.toNat, []) := by
      have := ahead_of (r := []) ha (by simp [h0]) (by cases l; · exact absurd rfl h0
                                                       · exact hh) nil_no
      rwa [List.append_nil] at this
    refine ⟨⟨neg, l ++ zeros e.toNat, [], false, []⟩, ?_, rfl, Or.inr ⟨c1.1, ?_, ?_⟩⟩
    · unfold partsB
      rw [h1]
      rfl
    · show num (l ++ zeros e.toNat ++ []) = _
      rw [List.append_nil]
      exact num_zeros_behind l _
    · rfl
  · rw [if_neg c1]
    by_cases c2 : 0 < (l.length : Int) + e ∧ (l.length : Int) + e ≤ 21
    · rw [if_pos c2]
      obtain ⟨k, hk⟩ : ∃ k : Nat, (l.length : Int) + e = k := ⟨((l.length : Int) + e).toNat, by omega⟩
      rw [hk, Int.toNat_natCast]
      have hkl : k < l.length := by omega
      have hk0 : 0 < k := by omega
      have ht0 : l.take k ≠ [] := by
        intro e; have := congrArg List.length e; rw [List.length_take] at this; have h9 : min _ l.length = 0 := this; omega
      have hd0 : l.drop k ≠ [] := by
        intro e; have := congrArg List.length e; rw [List.length_drop] at this; have h9 : l.length - _ = 0 := this; omega
      have h1 := ahead_of (r := 46 :: l.drop k) (hd.take k) ht0 (by rw [take_head hk0]; exact hh) (nodig (c := 46) (by decide) (Or.inl rfl))
      have h2 := behind_of (r := []) (hd.drop k) hd0 nil_no
      rw [List.append_nil] at h2
      refine ⟨⟨neg, l.take k, l.drop k, false, []⟩, ?_, rfl, Or.inl ⟨?_, ?_⟩⟩
      · unfold partsB
        rw [h1]
        simp only [h2]
        rfl
      · show num (l.take k ++ l.drop k) = _
        rw [List.take_append_drop]
      · show ((if (false : Bool) = true then -((num [] : Nat) : Int) else (num [] : Nat)) - ((l.drop k).length : Int)) = e
        rw [List.length_drop, num_nil]
        simp
        omega
    · rw [if_neg c2]
      by_cases c3 : -5 ≤ (l.length : Int) + e ∧ (l.length : Int) + e ≤ 0
      · rw [if_pos c3]
        have hb : Digs (zeros (-((l.length : Int) + e)).toNat ++ l) := (Digs.zeros _).append hd
        have h2 := behind_of (r := []) hb (by simp [h0]) nil_no
        rw [List.append_nil] at h2
        refine ⟨⟨neg, [], zeros (-((l.length : Int) + e)).toNat ++ l, false, []⟩, ?_, rfl, Or.inl ⟨?_, ?_⟩⟩
        · unfold partsB
          have h1 : ahead (48 :: 46 :: (zeros (-((l.length : Int) + e)).toNat ++ l)) = some ([], 46 :: (zeros (-((l.length : Int) + e)).toNat ++ l)) := by
            unfold ahead; rw [if_pos List.head?_cons]; rfl
          rw [h1]
          simp only [h2]
          rfl
        · show num ([] ++ (zeros (-((l.length : Int) + e)).toNat ++ l)) = _
          rw [List.nil_append]
          exact num_zeros_ahead l _
        · show ((if (false : Bool) = true then -((num [] : Nat) : Int) else (num [] : Nat)) - ((zeros (-((l.length : Int) + e)).toNat ++ l).length : Int)) = e
          rw [List.length_append, num_nil, show (zeros (-((l.length : Int) + e)).toNat).length = (-((l.length : Int) + e)).toNat from List.length_replicate ..]
          simp
          omega
      · rw [if_neg c3]
        have hpw := power_itoa ((l.length : Int) + e - 1)
        have ht0 : l.take 1 ≠ [] := ahead_one h0
        by_cases c4 : 1 < l.length
        · rw [if_pos c4]
          have hd0 : l.drop 1 ≠ [] := by
            intro e; have := congrArg List.length e; rw [List.length_drop] at this; have h9 : l.length - _ = 0 := this; omega
          have h1 := ahead_of (r := 46 :: (l.drop 1 ++ 101 :: itoa ((l.length : Int) + e - 1))) (hd.take 1) ht0 (by rw [take_head (by omega)]; exact hh) (nodig (c := 46) (by decide) (Or.inl rfl))
          have h2 := behind_of (r := 101 :: itoa ((l.length : Int) + e - 1)) (hd.drop 1) hd0 (nodig (c := 101) (by decide) (Or.inl rfl))
          refine ⟨⟨neg, l.take 1, l.drop 1, decide ((l.length : Int) + e - 1 < 0), decDigits ((l.length : Int) + e - 1).natAbs⟩, ?_, rfl, Or.inl ⟨?_, ?_⟩⟩
          · unfold partsB
            rw [List.cons_append, h1]
            simp only [h2, hpw]
            rfl
          · show num (l.take 1 ++ l.drop 1) = _
            rw [List.take_append_drop]
          · show ((if decide ((l.length : Int) + e - 1 < 0) = true then -((num (decDigits ((l.length : Int) + e - 1).natAbs) : Nat) : Int) else (num (decDigits ((l.length : Int) + e - 1).natAbs) : Nat)) - ((l.drop 1).length : Int)) = e
            rw [num_decDigits, List.length_drop]
            by_cases c5 : (l.length : Int) + e - 1 < 0
            · rw [decide_eq_true c5, if_pos rfl]; omega
            · rw [decide_eq_false c5, if_neg (by decide)]; omega
        · rw [if_neg c4, List.nil_append]
          have hl1 : l.length = 1 := by omega
          have h1 := ahead_of (r := 101 :: itoa ((l.length : Int) + e - 1)) (hd.take 1) ht0 (by rw [take_head (by omega)]; exact hh) (nodig (c := 101) (by decide) (Or.inl rfl))
          have h2 : behind (101 :: itoa ((l.length : Int) + e - 1)) = some ([], 101 :: itoa ((l.length : Int) + e - 1)) := behind_no (by simp)
          refine ⟨⟨neg, l.take 1, [], decide ((l.length : Int) + e - 1 < 0), decDigits ((l.length : Int) + e - 1).natAbs⟩, ?_, rfl, Or.inl ⟨?_, ?_⟩⟩
          · unfold partsB
            rw [h1]
            simp only [h2, hpw]
            rfl
          · show num (l.take 1 ++ []) = _
            rw [List.append_nil, List.take_of_length_le (by omega)]
          · show ((if decide ((l.length : Int) + e - 1 < 0) = true then -((num (decDigits ((l.length : Int) + e - 1).natAbs) : Nat) : Int) else (num (decDigits ((l.length : Int) + e - 1).natAbs) : Nat)) - (([] : List UInt8).length : Int)) = e
            rw [num_decDigits]
            by_cases c5 : (l.length : Int) + e - 1 < 0
            · rw [decide_eq_true c5, if_pos rfl]; simp; omega
            · rw [decide_eq_false c5, if_neg (by decide)]; simp; omega
theorem bodyL_head {l : List UInt8} {e : Int} (hd : Digs l) (h0 : l ≠ []) : (bodyL l e).head? ≠ some 45 := by
  have hp : 0 < l.length := List.length_pos_iff.2 h0
  have key : ∀ r : List UInt8, ∀ k, 0 < k → (l.take k ++ r).head? ≠ some 45 := fun r k hk => by
    have ht0 : l.take k ≠ [] := by
      intro e; have := congrArg List.length e; rw [List.length_take] at this; have h9 : min _ l.length = 0 := this; omega
    have := digs_head (hd.take k) (c := 45) (by decide)
    cases hx : l.take k with
    | nil => exact absurd hx ht0
    | cons b t => rw [hx] at this; exact this
  unfold bodyL
  simp only
  split
  · have := key (zeros e.toNat) l.length hp
    rwa [List.take_length] at this
  · split
    · exact key _ _ (by omega)
    · split
      · simp
      · exact key _ 1 (by omega)
theorem textL_len {d : Dec} (h : May d) : (textL d).length ≤ 200 := by
  have hl := h.len
  have h1 := h.lo
  have h2 := h.hi
  have hi := itoa_length_le (d.digits.length + d.exp - 1) (by omega) (by omega)
  unfold textL
  split
  · simp
  · rw [List.length_append]
    have hs : (if d.neg then [45] else [] : List UInt8).length ≤ 1 := by split <;> simp
    have hb : (bodyL d.digits d.exp).length ≤ 150 := by
      unfold bodyL
      simp only
      split
      · rw [List.length_append, show (zeros d.exp.toNat).length = d.exp.toNat from List.length_replicate ..]; omega
      · split
        · rw [List.length_append, List.length_cons, List.length_take, List.length_drop]; omega
        · split
          · rw [List.length_cons, List.length_cons, List.length_append, show (zeros (-((d.digits.length : Int) + d.exp)).toNat).length = (-((d.digits.length : Int) + d.exp)).toNat from List.length_replicate ..]; omega
          · rw [List.length_append, List.length_append, List.length_cons, List.length_take]
            have : (if 1 < d.digits.length then 46 :: d.digits.drop 1 else [] : List UInt8).length ≤ d.digits.length + 1 := by
              split
              · rw [List.length_cons, List.length_drop]; omega
              · simp
            omega
    omega
/-- A decimal's text tells that decimal. -/
theorem parse_text {d : Dec} (h : May d) : parseD (textL d) = d ∧ parseE (textL d) = 0 := by
  have hlen := textL_len h
  have hlt : ¬ 1000 < (textL d).length := by omega
  by_cases e0 : d.digits = []
  · obtain ⟨h1, h2⟩ := h.nil e0
    have hd : d = Dec.zero := Dec.ext' h1 e0 h2
    subst hd
    have hp : parts (textL Dec.zero) = some ⟨false, [], [], false, []⟩ := by rfl
    unfold parseD parseE
    rw [if_neg hlt, if_neg hlt, hp]
    exact ⟨mk_zero _ _, mkE_zero _ _⟩
  · obtain ⟨q, hq, hqn, hqv⟩ := body_parts d.neg d.digits d.exp h.digs e0 h.head
    have hp : parts (textL d) = some q := by
      have ht : textL d = (if d.neg then [45] else []) ++ bodyL d.digits d.exp := by unfold textL; rw [if_neg e0]
      have hs : signed (textL d) = (d.neg, bodyL d.digits d.exp) := by
        rw [ht]
        cases hn : d.neg with
        | true => rfl
        | false =>
          show signed (bodyL d.digits d.exp) = _
          unfold signed
          rw [if_neg (bodyL_head h.digs e0)]
      rw [← hq]
      unfold parts partsB
      rw [hs]
      rfl
    have hm := h.made
    have hmE := h.madeE
    unfold parseD parseE
    rw [if_neg hlt, if_neg hlt, hp]
    simp only
    rw [hqn]
    rcases hqv with ⟨hv, hx⟩ | ⟨he, hv, hx⟩
    · rw [hv, hx]; exact ⟨hm, hmE⟩
    · rw [hv, hx]
      have h1 := mk_ten d.neg (num d.digits) d.exp d.exp.toNat
      have h2 := mkE_ten d.neg (num d.digits) d.exp d.exp.toNat
      rw [show d.exp - (d.exp.toNat : Int) = 0 by omega] at h1 h2
      rw [h1, h2]; exact ⟨hm, hmE⟩
theorem parse_back (l : List UInt8) : parseD (textL (parseD l)) = parseD l ∧ parseE (textL (parseD l)) = 0 := parse_text (parseD_may l)
end Go.Proofs.YtlcbjikiodmlfaaGreatDoor
