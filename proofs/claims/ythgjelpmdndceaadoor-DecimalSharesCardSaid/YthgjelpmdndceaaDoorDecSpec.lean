/- Layer 7: what a decimal is, which number's decimal is which, its text, and what a text tells. Of no program. -/
import Derived.Test.YthgjelpmdndceaaDoorDecWord
namespace Go.Proofs.YthgjelpmdndceaaDoor
open Go.Lib

structure Dec where
  neg : Bool
  digits : List UInt8
  exp : Int

def Dec.zero : Dec := ⟨false, [], 0⟩
theorem Dec.ext' {a b : Dec} (h1 : a.neg = b.neg) (h2 : a.digits = b.digits) (h3 : a.exp = b.exp) : a = b := by
  cases a; cases b; simp only at h1 h2 h3; rw [h1, h2, h3]

def allDig (l : List UInt8) : Bool := l.all isDig
theorem allDig_iff {l : List UInt8} : allDig l = true ↔ Digs l := by
  unfold allDig Digs
  simp [List.all_eq_true]

/-- May it be? -/
structure May (d : Dec) : Prop where
  digs : Digs d.digits
  len : d.digits.length ≤ 100
  head : d.digits.head? ≠ some 48
  last : d.digits.getLast? ≠ some 48
  lo : -1000 ≤ d.exp
  hi : d.exp ≤ 1000
  nil : d.digits = [] → d.neg = false ∧ d.exp = 0
def mayB (d : Dec) : Bool :=
  if d.digits = [] then !d.neg && decide (d.exp = 0)
  else decide (d.digits.length ≤ 100) && decide (-1000 ≤ d.exp) && decide (d.exp ≤ 1000) && allDig d.digits && !(d.digits.head? == some 48) && !(d.digits.getLast? == some 48)
theorem mayB_iff (d : Dec) : mayB d = true ↔ May d := by
  unfold mayB
  constructor
  · intro h
    split at h
    · rename_i e
      simp only [Bool.and_eq_true, decide_eq_true_eq, Bool.not_eq_true'] at h
      exact ⟨by rw [e]; exact Digs.nil, by simp [e], by simp [e], by simp [e], by omega, by omega, fun _ => h⟩
    · rename_i e
      simp only [Bool.and_eq_true, decide_eq_true_eq, Bool.not_eq_true', beq_eq_false_iff_ne, allDig_iff] at h
      obtain ⟨⟨⟨⟨⟨h1, h2⟩, h3⟩, h4⟩, h5⟩, h6⟩ := h
      exact ⟨h4, h1, h5, h6, h2, h3, fun x => absurd x e⟩
  · intro h
    split
    · rename_i e
      obtain ⟨h1, h2⟩ := h.nil e
      simp [h1, h2]
    · rename_i e
      simp only [Bool.and_eq_true, decide_eq_true_eq, Bool.not_eq_true', beq_eq_false_iff_ne, allDig_iff]
      exact ⟨⟨⟨⟨⟨h.len, h.lo⟩, h.hi⟩, h.digs⟩, h.head⟩, h.last⟩
theorem May.zero : May Dec.zero := ⟨Digs.nil, by simp [Dec.zero], by simp [Dec.zero], by simp [Dec.zero], by simp [Dec.zero], by simp [Dec.zero], fun _ => ⟨rfl, rfl⟩⟩

/-- The decimal of a number times 10 to a power, before it is asked whether it may be. -/
def dec (neg : Bool) (n : Nat) (e : Int) : Dec := if n = 0 then Dec.zero else ⟨neg, dig (core n), e + tz n⟩
/-- What is told of it: the number of an error, and the decimal, if it may be. -/
def mkE (neg : Bool) (n : Nat) (e : Int) : Nat := if mayB (dec neg n e) then 0 else 4
def mkD (neg : Bool) (n : Nat) (e : Int) : Dec := if mayB (dec neg n e) then dec neg n e else Dec.zero

theorem dec_zero (neg : Bool) (e : Int) : dec neg 0 e = Dec.zero := rfl
theorem dec_pos (neg : Bool) {n : Nat} (h : 0 < n) (e : Int) : dec neg n e = ⟨neg, dig (core n), e + tz n⟩ := by unfold dec; rw [if_neg (by omega)]
theorem mk_zero (neg : Bool) (e : Int) : mkD neg 0 e = Dec.zero := by unfold mkD; rw [dec_zero]; split <;> rfl
theorem mkE_zero (neg : Bool) (e : Int) : mkE neg 0 e = 0 := by
  unfold mkE; rw [dec_zero, if_pos ((mayB_iff _).2 May.zero)]
theorem mk_may (neg : Bool) (n : Nat) (e : Int) : May (mkD neg n e) := by
  unfold mkD
  split
  · rename_i h; exact (mayB_iff _).1 h
  · exact May.zero
theorem dec_ten (neg : Bool) (n : Nat) (e : Int) (k : Nat) : dec neg (n * 10 ^ k) (e - k) = dec neg n e := by
  rcases Nat.eq_zero_or_pos n with h | h
  · rw [h, Nat.zero_mul, dec_zero, dec_zero]
  · rw [dec_pos neg h, dec_pos neg (Nat.mul_pos h (Nat.pow_pos (by omega))), tz_ten h, core_ten h]
    congr 1
    omega
theorem mk_ten (neg : Bool) (n : Nat) (e : Int) (k : Nat) : mkD neg (n * 10 ^ k) (e - k) = mkD neg n e := by unfold mkD; rw [dec_ten]
theorem mkE_ten (neg : Bool) (n : Nat) (e : Int) (k : Nat) : mkE neg (n * 10 ^ k) (e - k) = mkE neg n e := by unfold mkE; rw [dec_ten]
/-- A decimal that may be is the decimal of its number. -/
theorem May.dec {d : Dec} (h : May d) : Go.Proofs.YthgjelpmdndceaaDoor.dec d.neg (num d.digits) d.exp = d := by
  by_cases e : d.digits = []
  · obtain ⟨h1, h2⟩ := h.nil e
    rw [e, num_nil, dec_zero]
    exact Dec.ext' h1.symm e.symm h2.symm
  · obtain ⟨hc, ht⟩ := core_of h.digs e h.last
    have hp : 0 < num d.digits := by have := num_last h.digs e h.last; omega
    rw [dec_pos _ hp, hc, ht, dig_num h.digs h.head]
    exact Dec.ext' rfl rfl (by simp)
theorem May.made {d : Dec} (h : May d) : mkD d.neg (num d.digits) d.exp = d := by
  unfold mkD; rw [h.dec, if_pos ((mayB_iff _).2 h)]
theorem May.madeE {d : Dec} (h : May d) : mkE d.neg (num d.digits) d.exp = 0 := by
  unfold mkE; rw [h.dec, if_pos ((mayB_iff _).2 h)]

/-- A power that is far too great is as good as any other one. -/
theorem dec_far (neg : Bool) {n : Nat} (h : 0 < n) {e : Int} (he : 1000 < e ∨ e + tz n < -1000) : mayB (dec neg n e) = false := by
  cases hb : mayB (dec neg n e) with
  | false => rfl
  | true =>
    have hm := (mayB_iff _).1 hb
    rw [dec_pos neg h] at hm
    have h1 := hm.lo; have h2 := hm.hi
    simp only at h1 h2
    omega
theorem tz_le {l : List UInt8} (h : Digs l) : tz (num l) ≤ l.length := by
  rcases Nat.eq_zero_or_pos (num l) with e | e
  · rw [e, tz_zero]; omega
  · have h1 := num_lt h
    have h2 := core_mul (num l)
    have h3 := core_pos e
    have h4 : 1 * 10 ^ tz (num l) ≤ core (num l) * 10 ^ tz (num l) := Nat.mul_le_mul_right _ h3
    rcases Nat.lt_or_ge l.length (tz (num l)) with h5 | h5
    · have : 10 ^ l.length ≤ 10 ^ tz (num l) := Nat.pow_le_pow_right (by omega) (by omega)
      omega
    · exact h5
/-- The power behind the e, cut at a bound. -/
theorem mayB_cut (neg sg : Bool) {l : List UInt8} (hd : Digs l) (p pl c : Nat) (hl : l.length ≤ 1000) (hpl : pl ≤ 1000) (hc : 3000 ≤ c) :
    mkD neg (num l) ((if sg then -((min p c : Nat) : Int) else ((min p c : Nat) : Int)) - (pl : Int)) = mkD neg (num l) ((if sg then -(p : Int) else p) - (pl : Int)) ∧
    mkE neg (num l) ((if sg then -((min p c : Nat) : Int) else ((min p c : Nat) : Int)) - (pl : Int)) = mkE neg (num l) ((if sg then -(p : Int) else p) - (pl : Int)) := by
  rcases Nat.eq_zero_or_pos (num l) with e | e
  · rw [e]; simp only [mk_zero, mkE_zero, and_self]
  · rcases Nat.lt_or_ge c p with h | h
    · have ht := tz_le hd
      have f : ∀ q : Nat, 3000 ≤ q → mayB (dec neg (num l) ((if sg then -(q : Int) else q) - (pl : Int))) = false := by
        intro q hq
        refine dec_far neg e ?_
        cases sg
        · left; simp only [Bool.false_eq_true, if_false]; omega
        · right; simp only [if_true]; omega
      have h1 := f (min p c) (by omega)
      have h2 := f p (by omega)
      unfold mkD mkE
      rw [h1, h2]
      simp
    · rw [Nat.min_eq_left h]; exact ⟨rfl, rfl⟩

/-! ### A text's number -/
def spanT (l : List UInt8) : List UInt8 := l.takeWhile isDig
def spanD (l : List UInt8) : List UInt8 := l.dropWhile isDig
/-- The digits ahead of the point but for a 0 with which they begin; and what is behind them. -/
def ahead (l : List UInt8) : Option (List UInt8 × List UInt8) :=
  if l.head? = some 48 then some ([], l.drop 1) else if spanT l = [] then none else some (spanT l, spanD l)
def behind (l : List UInt8) : Option (List UInt8 × List UInt8) :=
  if l.head? = some 46 then (if spanT (l.drop 1) = [] then none else some (spanT (l.drop 1), spanD (l.drop 1))) else some ([], l)
def power (l : List UInt8) : Option (Bool × List UInt8 × List UInt8) :=
  if l.head? = some 101 ∨ l.head? = some 69 then
    (let r := l.drop 1
     let sg : Bool := r.head? == some 45
     let r' := if r.head? = some 45 ∨ r.head? = some 43 then r.drop 1 else r
     if spanT r' = [] then none else some (sg, spanT r', spanD r'))
  else some (false, [], l)
def signed (l : List UInt8) : Bool × List UInt8 := if l.head? = some 45 then (true, l.drop 1) else (false, l)
/-- What a number's text consists of. -/
structure Parts where
  neg : Bool
  a : List UInt8
  b : List UInt8
  sg : Bool
  p : List UInt8
def parts (l : List UInt8) : Option Parts :=
  match ahead (signed l).2 with
  | none => none
  | some (a, r) => match behind r with
    | none => none
    | some (b, r) => match power r with
      | none => none
      | some (sg, p, r) => if r = [] then some ⟨(signed l).1, a, b, sg, p⟩ else none
def Parts.exp (q : Parts) : Int := (if q.sg then -(num q.p : Int) else num q.p) - (q.b.length : Int)
def parseD (l : List UInt8) : Dec :=
  if 1000 < l.length then Dec.zero else match parts l with
  | none => Dec.zero
  | some q => mkD q.neg (num (q.a ++ q.b)) q.exp
def parseE (l : List UInt8) : Nat :=
  if 1000 < l.length then 3 else match parts l with
  | none => 170
  | some q => mkE q.neg (num (q.a ++ q.b)) q.exp
theorem spanT_digs (l : List UInt8) : Digs (spanT l) := allDig_iff.1 List.all_takeWhile
theorem span_len (l : List UInt8) : (spanT l).length + (spanD l).length = l.length := by
  have := congrArg List.length (List.takeWhile_append_dropWhile (p := isDig) (l := l))
  rw [List.length_append] at this
  exact this
theorem spanT_append {a r : List UInt8} (ha : Digs a) (hr : ∀ c, r.head? = some c → isDig c = false) : spanT (a ++ r) = a ∧ spanD (a ++ r) = r := by
  induction a with
  | nil =>
    cases r with
    | nil => exact ⟨rfl, rfl⟩
    | cons c r => have := hr c rfl; exact ⟨by simp [spanT, this], by simp [spanD, this]⟩
  | cons x a ih =>
    have hx := ha x (by simp)
    have ih' := ih fun z hz => ha z (by simp [hz])
    unfold spanT spanD at *
    rw [List.cons_append, List.takeWhile_cons, List.dropWhile_cons, if_pos hx, if_pos hx]
    exact ⟨by rw [ih'.1], ih'.2⟩
theorem parseD_may (l : List UInt8) : May (parseD l) := by
  unfold parseD
  split
  · exact May.zero
  · split
    · exact May.zero
    · exact mk_may _ _ _

/-! ### A decimal's text -/
def zeros (k : Nat) : List UInt8 := List.replicate k 48
def bodyL (l : List UInt8) (e : Int) : List UInt8 :=
  let p : Int := l.length + e
  if 0 ≤ e ∧ p ≤ 21 then l ++ zeros e.toNat
  else if 0 < p ∧ p ≤ 21 then l.take p.toNat ++ 46 :: l.drop p.toNat
  else if -5 ≤ p ∧ p ≤ 0 then 48 :: 46 :: (zeros (-p).toNat ++ l)
  else l.take 1 ++ ((if 1 < l.length then 46 :: l.drop 1 else []) ++ 101 :: itoa (p - 1))
def textL (d : Dec) : List UInt8 := if d.digits = [] then [48] else (if d.neg then [45] else []) ++ bodyL d.digits d.exp
end Go.Proofs.YthgjelpmdndceaaDoor
