/- Layer 7: decimals as whole numbers of 10 to the power -k; of no program. -/
import Derived.Test.YtlcbjikiodmlfaaGreatDoorPt02
namespace Go.Proofs.YtlcbjikiodmlfaaGreatDoor
open Go.Lib

def sgZ (neg : Bool) (n : Nat) : Int := if neg then -(n : Int) else n
theorem sgZ_zero (neg : Bool) : sgZ neg 0 = 0 := by cases neg <;> rfl
theorem sgZ_abs (neg : Bool) (n : Nat) : (sgZ neg n).natAbs = n := by cases neg <;> simp [sgZ]
theorem sgZ_neg (neg : Bool) {n : Nat} (h : 0 < n) : decide (sgZ neg n < 0) = neg := by
  cases neg
  · simp [sgZ]
  · simp [sgZ]; omega
theorem sgZ_back (v : Int) : sgZ (decide (v < 0)) v.natAbs = v := by
  unfold sgZ
  by_cases h : v < 0
  · rw [decide_eq_true h, if_pos rfl]; omega
  · rw [decide_eq_false h, if_neg (by decide)]; omega
theorem sgZ_mul (neg : Bool) (n m : Nat) : sgZ neg (n * m) = sgZ neg n * m := by
  cases neg <;> simp [sgZ, Int.neg_mul]
theorem sgZ_mulmul (a b : Bool) (n m : Nat) : sgZ (a != b) (n * m) = sgZ a n * sgZ b m := by
  cases a <;> cases b <;> simp [sgZ, Int.neg_mul, Int.mul_neg]
def vl (k : Nat) (d : Dec) : Int := sgZ d.neg (num d.digits * 10 ^ (d.exp + k).toNat)
def ofZ (k : Nat) (v : Int) : Dec := mkD (decide (v < 0)) v.natAbs (-(k : Int))
def erZ (k : Nat) (v : Int) : Nat := mkE (decide (v < 0)) v.natAbs (-(k : Int))
theorem mk_lift (k : Nat) (neg : Bool) (n : Nat) (e : Int) (h : -(k : Int) ≤ e) :
    mkD neg n e = ofZ k (sgZ neg (n * 10 ^ (e + k).toNat)) ∧ mkE neg n e = erZ k (sgZ neg (n * 10 ^ (e + k).toNat)) := by
  rcases Nat.eq_zero_or_pos n with h0 | h0
  · subst h0
    rw [Nat.zero_mul, sgZ_zero, mk_zero, mkE_zero]
    unfold ofZ erZ
    exact ⟨(mk_zero _ _).symm, (mkE_zero _ _).symm⟩
  · have hp : 0 < n * 10 ^ (e + k).toNat := Nat.mul_pos h0 (Nat.pow_pos (by omega))
    unfold ofZ erZ
    rw [sgZ_neg neg hp, sgZ_abs]
    have h1 := mk_ten neg n e (e + k).toNat
    have h2 := mkE_ten neg n e (e + k).toNat
    rw [show e - ((e + k).toNat : Int) = -(k : Int) by omega] at h1 h2
    exact ⟨h1.symm, h2.symm⟩
theorem ofZ_may (k : Nat) (v : Int) : May (ofZ k v) := mk_may _ _ _
theorem vl_of {k : Nat} (hk : 1000 ≤ k) {d : Dec} (h : May d) : ofZ k (vl k d) = d ∧ erZ k (vl k d) = 0 := by
  have hl := mk_lift k d.neg (num d.digits) d.exp (by have := h.lo; omega)
  unfold vl
  rw [← hl.1, ← hl.2]
  exact ⟨h.made, h.madeE⟩
theorem vl_inj {k : Nat} (hk : 1000 ≤ k) {a b : Dec} (ha : May a) (hb : May b) (h : vl k a = vl k b) : a = b := by
  rw [← (vl_of hk ha).1, h, (vl_of hk hb).1]
theorem vl_ofZ {k : Nat} {v : Int} (h : erZ k v = 0) : vl k (ofZ k v) = v := by
  unfold erZ mkE at h
  have hb : mayB (dec (decide (v < 0)) v.natAbs (-(k : Int))) = true := by
    cases hb : mayB (dec (decide (v < 0)) v.natAbs (-(k : Int))) with
    | true => rfl
    | false => rw [hb] at h; cases h
  have hd : ofZ k v = dec (decide (v < 0)) v.natAbs (-(k : Int)) := by unfold ofZ mkD; rw [if_pos hb]
  rw [hd]
  rcases Nat.eq_zero_or_pos v.natAbs with h0 | h0
  · have : v = 0 := by omega
    subst this
    rw [show (0 : Int).natAbs = 0 from rfl, dec_zero]
    unfold vl Dec.zero
    simp only [num_nil, Nat.zero_mul]
    exact sgZ_zero _
  · rw [dec_pos _ h0]
    unfold vl
    simp only
    rw [num_dig, show ((-(k : Int) + (tz v.natAbs : Int)) + k).toNat = tz v.natAbs by omega, core_mul, sgZ_back]
theorem vl_zero (k : Nat) : vl k Dec.zero = 0 := by
  unfold vl Dec.zero
  simp only [num_nil, Nat.zero_mul]
  exact sgZ_zero _
theorem ofZ_zero (k : Nat) : ofZ k 0 = Dec.zero ∧ erZ k 0 = 0 := ⟨mk_zero _ _, mkE_zero _ _⟩

/-! ### The other sign -/
def negD (d : Dec) : Dec := ⟨!d.neg && !decide (d.digits = []), d.digits, d.exp⟩
theorem negD_may {d : Dec} (h : May d) : May (negD d) :=
  ⟨h.digs, h.len, h.head, h.last, h.lo, h.hi, fun e => by
    have e' : d.digits = [] := e
    exact ⟨by show (!d.neg && !decide (d.digits = [])) = false; rw [e']; simp, (h.nil e').2⟩⟩
theorem vl_neg (k : Nat) (d : Dec) : vl k (negD d) = -vl k d := by
  unfold vl negD
  simp only
  by_cases h : d.digits = []
  · rw [h, num_nil, Nat.zero_mul, sgZ_zero, sgZ_zero]; rfl
  · rw [decide_eq_false h]
    cases d.neg <;> simp [sgZ]

/-! ### Products -/
def mulD (a b : Dec) : Dec := mkD (a.neg != b.neg) (num a.digits * num b.digits) (a.exp + b.exp)
def mulE (a b : Dec) : Nat := mkE (a.neg != b.neg) (num a.digits * num b.digits) (a.exp + b.exp)
def pr (k : Nat) (a b : Dec) : Int := sgZ (a.neg != b.neg) (num a.digits * num b.digits * 10 ^ (a.exp + b.exp + k).toNat)
theorem pr_comm (k : Nat) (a b : Dec) : pr k a b = pr k b a := by
  unfold pr
  rw [Nat.mul_comm (num a.digits), Int.add_comm a.exp, show (a.neg != b.neg) = (b.neg != a.neg) by cases a.neg <;> cases b.neg <;> rfl]
theorem mul_lift {k : Nat} (hk : 2000 ≤ k) {a b : Dec} (ha : May a) (hb : May b) : mulD a b = ofZ k (pr k a b) ∧ mulE a b = erZ k (pr k a b) :=
  mk_lift k _ _ _ (by have := ha.lo; have := hb.lo; omega)
theorem pr_vl {k : Nat} (hk : 2000 ≤ k) {a b : Dec} (ha : May a) (hb : May b) : pr k a b * (10 ^ k : Nat) = vl k a * vl k b := by
  unfold pr vl
  rw [← sgZ_mulmul, ← sgZ_mul]
  congr 1
  have h1 := ha.lo; have h2 := hb.lo
  rw [Nat.mul_assoc, ← Nat.pow_add, show (a.exp + b.exp + k).toNat + k = (a.exp + k).toNat + (b.exp + k).toNat by omega, Nat.pow_add]
  generalize num a.digits = x
  generalize num b.digits = y
  generalize 10 ^ (a.exp + k).toNat = p
  generalize 10 ^ (b.exp + k).toNat = q
  rw [Nat.mul_assoc, Nat.mul_assoc, ← Nat.mul_assoc y p q, ← Nat.mul_assoc p y q, Nat.mul_comm y p]
theorem tenZ_ne (k : Nat) : ((10 ^ k : Nat) : Int) ≠ 0 := by
  have : 0 < 10 ^ k := Nat.pow_pos (by omega)
  omega
theorem pr_add {k : Nat} (hk : 2000 ≤ k) {a b c s : Dec} (ha : May a) (hb : May b) (hc : May c) (hs : May s) (h : vl k s = vl k b + vl k c) : pr k a s = pr k a b + pr k a c := by
  have h1 := pr_vl hk ha hs
  have h2 := pr_vl hk ha hb
  have h3 := pr_vl hk ha hc
  rw [h, Int.mul_add, ← h2, ← h3, ← Int.add_mul] at h1
  exact Int.eq_of_mul_eq_mul_right (tenZ_ne k) h1

/-! ### The order -/
def cmpZ (x y : Int) : Int := if x < y then -1 else if y < x then 1 else 0
theorem cmpZ_anti (x y : Int) : cmpZ x y = -cmpZ y x := by unfold cmpZ; split <;> split <;> omega
theorem cmpZ_eq (x y : Int) : cmpZ x y = 0 ↔ x = y := by unfold cmpZ; split <;> (try split) <;> omega
theorem cmpZ_add (x y z : Int) : cmpZ (x + z) (y + z) = cmpZ x y := by unfold cmpZ; split <;> split <;> (try split) <;> (try split) <;> omega
theorem cmpZ_neg (x y : Int) : cmpZ (-x) (-y) = cmpZ y x := by unfold cmpZ; split <;> split <;> (try split) <;> (try split) <;> omega
theorem cmpZ_range (x y : Int) : cmpZ x y = -1 ∨ cmpZ x y = 0 ∨ cmpZ x y = 1 := by unfold cmpZ; split <;> (try split) <;> simp
theorem cmpZ_mul (x y : Nat) {c : Nat} (h : 0 < c) : cmpZ ((x * c : Nat) : Int) ((y * c : Nat) : Int) = cmpZ x y := by
  have h1 : x * c < y * c ↔ x < y := Nat.mul_lt_mul_right h
  have h2 : y * c < x * c ↔ y < x := Nat.mul_lt_mul_right h
  unfold cmpZ
  simp only [Int.ofNat_lt, h1, h2]
/-- Texts by their bytes, the first that is another one. -/
def cmpB : List UInt8 → List UInt8 → Int
  | [], [] => 0
  | [], _ :: _ => -1
  | _ :: _, [] => 1
  | a :: l, b :: m => if a.toNat < b.toNat then -1 else if b.toNat < a.toNat then 1 else cmpB l m
/-- Digits behind a point, k of them. -/
def frac (k : Nat) (l : List UInt8) : Nat := num l * 10 ^ (k - l.length)
theorem frac_cons (k : Nat) (b : UInt8) (l : List UInt8) (h : l.length ≤ k) : frac (k + 1) (b :: l) = dval b * 10 ^ k + frac k l := by
  unfold frac
  rw [num_cons, List.length_cons, show k + 1 - (l.length + 1) = k - l.length by omega, Nat.add_mul, Nat.mul_assoc, ← Nat.pow_add, show l.length + (k - l.length) = k by omega]
theorem frac_lt {k : Nat} {l : List UInt8} (h : Digs l) (hk : l.length ≤ k) : frac k l < 10 ^ k := by
  unfold frac
  have := Nat.mul_lt_mul_of_pos_right (num_lt h) (show 0 < 10 ^ (k - l.length) from Nat.pow_pos (by omega))
  rwa [← Nat.pow_add, show l.length + (k - l.length) = k by omega] at this
theorem getLast_tail {b : UInt8} {l : List UInt8} (hl : l ≠ []) : (b :: l).getLast? = l.getLast? := by
  cases l with
  | nil => exact absurd rfl hl
  | cons c r => simp
theorem frac_pos {k : Nat} {l : List UInt8} (h : Digs l) (h0 : l ≠ []) (hl : l.getLast? ≠ some 48) : 0 < frac k l := by
  have := num_last h h0 hl
  exact Nat.mul_pos (by omega) (Nat.pow_pos (by omega))
theorem cmpB_frac : ∀ (l m : List UInt8) (k : Nat), Digs l → Digs m → l.length ≤ k → m.length ≤ k → l.getLast? ≠ some 48 → m.getLast? ≠ some 48 → cmpB l m = cmpZ (frac k l) (frac k m)
  | [], [], k, _, _, _, _, _, _ => by show 0 = cmpZ _ _; unfold cmpZ; simp
  | [], b :: m, k, _, hm, _, _, _, hb => by
    have := frac_pos (k := k) hm (by simp) hb
    show -1 = cmpZ _ _
    have h0 : frac k [] = 0 := by unfold frac; rw [num_nil, Nat.zero_mul]
    unfold cmpZ
    rw [if_pos (by rw [h0]; omega)]
  | a :: l, [], k, hl, _, _, _, ha, _ => by
    have := frac_pos (k := k) hl (by simp) ha
    show 1 = cmpZ _ _
    have h0 : frac k [] = 0 := by unfold frac; rw [num_nil, Nat.zero_mul]
    unfold cmpZ
    rw [if_neg (by rw [h0]; omega), if_pos (by rw [h0]; omega)]
  | a :: l, b :: m, k, hl, hm, hkl, hkm, ha, hb => by
    obtain ⟨j, rfl⟩ : ∃ j, k = j + 1 := ⟨k - 1, by simp at hkl; omega⟩
    have hl' : Digs l := fun z hz => hl z (by simp [hz])
    have hm' : Digs m := fun z hz => hm z (by simp [hz])
    have hkl' : l.length ≤ j := by simpa using hkl
    have hkm' : m.length ≤ j := by simpa using hkm
    have ea : l.getLast? ≠ some 48 := by
      by_cases e : l = []
      · rw [e]; simp
      · rw [getLast_tail e] at ha; exact ha
    have eb : m.getLast? ≠ some 48 := by
      by_cases e : m = []
      · rw [e]; simp
      · rw [getLast_tail e] at hb; exact hb
    have ih := cmpB_frac l m j hl' hm' hkl' hkm' ea eb
    have f1 := frac_lt hl' hkl'
    have f2 := frac_lt hm' hkm'
    rw [frac_cons j a l hkl', frac_cons j b m hkm']
    have d1 := isDig_lo (hl a (by simp))
    have d2 := isDig_lo (hm b (by simp))
    show (if a.toNat < b.toNat then -1 else if b.toNat < a.toNat then 1 else cmpB l m) = _
    generalize frac j l = x at *
    generalize frac j m = y at *
    generalize 10 ^ j = p at *
    unfold dval
    by_cases h1 : a.toNat < b.toNat
    · rw [if_pos h1]
      have : (a.toNat - 48 + 1) * p ≤ (b.toNat - 48) * p := Nat.mul_le_mul_right _ (by omega)
      rw [Nat.add_mul, Nat.one_mul] at this
      unfold cmpZ
      rw [if_pos (by omega)]
    · rw [if_neg h1]
      by_cases h2 : b.toNat < a.toNat
      · rw [if_pos h2]
        have : (b.toNat - 48 + 1) * p ≤ (a.toNat - 48) * p := Nat.mul_le_mul_right _ (by omega)
        rw [Nat.add_mul, Nat.one_mul] at this
        unfold cmpZ
        rw [if_neg (by omega), if_pos (by omega)]
      · rw [if_neg h2, ih, show a.toNat = b.toNat by omega]
        have := cmpZ_add (x : Int) y (((b.toNat - 48) * p : Nat) : Int)
        rw [← this]
        congr 1 <;> omega
/-- What size and Compare tell. -/
def sizeI (a b : Dec) : Int :=
  if a.digits = [] ∨ b.digits = [] then cmpZ a.digits.length b.digits.length
  else if cmpZ (a.digits.length + a.exp) (b.digits.length + b.exp) ≠ 0 then cmpZ (a.digits.length + a.exp) (b.digits.length + b.exp) else cmpB a.digits b.digits
def cmpD (a b : Dec) : Int := if a.neg = true ∧ b.neg = true then sizeI b a else if a.neg = true then -1 else if b.neg = true then 1 else sizeI a b
def ab (k : Nat) (d : Dec) : Nat := num d.digits * 10 ^ (d.exp + k).toNat
theorem vl_ab (k : Nat) (d : Dec) : vl k d = sgZ d.neg (ab k d) := rfl
theorem May.pos {d : Dec} (h : May d) (h0 : d.digits ≠ []) : 10 ^ (d.digits.length - 1) ≤ num d.digits := by
  have hn := num_last h.digs h0 h.last
  have hp : 0 < num d.digits := by omega
  have := pow_nDigits_le hp
  rwa [← decDigits_length, ← dig_pos hp, dig_num h.digs h.head] at this
theorem ab_pos {k : Nat} {d : Dec} (h : May d) (h0 : d.digits ≠ []) : 0 < ab k d := Nat.mul_pos (Nat.lt_of_lt_of_le (Nat.pow_pos (by omega)) (h.pos h0)) (Nat.pow_pos (by omega))
theorem ab_nil {k : Nat} {d : Dec} (h0 : d.digits = []) : ab k d = 0 := by unfold ab; rw [h0, num_nil, Nat.zero_mul]
theorem ab_lt_place {k : Nat} (hk : 1100 ≤ k) {a b : Dec} (ha : May a) (hb : May b) (h0 : b.digits ≠ []) (h : (a.digits.length + a.exp : Int) < b.digits.length + b.exp) : ab k a < ab k b := by
  have h1 := num_lt ha.digs
  have h2 := hb.pos h0
  have a1 := ha.lo; have a2 := ha.len; have b1 := hb.lo; have b2 := hb.len
  have hp : 0 < 10 ^ (a.exp + k).toNat := Nat.pow_pos (by omega)
  have e1 : num a.digits * 10 ^ (a.exp + k).toNat < 10 ^ (a.digits.length + (a.exp + k).toNat) := by
    rw [Nat.pow_add]; exact Nat.mul_lt_mul_of_pos_right h1 hp
  have e2 : 10 ^ (b.digits.length - 1 + (b.exp + k).toNat) ≤ num b.digits * 10 ^ (b.exp + k).toNat := by
    rw [Nat.pow_add]; exact Nat.mul_le_mul_right _ h2
  have hl : 0 < b.digits.length := List.length_pos_iff.2 h0
  have e3 : 10 ^ (a.digits.length + (a.exp + k).toNat) ≤ 10 ^ (b.digits.length - 1 + (b.exp + k).toNat) := Nat.pow_le_pow_right (by omega) (by omega)
  unfold ab
  omega
theorem sizeI_ab {k : Nat} (hk : 1100 ≤ k) {a b : Dec} (ha : May a) (hb : May b) : sizeI a b = cmpZ (ab k a) (ab k b) := by
  unfold sizeI
  by_cases h : a.digits = [] ∨ b.digits = []
  · rw [if_pos h]
    by_cases ea : a.digits = [] <;> by_cases eb : b.digits = []
    · rw [ab_nil ea, ab_nil eb, ea, eb]; rfl
    · have h1 := ab_pos (k := k) hb eb
      have h2 : 0 < b.digits.length := List.length_pos_iff.2 eb
      rw [ab_nil ea, ea]
      unfold cmpZ
      rw [if_pos (by simp; omega), if_pos (by omega)]
    · have h1 := ab_pos (k := k) ha ea
      have h2 : 0 < a.digits.length := List.length_pos_iff.2 ea
      rw [ab_nil eb, eb]
      unfold cmpZ
      rw [if_neg (by simp), if_pos (by simp; omega), if_neg (by omega), if_pos (by omega)]
    · exact absurd h (by simp [ea, eb])
  · rw [if_neg h]
    have ea : a.digits ≠ [] := fun e => h (Or.inl e)
    have eb : b.digits ≠ [] := fun e => h (Or.inr e)
    by_cases h1 : (a.digits.length + a.exp : Int) < b.digits.length + b.exp
    · have := ab_lt_place hk ha hb eb h1
      have e1 : cmpZ (a.digits.length + a.exp) (b.digits.length + b.exp) = -1 := by unfold cmpZ; rw [if_pos h1]
      rw [if_pos (by rw [e1]; decide), e1]
      unfold cmpZ; rw [if_pos (by omega)]
    · by_cases h2 : (b.digits.length + b.exp : Int) < a.digits.length + a.exp
      · have := ab_lt_place hk hb ha ea h2
        have e1 : cmpZ (a.digits.length + a.exp) (b.digits.length + b.exp) = 1 := by unfold cmpZ; rw [if_neg h1, if_pos h2]
        rw [if_pos (by rw [e1]; decide), e1]
        unfold cmpZ; rw [if_neg (by omega), if_pos (by omega)]
      · have e1 : cmpZ (a.digits.length + a.exp) (b.digits.length + b.exp) = 0 := by unfold cmpZ; rw [if_neg h1, if_neg h2]
        rw [if_neg (by rw [e1]; decide)]
        have a1 := ha.lo; have a2 := ha.len; have b1 := hb.lo; have b2 := hb.len
        obtain ⟨c, hc⟩ : ∃ c : Nat, c = (a.digits.length + (a.exp + k).toNat) - 100 := ⟨_, rfl⟩
        rw [cmpB_frac a.digits b.digits 100 ha.digs hb.digs a2 b2 ha.last hb.last, ← cmpZ_mul _ _ (show 0 < 10 ^ c from Nat.pow_pos (by omega))]
        unfold frac ab
        rw [Nat.mul_assoc, Nat.mul_assoc, ← Nat.pow_add, ← Nat.pow_add, show 100 - a.digits.length + c = (a.exp + k).toNat by omega, show 100 - b.digits.length + c = (b.exp + k).toNat by omega]
theorem cmpD_vl {k : Nat} (hk : 1100 ≤ k) {a b : Dec} (ha : May a) (hb : May b) : cmpD a b = cmpZ (vl k a) (vl k b) := by
  have h1 := sizeI_ab hk ha hb
  have h2 := sizeI_ab hk hb ha
  rw [vl_ab, vl_ab]
  have pa : a.neg = true → 0 < ab k a := fun e => ab_pos ha (fun e0 => by rw [(ha.nil e0).1] at e; cases e)
  have pb : b.neg = true → 0 < ab k b := fun e => ab_pos hb (fun e0 => by rw [(hb.nil e0).1] at e; cases e)
  unfold cmpD
  generalize ab k a = x at *
  generalize ab k b = y at *
  cases ea : a.neg <;> cases eb : b.neg
  · simp [sgZ, h1]
  · have := pb eb
    have h : cmpZ (x : Int) (-(y : Int)) = 1 := by unfold cmpZ; rw [if_neg (by omega), if_pos (by omega)]
    simpa [sgZ] using h.symm
  · have := pa ea
    have h : cmpZ (-(x : Int)) (y : Int) = -1 := by unfold cmpZ; rw [if_pos (by omega)]
    simpa [sgZ] using h.symm
  · simp only [sgZ, and_self, if_true, h2]
    exact (cmpZ_neg _ _).symm
end Go.Proofs.YtlcbjikiodmlfaaGreatDoor
