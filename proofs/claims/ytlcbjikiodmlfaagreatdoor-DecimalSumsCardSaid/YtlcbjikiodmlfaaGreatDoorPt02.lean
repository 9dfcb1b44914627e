/- Layer 7: what a decimal is, which number's decimal is which, its text, and what a text tells. Of no program. -/
import Derived.Test.YtlcbjikiodmlfaaGreatDoorPt01
import Derived.Below
import Derived.Laws.OwnMore
import Derived.Laws.Rows
import Derived.Deep.Draws
import Derived.WalkSmall
import Derived.Laws.CopyOwn
import Derived.Laws.MakeOwn
import Derived.Laws.AppendOwn
import Derived.Laws.AppendOwnNone
import Derived.Laws.BytesArg
import Derived.Laws.Strings
import Derived.Deep.AppendLies
import Derived.Maps.AppendAt
import Derived.OwnWalk
import Derived.Lib.Hide
import Derived.OpenShut
namespace Go.Proofs.YtlcbjikiodmlfaaGreatDoor
open Go.Lib

structure Dec where
  neg : Bool
  digits : List UInt8
  exp : Int

def Dec.zero : Dec := ⟨false, [], 0⟩
theorem Dec.ext' {a b : Dec} (h1 : a.neg = b.neg) (h2 : a.digits = b.digits) (h3 : a.exp = b.exp) : a = b := by
  cases a; cases b; simp only at h1 h2 h3; rw [h1, h2, h3]

def allDig (l : List UInt8) : Bool := l.all isDig
theorem allDig_iff {l : List UInt8} : allDig l = true ↔ Digs l := by
  unfold allDig Digs
  simp [List.all_eq_true]

/-- May it be? -/
structure May (d : Dec) : Prop where
  digs : Digs d.digits
  len : d.digits.length ≤ 100
  head : d.digits.head? ≠ some 48
  last : d.digits.getLast? ≠ some 48
  lo : -1000 ≤ d.exp
  hi : d.exp ≤ 1000
  nil : d.digits = [] → d.neg = false ∧ d.exp = 0
def mayB (d : Dec) : Bool :=
  if d.digits = [] then !d.neg && decide (d.exp = 0)
  else decide (d.digits.length ≤ 100) && decide (-1000 ≤ d.exp) && decide (d.exp ≤ 1000) && allDig d.digits && !(d.digits.head? == some 48) && !(d.digits.getLast? == some 48)
theorem mayB_iff (d : Dec) : mayB d = true ↔ May d := by
  unfold mayB
  constructor
  · intro h
    split at h
    · rename_i e
      simp only [Bool.and_eq_true, decide_eq_true_eq, Bool.not_eq_true'] at h
      exact ⟨by rw [e]; exact Digs.nil, by simp [e], by simp [e], by simp [e], by omega, by omega, fun _ => h⟩
    · rename_i e
      simp only [Bool.and_eq_true, decide_eq_true_eq, Bool.not_eq_true', beq_eq_false_iff_ne, allDig_iff] at h
      obtain ⟨⟨⟨⟨⟨h1, h2⟩, h3⟩, h4⟩, h5⟩, h6⟩ := h
      exact ⟨h4, h1, h5, h6, h2, h3, fun x => absurd x e⟩
  · intro h
    split
    · rename_i e
      obtain ⟨h1, h2⟩ := h.nil e
      simp [h1, h2]
    · rename_i e
      simp only [Bool.and_eq_true, decide_eq_true_eq, Bool.not_eq_true', beq_eq_false_iff_ne, allDig_iff]
      exact ⟨⟨⟨⟨⟨h.len, h.lo⟩, h.hi⟩, h.digs⟩, h.head⟩, h.last⟩
theorem May.zero : May Dec.zero := ⟨Digs.nil, by simp [Dec.zero], by simp [Dec.zero], by simp [Dec.zero], by simp [Dec.zero], by simp [Dec.zero], fun _ => ⟨rfl, rfl⟩⟩

/-- The decimal of a number times 10 to a power, before it is asked whether it may be. -/
def dec (neg : Bool) (n : Nat) (e : Int) : Dec := if n = 0 then Dec.zero else ⟨neg, dig (core n), e + tz n⟩
/-- What is told of it: the number of an error, and the decimal, if it may be. -/
def mkE (neg : Bool) (n : Nat) (e : Int) : Nat := if mayB (dec neg n e) then 0 else 4
def mkD (neg : Bool) (n : Nat) (e : Int) : Dec := if mayB (dec neg n e) then dec neg n e else Dec.zero

theorem dec_zero (neg : Bool) (e : Int) : dec neg 0 e = Dec.zero := rfl
theorem dec_pos (neg : Bool) {n : Nat} (h : 0 < n) (e : Int) : dec neg n e = ⟨neg, dig (core n), e + tz n⟩ := by unfold dec; rw [if_neg (by omega)]
theorem mk_zero (neg : Bool) (e : Int) : mkD neg 0 e = Dec.zero := by unfold mkD; rw [dec_zero]; split <;> rfl
theorem mkE_zero (neg : Bool) (e : Int) : mkE neg 0 e = 0 := by
  unfold mkE; rw [dec_zero, if_pos ((mayB_iff _).2 May.zero)]
theorem mk_may (neg : Bool) (n : Nat) (e : Int) : May (mkD neg n e) := by
  unfold mkD
  split
  · rename_i h; exact (mayB_iff _).1 h
  · exact May.zero
theorem dec_ten (neg : Bool) (n : Nat) (e : Int) (k : Nat) : dec neg (n * 10 ^ k) (e - k) = dec neg n e := by
  rcases Nat.eq_zero_or_pos n with h | h
  · rw [h, Nat.zero_mul, dec_zero, dec_zero]
  · rw [dec_pos neg h, dec_pos neg (Nat.mul_pos h (Nat.pow_pos (by omega))), tz_ten h, core_ten h]
    congr 1
    omega
theorem mk_ten (neg : Bool) (n : Nat) (e : Int) (k : Nat) : mkD neg (n * 10 ^ k) (e - k) = mkD neg n e := by unfold mkD; rw [dec_ten]
theorem mkE_ten (neg : Bool) (n : Nat) (e : Int) (k : Nat) : mkE neg (n * 10 ^ k) (e - k) = mkE neg n e := by unfold mkE; rw [dec_ten]
/-- A decimal that may be is the decimal of its number. -/
theorem May.dec {d : Dec} (h : May d) : Go.Proofs.YtlcbjikiodmlfaaGreatDoor.dec d.neg (num d.digits) d.exp = d := by
  by_cases e : d.digits = []
  · obtain ⟨h1, h2⟩ := h.nil e
    rw [e, num_nil, dec_zero]
    exact Dec.ext' h1.symm e.symm h2.symm
  · obtain ⟨hc, ht⟩ := core_of h.digs e h.last
    have hp : 0 < num d.digits := by have := num_last h.digs e h.last; omega
    rw [dec_pos _ hp, hc, ht, dig_num h.digs h.head]
    exact Dec.ext' rfl rfl (by simp)
theorem May.made {d : Dec} (h : May d) : mkD d.neg (num d.digits) d.exp = d := by
  unfold mkD; rw [h.dec, if_pos ((mayB_iff _).2 h)]
theorem May.madeE {d : Dec} (h : May d) : mkE d.neg (num d.digits) d.exp = 0 := by
  unfold mkE; rw [h.dec, if_pos ((mayB_iff _).2 h)]

/-- A power that is far too great is as good as any other one. -/
theorem dec_far (neg : Bool) {n : Nat} (h : 0 < n) {e : Int} (he : 1000 < e ∨ e + tz n < -1000) : mayB (dec neg n e) = false := by
  cases hb : mayB (dec neg n e) with
  | false => rfl
  | true =>
    have hm := (mayB_iff _).1 hb
    rw [dec_pos neg h] at hm
    have h1 := hm.lo; have h2 := hm.hi
    simp only at h1 h2
    omega
theorem tz_le {l : List UInt8} (h : Digs l) : tz (num l) ≤ l.length := by
  rcases Nat.eq_zero_or_pos (num l) with e | e
  · rw [e, tz_zero]; omega
  · have h1 := num_lt h
    have h2 := core_mul (num l)
    have h3 := core_pos e
    have h4 : 1 * 10 ^ tz (num l) ≤ core (num l) * 10 ^ tz (num l) := Nat.mul_le_mul_right _ h3
    rcases Nat.lt_or_ge l.length (tz (num l)) with h5 | h5
    · have : 10 ^ l.length ≤ 10 ^ tz (num l) := Nat.pow_le_pow_right (by omega) (by omega)
      omega
    · exact h5
/-- The power behind the e, cut at a bound. -/
theorem mayB_cut (neg sg : Bool) {l : List UInt8} (hd : Digs l) (p pl c : Nat) (hl : l.length ≤ 1000) (hpl : pl ≤ 1000) (hc : 3000 ≤ c) :
    mkD neg (num l) ((if sg then -((min p c : Nat) : Int) else ((min p c : Nat) : Int)) - (pl : Int)) = mkD neg (num l) ((if sg then -(p : Int) else p) - (pl : Int)) ∧
    mkE neg (num l) ((if sg then -((min p c : Nat) : Int) else ((min p c : Nat) : Int)) - (pl : Int)) = mkE neg (num l) ((if sg then -(p : Int) else p) - (pl : Int)) := by
  rcases Nat.eq_zero_or_pos (num l) with e | e
  · rw [e]; simp only [mk_zero, mkE_zero, and_self]
  · rcases Nat.lt_or_ge c p with h | h
    · have ht := tz_le hd
      have f : ∀ q : Nat, 3000 ≤ q → mayB (dec neg (num l) ((if sg then -(q : Int) else q) - (pl : Int))) = false := by
        intro q hq
        refine dec_far neg e ?_
        cases sg
        · left; simp only [Bool.false_eq_true, if_false]; omega
        · right; simp only [if_true]; omega
      have h1 := f (min p c) (by omega)
      have h2 := f p (by omega)
      unfold mkD mkE
      rw [h1, h2]
      simp
    · rw [Nat.min_eq_left h]; exact ⟨rfl, rfl⟩

/-! ### A text's number -/
def spanT (l : List UInt8) : List UInt8 := l.takeWhile isDig
def spanD (l : List UInt8) : List UInt8 := l.dropWhile isDig
/-- The digits ahead of the point but for a 0 with which they begin; and what is behind them. -/
def ahead (l : List UInt8) : Option (List UInt8 × List UInt8) :=
  if l.head? = some 48 then some ([], l.drop 1) else if spanT l = [] then none else some (spanT l, spanD l)
def behind (l : List UInt8) : Option (List UInt8 × List UInt8) :=
  if l.head? = some 46 then (if spanT (l.drop 1) = [] then none else some (spanT (l.drop 1), spanD (l.drop 1))) else some ([], l)
def power (l : List UInt8) : Option (Bool × List UInt8 × List UInt8) :=
  if l.head? = some 101 ∨ l.head? = some 69 then
    (let r := l.drop 1
     let sg : Bool := r.head? == some 45
     let r' := if r.head? = some 45 ∨ r.head? = some 43 then r.drop 1 else r
     if spanT r' = [] then none else some (sg, spanT r', spanD r'))
  else some (false, [], l)
def signed (l : List UInt8) : Bool × List UInt8 := if l.head? = some 45 then (true, l.drop 1) else (false, l)
/-- What a number's text consists of. -/
structure Parts where
  neg : Bool
  a : List UInt8
  b : List UInt8
  sg : Bool
  p : List UInt8
def parts (l : List UInt8) : Option Parts :=
  match ahead (signed l).2 with
  | none => none
  | some (a, r) => match behind r with
    | none => none
    | some (b, r) => match power r with
      | none => none
      | some (sg, p, r) => if r = [] then some ⟨(signed l).1, a, b, sg, p⟩ else none
def Parts.exp (q : Parts) : Int := (if q.sg then -(num q.p : Int) else num q.p) - (q.b.length : Int)
def parseD (l : List UInt8) : Dec :=
  if 1000 < l.length then Dec.zero else match parts l with
  | none => Dec.zero
  | some q => mkD q.neg (num (q.a ++ q.b)) q.exp
def parseE (l : List UInt8) : Nat :=
  if 1000 < l.length then 3 else match parts l with
  | none => 170
  | some q => mkE q.neg (num (q.a ++ q.b)) q.exp
theorem spanT_digs (l : List UInt8) : Digs (spanT l) := allDig_iff.1 List.all_takeWhile
theorem span_len (l : List UInt8) : (spanT l).length + (spanD l).length = l.length := by
  have := congrArg List.length (List.takeWhile_append_dropWhile (p := isDig) (l := l))
  rw [List.length_append] at this
  exact this
theorem spanT_append {a r : List UInt8} (ha : Digs a) (hr : ∀ c, r.head? = some c → isDig c = false) : spanT (a ++ r) = a ∧ spanD (a ++ r) = r := by
  induction a with
  | nil =>
    cases r with
    | nil => exact ⟨rfl, rfl⟩
    | cons c r => have := hr c rfl; exact ⟨by simp [spanT, this], by simp [spanD, this]⟩
  | cons x a ih =>
    have hx := ha x (by simp)
    have ih' := ih fun z hz => ha z (by simp [hz])
    unfold spanT spanD at *
    rw [List.cons_append, List.takeWhile_cons, List.dropWhile_cons, if_pos hx, if_pos hx]
    exact ⟨by rw [ih'.1], ih'.2⟩
theorem parseD_may (l : List UInt8) : May (parseD l) := by
  unfold parseD
  split
  · exact May.zero
  · split
    · exact May.zero
    · exact mk_may _ _ _

/-! ### A decimal's text -/
def zeros (k : Nat) : List UInt8 := List.replicate k 48
def bodyL (l : List UInt8) (e : Int) : List UInt8 :=
  let p : Int := l.length + e
  if 0 ≤ e ∧ p ≤ 21 then l ++ zeros e.toNat
  else if 0 < p ∧ p ≤ 21 then l.take p.toNat ++ 46 :: l.drop p.toNat
  else if -5 ≤ p ∧ p ≤ 0 then 48 :: 46 :: (zeros (-p).toNat ++ l)
  else l.take 1 ++ ((if 1 < l.length then 46 :: l.drop 1 else []) ++ 101 :: itoa (p - 1))
def textL (d : Dec) : List UInt8 := if d.digits = [] then [48] else (if d.neg then [45] else []) ++ bodyL d.digits d.exp
end Go.Proofs.YtlcbjikiodmlfaaGreatDoor
/- Small words on memory, of no program: a block known whole; a table of numbers in a block; a slice of bytes. -/
namespace Go.Proofs.YtlcbjikiodmlfaaGreatDoor
open Go.RowKit

theorem ret_int {k : IntKind} {a b : Int} (h : a = b) : Ending.returned (.int k a) = .returned (.int k b) := by rw [h]
theorem ret_val {a b : Value} (h : a = b) : Ending.returned a = .returned b := by rw [h]

/-- Block g is the cells cs, none frozen. -/
def Row (w : World) (g : Nat) (t : TypeId) (cs : Array Value) : Prop := w.heap[g]? = some (.cells cs t (0, 0))
section
variable {w w' : World} {g : Nat} {t : TypeId} {cs : Array Value}
theorem Row.lt (h : Row w g t cs) : g < w.heap.size := by
  rcases Nat.lt_or_ge g w.heap.size with hlt | hge
  · exact hlt
  · unfold Row at h; rw [Array.getElem?_eq_none hge] at h; cases h
theorem Row.cell (h : Row w g t cs) {i : Nat} {v : Value} (hv : cs[i]? = some v) : w.cell? ⟨g, i, none⟩ = some v :=
  (cell_of_row w g i cs t (0, 0) h).trans hv
theorem Row.free (h : Row w g t cs) (i : Nat) : w.frozen? ⟨g, i, none⟩ = false := frozen_of_row w g i cs t h
theorem Row.new (w : World) (t : TypeId) (cs : Array Value) : Row (w.alloc (.cells cs t)) w.heap.size t cs := heap_alloc_new w _
theorem Row.drew (h : Row w g t cs) : Row w.drew g t cs := h
theorem Row.drewN (h : Row w g t cs) (n : Nat) : Row (w.drewN n) g t cs := h
theorem Row.alloc (h : Row w g t cs) (o : Obj) : Row (w.alloc o) g t cs := (Below.heap_alloc w o g h.lt).trans h
theorem Row.set_ (h : Row w g t cs) (i : Nat) (u : Value) : Row (w.setCell ⟨g, i, none⟩ u) g t (cs.setIfInBounds i u) := heap_setCell_same w g i cs t u h
theorem Row.far (h : Row w g t cs) {p : Addr} (hp : g ≠ p.block) (u : Value) : Row (w.setCell p u) g t cs := (heap_setCell_other w p g u hp).trans h
theorem Row.call (h : Row w g t cs) (hb : Below w.heap.size w w') : Row w' g t cs := (hb.block g h.lt).trans h
theorem Row.lit (h : Row w g t cs) {o : Obj} (hb : Below (w.alloc o).heap.size (w.alloc o) w') : Row w' g t cs := (h.alloc o).call hb
theorem Row.below {B : Nat} (h : Row w g t cs) (hb : Below B w w') (hg : g < B) : Row w' g t cs := (hb.block g hg).trans h
end

theorem _root_.Go.RowKit.Below.setRow {B : Nat} {a w : World} (h : Below B a w) {g : Nat} (hg : B ≤ g) (cs : Array Value) : Below B a (w.setRow g cs) :=
  h.trans ⟨rfl, rfl, rfl, by simp, fun k hk => setRow_other w g k cs (by omega)⟩
/-- Behind a call that touches nothing old; the same with a literal laid ahead of it. -/
theorem _root_.Go.RowKit.Below.call {W a b : World} (h : Below W.heap.size W a) (k : Below a.heap.size a b) : Below W.heap.size W b := h.trans (k.mono h.size)
theorem _root_.Go.RowKit.Below.lit {W a b : World} {o : Obj} (h : Below W.heap.size W a) (k : Below (a.alloc o).heap.size (a.alloc o) b) : Below W.heap.size W b :=
  (h.alloc h.size o).trans (k.mono (by have := h.size; simp; omega))
/-- Words of 32 and of 64 bits. -/
def U32 (x : Nat) : Prop := x < 4294967296
def U64 (x : Nat) : Prop := x < 18446744073709551616

/-- The cells of a table: n numbers of one kind, by a function of their places. -/
def tabOf (k : IntKind) (n : Nat) (f : Nat → Nat) : Array Value := Array.ofFn (n := n) fun j => .int k (f j : Int)
theorem tabOf_size (k : IntKind) (n : Nat) (f : Nat → Nat) : (tabOf k n f).size = n := by simp [tabOf]
theorem tabOf_get (k : IntKind) (n : Nat) (f : Nat → Nat) {j : Nat} (hj : j < n) : (tabOf k n f)[j]? = some (.int k (f j : Int)) := by
  simp [tabOf, hj]
theorem tabOf_set (k : IntKind) (n : Nat) (f : Nat → Nat) (i v : Nat) : (tabOf k n f).setIfInBounds i (.int k (v : Int)) = tabOf k n (fun j => if j = i then v else f j) := by
  unfold tabOf
  apply Array.ext
  · simp
  · intro j h1 h2
    rw [Array.getElem_setIfInBounds (by simpa using h1)]
    by_cases h : i = j
    · subst h; simp
    · rw [if_neg h]; simp; rw [if_neg (fun e => h e.symm)]
theorem tabOf_congr (k : IntKind) (n : Nat) {f g : Nat → Nat} (h : ∀ j, j < n → f j = g j) : tabOf k n f = tabOf k n g := by
  apply Array.ext
  · simp [tabOf]
  · intro j h1 h2
    have hj : j < n := by simpa [tabOf] using h1
    simp [tabOf, h j hj]

theorem tabOf_one (k : IntKind) (n : Nat) (f : Nat → Nat) : (tabOf k n f).all (·.oneCell') = true := by
  rw [Array.all_eq_true]; intro i hi; simp [tabOf, Value.oneCell']

/-- A new variable of an array type: its block. -/
theorem wpList_alloc_tab {P : Program} {ops : Array Oper} {rest : List Oper} {o : Oper} {a : Act} {w : World} {Q : Exit → Act → World → Prop} (hgd : o.guard = none) (ty : TypeId) (ho : o.op = .alloc ty)
    (cs : Array Value) (hz : ∀ w, (zeroValue ty).run P w = .ok (.agg cs) w)
    (h : wpList P ops Q rest (a.put o.dst (.pointer (some ⟨w.heap.size, 0, none⟩))) (w.alloc (.cells cs ty))) : wpList P ops Q (o :: rest) a w := by
  refine wpList_plain hgd fun K hK => ?_
  unfold Oper.wp execOp
  simp only [ho]
  simp [Instr.alloc, hz w]
  exact hK _ _ h

/-- A slice value that holds these bytes. -/
def Bytes (w : World) (A : Option Addr) (n : Nat) (l : List Nat) : Prop :=
  l.length = n ∧ (∀ x ∈ l, x < 256) ∧ (0 < n → ∃ b off, A = some ⟨b, off, none⟩ ∧ b < w.heap.size ∧ ∀ i, i < n → w.cell? ⟨b, off + i, none⟩ = some (.int .u8 (l.getD i 0 : Int)))
section
variable {w w' : World} {A : Option Addr} {n : Nat} {l : List Nat}
theorem Bytes.len (h : Bytes w A n l) : l.length = n := h.1
theorem Bytes.lt (h : Bytes w A n l) : ∀ x ∈ l, x < 256 := h.2.1
theorem Bytes.byte (h : Bytes w A n l) (i : Nat) : l.getD i 0 < 256 := by
  rcases Nat.lt_or_ge i l.length with hi | hi
  · rw [List.getD_eq_getElem?_getD, List.getElem?_eq_getElem hi]; exact h.2.1 _ (List.getElem_mem hi)
  · rw [List.getD_eq_getElem?_getD, List.getElem?_eq_none hi]; decide
theorem Bytes.keep (h : Bytes w A n l) (hs : w.heap.size ≤ w'.heap.size) (hk : ∀ p : Addr, p.block < w.heap.size → w'.cell? p = w.cell? p) : Bytes w' A n l :=
  ⟨h.1, h.2.1, fun hn => by
    obtain ⟨b, off, e, hb, hc⟩ := h.2.2 hn
    exact ⟨b, off, e, by omega, fun i hi => (hk _ hb).trans (hc i hi)⟩⟩
theorem Bytes.below (h : Bytes w A n l) (hb : Below w.heap.size w w') : Bytes w' A n l := h.keep hb.size fun _ hp => hb.cell hp
theorem Bytes.nil (w : World) (A : Option Addr) : Bytes w A 0 [] := ⟨rfl, by simp, fun h => by omega⟩
/-- A beginning, and the rest. -/
theorem Bytes.take (h : Bytes w A n l) {k : Nat} (hk : k ≤ n) : Bytes w A k (l.take k) := by
  refine ⟨by rw [List.length_take, h.1]; omega, fun x hx => h.2.1 x (List.mem_of_mem_take hx), fun hk0 => ?_⟩
  obtain ⟨b, off, e, hb, hc⟩ := h.2.2 (by omega)
  refine ⟨b, off, e, hb, fun i hi => ?_⟩
  rw [hc i (by omega)]
  simp [List.getD_eq_getElem?_getD, hi]
end

theorem Bytes.drop {w : World} {b off n : Nat} {l : List Nat} (h : Bytes w (some ⟨b, off, none⟩) n l) {k : Nat} (hk : k ≤ n) : Bytes w (some ⟨b, off + k, none⟩) (n - k) (l.drop k) := by
  refine ⟨by rw [List.length_drop, h.1], fun x hx => h.2.1 x (List.mem_of_mem_drop hx), fun h0 => ?_⟩
  obtain ⟨b', off', e, hb, hc⟩ := h.2.2 (by omega)
  cases e
  refine ⟨b, off + k, rfl, hb, fun i hi => ?_⟩
  have := hc (k + i) (by omega)
  rw [← Nat.add_assoc] at this
  rw [this]
  simp [List.getD_eq_getElem?_getD]
theorem Bytes.drop0 {w : World} {b n : Nat} {l : List Nat} (h : Bytes w (some ⟨b, 0, none⟩) n l) {k : Nat} (hk : k ≤ n) : Bytes w (some ⟨b, k, none⟩) (n - k) (l.drop k) := by
  have := h.drop hk
  rwa [Nat.zero_add] at this
theorem take_succ_getD (l : List Nat) (k : Nat) (h : k < l.length) : l.take (k + 1) = l.take k ++ [l.getD k 0] := by
  rw [List.take_succ_eq_append_getElem h]; simp [List.getD_eq_getElem?_getD, h]
end Go.Proofs.YtlcbjikiodmlfaaGreatDoor
/- Slices of bytes: made, copied, appended to, turned into texts. Of no program: what a program's tables must say comes in as premises. -/
namespace Go.Proofs.YtlcbjikiodmlfaaGreatDoor
open Go.RowKit

/-- Bytes as cells. -/
def cellsOf (l : List Nat) : List Value := l.map fun (x : Nat) => Value.int .u8 (x : Int)
theorem cellsOf_length (l : List Nat) : (cellsOf l).length = l.length := by simp [cellsOf]
theorem cellsOf_get (l : List Nat) {j : Nat} (h : j < l.length) : (cellsOf l)[j]? = some (.int .u8 (l.getD j 0 : Int)) := by
  simp [cellsOf, List.getD_eq_getElem?_getD, h]
theorem cellsOf_append (a b : List Nat) : cellsOf (a ++ b) = cellsOf a ++ cellsOf b := by simp [cellsOf]
theorem cellsOf_one (l : List Nat) : ∀ v ∈ cellsOf l, v.oneCell' = true := by
  intro v hv
  simp only [cellsOf, List.mem_map] at hv
  obtain ⟨x, _, rfl⟩ := hv
  rfl
theorem cellsOf_set (l : List Nat) (i v : Nat) : (cellsOf l).toArray.setIfInBounds i (.int .u8 (v : Int)) = (cellsOf (l.set i v)).toArray := by
  simp [cellsOf, List.map_set]
theorem cellsOf_inj {a b : List Nat} (h : cellsOf a = cellsOf b) : a = b := by
  induction a generalizing b with
  | nil => cases b with
    | nil => rfl
    | cons y b => simp [cellsOf] at h
  | cons x a ih => cases b with
    | nil => simp [cellsOf] at h
    | cons y b =>
      simp only [cellsOf, List.map_cons, List.cons.injEq, Value.int.injEq, true_and] at h
      rw [ih h.2]
      congr 1
      omega

theorem addr_add (b o j : Nat) : (⟨b, o, none⟩ : Addr).add j = ⟨b, o + j, none⟩ := by
  unfold Addr.add; split <;> simp_all

/-- Each is a byte. -/
def Small (l : List Nat) : Prop := ∀ x ∈ l, x < 256
theorem Small.nil : Small [] := fun _ h => by cases h
theorem Small.append {a b : List Nat} (ha : Small a) (hb : Small b) : Small (a ++ b) := fun x hx => by
  rcases List.mem_append.1 hx with h | h
  · exact ha x h
  · exact hb x h
theorem Small.take {l : List Nat} (h : Small l) (k : Nat) : Small (l.take k) := fun x hx => h x (List.mem_of_mem_take hx)
theorem Small.drop {l : List Nat} (h : Small l) (k : Nat) : Small (l.drop k) := fun x hx => h x (List.mem_of_mem_drop hx)
theorem Small.zeros (k : Nat) : Small (List.replicate k 0) := fun x hx => by rw [List.eq_of_mem_replicate hx]; decide

section
variable {w w' : World} {A : Option Addr} {n : Nat} {l : List Nat}
/-- The cells, as the laws on appends and copies ask for them. -/
theorem Bytes.at_ (h : Bytes w A n l) (hn : 0 < n) : ∃ b off, A = some ⟨b, off, none⟩ ∧ b < w.heap.size ∧ ∀ j v, (cellsOf l)[j]? = some v → w.cell? ((⟨b, off, none⟩ : Addr).add j) = some v := by
  obtain ⟨b, off, e, hb, hc⟩ := h.2.2 hn
  refine ⟨b, off, e, hb, fun j v hv => ?_⟩
  have hj : j < l.length := by
    rcases Nat.lt_or_ge j l.length with h1 | h1
    · exact h1
    · rw [List.getElem?_eq_none (by rw [cellsOf_length]; exact h1)] at hv; cases hv
  rw [cellsOf_get l hj] at hv
  rw [addr_add, hc j (by rw [← h.1]; exact hj)]
  exact hv
theorem Bytes.of_row {g t : Nat} {cs : List Nat} (h : Row w g t (cellsOf cs).toArray) (hs : Small cs) {off : Nat} (hn : off + n ≤ cs.length) : Bytes w (some ⟨g, off, none⟩) n ((cs.drop off).take n) := by
  refine ⟨by rw [List.length_take, List.length_drop]; omega, (hs.drop off).take n, fun h0 => ⟨g, off, rfl, h.lt, fun i hi => ?_⟩⟩
  refine h.cell ?_
  rw [List.getElem?_toArray, cellsOf_get cs (by omega)]
  congr 3
  simp [List.getD_eq_getElem?_getD, hi]
theorem Bytes.of_row' {g t : Nat} {cs : List Nat} (h : Row w g t (cellsOf cs).toArray) (hs : Small cs) (hn : cs.length = n) : Bytes w (some ⟨g, 0, none⟩) n cs := by
  have := Bytes.of_row h hs (off := 0) (n := n) (by omega)
  rwa [List.drop_zero, List.take_of_length_le (by omega)] at this
theorem Bytes.of_own {base e c : Nat} (h : w.ownsRow base e 1 (.slice A n c) n (cellsOf l)) (hs : Small l) : Bytes w A n l := by
  have hl : l.length = n := by have := h.1; rw [cellsOf_length] at this; omega
  refine ⟨hl, hs, fun h0 => ?_⟩
  rcases h.2 with ⟨_, h1⟩ | ⟨g, cap, cur, hv, hg, hh, _, _, hsz, ht⟩
  · omega
  · injection hv with h1 h2 h3
    subst h1
    refine ⟨g, 0, rfl, Row.lt (t := e) (cs := cur) hh, fun i hi => ?_⟩
    have hr : Row w g e cur := hh
    rw [Nat.zero_add]
    refine hr.cell ?_
    have h2 : (cellsOf l)[i]? = cur.toList[i]? := by rw [← ht]; simp [hi]
    rw [cellsOf_get l (by omega)] at h2
    rw [← Array.getElem?_toList]
    exact h2.symm
end

section
variable {P : Program} {ops : Array Oper} {rest : List Oper} {o : Oper} {a : Act} {w : World} {Q : Exit → Act → World → Prop}
/-- 'make([]byte, n)'. -/
theorem wpList_make_bytes (hgd : o.guard = none) (t e : TypeId) (x : Operand) (ho : o.op = .makeSlice t x x) (n : Nat) (hx : a.eval x = .int .i64 n) (ht : P.underlying t = some (.slice e))
    (hi : (P.info? e).map (fun i => (i.zero, i.size, i.bytes)) = some (some (.int .u8 0), 1, 1)) (hn : n ≤ 281474976710656)
    (h : wpList P ops Q rest (a.put o.dst (.slice (some ⟨w.heap.size, 0, none⟩) n n)) (w.alloc (.cells (cellsOf (List.replicate n 0)).toArray e))) : wpList P ops Q (o :: rest) a w := by
  obtain ⟨i, hi, hz, hs, hb⟩ := info_parts hi
  have hr := run_make (P := P) w t e i _ ht hi hz .i64 .i64 n n (by omega) (Int.le_refl _) (by rw [hb]; omega) (by omega)
  rw [hs, Nat.mul_one] at hr
  have e1 : madeCells (Value.int .u8 0).cells n = (cellsOf (List.replicate n 0)).toArray := by
    apply Array.toList_inj.1
    have := toList_madeCells_one (.int .u8 0) n
    simp only [cellsOf, List.map_replicate]
    exact this
  simp only [Int.toNat_natCast] at hr
  rw [e1] at hr
  refine wpList_plain hgd fun K hK => ?_
  unfold Oper.wp
  simp [execOp, ho, hx, hr, Result.andThen]
  exact hK _ _ h

/-- 'copy(d, s)' of all of s into a row of bytes of the call's own, from place 'off' on. -/
theorem wpList_copy_bytes (hgd : o.guard = none) (d s : Operand) (t e : TypeId) (ho : o.op = .call { callee := .builtin .copy, args := #[d, s], argTypes := #[t, t] }) (ht : P.underlying t = some (.slice e))
    (hi : (P.info? e).map (·.size) = some 1) (g off dn dc : Nat) (A : Option Addr) (n c : Nat) (l cur : List Nat) (hd : a.eval d = .slice (some ⟨g, off, none⟩) dn dc) (hs : a.eval s = .slice A n c)
    (hA : Bytes w A n l) (hle : n ≤ dn) (hg : Row w g e (cellsOf cur).toArray) (hfit : off + n ≤ cur.length) (B : Nat) (w0 : World) (hb : Below B w0 w) (hBg : B ≤ g)
    (h : ∀ w', Row w' g e (cellsOf (cur.take off ++ (l ++ cur.drop (off + n)))).toArray → Below B w0 w' → wpList P ops Q rest (a.put o.dst (goInt n)) w') : wpList P ops Q (o :: rest) a w := by
  have hlen : (cellsOf l).length = n := by rw [cellsOf_length, hA.len]
  refine wpList_copy_splice hgd d s t t ho e ht hi (some ⟨g, off, none⟩) A dn dc n c hd hs g off (cellsOf cur) e hg (cellsOf l) (by rw [hlen]; exact (Nat.min_eq_left hle).symm) ?_ (by rw [hlen, cellsOf_length]; exact hfit) (cellsOf_one l) B w0 hb hBg ?_
  · intro h0
    obtain ⟨b, o', e1, _, hc⟩ := hA.at_ (by omega)
    exact ⟨rfl, _, e1, hc⟩
  · intro w' h1 h2
    rw [hlen]
    refine h w' ?_ h2
    have h3 := h1.out
    have e1 : splice (cellsOf cur) off (cellsOf l) = cellsOf (cur.take off ++ (l ++ cur.drop (off + n))) := by
      unfold splice
      rw [hlen]
      simp [cellsOf]
    rw [e1] at h3
    exact h3

/-- 'append(s, x...)' onto a row of bytes of the call's own; x may be nil or empty. -/
theorem wpList_append_bytes (hgd : o.guard = none) (s x : Operand) (t e : TypeId) (ho : o.op = .call { callee := .builtin .append, args := #[s, x], argTypes := #[t, t] }) (ht : P.underlying t = some (.slice e))
    (hi : (P.info? e).map (fun i => (i.zero, i.size, i.bytes)) = some (some (.int .u8 0), 1, 1)) (base : Nat) (v : Value) (k : Nat) (xs : List Nat) (hs : a.eval s = v) (hown : w.ownsRow base e 1 v k (cellsOf xs))
    (A : Option Addr) (n c : Nat) (l : List Nat) (hx : a.eval x = .slice A n c) (hA : Bytes w A n l) (hnil : A = none → n = 0 ∧ c = 0) (hle : k + n ≤ 140737488355328) (hbase : base ≤ w.heap.size)
    (h : ∀ v' w', w'.ownsRow base e 1 v' (k + n) (cellsOf (xs ++ l)) → w.grownBy w' v.ownBlock → (v'.ownBlock = v.ownBlock ∨ v'.ownBlock = some w.heap.size) → (v = .slice none 0 0 → n = 0 → v' = .slice none 0 0) → wpList P ops Q rest (a.put o.dst v') w') : wpList P ops Q (o :: rest) a w := by
  obtain ⟨i, hi, hz, hs1, hb⟩ := info_parts hi
  rcases A with _ | ad
  · obtain ⟨rfl, rfl⟩ := hnil rfl
    have hl : l = [] := List.eq_nil_of_length_eq_zero hA.len
    subst hl
    refine wpList_append_own_none hgd s x t ho base e i 1 ht hi v k (cellsOf xs) hs hown hx ?_
    have := h v w (by simpa using hown) (World.grownBy.refl w _) (.inl rfl) (fun h1 _ => h1)
    rwa [hs] at *
  · refine wpList_append_own_at w hgd s x t ho base e i _ 1 1 ht hi hz hs1 hb rfl (by decide) v k (cellsOf xs) hs hown ad n c (cellsOf l) hx (by rw [cellsOf_length, hA.len]; omega) ?_ (cellsOf_one l) (by unfold maxLen; omega) (by omega) hbase ?_
    · intro j u hu
      have hn : 0 < n := by
        rcases Nat.eq_zero_or_pos n with h0 | h0
        · have : l = [] := List.eq_nil_of_length_eq_zero (by rw [hA.len, h0])
          subst this; simp [cellsOf] at hu
        · exact h0
      obtain ⟨b, off, e1, _, hc⟩ := hA.at_ hn
      injection e1 with e1
      subst e1
      exact hc j u hu
    · intro v' w' h1 h2 h3 h4
      exact h v' w' (by rw [cellsOf_append]; exact h1) h2 h4 (fun a b => h3.2 ⟨a, b⟩)
end

/-- Bytes as a text. -/
def textOf (l : List Nat) : ByteArray := ⟨(l.map UInt8.ofNat).toArray⟩
theorem textOf_inj {a b : List Nat} (ha : Small a) (hb : Small b) (h : (textOf a).toList = (textOf b).toList) : a = b := by
  have h1 : a.map UInt8.ofNat = b.map UInt8.ofNat := by
    have e : ∀ l, (textOf l).toList = l.map UInt8.ofNat := fun l => by exact ByteArray.toList_mk _
    rw [← e, ← e, h]
  have key : ∀ l, Small l → (l.map UInt8.ofNat).map UInt8.toNat = l := by
    intro l hl
    rw [List.map_map]
    conv => rhs; rw [← List.map_id l]
    refine List.map_congr_left fun x hx => ?_
    have := hl x hx
    simp [UInt8.toNat_ofNat']
    omega
  rw [← key a ha, ← key b hb, h1]
/-- 'string(b)'. -/
theorem run_text {P : Program} {w : World} {A : Option Addr} {n : Nat} {l : List Nat} (hA : Bytes w A n l) (src dst e : TypeId) (c : Nat) (hs : P.underlying src = some (.slice e)) (he : P.underlying e = some (.int .u8)) (hd : P.underlying dst = some .string) :
    (convert src dst (.slice A n c)).run P w = .ok (.string (textOf l)) w := by
  rcases Nat.eq_zero_or_pos n with h0 | h0
  · subst h0
    have hl : l = [] := List.eq_nil_of_length_eq_zero hA.len
    subst hl
    rcases A with _ | ad
    · exact run_convert_bytes_nil w src e hs he 0 c dst hd
    · rw [run_convert_bytes_string w src dst e _ 0 c hs he hd, run_bytesToString w ad 0 c [] (by simpa using run_loadCells_list (P := P) w ad [] (by simp))]
      rfl
  · obtain ⟨b, off, rfl, _, hc⟩ := hA.2.2 h0
    rw [run_convert_bytes_arg w src e hs he b off n c (l.map fun (x : Nat) => (x : Int)) (by rw [List.length_map, hA.len]) (fun i hi => by
      rw [hc i hi]
      congr 2
      simp [List.getD_eq_getElem?_getD, hA.len, hi]) dst hd]
    congr 2
    simp [strOfNums, textOf]

/-- A literal's bytes, in the block that was laid last. -/
theorem Bytes.of_lit (w : World) (e : TypeId) (C : Array Value) (fr : Nat × Nat) (l : List Nat) (n : Nat) (hC : C = (cellsOf l).toArray) (hs : Small l) (hn : l.length = n) : Bytes (w.alloc (.cells C e fr)) (some ⟨w.heap.size, 0, none⟩) n l := by
  subst hC
  refine ⟨hn, hs, fun h0 => ⟨_, 0, rfl, by simp, fun i hi => ?_⟩⟩
  rw [cell_of_row _ w.heap.size (0 + i) _ e fr (heap_alloc_new w _), Nat.zero_add, List.getElem?_toArray]
  exact cellsOf_get l (by omega)

/-- A slice of bytes that came in, as the row's step opens it. -/
theorem Bytes.of_arg {w : World} {a0 : Option Addr} {len cap : Nat} {zs : List Int}
    (h : (a0 = none ∧ len = 0 ∧ cap = 0 ∧ zs = []) ∨ ∃ x, a0 = some x ∧ len ≤ cap ∧ cap ≤ maxLen ∧ zs.length = cap ∧ (∀ i, i < zs.length → w.cell? (x.add i) = some (.int .u8 (zs.getD i 0))) ∧ ∀ n ∈ zs, (Lit.int .u8 n).wf = true) :
    ∃ l, Bytes w a0 len l ∧ (a0 = none → len = 0 ∧ cap = 0) ∧ len ≤ cap ∧ cap ≤ 9223372036854775807 := by
  rcases h with ⟨rfl, rfl, rfl, rfl⟩ | ⟨x, rfl, hl, hm, hz, hc, hw⟩
  · exact ⟨[], Bytes.nil w _, fun _ => ⟨rfl, rfl⟩, Nat.le_refl _, by omega⟩
  · have hb : ∀ n ∈ zs, 0 ≤ n ∧ n < 256 := fun n hn => by
      have := hw n hn
      have h1 := (bounds_u8 this)
      omega
    refine ⟨(zs.take len).map Int.toNat, ⟨by rw [List.length_map, List.length_take]; omega, ?_, fun h0 => ?_⟩, (fun h => by cases h), hl, by unfold maxLen at hm; omega⟩
    · intro y hy
      obtain ⟨n, hn, rfl⟩ := List.mem_map.1 hy
      have := hb n (List.mem_of_mem_take hn)
      omega
    · obtain ⟨b, off, spot⟩ := x
      have hspot : spot = none := by simpa [Addr.add] using World.cell?_spot (hc 0 (by omega))
      subst hspot
      refine ⟨b, off, rfl, block_lt_of_cell (hc 0 (by omega)), fun i hi => ?_⟩
      have h1 := hc i (by omega)
      rw [addr_add] at h1
      rw [h1]
      have h2 := hb (zs.getD i 0) (by
        rw [List.getD_eq_getElem?_getD, List.getElem?_eq_getElem (by omega)]
        exact List.getElem_mem _)
      have hiz : i < zs.length := by omega
      have e1 : zs.getD i 0 = zs[i] := by rw [List.getD_eq_getElem?_getD, List.getElem?_eq_getElem hiz]; rfl
      have e2 : ((zs.take len).map Int.toNat).getD i 0 = zs[i].toNat := by
        rw [List.getD_eq_getElem?_getD, List.getElem?_map, List.getElem?_take, if_pos hi, List.getElem?_eq_getElem hiz]; rfl
      rw [e2]
      rw [e1] at h2 ⊢
      rw [Int.toNat_of_nonneg h2.1]

/-- What the call owns stays so behind a call that touches nothing old. -/
theorem own_call {w w' : World} {base e k : Nat} {v : Value} {xs : List Value} (h : w.ownsRow base e 1 v k xs) (hb : Below w.heap.size w w') : w'.ownsRow base e 1 v k xs := by
  refine ⟨h.1, ?_⟩
  rcases h.2 with h1 | ⟨g, cap, cur, hv, hg, hh, h2, h3, h4, h5⟩
  · exact .inl h1
  · exact .inr ⟨g, cap, cur, hv, hg, (hb.block g (Row.lt (t := e) (cs := cur) hh)).trans hh, h2, h3, h4, h5⟩
theorem own_block {w : World} {base e k : Nat} {v : Value} {xs : List Value} (h : w.ownsRow base e 1 v k xs) : ∀ g, v.ownBlock = some g → base ≤ g := by
  intro g hg
  rcases h.2 with ⟨h1, _⟩ | ⟨g', cap, cur, h1, h2, _⟩
  · rw [h1] at hg; simp [Value.ownBlock] at hg
  · rw [h1] at hg; simp [Value.ownBlock] at hg; omega
/-- What an append has left: a slice over a block of the call's own. -/
theorem own_form {w : World} {base e k : Nat} {v : Value} {l : List Nat} (h : w.ownsRow base e 1 v k (cellsOf l)) (hk : 0 < k) :
    ∃ g cap, v = .slice (some ⟨g, 0, none⟩) k cap ∧ base ≤ g ∧ k ≤ cap ∧ cap ≤ maxLen := by
  rcases h.2 with ⟨_, h1⟩ | ⟨g, cap, cur, hv, hg, _, h2, h3, _, _⟩
  · omega
  · exact ⟨g, cap, hv, hg, h2, h3⟩
theorem Bytes.snoc {w : World} {A : Option Addr} {n x : Nat} {l : List Nat} (h : Bytes w A (n + 1) (l ++ [x])) : Bytes w A n l ∧ l.length = n := by
  have hl : l.length = n := by have := h.len; simp at this; omega
  have := h.take (k := n) (by omega)
  rw [← hl, List.take_left, hl] at this
  exact ⟨this, hl⟩
end Go.Proofs.YtlcbjikiodmlfaaGreatDoor
