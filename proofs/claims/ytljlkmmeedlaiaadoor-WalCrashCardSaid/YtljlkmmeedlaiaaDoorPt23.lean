/- Layer 3: a log's batches, as its body is read: pure. -/
import Derived.Test.YtljlkmmeedlaiaaDoorPt22
namespace Go.Proofs.YtljlkmmeedlaiaaDoor
open Go.RowKit

/-- How far the body has been read. -/
structure Sc where
  place : Nat
  used : Nat
  run : Nat
  left : Nat
  batch : List Nat
  bs : List (List Nat)
/-- Does the reading end at a sector? -/
def stopsB (base : Nat) (c : Sc) (s : List Nat) : Bool := !countsB base s c.place || (decide (0 < c.left) && decide (runL s ≠ c.run)) || decide (runL s < c.run)
/-- A batch begins where none is under way. -/
def beginS (c : Sc) (s : List Nat) : Sc := if c.left = 0 then { c with run := runL s, left := 4 + le ((s.drop 12).take 4), batch := [] } else c
/-- A sector's part of a batch. -/
def partS (c : Sc) (s : List Nat) : Sc :=
  let k := min c.left 488
  let b := c.batch ++ (s.drop 12).take k
  if c.left - k = 0 then { place := c.place + 1, used := c.place + 1, run := c.run, left := 0, batch := b, bs := c.bs ++ [b.drop 4] }
  else { c with place := c.place + 1, left := c.left - k, batch := b }
def scan (base : Nat) : Sc → List (List Nat) → Sc
  | c, [] => c
  | c, s :: r => if stopsB base c s then c else scan base (partS (beginS c s) s) r
/-- How far it has been read when all of these have been taken (none if one of them stopped it). -/
def scanAll (base : Nat) : Sc → List (List Nat) → Option Sc
  | c, [] => some c
  | c, s :: r => if stopsB base c s then none else scanAll base (partS (beginS c s) s) r
theorem scanAll_snoc (base : Nat) (c : Sc) (l : List (List Nat)) (s : List Nat) : scanAll base c (l ++ [s]) = (scanAll base c l).bind fun c' => if stopsB base c' s then none else some (partS (beginS c' s) s) := by
  induction l generalizing c with
  | nil => simp [scanAll]
  | cons x l ih =>
    show (if stopsB base c x then none else scanAll base _ (l ++ [s])) = (if stopsB base c x then none else scanAll base _ l).bind _
    split
    · rfl
    · exact ih _
theorem scan_of_all {base : Nat} {c c' : Sc} {l : List (List Nat)} (h : scanAll base c l = some c') : scan base c l = c' := by
  induction l generalizing c with
  | nil => exact Option.some.inj h
  | cons x l ih =>
    change (if stopsB base c x then none else scanAll base _ l) = some c' at h
    show (if stopsB base c x then c else scan base _ l) = c'
    split at h
    · cases h
    · next hn => rw [if_neg hn]; exact ih h
theorem scan_stop {base : Nat} {c c' : Sc} {l r : List (List Nat)} {s : List Nat} (h : scanAll base c l = some c') (hs : stopsB base c' s = true) : scan base c (l ++ s :: r) = c' := by
  induction l generalizing c with
  | nil =>
    obtain rfl := Option.some.inj h
    show (if stopsB base c s then c else _) = c
    rw [if_pos hs]
  | cons x l ih =>
    change (if stopsB base c x then none else scanAll base _ l) = some c' at h
    show (if stopsB base c x then c else scan base _ (l ++ s :: r)) = c'
    split at h
    · cases h
    · next hn => rw [if_neg hn]; exact ih h
theorem beginS_place (c : Sc) (s : List Nat) : (beginS c s).place = c.place := by unfold beginS; split <;> rfl
theorem partS_place (c : Sc) (s : List Nat) : (partS c s).place = c.place + 1 := by
  unfold partS
  simp only []
  split <;> rfl
theorem scanAll_place {base : Nat} {c c' : Sc} {l : List (List Nat)} (h : scanAll base c l = some c') : c'.place = c.place + l.length := by
  induction l generalizing c with
  | nil => obtain rfl := Option.some.inj h; rfl
  | cons x l ih =>
    change (if stopsB base c x then none else scanAll base _ l) = some c' at h
    split at h
    · cases h
    · have := ih h
      rw [this, partS_place, beginS_place, List.length_cons]
      omega
/-- Nothing read yet. -/
def sc0 : Sc := ⟨0, 0, 0, 0, [], []⟩
end Go.Proofs.YtljlkmmeedlaiaaDoor
