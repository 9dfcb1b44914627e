/- Layer 3: a log's batches, as its body is read: pure. -/
import Derived.Test.YtdaefhlfalhfnaaDoorPt35
import Derived.Test.YtdaefhlfalhfnaaDoorPt26
namespace Go.Proofs.YtdaefhlfalhfnaaDoor
open Go.RowKit

/-- How far the body has been read. -/
structure Sc where
  place : Nat
  used : Nat
  run : Nat
  left : Nat
  batch : List Nat
  bs : List (List Nat)
/-- Does the reading end at a sector? -/
def stopsB (base : Nat) (c : Sc) (s : List Nat) : Bool := !countsB base s c.place || (decide (0 < c.left) && decide (runL s ≠ c.run)) || decide (runL s < c.run)
/-- A batch begins where none is under way. -/
def beginS (c : Sc) (s : List Nat) : Sc := if c.left = 0 then { c with run := runL s, left := 4 + le ((s.drop 12).take 4), batch := [] } else c
/-- A sector's part of a batch. -/
def partS (c : Sc) (s : List Nat) : Sc :=
  let k := min c.left 488
  let b := c.batch ++ (s.drop 12).take k
  if c.left - k = 0 then { place := c.place + 1, used := c.place + 1, run := c.run, left := 0, batch := b, bs := c.bs ++ [b.drop 4] }
  else { c with place := c.place + 1, left := c.left - k, batch := b }
def scan (base : Nat) : Sc → List (List Nat) → Sc
  | c, [] => c
  | c, s :: r => if stopsB base c s then c else scan base (partS (beginS c s) s) r
/-- How far it has been read when all of these have been taken (none if one of them stopped it). -/
def scanAll (base : Nat) : Sc → List (List Nat) → Option Sc
  | c, [] => some c
  | c, s :: r => if stopsB base c s then none else scanAll base (partS (beginS c s) s) r
theorem scanAll_snoc (base : Nat) (c : Sc) (l : List (List Nat)) (s : List Nat) : scanAll base c (l ++ [s]) = (scanAll base c l).bind fun c' => if stopsB base c' s then none else some (partS (beginS c' s) s) := by
  induction l generalizing c with
  | nil => simp [scanAll]
  | cons x l ih =>
    show (if stopsB base c x then none else scanAll base _ (l ++ [s])) = (if stopsB base c x then none else scanAll base _ l).bind _
    split
    · rfl
    · exact ih _
theorem scan_of_all {base : Nat} {c c' : Sc} {l : List (List Nat)} (h : scanAll base c l = some c') : scan base c l = c' := by
  induction l generalizing c with
  | nil => exact Option.some.inj h
  | cons x l ih =>
    change (if stopsB base c x then none else scanAll base _ l) = some c' at h
    show (if stopsB base c x then c else scan base _ l) = c'
    split at h
    · cases h
    · next hn => rw [if_neg hn]; exact ih h
theorem scan_stop {base : Nat} {c c' : Sc} {l r : List (List Nat)} {s : List Nat} (h : scanAll base c l = some c') (hs : stopsB base c' s = true) : scan base c (l ++ s :: r) = c' := by
  induction l generalizing c with
  | nil =>
    obtain rfl := Option.some.inj h
    show (if stopsB base c s then c else _) = c
    rw [if_pos hs]
  | cons x l ih =>
    change (if stopsB base c x then none else scanAll base _ l) = some c' at h
    show (if stopsB base c x then c else scan base _ (l ++ s :: r)) = c'
    split at h
    · cases h
    · next hn => rw [if_neg hn]; exact ih h
theorem beginS_place (c : Sc) (s : List Nat) : (beginS c s).place = c.place := by unfold beginS; split <;> rfl
theorem partS_place (c : Sc) (s : List Nat) : (partS c s).place = c.place + 1 := by
  unfold partS
  simp only []
  split <;> rfl
theorem scanAll_place {base : Nat} {c c' : Sc} {l : List (List Nat)} (h : scanAll base c l = some c') : c'.place = c.place + l.length := by
  induction l generalizing c with
  | nil => obtain rfl := Option.some.inj h; rfl
  | cons x l ih =>
    change (if stopsB base c x then none else scanAll base _ l) = some c' at h
    split at h
    · cases h
    · have := ih h
      rw [this, partS_place, beginS_place, List.length_cons]
      omega
/-- Nothing read yet. -/
def sc0 : Sc := ⟨0, 0, 0, 0, [], []⟩
end Go.Proofs.YtdaefhlfalhfnaaDoor
/- Layer 3: what a call leaves of a log that writes nothing: its disk is as it was. -/
namespace Go.Proofs.YtdaefhlfalhfnaaDoor
open Go.RowKit

/-- What a call leaves of a log whose disk it only reads. -/
def LeftL (w : World) (FL FD : Nat → Prop) (p : Nat) (l : L) (d : D) (w' : World) : Prop :=
  ∃ FL', LogOn w' FL' FD p l d ∧ (∀ k, FL' k → grow FL w k) ∧ Kept FL w w'
theorem LogOn.leftL {w w' : World} {FL FD FL' : Nat → Prop} {p : Nat} {l : L} {d : D} (h : LogOn w' FL' FD p l d) (hL : ∀ k, FL' k → grow FL w k) (hk : Kept FL w w') : LeftL w FL FD p l d w' := ⟨FL', h, hL, hk⟩
theorem LeftL.left {w w' : World} {FL FD : Nat → Prop} {p : Nat} {l : L} {d : D} (h : LeftL w FL FD p l d w') : Left w FL FD p l d w' := by
  obtain ⟨FL', h1, h2, h3⟩ := h
  exact h1.left h2 (fun _ => grow.old) (h3.mono fun k _ hx => .inl hx)
theorem LeftL.more {w w1 w' : World} {FL FD FL1 : Nat → Prop} {p : Nat} {l' : L} {d' : D} (hL : ∀ k, FL1 k → grow FL w k) (hk : Kept FL w w1) (h : LeftL w1 FL1 FD p l' d' w') : LeftL w FL FD p l' d' w' := by
  obtain ⟨FL2, h1, h2, h3⟩ := h
  exact ⟨FL2, h1, fun k hk9 => grow_trans hL hk.size k (h2 k hk9), hk.trans (h3.mono fun k _ hx => hL k hx)⟩
theorem LeftL.below {w w1 w' : World} {FL FD : Nat → Prop} {p : Nat} {l' : L} {d' : D} (hb : Below w.heap.size w w1) (h : LeftL w1 FL FD p l' d' w') : LeftL w FL FD p l' d' w' :=
  LeftL.more (fun _ => grow.old) hb.kept h
end Go.Proofs.YtdaefhlfalhfnaaDoor
