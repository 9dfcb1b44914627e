/- Layer 3: small words for sectors read, and for a region that holds a call. -/
import Derived.Test.YtdaefhlfalhfnaaDoorPt18
import Derived.Test.YtdaefhlfalhfnaaDoorPt24
import Derived.Deep.RegionHeld3
namespace Go.Proofs.YtdaefhlfalhfnaaDoor
open Go.RowKit Go.Shelf

theorem readL_shift (f : Int → List Nat) (a : Int) (n : Nat) : readL f a n = readL (fun k => f (a + k)) 0 n := by
  unfold readL
  congr 1
  funext i
  simp
theorem secOf_readLA {f : Int → List Nat} (h : ∀ k, Sec (f k)) (a : Int) (n i : Nat) (hi : i < n) : secOf (readL f a n) i = f (a + i) := by
  rw [readL_shift]
  exact secOf_readL (f := fun k => f (a + k)) (fun k => h _) n i hi
theorem wp_no_panic {P : Program} {c : Code} {K : Act → World → Prop} {Q : Exit → Act → World → Prop} {a : Act} {w : World} (h : c.wp P (Exit.then K (fun _ _ _ => False)) a w) : c.wp P (Exit.then K Q) a w := by
  refine wp_mono h fun e a w h => ?_
  cases e
  case normal => exact h
  all_goals exact h.elim
theorem markOf_agg (g off n c : Nat) (l : List Nat) (w : World) (hA : Bytes w (some ⟨g, off, none⟩) n l) (hn : 12 ≤ n) (hnc : n ≤ c) (hc : c ≤ maxLen) :
    Calls Tryd.prog 62 #[slc g off n c] w fun e w' => e = .returned (.agg #[.int .u64 (runL l), .int .u64 (plL l)]) ∧ Below w.heap.size w w' := markOf_ok g off n c l w hA hn hnc hc
theorem field_mark (r p : Nat) (W : World) : (Instr.field 108 (.agg #[.int .u64 r, .int .u64 p]) 0).run Tryd.prog W = .ok (.int .u64 r) W := by
  kernel_rfl
/-- Some code, by what it leaves: these slots, and a world that meets R; what follows is walked once. -/
def puts (a : Act) (l : List (Nat × Value)) : Act := l.foldl (fun a p => a.put (some p.1) p.2) a
theorem wpIn_to {F : Fence} {n : Nat} {P : Program} {c : Code} {K : Act → World → Prop} {Q : Exit → Act → World → Prop} {a : Act} {w : World} (l : List (Nat × Value)) (R : World → Prop)
    (h : c.wpIn F n P (Exit.then (fun a' w' => a' = puts a l ∧ R w') (fun _ _ _ => False)) a w) (h2 : ∀ w', R w' → K (puts a l) w') : c.wpIn F n P (Exit.then K Q) a w := by
  refine wpIn_mono h fun e a' w' h => ?_
  cases e
  case normal =>
    obtain ⟨rfl, hr⟩ := h
    exact h2 w' hr
  all_goals exact h.elim
theorem chunk512 (m x : Nat) (hx : x < m) : min 512 (m * 512 - x * 512) = 512 := by
  have : (x + 1) * 512 ≤ m * 512 := Nat.mul_le_mul_right _ hx
  omega
end Go.Proofs.YtdaefhlfalhfnaaDoor
