/- Layer 7: the sum of many, as a whole number of the least power. -/
import Derived.Test.YtlcbjikiodmlfaaGreatDoorPt16
import Derived.Test.YtlcbjikiodmlfaaGreatDoorPt18
import Derived.Test.YtlcbjikiodmlfaaGreatDoorPt26
import Derived.Test.YtlcbjikiodmlfaaGreatDoorPt36
namespace Go.Proofs.YtlcbjikiodmlfaaGreatDoor

def totZ (k : Nat) (L : List Dec) : Int := L.foldl (fun s d => s + vl k d) 0
theorem totZ_snoc (k : Nat) (L : List Dec) (d : Dec) : totZ k (L ++ [d]) = totZ k L + vl k d := by simp [totZ]
theorem totZ_two (k : Nat) (a b : Dec) : totZ k [a, b] = vl k a + vl k b := by simp [totZ]
theorem join_val (s n : Bool) (m l : Nat) : sgZ (s != joinT m l (s != n)) (joinN m l (s != n)) = sgZ s m + sgZ n l := by
  unfold joinT joinN sgZ
  by_cases h : m < l
  · cases s <;> cases n <;> simp [h] <;> omega
  · cases s <;> cases n <;> simp [h] <;> omega
theorem sumS_val (e : Int) (k : Nat) (L : List Dec) (hk : -(k : Int) ≤ e) (h : ∀ d ∈ L, e ≤ d.exp) : sgZ (sumS e L).1 ((sumS e L).2 * 10 ^ (e + k).toNat) = totZ k L := by
  have key : ∀ M : List Dec, (∀ d ∈ M, e ≤ d.exp) → ∀ (s : Bool × Nat) (v : Int), sgZ s.1 (s.2 * 10 ^ (e + k).toNat) = v →
      sgZ (M.foldl (fun s d => (s.1 != joinT s.2 (lev d e) (s.1 != d.neg), joinN s.2 (lev d e) (s.1 != d.neg))) s).1 ((M.foldl (fun s d => (s.1 != joinT s.2 (lev d e) (s.1 != d.neg), joinN s.2 (lev d e) (s.1 != d.neg))) s).2 * 10 ^ (e + k).toNat) = M.foldl (fun s d => s + vl k d) v := by
    intro M
    induction M with
    | nil => intro _ s v hv; exact hv
    | cons d M ih =>
      intro hM s v hv
      rw [List.foldl_cons, List.foldl_cons]
      refine ih (fun x hx => hM x (List.mem_cons_of_mem _ hx)) _ _ ?_
      have he := hM d List.mem_cons_self
      simp only
      rw [sgZ_mul, join_val, Int.add_mul, ← sgZ_mul, hv]
      congr 1
      unfold vl lev
      rw [← sgZ_mul, Nat.mul_assoc, ← Nat.pow_add, show (d.exp - e).toNat + (e + k).toNat = (d.exp + k).toNat by omega]
  exact key L h (false, 0) 0 (by simp [sgZ])
theorem sum_lift {k : Nat} (hk : 1000 ≤ k) {L : List Dec} (h : ∀ d ∈ L, May d) : sumD L = ofZ k (totZ k L) ∧ sumE L = erZ k (totZ k L) := by
  obtain ⟨h1, h2, h3⟩ := minE_range L h
  have hv := sumS_val (minE L) k L (by omega) h3
  unfold sumD sumE
  have := mk_lift k (sumS (minE L) L).1 (sumS (minE L) L).2 (minE L) (by omega)
  rw [hv] at this
  exact this
end Go.Proofs.YtlcbjikiodmlfaaGreatDoor
/- Layer 7's laws: decimals that lie in variables; the contracts as the laws want them; ways that meet. -/
namespace Go.Proofs.YtlcbjikiodmlfaaGreatDoor
open Go.RowKit

def decC (d : Dec) : Array Value := #[.bool d.neg, .string (bs d.digits), .int .i64 d.exp]
/-- The variables of a law. -/
structure Decs (w W : World) (L : List (Nat × Dec)) : Prop where
  below : Below w.heap.size w W
  at_ : ∀ (i b : Nat) (d : Dec), L[i]? = some (b, d) → Row W b 24 (decC d)
section
variable {w W W' : World} {L : List (Nat × Dec)} {i b : Nat} {d : Dec}
theorem Decs.call (h : Decs w W L) (hb : Below W.heap.size W W') : Decs w W' L := ⟨h.below.call hb, fun i b d hi => (h.at_ i b d hi).call hb⟩
theorem Decs.var (h : Decs w W L) (neg : Bool) (l : List UInt8) (x : Int) : Decs w (W.alloc (.cells #[.bool neg, .string (bs l), .int .i64 x] 24)) ((W.heap.size, ⟨neg, l, x⟩) :: L) :=
  ⟨h.below.alloc h.below.size _, fun i b d hi => by
    cases i with
    | zero => injection hi with hi; injection hi with h1 h2; subst h1; subst h2; exact Row.new _ _ _
    | succ i => exact (h.at_ i b d hi).alloc _⟩
theorem Decs.c0 (h : Decs w W L) (hi : L[i]? = some (b, d)) : W.cell? ⟨b, 0, none⟩ = some (.bool d.neg) := (h.at_ i b d hi).cell rfl
theorem Decs.c1 (h : Decs w W L) (hi : L[i]? = some (b, d)) : W.cell? ⟨b, 1, none⟩ = some (.string (bs d.digits)) := (h.at_ i b d hi).cell rfl
theorem Decs.c2 (h : Decs w W L) (hi : L[i]? = some (b, d)) : W.cell? ⟨b, 2, none⟩ = some (.int .i64 d.exp) := (h.at_ i b d hi).cell rfl
theorem Decs.drew (h : Decs w W L) : Decs w W.drew L := ⟨h.below.drew, fun i b d hi => (h.at_ i b d hi).drew⟩
end
theorem three_vars (w : World) (an bn cn : Bool) (al bl cl : List UInt8) (ax bx cx : Int) {w1 : World}
    (h : w1 = ((w.alloc (.cells #[.bool an, .string (bs al), .int .i64 ax] 24)).alloc (.cells #[.bool bn, .string (bs bl), .int .i64 bx] 24)).alloc (.cells #[.bool cn, .string (bs cl), .int .i64 cx] 24)) :
    Decs w w1 [(w.heap.size + 1 + 1, ⟨cn, cl, cx⟩), (w.heap.size + 1, ⟨bn, bl, bx⟩), (w.heap.size, ⟨an, al, ax⟩)] := by
  have h0 : Decs w w [] := ⟨Below.refl _ _, fun i b d hi => by simp at hi⟩
  have h3 := ((h0.var an al ax).var bn bl bx).var cn cl cx
  rw [h]
  simpa using h3
def GivesT (f : Nat) (args : Array Value) (d : Dec) (k : Nat) : Prop := ∀ W : World, PowTab W → Calls Tryz.prog f args W fun e w' => e = .returned (.tuple #[.agg #[.bool d.neg, .string (bs d.digits), .int .i64 d.exp], .int .i64 (k : Int)]) ∧ Below W.heap.size W w'
theorem mulG {a b : Dec} (ha : May a) (hb : May b) : GivesT 11 #[decV a, decV b] (mulD a b) (mulE a b) := fun W h => by
  have := mul_ok a b W h (by have := ha.len; omega) (by have := hb.len; omega)
  unfold mulR mulRE at this
  rw [if_pos ⟨(mayB_iff a).2 ha, (mayB_iff b).2 hb⟩, if_pos ⟨(mayB_iff a).2 ha, (mayB_iff b).2 hb⟩] at this
  exact this
/-- Compare of two that may be. -/
def GivesI (f : Nat) (args : Array Value) (x : Int) : Prop := ∀ W : World, Calls Tryz.prog f args W fun e w' => e = .returned (.tuple #[.int .i64 x, .int .i64 0]) ∧ Below W.heap.size W w'
theorem cmpG {a b : Dec} (ha : May a) (hb : May b) : GivesI 10 #[decV a, decV b] (cmpZ (vl 3000 a) (vl 3000 b)) := fun W => by
  have := compare_ok a b W (by have := ha.len; omega) (by have := hb.len; omega)
  unfold CmpPost cmpI cmpE at this
  rw [if_pos ⟨(mayB_iff a).2 ha, (mayB_iff b).2 hb⟩, if_pos ⟨(mayB_iff a).2 ha, (mayB_iff b).2 hb⟩, cmpD_vl (k := 3000) (by omega) ha hb] at this
  exact this
/-- Sum of two, as a call lays them side by side. -/
def GivesS (a b d : Dec) (k : Nat) : Prop := ∀ W : World, PowTab W → Calls Tryz.prog 6 #[.slice (some ⟨W.heap.size, 0, none⟩) 2 2] (W.alloc (.cells #[.bool a.neg, .string (bs a.digits), .int .i64 a.exp, .bool b.neg, .string (bs b.digits), .int .i64 b.exp] 24)) fun e w' =>
  e = .returned (.tuple #[.agg #[.bool d.neg, .string (bs d.digits), .int .i64 d.exp], .int .i64 (k : Int)]) ∧ Below W.heap.size W w'
theorem sumG {a b : Dec} (ha : May a) (hb : May b) : GivesS a b (ofZ 3000 (vl 3000 a + vl 3000 b)) (erZ 3000 (vl 3000 a + vl 3000 b)) := fun W h => by
  have hm : ∀ d ∈ [a, b], May d := fun d hd => by
    rcases List.mem_cons.1 hd with rfl | hd
    · exact ha
    · rw [List.mem_singleton] at hd; subst hd; exact hb
  have hr := Row.new W 24 #[.bool a.neg, .string (bs a.digits), .int .i64 a.exp, .bool b.neg, .string (bs b.digits), .int .i64 b.exp]
  have hh := sum_ok (some ⟨W.heap.size, 0, none⟩) 2 2 [a, b] _ rfl (by decide) ⟨rfl, fun _ => ⟨W.heap.size, 0, rfl, hr.lt, fun j v hv => by have := hr.cell (i := j) (v := v) (by simpa [dcs] using hv); simpa using this⟩⟩ hm (h.alloc _)
  have hl := sum_lift (k := 3000) (by omega) hm
  rw [totZ_two] at hl
  rw [hl.1, hl.2] at hh
  refine hh.mono ?_
  rintro e w' ⟨rfl, hb9⟩
  exact ⟨rfl, ((Below.refl _ _).alloc (Nat.le_refl _) _).call hb9⟩
/-! ### Ways that meet -/
def blend (g : Nat → Value) : List Bool → Nat → List Value → List Value
  | m :: ms, i, v :: vs => (bif m then g i else v) :: blend g ms (i + 1) vs
  | _, _, vs => vs
def MeetW (ms : List Bool) (l : List (Nat × Value)) (R : World → Prop) (vs : List Value) (a' : Act) (w' : World) : Prop := ∃ g, a' = puts ⟨(blend g ms 0 vs).toArray, []⟩ l ∧ R w'
theorem wp_blend {P : Program} {c : Code} {K : Act → World → Prop} {Q : Exit → Act → World → Prop} {vs : List Value} {w : World} (ms : List Bool) (l : List (Nat × Value)) (R : World → Prop)
    (h : c.wp P (Exit.then (MeetW ms l R vs) (fun _ _ _ => False)) ⟨vs.toArray, []⟩ w)
    (h2 : ∀ g w', R w' → K (puts ⟨(blend g ms 0 vs).toArray, []⟩ l) w') : c.wp P (Exit.then K Q) ⟨vs.toArray, []⟩ w := by
  refine wp_mono h fun e a' w' h => ?_
  cases e
  case normal =>
    obtain ⟨g, rfl, hr⟩ := h
    exact h2 g w' hr
  all_goals exact h.elim
theorem meet_end {vs : List Value} {ms : List Bool} {a' : Act} {l : List (Nat × Value)} {R : World → Prop} {w' : World} (h : a' = puts ⟨(blend (fun k => a'.tmps.getD k undef) ms 0 vs).toArray, []⟩ l) (hr : R w') : MeetW ms l R vs a' w' := ⟨_, h, hr⟩
end Go.Proofs.YtlcbjikiodmlfaaGreatDoor
