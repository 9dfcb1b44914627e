/- Layer 3: what the statements know of a log beforehand. -/
import Derived.Test.YtljlkmmeedlaiaaDoorPt44
import Derived.Test.YtljlkmmeedlaiaaDoorPt31
import Derived.OrdersHeld
import Derived.RegionTactic
namespace Go.Proofs.YtljlkmmeedlaiaaDoor
open Go.RowKit

def zeros5 (n : Nat) : List Nat := List.replicate n 0
def knUsed : Nat → Nat
  | 0 => 0
  | 1 => 1
  | _ => 3
def knBs (n5 : Nat) : Nat → List (List Nat)
  | 0 => []
  | 1 => [[97, 98, 99]]
  | _ => [[97, 98, 99], zeros5 n5]
/-- The log behind k of the calls; the blocks of the slices that were made. -/
structure KnT (w : World) (dp p n5 k : Nat) (cv : Bool) (A B C : Option Nat) (W : World) : Prop where
  st : LogSt W (fun q => q < w.heap.size ∨ A = some q ∨ B = some q ∨ C = some q) dp p 6 0 6 2 1 (knUsed k) (knBs n5 k)
  hA : ∀ q, A = some q → w.heap.size ≤ q ∧ Bytes W (some ⟨q, 0, none⟩) 3 [97, 98, 99] ∧ (cv = false → Row W q 5 #[.int .u8 97, .int .u8 98, .int .u8 99])
  hB : ∀ q, B = some q → Bytes W (some ⟨q, 0, none⟩) n5 (zeros5 n5)
  below : Below w.heap.size w W
  ne : ∀ q r, A = some q → B = some r → r ≠ q
section
variable {w W W' : World} {dp p n5 k : Nat} {cv : Bool} {A B C : Option Nat}
theorem KnT.call (h : KnT w dp p n5 k cv A B C W) (hb : Below W.heap.size W W') : KnT w dp p n5 k cv A B C W' :=
  ⟨h.st.call hb, fun q e => ⟨(h.hA q e).1, (h.hA q e).2.1.below hb, fun hc => ((h.hA q e).2.2 hc).call hb⟩, fun q e => (h.hB q e).below hb, h.below.call hb, h.ne⟩
theorem KnT.made (h : KnT w dp p n5 k cv A B C W) (hb : Below W.heap.size W W') (hl : W.heap.size < W'.heap.size) {A' B' C' : Option Nat} (hA : A' = A ∨ (A' = some W.heap.size ∧ Bytes W' (some ⟨W.heap.size, 0, none⟩) 3 [97, 98, 99] ∧ Row W' W.heap.size 5 #[.int .u8 97, .int .u8 98, .int .u8 99])) (hB : B' = B ∨ (B' = some W.heap.size ∧ Bytes W' (some ⟨W.heap.size, 0, none⟩) n5 (zeros5 n5))) (hC : C' = C ∨ C' = some W.heap.size) (hAB : A' = A ∨ B' = B) : KnT w dp p n5 k cv A' B' C' W' := by
  have hlt : ∀ q, (A = some q ∨ B = some q) → q < W.heap.size := fun q hq => by
    obtain ⟨FL, FD, d, f, g1, g2, g3, g4, g5, g6⟩ := h.st
    exact (g6 q (by rcases hq with hq | hq; exact .inr (.inl hq); exact .inr (.inr (.inl hq)))).1
  refine ⟨h.st.own hb fun q hq => ?_, fun q e => ?_, fun q e => ?_, h.below.call hb, fun q r e1 e2 => ?_⟩
  · rcases hq with hq | hq | hq | hq
    · exact .inl (.inl hq)
    · rcases hA with rfl | ⟨rfl, _⟩
      · exact .inl (.inr (.inl hq))
      · injection hq with hq; subst hq; exact .inr ⟨Nat.le_refl _, hl⟩
    · rcases hB with rfl | ⟨rfl, _⟩
      · exact .inl (.inr (.inr (.inl hq)))
      · injection hq with hq; subst hq; exact .inr ⟨Nat.le_refl _, hl⟩
    · rcases hC with rfl | rfl
      · exact .inl (.inr (.inr (.inr hq)))
      · injection hq with hq; subst hq; exact .inr ⟨Nat.le_refl _, hl⟩
  · rcases hA with rfl | ⟨rfl, hA⟩
    · exact ⟨(h.hA q e).1, (h.hA q e).2.1.below hb, fun hc => ((h.hA q e).2.2 hc).call hb⟩
    · injection e with e; subst e; exact ⟨h.below.size, hA.1, fun _ => hA.2⟩
  · rcases hB with rfl | ⟨rfl, hB⟩
    · exact (h.hB q e).below hb
    · injection e with e; subst e; exact hB
  · rcases hA with rfl | ⟨rfl, _⟩
    · rcases hB with rfl | ⟨rfl, _⟩
      · exact h.ne q r e1 e2
      · injection e2 with e2; subst e2
        have := hlt q (.inl e1)
        omega
    · injection e1 with e1; subst e1
      rcases hB with rfl | ⟨rfl, _⟩
      · have := hlt r (.inr e2)
        omega
      · rcases hAB with h9 | h9
        · have := hlt W.heap.size (.inl h9.symm)
          omega
        · have := hlt W.heap.size (.inr h9.symm)
          omega
theorem KnT.after (h : KnT w dp p n5 k cv A B C W) {k' : Nat} (hs : LogSt W' (fun q => q < w.heap.size ∨ A = some q ∨ B = some q ∨ C = some q) dp p 6 0 6 2 1 (knUsed k') (knBs n5 k')) (hk : Kept (fun q => ¬ (q < w.heap.size ∨ A = some q ∨ B = some q ∨ C = some q)) W W') : KnT w dp p n5 k' cv A B C W' :=
  ⟨hs, fun q e => ⟨(h.hA q e).1, (h.hA q e).2.1.kept hk fun _ x ex hx => hx (by injection ex with ex; subst ex; exact .inr (.inl e)), fun hc => ((h.hA q e).2.2 hc).kept hk fun hx => hx (.inr (.inl e))⟩, fun q e => (h.hB q e).kept hk fun _ x ex hx => hx (by injection ex with ex; subst ex; exact .inr (.inr (.inl e))),
    h.below.trans (hk.below h.below.size fun q hq => by
      rcases Nat.lt_or_ge q w.heap.size with h9 | h9
      · exact absurd (.inl h9) hq
      · exact h9), h.ne⟩
/-- The literal's bytes were marked. -/
theorem KnT.conv {g : Nat} (h : KnT w dp p n5 k false (some g) B C W) : KnT w dp p n5 k true (some g) B C (W.putObj g (.cells #[.int .u8 97, .int .u8 98, .int .u8 99] 5 (3, 4))) := by
  obtain ⟨h1, h2, h3⟩ := h.hA g rfl
  have hrow := h3 rfl
  have hg := grownBy_putObj' W g (.cells #[.int .u8 97, .int .u8 98, .int .u8 99] 5 (3, 4))
  have hk : Kept (· = g) W (W.putObj g (.cells #[.int .u8 97, .int .u8 98, .int .u8 99] 5 (3, 4))) := ⟨hg.os, hg.tape, hg.output, hg.size, fun k hk hn => hg.block k hk fun e => hn (Option.some.inj e)⟩
  have hs : Small [97, 98, 99] := by unfold Small; decide
  refine ⟨?_, fun q e => ?_, fun q e => (h.hB q e).kept hk fun _ x ex hx => by injection ex with ex; subst ex; exact h.ne g q rfl e hx, h.below.trans (hk.below h.below.size fun q hq => hq ▸ h1), h.ne⟩
  · obtain ⟨FL, FD, d, f, g1, g2, g3, g4, g5, g6⟩ := h.st
    have hgo := g6 g (.inr (.inl rfl))
    exact ⟨FL, FD, d, f, g1.kept hk (fun k hk9 e => hgo.2.1 (e ▸ hk9)) (fun k hk9 e => hgo.2.2 (e ▸ hk9)), g2, g3, g4, g5, fun k ho => ⟨Nat.lt_of_lt_of_le (g6 k ho).1 hk.size, (g6 k ho).2⟩⟩
  · injection e with e; subst e
    refine ⟨h1, ⟨rfl, hs, fun _ => ⟨g, 0, rfl, Nat.lt_of_lt_of_le hrow.lt hk.size, fun i hi => ?_⟩⟩, fun hc => by cases hc⟩
    rw [cell_of_row _ g (0 + i) _ 5 (3, 4) (World.putObj_heap_same hrow.lt), Nat.zero_add]
    match i, hi with
    | 0, _ => rfl
    | 1, _ => rfl
    | 2, _ => rfl
theorem KnT.is0 (_ : KnT w dp p n5 0 cv A B C W) : True := trivial
theorem KnT.is1 (_ : KnT w dp p n5 1 cv A B C W) : True := trivial
theorem KnT.is2 (_ : KnT w dp p n5 2 cv A B C W) : True := trivial
theorem KnT.dr (h : KnT w dp p n5 k cv A B C W) : KnT w dp p n5 k cv A B C W.drew := h.call (Below.refl _ _).drew
theorem KnT.mkA (h : KnT w dp p n5 k true none B C W) : KnT w dp p n5 k true (some W.heap.size) B C (W.alloc (.cells #[.int .u8 97, .int .u8 98, .int .u8 99] 5 (3, 4))) := by
  have hb : Below W.heap.size W (W.alloc (.cells #[.int .u8 97, .int .u8 98, .int .u8 99] 5 (3, 4))) := (Below.refl _ _).alloc (Nat.le_refl _) _
  have hby : Bytes (W.alloc (.cells #[.int .u8 97, .int .u8 98, .int .u8 99] 5 (3, 4))) (some ⟨W.heap.size, 0, none⟩) 3 [97, 98, 99] := Bytes.of_lit W 5 #[.int .u8 97, .int .u8 98, .int .u8 99] (3, 4) [97, 98, 99] 3 rfl (by unfold Small; decide) rfl
  have hlt : ∀ q, B = some q → q < W.heap.size := fun q hq => by
    obtain ⟨FL, FD, d, f, g1, g2, g3, g4, g5, g6⟩ := h.st
    exact (g6 q (.inr (.inr (.inl hq)))).1
  refine ⟨h.st.own hb fun q hq => ?_, fun q e => ?_, fun q e => (h.hB q e).below hb, h.below.call hb, fun q r e1 e2 => ?_⟩
  · rcases hq with hq | hq | hq | hq
    · exact .inl (.inl hq)
    · injection hq with hq; subst hq; exact .inr ⟨Nat.le_refl _, by simp⟩
    · exact .inl (.inr (.inr (.inl hq)))
    · exact .inl (.inr (.inr (.inr hq)))
  · injection e with e; subst e; exact ⟨h.below.size, hby, fun hc => by cases hc⟩
  · injection e1 with e1; subst e1
    have := hlt r e2
    omega
theorem KnT.mkB (h : KnT w dp p n5 k cv A none C W) : KnT w dp p n5 k cv A (some W.heap.size) C (W.alloc (.cells (cellsOf (zeros5 n5)).toArray 5)) :=
  h.made (B' := some _) ((Below.refl _ _).alloc (Nat.le_refl _) _) (by simp) (.inl rfl) (.inr ⟨rfl, Bytes.of_row' (cs := zeros5 n5) (Row.new _ _ _) (Small.zeros _) List.length_replicate⟩) (.inl rfl) (.inl rfl)
theorem KnT.mkC {n10 : Nat} (h : KnT w dp p n5 k cv A B none W) : KnT w dp p n5 k cv A B (some W.heap.size) (W.alloc (.cells (cellsOf (zeros5 n10)).toArray 5)) :=
  h.made (C' := some _) ((Below.refl _ _).alloc (Nat.le_refl _) _) (by simp) (.inl rfl) (.inl rfl) (.inr rfl) (.inl rfl)
theorem KnT.appA {g c : Nat} (h : KnT w dp p n5 0 cv (some g) B C W) :
    Calls Tryd.prog 13 #[.pointer (some ⟨p, 0, none⟩), .slice (some ⟨g, 0, none⟩) 3 c] W fun e w' => e = .returned (.int .i64 0) ∧ KnT w dp p n5 1 cv (some g) B C w' := by
  refine (st_append (c := c) h.st (h.hA g rfl).2.1 (.inr (.inl rfl)) (by show 0 + costN 3 + 2 ≤ 6; decide) (by simp [knBs])).mono ?_
  rintro e w' ⟨rfl, h1, h2⟩
  exact ⟨rfl, h.after (k' := 1) h1 h2⟩
theorem KnT.appB {g c : Nat} (h5 : costN n5 = 2) (h : KnT w dp p n5 1 cv A (some g) C W) :
    Calls Tryd.prog 13 #[.pointer (some ⟨p, 0, none⟩), .slice (some ⟨g, 0, none⟩) n5 c] W fun e w' => e = .returned (.int .i64 0) ∧ KnT w dp p n5 2 cv A (some g) C w' := by
  refine (st_append (c := c) h.st (h.hB g rfl) (.inr (.inr (.inl rfl))) (by rw [h5]; show 1 + 2 + 2 ≤ 6; decide) (by simp [knBs])).mono ?_
  rintro e w' ⟨rfl, h1, h2⟩
  rw [h5] at h1
  exact ⟨rfl, h.after (k' := 2) h1 h2⟩
theorem KnT.appC {D : Option Addr} {c m : Nat} (hm : costN m = 3) (h : KnT w dp p n5 2 cv A B C W) :
    Calls Tryd.prog 13 #[.pointer (some ⟨p, 0, none⟩), .slice D m c] W fun e w' => e = .returned (.int .i64 6) ∧ KnT w dp p n5 2 cv A B C w' := by
  refine (st_full (c := c) h.st (by rw [hm]; show 6 < 3 + 3 + 2; decide)).mono ?_
  rintro e w' ⟨rfl, hb⟩
  exact ⟨rfl, h.call hb⟩
end
/-- How far the calls are: the literal, its marking, a call, a call, a call, three stores. -/
def knK (s : Nat) : Nat := if 4 ≤ s then 2 else if 3 ≤ s then 1 else 0
def knL (s : Nat) (b5 b8 : Bool) : Array Bool := #[true, decide (1 ≤ s), decide (2 ≤ s), decide (3 ≤ s), true, b5, decide (4 ≤ s), true, b8, decide (5 ≤ s), decide (6 ≤ s), decide (7 ≤ s), decide (8 ≤ s)]
structure KnF (w : World) (dp p n5 n10 s : Nat) (b5 b8 : Bool) (v30 v31 v32 v34 v35 v37 v38 v6 v7 v8 : Value) (W : World) : Prop where
  st : ∃ A B C, KnT w dp p n5 (knK s) (decide (s ≠ 1)) A B C W ∧ (s = 0 → A = none) ∧ (1 ≤ s → ∃ g, A = some g ∧ v30 = .slice (some ⟨g, 0, none⟩) 3 3) ∧ (b5 = true → ∃ g, B = some g ∧ v34 = .slice (some ⟨g, 0, none⟩) n5 n5) ∧ (b5 = false → B = none) ∧ (b8 = true → ∃ D, v37 = .slice D n10 n10) ∧ (b8 = false → C = none)
  a2 : 2 ≤ s → v31 = v30
  a3 : 3 ≤ s → v32 = .int .i64 0
  a4 : 4 ≤ s → v35 = .int .i64 0
  a5 : 5 ≤ s → v38 = .int .i64 6
  a6 : 6 ≤ s → v6 = .int .i64 0
  a7 : 7 ≤ s → v7 = .int .i64 0
  a8 : 8 ≤ s → v8 = .int .i64 6
section
variable {w W : World} {dp p n5 n10 s : Nat} {b5 b8 : Bool} {v30 v31 v32 v34 v35 v37 v38 v6 v7 v8 v : Value}
theorem KnT.unmarked {k : Nat} {cv cv' : Bool} {B C : Option Nat} (h : KnT w dp p n5 k cv none B C W) : KnT w dp p n5 k cv' none B C W :=
  ⟨h.st, fun _ e => (by cases e), h.hB, h.below, h.ne⟩
theorem KnF.build (h : KnF w dp p n5 n10 0 b5 b8 v30 v31 v32 v34 v35 v37 v38 v6 v7 v8 W) :
    KnF w dp p n5 n10 1 b5 b8 (.slice (some ⟨W.heap.size, 0, none⟩) 3 3) v31 v32 v34 v35 v37 v38 v6 v7 v8 (W.alloc (.cells #[.int .u8 97, .int .u8 98, .int .u8 99] 5)) := by
  obtain ⟨⟨A, B, C, hT, h0, h1, h5, h5n, h8, h8n⟩, _, _, _, _, _, _, _⟩ := h
  obtain rfl := h0 rfl
  have hT : KnT w dp p n5 0 false none B C W := hT.unmarked
  exact ⟨⟨some W.heap.size, B, C, hT.made (A' := some _) ((Below.refl _ _).alloc (Nat.le_refl _) (.cells #[.int .u8 97, .int .u8 98, .int .u8 99] 5)) (by simp) (.inr ⟨rfl, Bytes.of_row' (cs := [97, 98, 99]) (Row.new _ _ _) (by unfold Small; decide) rfl, Row.new _ _ _⟩) (.inl rfl) (.inl rfl) (.inr rfl), by omega, fun _ => ⟨_, rfl, rfl⟩, h5, h5n, h8, h8n⟩, by omega, by omega, by omega, by omega, by omega, by omega, by omega⟩
theorem KnF.mark (h : KnF w dp p n5 n10 1 b5 b8 v30 v31 v32 v34 v35 v37 v38 v6 v7 v8 W) :
    ∃ g, v30 = .slice (some ⟨g, 0, none⟩) 3 3 ∧ Row W g 5 #[.int .u8 97, .int .u8 98, .int .u8 99] ∧
      KnF w dp p n5 n10 2 b5 b8 v30 v30 v32 v34 v35 v37 v38 v6 v7 v8 (W.putObj g (.cells #[.int .u8 97, .int .u8 98, .int .u8 99] 5 (3, 4))) := by
  obtain ⟨⟨A, B, C, hT, h0, h1, h5, h5n, h8, h8n⟩, _, _, _, _, _, _, _⟩ := h
  obtain ⟨g, rfl, e1⟩ := h1 (by omega)
  have hT : KnT w dp p n5 0 false (some g) B C W := hT
  exact ⟨g, e1, (hT.hA g rfl).2.2 rfl, ⟨some g, B, C, hT.conv, by omega, fun _ => ⟨_, rfl, e1⟩, h5, h5n, h8, h8n⟩, fun _ => rfl, by omega, by omega, by omega, by omega, by omega, by omega⟩
theorem KnF.app1 (h : KnF w dp p n5 n10 2 b5 b8 v30 v31 v32 v34 v35 v37 v38 v6 v7 v8 W) :
    Calls Tryd.prog 13 #[.pointer (some ⟨p, 0, none⟩), v31] W fun e w' => e = .returned (.int .i64 0) ∧ KnF w dp p n5 n10 3 b5 b8 v30 v31 (.int .i64 0) v34 v35 v37 v38 v6 v7 v8 w' := by
  obtain ⟨⟨A, B, C, hT, h0, h1, h5, h5n, h8, h8n⟩, a2, _, _, _, _, _, _⟩ := h
  obtain ⟨g, rfl, e1⟩ := h1 (by omega)
  have a2 := a2 (by omega)
  have hT : KnT w dp p n5 0 true (some g) B C W := hT
  rw [a2, e1]
  refine hT.appA.mono ?_
  rintro e w' ⟨rfl, hT⟩
  exact ⟨rfl, ⟨some g, B, C, hT, by omega, fun _ => ⟨_, rfl, rfl⟩, h5, h5n, h8, h8n⟩, fun _ => rfl, fun _ => rfl, by omega, by omega, by omega, by omega, by omega⟩
theorem KnF.app2 (hc : costN n5 = 2) (h : KnF w dp p n5 n10 3 true b8 v30 v31 v32 v34 v35 v37 v38 v6 v7 v8 W) :
    Calls Tryd.prog 13 #[.pointer (some ⟨p, 0, none⟩), v34] W fun e w' => e = .returned (.int .i64 0) ∧ KnF w dp p n5 n10 4 true b8 v30 v31 v32 v34 (.int .i64 0) v37 v38 v6 v7 v8 w' := by
  obtain ⟨⟨A, B, C, hT, h0, h1, h5, h5n, h8, h8n⟩, a2, a3, _, _, _, _, _⟩ := h
  obtain ⟨g, rfl, e5⟩ := h5 rfl
  have hT : KnT w dp p n5 1 true A (some g) C W := hT
  rw [e5]
  refine (hT.appB hc).mono ?_
  rintro e w' ⟨rfl, hT⟩
  exact ⟨rfl, ⟨A, some g, C, hT, by omega, fun _ => h1 (by omega), fun _ => ⟨g, rfl, rfl⟩, h5n, h8, h8n⟩, fun _ => a2 (by omega), fun _ => a3 (by omega), fun _ => rfl, by omega, by omega, by omega, by omega⟩
theorem KnF.app3 (hc : costN n10 = 3) (h : KnF w dp p n5 n10 4 b5 true v30 v31 v32 v34 v35 v37 v38 v6 v7 v8 W) :
    Calls Tryd.prog 13 #[.pointer (some ⟨p, 0, none⟩), v37] W fun e w' => e = .returned (.int .i64 6) ∧ KnF w dp p n5 n10 5 b5 true v30 v31 v32 v34 v35 v37 (.int .i64 6) v6 v7 v8 w' := by
  obtain ⟨⟨A, B, C, hT, h0, h1, h5, h5n, h8, h8n⟩, a2, a3, a4, _, _, _, _⟩ := h
  obtain ⟨D, e8⟩ := h8 rfl
  have hT : KnT w dp p n5 2 true A B C W := hT
  rw [e8]
  refine (hT.appC hc).mono ?_
  rintro e w' ⟨rfl, hT⟩
  exact ⟨rfl, ⟨A, B, C, hT, by omega, fun _ => h1 (by omega), h5, h5n, fun _ => ⟨D, rfl⟩, h8n⟩, fun _ => a2 (by omega), fun _ => a3 (by omega), fun _ => a4 (by omega), fun _ => rfl, by omega, by omega, by omega⟩
theorem KnF.make5 (h : KnF w dp p n5 n10 s false b8 v30 v31 v32 v34 v35 v37 v38 v6 v7 v8 W) :
    KnF w dp p n5 n10 s true b8 v30 v31 v32 (.slice (some ⟨W.heap.size, 0, none⟩) n5 n5) v35 v37 v38 v6 v7 v8 (W.alloc (.cells (cellsOf (zeros5 n5)).toArray 5)) := by
  obtain ⟨⟨A, B, C, hT, h0, h1, h5, h5n, h8, h8n⟩, a2, a3, a4, a5, a6, a7, a8⟩ := h
  obtain rfl := h5n rfl
  exact ⟨⟨A, _, C, hT.mkB, h0, h1, fun _ => ⟨_, rfl, rfl⟩, fun e => (by cases e), h8, h8n⟩, a2, a3, a4, a5, a6, a7, a8⟩
theorem KnF.make10 (h : KnF w dp p n5 n10 s b5 false v30 v31 v32 v34 v35 v37 v38 v6 v7 v8 W) :
    KnF w dp p n5 n10 s b5 true v30 v31 v32 v34 v35 (.slice (some ⟨W.heap.size, 0, none⟩) n10 n10) v38 v6 v7 v8 (W.alloc (.cells (cellsOf (zeros5 n10)).toArray 5)) := by
  obtain ⟨⟨A, B, C, hT, h0, h1, h5, h5n, h8, h8n⟩, a2, a3, a4, a5, a6, a7, a8⟩ := h
  obtain rfl := h8n rfl
  exact ⟨⟨A, B, _, hT.mkC, h0, h1, h5, h5n, fun _ => ⟨_, rfl⟩, fun e => (by cases e)⟩, a2, a3, a4, a5, a6, a7, a8⟩
theorem KnF.set6 (h : KnF w dp p n5 n10 5 b5 b8 v30 v31 v32 v34 v35 v37 v38 v6 v7 v8 W) : KnF w dp p n5 n10 6 b5 b8 v30 v31 v32 v34 v35 v37 v38 v32 v7 v8 W := by
  obtain ⟨⟨A, B, C, hT, h0, h1, h5, h5n, h8, h8n⟩, a2, a3, a4, a5, a6, a7, a8⟩ := h
  exact ⟨⟨A, B, C, hT, by omega, fun _ => h1 (by omega), h5, h5n, h8, h8n⟩, fun _ => a2 (by omega), fun _ => a3 (by omega), fun _ => a4 (by omega), fun _ => a5 (by omega), fun _ => a3 (by omega), by omega, by omega⟩
theorem KnF.set7 (h : KnF w dp p n5 n10 6 b5 b8 v30 v31 v32 v34 v35 v37 v38 v6 v7 v8 W) : KnF w dp p n5 n10 7 b5 b8 v30 v31 v32 v34 v35 v37 v38 v6 v35 v8 W := by
  obtain ⟨⟨A, B, C, hT, h0, h1, h5, h5n, h8, h8n⟩, a2, a3, a4, a5, a6, a7, a8⟩ := h
  exact ⟨⟨A, B, C, hT, by omega, fun _ => h1 (by omega), h5, h5n, h8, h8n⟩, fun _ => a2 (by omega), fun _ => a3 (by omega), fun _ => a4 (by omega), fun _ => a5 (by omega), fun _ => a6 (by omega), fun _ => a4 (by omega), by omega⟩
theorem KnF.set8 (h : KnF w dp p n5 n10 7 b5 b8 v30 v31 v32 v34 v35 v37 v38 v6 v7 v8 W) : KnF w dp p n5 n10 8 b5 b8 v30 v31 v32 v34 v35 v37 v38 v6 v7 v38 W := by
  obtain ⟨⟨A, B, C, hT, h0, h1, h5, h5n, h8, h8n⟩, a2, a3, a4, a5, a6, a7, a8⟩ := h
  exact ⟨⟨A, B, C, hT, by omega, fun _ => h1 (by omega), h5, h5n, h8, h8n⟩, fun _ => a2 (by omega), fun _ => a3 (by omega), fun _ => a4 (by omega), fun _ => a5 (by omega), fun _ => a6 (by omega), fun _ => a7 (by omega), fun _ => a5 (by omega)⟩
end
section
variable {P : Program} {o : Oper} {a : Act} {w : World} {K : Act → World → Prop} {Q : Exit → Act → World → Prop}
theorem step_make_bytes (t e : TypeId) (x : Operand) (ho : o.op = .makeSlice t x x) (n : Nat) (hx : a.eval x = .int .i64 n) (ht : P.underlying t = some (.slice e))
    (hi : (P.info? e).map (fun i => (i.zero, i.size, i.bytes)) = some (some (.int .u8 0), 1, 1)) (hn : n ≤ 281474976710656)
    (h : K (a.put o.dst (.slice (some ⟨w.heap.size, 0, none⟩) n n)) (w.alloc (.cells (cellsOf (List.replicate n 0)).toArray e))) : Oper.wp P o a w K Q := by
  obtain ⟨i, hi, hz, hs, hb⟩ := info_parts hi
  have hr := run_make (P := P) w t e i _ ht hi hz .i64 .i64 n n (by omega) (Int.le_refl _) (by rw [hb]; omega) (by omega)
  rw [hs, Nat.mul_one] at hr
  have e1 : madeCells (Value.int .u8 0).cells n = (cellsOf (List.replicate n 0)).toArray := by
    apply Array.toList_inj.1
    have := toList_madeCells_one (.int .u8 0) n
    simp only [cellsOf, List.map_replicate]
    exact this
  simp only [Int.toNat_natCast] at hr
  rw [e1] at hr
  unfold Oper.wp
  simp [execOp, ho, hx, hr, Result.andThen]
  exact h
theorem step_build3 (t e : TypeId) (x y z : Int) (ho : o.op = .buildSlice t 3 #[(0, .const (.int .u8 x)), (1, .const (.int .u8 y)), (2, .const (.int .u8 z))]) (ht : P.underlying t = some (.slice e))
    (hi : (P.info? e).map (fun i => (i.zero, i.size, i.bytes)) = some (some (.int .u8 0), 1, 1))
    (h : K (a.put o.dst (.slice (some ⟨w.heap.size, 0, none⟩) 3 3)) (w.alloc (.cells #[.int .u8 x, .int .u8 y, .int .u8 z] e))) : Oper.wp P o a w K Q := by
  obtain ⟨i, hi, hz, hs, hb⟩ := info_parts hi
  unfold Oper.wp
  simp [execOp, ho, Instr.buildSlice, run_underlying ht, sizeOf, typeInfo, hi, hs, hz, zeroValue, newRow, Result.andThen, go_sem]
  exact h
theorem run_convert_row {P : Program} (W : World) (t e : TypeId) (C : Array Value) (n c g : Nat) (hrow : W.heap[g]? = some (.cells C e (0, 0))) (ht : P.underlying t = some (.slice e)) (he : P.underlying e = some (.int .u8)) :
    (convert t t (.slice (some ⟨g, 0, none⟩) n c)).run P W = .ok (.slice (some ⟨g, 0, none⟩) n c) (W.putObj g (.cells C e (C.size, C.size + 1))) := by
  have hsh : W.shape? g = some (e, C.size) := by
    unfold World.shape?
    rw [hrow]
  have hfr : ∀ (k : Nat), W.freeze ⟨g, k, none⟩ 1 = W.putObj g (.cells C e (k, k + 1)) := fun k => by
    unfold World.freeze World.putObj
    rw [if_neg (by decide)]
    congr 1
    have hg : g < W.heap.size := lt_of_heap hrow
    have hgo : W.heap[g] = .cells C e (0, 0) := by
      rw [Array.getElem?_eq_getElem hg] at hrow
      exact Option.some.inj hrow
    apply Array.ext
    · simp
    · intro i h1 h2
      by_cases h : g = i
      · subst h
        simp [Array.getElem_modify, hgo]
      · have h9 : i < W.heap.size := by simpa using h2
        rw [Array.getElem_setIfInBounds_ne h9 h]
        simp [Array.getElem_modify, h]
  simp [convert, run_underlying ht, run_underlying he, markStringish, hsh]
  exact hfr _
theorem putObj_alloc {w : World} {g : Nat} {o o' : Obj} (h : g < w.heap.size) : (w.alloc o).putObj g o' = (w.putObj g o').alloc o := by
  unfold World.putObj World.alloc
  congr 1
  apply Array.ext
  · simp
  · intro i h1 h2
    have h3 : i < w.heap.size + 1 := by simpa using h1
    by_cases hg : g = i
    · subst hg
      simp [Array.getElem_push, h]
    · rw [Array.getElem_setIfInBounds_ne (by simpa using h3) hg]
      by_cases hi : i < w.heap.size
      · simp only [Array.getElem_push, Array.size_setIfInBounds, hi, dif_pos]
        rw [Array.getElem_setIfInBounds_ne hi hg]
      · simp [Array.getElem_push, hi]
theorem putObj_top {w : World} {o o' : Obj} : (w.alloc o).putObj w.heap.size o' = w.alloc o' := by
  unfold World.putObj World.alloc
  congr 1
  apply Array.ext
  · simp
  · intro i h1 h2
    have h3 : i < w.heap.size + 1 := by simpa using h1
    by_cases hg : w.heap.size = i
    · subst hg; simp
    · have hi : i < w.heap.size := by omega
      rw [Array.getElem_setIfInBounds_ne (by simpa using h3) hg]
      simp [Array.getElem_push, hi]
theorem run_mark0 {P : Program} (w : World) (t e : TypeId) (C : Array Value) (n c : Nat) (ht : P.underlying t = some (.slice e)) (he : P.underlying e = some (.int .u8)) :
    (convert t t (.slice (some ⟨w.heap.size, 0, none⟩) n c)).run P (w.alloc (.cells C e)) = .ok (.slice (some ⟨w.heap.size, 0, none⟩) n c) (w.alloc (.cells C e (C.size, C.size + 1))) := by
  rw [run_convert_row (w.alloc (.cells C e)) t e C n c w.heap.size (Row.new w e C) ht he, putObj_top]
theorem run_mark1 {P : Program} (w : World) (t e : TypeId) (C : Array Value) (n c : Nat) (o : Obj) (ht : P.underlying t = some (.slice e)) (he : P.underlying e = some (.int .u8)) :
    (convert t t (.slice (some ⟨w.heap.size, 0, none⟩) n c)).run P ((w.alloc (.cells C e)).alloc o) = .ok (.slice (some ⟨w.heap.size, 0, none⟩) n c) ((w.alloc (.cells C e (C.size, C.size + 1))).alloc o) := by
  rw [run_convert_row ((w.alloc (.cells C e)).alloc o) t e C n c w.heap.size ((Row.new w e C).alloc o) ht he, putObj_alloc (by simp), putObj_top]
theorem run_mark2 {P : Program} (w : World) (t e : TypeId) (C : Array Value) (n c : Nat) (o o2 : Obj) (ht : P.underlying t = some (.slice e)) (he : P.underlying e = some (.int .u8)) :
    (convert t t (.slice (some ⟨w.heap.size, 0, none⟩) n c)).run P (((w.alloc (.cells C e)).alloc o).alloc o2) = .ok (.slice (some ⟨w.heap.size, 0, none⟩) n c) (((w.alloc (.cells C e (C.size, C.size + 1))).alloc o).alloc o2) := by
  rw [run_convert_row (((w.alloc (.cells C e)).alloc o).alloc o2) t e C n c w.heap.size (((Row.new w e C).alloc o).alloc o2) ht he, putObj_alloc (by simp; omega), putObj_alloc (by simp), putObj_top]
theorem run_mk {P : Program} (w : World) (t e : TypeId) (n : Nat) (ht : P.underlying t = some (.slice e)) (hi : (P.info? e).map (fun i => (i.zero, i.size, i.bytes)) = some (some (.int .u8 0), 1, 1)) (hn : n ≤ 281474976710656) :
    (Instr.makeSlice t (.int .i64 n) (.int .i64 n)).run P w = .ok (.slice (some ⟨w.heap.size, 0, none⟩) n n) (w.alloc (.cells (cellsOf (zeros5 n)).toArray e)) := by
  obtain ⟨i, hi, hz, hs, hb⟩ := info_parts hi
  have hr := run_make (P := P) w t e i _ ht hi hz .i64 .i64 n n (by omega) (Int.le_refl _) (by rw [hb]; omega) (by omega)
  rw [hs, Nat.mul_one] at hr
  have e1 : madeCells (Value.int .u8 0).cells n = (cellsOf (List.replicate n 0)).toArray := by
    apply Array.toList_inj.1
    have := toList_madeCells_one (.int .u8 0) n
    simp only [cellsOf, List.map_replicate]
    exact this
  simp only [Int.toNat_natCast] at hr
  rw [e1] at hr
  exact hr
theorem step_convert_row (t e : TypeId) (x : Operand) (ho : o.op = .convert t t x) (C : Array Value) (n c g : Nat) (hx : a.eval x = .slice (some ⟨g, 0, none⟩) n c) (hrow : w.heap[g]? = some (.cells C e (0, 0))) (ht : P.underlying t = some (.slice e)) (he : P.underlying e = some (.int .u8))
    (h : K (a.put o.dst (.slice (some ⟨g, 0, none⟩) n c)) (w.putObj g (.cells C e (C.size, C.size + 1)))) : Oper.wp P o a w K Q := by
  have hr := run_convert_row (P := P) w t e C n c g hrow ht he
  unfold Oper.wp
  simp [execOp, ho, hx, hr, Result.andThen]
  exact h
end
end Go.Proofs.YtljlkmmeedlaiaaDoor
/- A region whose operations come in an order that is drawn: an invariant that each operation keeps, one case an operation and not one an order. -/
namespace Go.Proofs.YtljlkmmeedlaiaaDoor
open Go Go.RowKit
section
variable {P : Program} {md : Region.Mode} {ops : Array Oper} {Q : Exit → Act → World → Prop}
theorem ready_false {listed : Array Bool} {i : Nat} (h : i ∈ Region.ready md ops listed) : i < listed.size ∧ listed.getD i true = false := by
  obtain ⟨h1, _⟩ := mem_ready.1 h
  refine ⟨?_, h1⟩
  rcases Nat.lt_or_ge i listed.size with h2 | h2
  · exact h2
  · simp [Array.getElem?_eq_none h2] at h1
theorem count_set {listed : Array Bool} {i : Nat} (h1 : i < listed.size) (h2 : listed.getD i true = false) : (listed.setIfInBounds i true).toList.count false + 1 = listed.toList.count false := by
  have h3 : listed.toList[i]'(by simpa using h1) = false := by
    have : listed.getD i true = listed[i] := by simp [Array.getD, h1]
    rw [this] at h2
    simpa using h2
  have h4 : 0 < listed.toList.count false := List.count_pos_iff.2 (h3 ▸ List.getElem_mem _)
  rw [Array.toList_setIfInBounds, List.count_set (h := by simpa using h1)]
  simp only [h3]
  rw [if_pos (by rfl), if_neg (by decide)]
  omega
/-- I says what holds when the listed operations are behind. -/
theorem wpAny_inv (I : Array Bool → Act → World → Prop)
    (hstep : ∀ listed a w i, I listed a w → i ∈ Region.ready md ops listed → wpOp P ops Q i (I (listed.setIfInBounds i true)) a w)
    (hdone : ∀ listed a w, I listed a w → Region.ready md ops listed = [] → Q .normal a w) :
    ∀ (fuel : Nat) (listed : Array Bool) (a : Act) (w : World), listed.toList.count false ≤ fuel → I listed a w → wpAny P md ops Q fuel listed a w
  | 0, listed, a, w, hc, hI => by
    have hr : Region.ready md ops listed = [] := by
      cases h : Region.ready md ops listed with
      | nil => rfl
      | cons i r =>
        have := ready_false (md := md) (ops := ops) (listed := listed) (i := i) (by rw [h]; simp)
        have := count_set this.1 this.2
        omega
    exact ⟨hr, hdone listed a w hI hr⟩
  | fuel + 1, listed, a, w, hc, hI => ⟨hdone listed a w hI, fun i hi => by
      have h1 := ready_false hi
      have h2 := count_set h1.1 h1.2
      exact wpOp_mono (fun a' w' h => wpAny_inv I hstep hdone fuel _ a' w' (by omega) h) (hstep listed a w i hI hi)⟩
theorem wpAny_named {fuel : Nat} {listed : Array Bool} {a : Act} {w : World} (h : ∀ a0, a0 = a → wpAny P md ops Q fuel listed a0 w) : wpAny P md ops Q fuel listed a w := h a rfl
/-- An operation without a condition is done. -/
theorem op_of {o : Oper} {i : Nat} {K : Act → World → Prop} {a : Act} {w : World} (ho : ops[i]? = some o) (hg : o.guard = none) (h : ∀ K' : Act → World → Prop, (∀ a w, K a w → K' a w) → Oper.wp P o a w K' Q) : wpOp P ops Q i K a w :=
  wpOp_step ho fun K' hK => by
    rw [if_pos (by simp [Region.wanted, hg])]
    exact h K' hK
/-- What an operation that may come up waits for. -/
theorem ready_after {listed : Array Bool} {i : Nat} (h : i ∈ Region.ready md ops listed) : listed.getD i true = false ∧ ((ops[i]?).map (·.after.all fun e => !Region.binds md e || listed.getD e.on false)).getD false = true := by
  unfold Region.ready at h
  have h := (List.mem_filter.1 h).2
  simp only [Bool.and_eq_true, Bool.not_eq_true'] at h
  exact h
end
end Go.Proofs.YtljlkmmeedlaiaaDoor
