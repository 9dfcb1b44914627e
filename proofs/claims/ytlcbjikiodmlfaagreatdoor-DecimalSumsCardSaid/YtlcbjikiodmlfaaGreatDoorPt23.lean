/- Of no program: a scope whose labels lead to one another. And layer 7's text, state by state. -/
import Derived.Test.YtlcbjikiodmlfaaGreatDoorPt22
import Derived.WalkMore
import Derived.Scope
namespace Go.Proofs.YtlcbjikiodmlfaaGreatDoor
open Go.RowKit

/-- As Q; by a goto: J. -/
def jumps (J : Nat → Act → World → Prop) (Q : Exit → Act → World → Prop) : Exit → Act → World → Prop
  | .goto l, a, w => J l a w
  | e, a, w => Q e a w
theorem wp_code {P : Program} {c : Code} {Q : Exit → Act → World → Prop} {a : Act} {w : World} (c' : Code) (e : c = c') (h : c'.wp P Q a w) : c.wp P Q a w := e ▸ h
section
variable {P : Program} {a : Act} {w : World} {Q : Exit → Act → World → Prop}
theorem wp_scope_labels {c : Code} (rest : Nat → Code) (J : Nat → Act → World → Prop) (μ : Nat → Act → World → Nat) (hf : ∀ l a w, J l a w → findLabel c l = some (rest l))
    (first : c.wp P (jumps J Q) a w)
    (pass : ∀ l a w, J l a w → (rest l).wp P (jumps (fun l' a' w' => J l' a' w' ∧ μ l' a' w' < μ l a w) Q) a w) : (Code.scope c).wp P Q a w := by
  intro b k cs
  have hg : ∀ l a w, J l a w → gotoIn l (.inScope c :: k) = some (.code (rest l) :: .inScope c :: k) := fun l a w h => by simp [gotoIn, hf l a w h]
  have key : ∀ n l a w, μ l a w = n → J l a w → ∃ e a' w', Q e a' w' ∧ Arrives P (lone (b.at a (.code (rest l) :: .inScope c :: k)) cs w) b k cs e a' w' := by
    intro n
    induction n using Nat.strongRecOn with
    | _ n ih =>
      intro l a w hn hJ
      obtain ⟨e, a₁, w₁, hq, harr⟩ := pass l a w hJ b (.inScope c :: k) cs
      cases e with
      | normal => exact ⟨.normal, a₁, w₁, hq, Steps.trans harr (.one step_inScope)⟩
      | exit id => exact ⟨.exit id, a₁, w₁, hq, fun k' hk => harr k' (by simp [exitTo, hk])⟩
      | goto l' =>
        obtain ⟨hJ', hlt⟩ := hq
        obtain ⟨e₂, a₂, w₂, hq₂, harr₂⟩ := ih _ (by omega) l' a₁ w₁ rfl hJ'
        exact ⟨e₂, a₂, w₂, hq₂, .of_steps (harr _ (hg l' a₁ w₁ hJ')) harr₂⟩
      | ret => exact ⟨_, a₁, w₁, hq, harr⟩
      | panic ch => exact ⟨_, a₁, w₁, hq, harr⟩
      | outgrown => exact ⟨_, a₁, w₁, hq, harr⟩
  obtain ⟨e, a₁, w₁, hq, harr⟩ := first b (.inScope c :: k) cs
  cases e with
  | normal => exact ⟨.normal, a₁, w₁, hq, .head step_scope (Steps.trans harr (.one step_inScope))⟩
  | exit id => exact ⟨.exit id, a₁, w₁, hq, fun k' hk => .head step_scope (harr k' (by simp [exitTo, hk]))⟩
  | goto l' =>
    obtain ⟨e₂, a₂, w₂, hq₂, harr₂⟩ := key _ l' a₁ w₁ rfl hq
    exact ⟨e₂, a₂, w₂, hq₂, .of_steps (.head step_scope (harr _ (hg l' a₁ w₁ hq))) harr₂⟩
  | ret => exact ⟨_, a₁, w₁, hq, .of_steps (.one step_scope) harr⟩
  | panic ch => exact ⟨_, a₁, w₁, hq, .of_steps (.one step_scope) harr⟩
  | outgrown => exact ⟨_, a₁, w₁, hq, .of_steps (.one step_scope) harr⟩
end

/-! ### A number's text, from each state on -/
def gEnd (neg : Bool) (a b : List UInt8) (sg : Bool) (pw r : List UInt8) : Option Parts := if r = [] then some ⟨neg, a, b, sg, pw⟩ else none
def gRaise (neg : Bool) (a b : List UInt8) (sg : Bool) (pw r : List UInt8) : Option Parts := gEnd neg a b sg (pw ++ spanT r) (spanD r)
def gRaised (neg : Bool) (a b r : List UInt8) : Option Parts := match power r with | none => none | some (sg, p, r) => gEnd neg a b sg p r
def gBehind (neg : Bool) (a b r : List UInt8) : Option Parts := gRaised neg a (b ++ spanT r) (spanD r)
def gPoint (neg : Bool) (a r : List UInt8) : Option Parts := match behind r with | none => none | some (b, r) => gRaised neg a b r
def gAhead (neg : Bool) (a r : List UInt8) : Option Parts := gPoint neg (a ++ spanT r) (spanD r)
theorem parts_eq (l : List UInt8) : parts l = match ahead (signed l).2 with | none => none | some (a, r) => gPoint (signed l).1 a r := by
  unfold parts gPoint gRaised gEnd
  cases ahead (signed l).2 with
  | none => rfl
  | some q =>
    obtain ⟨a, r⟩ := q
    simp only
    cases behind r with
    | none => rfl
    | some q =>
      obtain ⟨b, r⟩ := q
      simp only
      cases power r with
      | none => rfl
      | some q => rfl
theorem drop_cons {l : List UInt8} {k : Nat} (h : k < l.length) : l.drop k = l.getD k 0 :: l.drop (k + 1) := by
  rw [List.drop_eq_getElem_cons h]
  simp [List.getD, List.getElem?_eq_getElem h]
theorem digAt_lt {l : List UInt8} {k : Nat} (h : digAt l k = true) : k < l.length ∧ isDig (l.getD k 0) = true := by
  unfold digAt at h
  simpa using h
theorem span_dig {l : List UInt8} {k : Nat} (h : digAt l k = true) : spanT (l.drop k) = l.getD k 0 :: spanT (l.drop (k + 1)) ∧ spanD (l.drop k) = spanD (l.drop (k + 1)) := by
  obtain ⟨h1, h2⟩ := digAt_lt h
  rw [drop_cons h1]
  unfold spanT spanD
  rw [List.takeWhile_cons, List.dropWhile_cons, if_pos h2, if_pos h2]
  exact ⟨rfl, rfl⟩
theorem span_none {l : List UInt8} {k : Nat} (h : digAt l k = false) : spanT (l.drop k) = [] ∧ spanD (l.drop k) = l.drop k := by
  by_cases hk : k < l.length
  · rw [drop_cons hk]
    have h2 : isDig (l.getD k 0) = false := by unfold digAt at h; simpa [hk] using h
    unfold spanT spanD
    rw [List.takeWhile_cons, List.dropWhile_cons, h2]
    exact ⟨rfl, rfl⟩
  · rw [List.drop_of_length_le (by omega)]; exact ⟨rfl, rfl⟩
theorem span_some {l : List UInt8} {k : Nat} (h : digAt l k = true) : spanT (l.drop k) ≠ [] := by rw [(span_dig h).1]; simp
theorem gAhead_more {neg : Bool} {a l : List UInt8} {k : Nat} (h : digAt l k = true) : gAhead neg a (l.drop k) = gAhead neg (a ++ [l.getD k 0]) (l.drop (k + 1)) := by
  unfold gAhead; rw [(span_dig h).1, (span_dig h).2, List.append_assoc]; rfl
theorem gAhead_stop {neg : Bool} {a l : List UInt8} {k : Nat} (h : digAt l k = false) : gAhead neg a (l.drop k) = gPoint neg a (l.drop k) := by
  unfold gAhead; rw [(span_none h).1, (span_none h).2, List.append_nil]
theorem gBehind_more {neg : Bool} {a b l : List UInt8} {k : Nat} (h : digAt l k = true) : gBehind neg a b (l.drop k) = gBehind neg a (b ++ [l.getD k 0]) (l.drop (k + 1)) := by
  unfold gBehind; rw [(span_dig h).1, (span_dig h).2, List.append_assoc]; rfl
theorem gBehind_stop {neg : Bool} {a b l : List UInt8} {k : Nat} (h : digAt l k = false) : gBehind neg a b (l.drop k) = gRaised neg a b (l.drop k) := by
  unfold gBehind; rw [(span_none h).1, (span_none h).2, List.append_nil]
theorem gRaise_more {neg : Bool} {a b : List UInt8} {sg : Bool} {pw l : List UInt8} {k : Nat} (h : digAt l k = true) : gRaise neg a b sg pw (l.drop k) = gRaise neg a b sg (pw ++ [l.getD k 0]) (l.drop (k + 1)) := by
  unfold gRaise; rw [(span_dig h).1, (span_dig h).2, List.append_assoc]; rfl
theorem gRaise_stop {neg : Bool} {a b : List UInt8} {sg : Bool} {pw l : List UInt8} {k : Nat} (h : digAt l k = false) : gRaise neg a b sg pw (l.drop k) = gEnd neg a b sg pw (l.drop k) := by
  unfold gRaise; rw [(span_none h).1, (span_none h).2, List.append_nil]
theorem takeAt_lt {t l : List UInt8} {k : Nat} (h : takeAt t l k = true) : k < l.length ∧ t.contains (l.getD k 0) = true := by
  unfold takeAt at h
  simpa using h
theorem head_drop (l : List UInt8) (k : Nat) : (l.drop k).head? = if k < l.length then some (l.getD k 0) else none := by
  by_cases h : k < l.length
  · rw [drop_cons h, if_pos h]; rfl
  · rw [List.drop_of_length_le (by omega), if_neg h]; rfl
theorem take_one (c : UInt8) (l : List UInt8) (k : Nat) : takeAt [c] l k = true ↔ (l.drop k).head? = some c := by
  rw [head_drop]
  unfold takeAt
  by_cases h : k < l.length
  · simp [h]
  · simp [h]
theorem take_two (c d : UInt8) (l : List UInt8) (k : Nat) : takeAt [c, d] l k = true ↔ ((l.drop k).head? = some c ∨ (l.drop k).head? = some d) := by
  rw [head_drop]
  unfold takeAt
  by_cases h : k < l.length
  · simp [h]
  · simp [h]
theorem drop_one (l : List UInt8) (k : Nat) : (l.drop k).drop 1 = l.drop (k + 1) := by rw [List.drop_drop]
/-- At the point. -/
theorem gPoint_no {neg : Bool} {a l : List UInt8} {k : Nat} (h : takeAt [46] l k = false) : gPoint neg a (l.drop k) = gRaised neg a [] (l.drop k) := by
  unfold gPoint behind
  rw [if_neg (fun e => by rw [(take_one 46 l k).2 e] at h; cases h)]
theorem gPoint_bad {neg : Bool} {a l : List UInt8} {k : Nat} (h : takeAt [46] l k = true) (hd : digAt l (k + 1) = false) : gPoint neg a (l.drop k) = none := by
  unfold gPoint behind
  rw [if_pos ((take_one 46 l k).1 h), drop_one, (span_none hd).1, if_pos rfl]
theorem gPoint_yes {neg : Bool} {a l : List UInt8} {k : Nat} (h : takeAt [46] l k = true) (hd : digAt l (k + 1) = true) : gPoint neg a (l.drop k) = gBehind neg a [] (l.drop (k + 1)) := by
  unfold gPoint behind gBehind
  rw [if_pos ((take_one 46 l k).1 h), drop_one, if_neg (span_some hd)]
  rfl
/-- At the e. -/
theorem gRaised_no {neg : Bool} {a b l : List UInt8} {k : Nat} (h : takeAt [101, 69] l k = false) : gRaised neg a b (l.drop k) = gEnd neg a b false [] (l.drop k) := by
  unfold gRaised power
  rw [if_neg (fun e => by rw [(take_two 101 69 l k).2 e] at h; cases h)]
theorem gRaised_e {neg : Bool} {a b l : List UInt8} {k k' : Nat} {sg : Bool} (h : takeAt [101, 69] l k = true)
    (hs : (takeAt [45] l (k + 1) = true ∧ sg = true ∧ k' = k + 2) ∨ (takeAt [45] l (k + 1) = false ∧ sg = false ∧ k' = if takeAt [43] l (k + 1) then k + 2 else k + 1)) :
    gRaised neg a b (l.drop k) = if digAt l k' = true then gRaise neg a b sg [] (l.drop k') else none := by
  unfold gRaised power
  rw [if_pos ((take_two 101 69 l k).1 h), drop_one]
  have e1 : (if (l.drop (k + 1)).head? = some 45 ∨ (l.drop (k + 1)).head? = some 43 then (l.drop (k + 1)).drop 1 else l.drop (k + 1)) = l.drop k' ∧ ((l.drop (k + 1)).head? == some 45) = sg := by
    rcases hs with ⟨h1, h2, h3⟩ | ⟨h1, h2, h3⟩
    · have := (take_one 45 l (k + 1)).1 h1
      rw [if_pos (.inl this), drop_one, h2, h3]
      exact ⟨rfl, by rw [this]; rfl⟩
    · have hn : (l.drop (k + 1)).head? ≠ some 45 := fun e => by rw [(take_one 45 l (k + 1)).2 e] at h1; cases h1
      refine ⟨?_, by rw [h2]; simpa using hn⟩
      rw [h3]
      cases hp : takeAt [43] l (k + 1) with
      | true => rw [if_pos (.inr ((take_one 43 l (k + 1)).1 hp)), drop_one]; rfl
      | false => rw [if_neg (fun e => by
          rcases e with e | e
          · exact hn e
          · rw [(take_one 43 l (k + 1)).2 e] at hp; cases hp)]; rfl
  simp only [e1.1, e1.2]
  cases hd : digAt l k' with
  | true =>
    rw [if_neg (span_some hd), if_pos rfl]
    rfl
  | false =>
    rw [(span_none hd).1, if_pos rfl]
    rfl
/-- At the beginning. -/
theorem parts_from (l : List UInt8) (k : Nat) (neg : Bool) (h : (takeAt [45] l 0 = true ∧ neg = true ∧ k = 1) ∨ (takeAt [45] l 0 = false ∧ neg = false ∧ k = 0)) :
    parts l = if takeAt [48] l k = true then gPoint neg [] (l.drop (k + 1)) else if digAt l k = true then gAhead neg [] (l.drop k) else none := by
  have e1 : signed l = (neg, l.drop k) := by
    unfold signed
    rcases h with ⟨h1, h2, h3⟩ | ⟨h1, h2, h3⟩
    · have := (take_one 45 l 0).1 h1
      rw [List.drop_zero] at this
      rw [if_pos this, h2, h3]
    · have hn : l.head? ≠ some 45 := fun e => by rw [(take_one 45 l 0).2 (by rw [List.drop_zero]; exact e)] at h1; cases h1
      rw [if_neg hn, h2, h3, List.drop_zero]
  rw [parts_eq, e1]
  unfold ahead
  simp only
  cases h0 : takeAt [48] l k with
  | true =>
    rw [if_pos ((take_one 48 l k).1 h0), if_pos rfl, drop_one]
  | false =>
    rw [if_neg (fun e => by rw [(take_one 48 l k).2 e] at h0; cases h0)]
    cases hd : digAt l k with
    | true =>
      rw [if_neg (span_some hd)]
      simp only [Bool.false_eq_true, if_false, if_true]
      rfl
    | false =>
      rw [(span_none hd).1, if_pos rfl]
      simp only [Bool.false_eq_true, if_false]
theorem min_step (p : Nat) (c : UInt8) (h : isDig c = true) : min (10 * min p 3000 + dval c) 3000 = min (10 * p + dval c) 3000 := by
  have := dval_lt h
  omega
end Go.Proofs.YtlcbjikiodmlfaaGreatDoor
