/- Layer 8: pure: when two values are the same, whatever the order of members. -/
import Derived.Test.YtfdodndagakmmaaGreatDoorPt46
import Derived.Test.YtfdodndagakmmaaGreatDoorPt19
namespace Go.Proofs.YtfdodndagakmmaaGreatDoor
open Go.RowKit
def JV.kind : JV → Int | .mk k _ _ _ _ _ => k
def JV.bool : JV → Bool | .mk _ b _ _ _ _ => b
def JV.num : JV → Dec | .mk _ _ d _ _ _ => d
def JV.text : JV → List UInt8 | .mk _ _ _ t _ _ => t
def JV.list : JV → List JV | .mk _ _ _ _ l _ => l
def JV.names : JV → List (List UInt8) | .mk _ _ _ _ _ ns => ns
/-- Where the value stands that is held against the i-th one. -/
def placeJ (obj : Bool) (ns ns' : List (List UInt8)) (i : Nat) : Option Nat := if obj = true then (if ns'.contains (ns.getD i []) = true then some (ns'.idxOf (ns.getD i [])) else none) else some i
mutual
def eqJ : JV → JV → Bool
  | .mk k b d t l ns, v => (k == v.kind && b == v.bool && (d.neg == v.num.neg && d.digits == v.num.digits && d.exp == v.num.exp) && t == v.text && l.length == v.list.length) && eqKids (k == 5) ns v.names v.list 0 l
def eqKids (obj : Bool) (ns ns' : List (List UInt8)) (l' : List JV) : Nat → List JV → Bool
  | _, [] => true
  | i, x :: l => (match placeJ obj ns ns' i with | none => false | some j => eqJ x (l'.getD j JV.null)) && eqKids obj ns ns' l' (i + 1) l
end
/-- The i-th ones are the same. -/
def atJ (obj : Bool) (ns ns' : List (List UInt8)) (l l' : List JV) (i : Nat) : Bool := match placeJ obj ns ns' i with
  | none => false
  | some j => eqJ (l.getD i JV.null) (l'.getD j JV.null)
theorem eqKids_iff (obj : Bool) (ns ns' : List (List UInt8)) (l' : List JV) : ∀ (l : List JV) (s : Nat), eqKids obj ns ns' l' s l = true ↔ ∀ i, i < l.length → (match placeJ obj ns ns' (s + i) with | none => false | some j => eqJ (l.getD i JV.null) (l'.getD j JV.null)) = true
  | [], s => by rw [eqKids]; simp
  | x :: l, s => by
    rw [eqKids, Bool.and_eq_true, eqKids_iff obj ns ns' l' l (s + 1)]
    constructor
    · rintro ⟨h1, h2⟩ i hi
      cases i with
      | zero => rw [Nat.add_zero, List.getD_cons_zero]; exact h1
      | succ i =>
        have := h2 i (by simpa using hi)
        rw [show s + 1 + i = s + (i + 1) by omega] at this
        rw [List.getD_cons_succ]
        exact this
    · intro h
      refine ⟨?_, fun i hi => ?_⟩
      · have := h 0 (by simp)
        rw [Nat.add_zero, List.getD_cons_zero] at this
        exact this
      · have := h (i + 1) (by simpa using hi)
        rw [List.getD_cons_succ, show s + (i + 1) = s + 1 + i by omega] at this
        exact this
theorem eqKids_at (obj : Bool) (ns ns' : List (List UInt8)) (l l' : List JV) : eqKids obj ns ns' l' 0 l = true ↔ ∀ i, i < l.length → atJ obj ns ns' l l' i = true := by
  rw [eqKids_iff]
  simp only [Nat.zero_add]
  exact Iff.rfl
theorem eqKids_no {obj : Bool} {ns ns' : List (List UInt8)} {l l' : List JV} {i : Nat} (hi : i < l.length) (h : atJ obj ns ns' l l' i = false) : eqKids obj ns ns' l' 0 l = false := by
  rw [← Bool.not_eq_true, eqKids_at]
  intro hh
  rw [hh i hi] at h
  cases h
theorem place_self {obj : Bool} {ns : List (List UInt8)} {i : Nat} (hn : ns.Nodup) (hi : obj = true → i < ns.length) : placeJ obj ns ns i = some i := by
  unfold placeJ
  split
  · rename_i ho
    have h := hi ho
    have e : ns.getD i [] = ns[i] := by rw [List.getD_eq_getElem?_getD, List.getElem?_eq_getElem h]; rfl
    rw [e, if_pos (List.contains_iff_mem.2 (List.getElem_mem h)), hn.idxOf_getElem i h]
  · rfl
theorem ask_facts {k : Int} {b : Bool} {d : Dec} {t : List UInt8} {l : List JV} {ns : List (List UInt8)} (h : askJ (.mk k b d t l ns) = true) :
    ns.Nodup ∧ (k = 5 → ns.length = l.length) ∧ (∀ x ∈ l, askJ x = true) ∧ (k ≠ 5 → ns = []) ∧ (k ≠ 4 → k ≠ 5 → l = []) := by
  have z : ∀ x ∈ ([] : List JV), askJ x = true := fun x hx => by cases hx
  rcases ask_cases h with ⟨e, _, _, _, rfl, rfl⟩ | ⟨e, _, _, rfl, rfl⟩ | ⟨e, _, _, _, rfl, rfl⟩ | ⟨e, _, _, _, rfl, rfl⟩ | ⟨e, _, _, _, rfl, h5⟩ | ⟨e, _, _, _, h4, h5, _, h6⟩
  · exact ⟨List.nodup_nil, fun _ => rfl, z, fun _ => rfl, fun _ _ => rfl⟩
  · exact ⟨List.nodup_nil, fun _ => rfl, z, fun _ => rfl, fun _ _ => rfl⟩
  · exact ⟨List.nodup_nil, fun _ => rfl, z, fun _ => rfl, fun _ _ => rfl⟩
  · exact ⟨List.nodup_nil, fun _ => rfl, z, fun _ => rfl, fun _ _ => rfl⟩
  · exact ⟨List.nodup_nil, fun e2 => by omega, askKids_mem.1 h5, fun _ => rfl, fun e2 => absurd e e2⟩
  · exact ⟨h5, fun _ => h4, askKids_mem.1 h6, fun e2 => absurd e e2, fun _ e2 => absurd e e2⟩
/-- A value that may be is the same as itself. -/
theorem eqJ_self : ∀ (n : Nat) (v : JV), SizeOf.sizeOf v ≤ n → askJ v = true → eqJ v v = true := by
  intro n
  induction n with
  | zero => intro v hv; cases v; simp at hv
  | succ n ih =>
    intro v hv h
    obtain ⟨k, b, d, t, l, ns⟩ := v
    have key : askKids l = true → ns.Nodup → (k = 5 → ns.length = l.length) → eqJ (.mk k b d t l ns) (.mk k b d t l ns) = true := by
      intro hk hn hl
      rw [eqJ]
      simp only [JV.kind, JV.bool, JV.num, JV.text, JV.list, JV.names, beq_self_eq_true, Bool.and_self, Bool.true_and]
      rw [eqKids_at]
      intro i hi
      unfold atJ
      rw [place_self hn (fun e => by rw [hl (by simpa using e)]; exact hi)]
      have hm : l.getD i JV.null ∈ l := by rw [List.getD_eq_getElem?_getD, List.getElem?_eq_getElem hi]; exact List.getElem_mem _
      refine ih _ ?_ (askKids_mem.1 hk _ hm)
      have := List.sizeOf_lt_of_mem hm
      simp only [JV.mk.sizeOf_spec] at hv
      omega
    have k0 : askKids [] = true := by rw [askKids]
    rcases ask_cases h with ⟨rfl, h1, h2, h3, rfl, rfl⟩ | ⟨rfl, h1, h2, rfl, rfl⟩ | ⟨rfl, h1, h2, h3, rfl, rfl⟩ | ⟨rfl, h1, h2, _, rfl, rfl⟩ | ⟨rfl, h1, h2, h3, rfl, h5⟩ | ⟨rfl, h1, h2, h3, h4, h5, _, h6⟩
    · exact key k0 List.nodup_nil (fun _ => rfl)
    · exact key k0 List.nodup_nil (fun _ => rfl)
    · exact key k0 List.nodup_nil (fun _ => rfl)
    · exact key k0 List.nodup_nil (fun _ => rfl)
    · exact key h5 List.nodup_nil (fun e => by cases e)
    · exact key h6 h5 (fun _ => h4)
end Go.Proofs.YtfdodndagakmmaaGreatDoor
/- Layer 8: maps from texts to their places in memory. -/
namespace Go.Proofs.YtfdodndagakmmaaGreatDoor
open Go.RowKit Go.MapKept Go.Maps

/-- Block b is a map from each of some texts to its place. -/
def IsIdx (w : World) (b : Nat) (S : List (List UInt8)) : Prop :=
  ∃ es clock, w.heap[b]? = some (.map es clock) ∧ Stamped es clock ∧ es.toList.map (·.key) = S.map keyV ∧ (∀ (j : Nat) (x : MapEntry), es.toList[j]? = some x → x.val = .int .i64 (j : Int)) ∧ ∀ k ∈ S, k.length ≤ maxLen
section
variable {F : Nat → Prop} {w w' : World} {b : Nat} {S : List (List UInt8)}
theorem IsIdx.lt (h : IsIdx w b S) : b < w.heap.size := by obtain ⟨es, clock, hb, _⟩ := h; exact lt_of_heap hb
theorem IsIdx.heap (h : IsIdx w b S) (hk : ∀ o, w.heap[b]? = some o → w'.heap[b]? = some o) : IsIdx w' b S := by
  obtain ⟨es, clock, hb, r⟩ := h; exact ⟨es, clock, hk _ hb, r⟩
theorem IsIdx.kept (h : IsIdx w b S) (hk : Kept F w w') (hb : ¬ F b) : IsIdx w' b S := h.heap fun _ ho => hk.heap ho hb
theorem IsIdx.below (h : IsIdx w b S) (hb : Below w.heap.size w w') : IsIdx w' b S := h.heap fun _ ho => (hb.block b (lt_of_heap ho)).trans ho
theorem IsIdx.new (w : World) : IsIdx (w.alloc (.map #[] 0)) w.heap.size [] :=
  ⟨#[], 0, heap_alloc_new w _, stamped_empty 0, by simp, fun j x h => by simp at h, by simp⟩
theorem IsIdx.at {es : Array MapEntry} (h : es.toList.map (·.key) = S.map keyV) {j : Nat} {x : MapEntry} (hx : es.toList[j]? = some x) {l : List UInt8} (hk : x.key = keyV l) : S[j]? = some l := by
  have h1 : (es.toList.map (·.key))[j]? = some (keyV l) := by rw [List.getElem?_map, hx]; exact congrArg some hk
  rw [h, List.getElem?_map] at h1
  cases hs : S[j]? with
  | none => rw [hs] at h1; cases h1
  | some y =>
    rw [hs] at h1
    injection h1 with h1
    rw [keyV_inj h1]
/-- The place of a text; 0, if it is none of them. -/
theorem IsIdx.look (h : IsIdx w b S) (hn : S.Nodup) {l : List UInt8} (hl : l.length ≤ maxLen) : (Instr.lookup 122 (.map (some b)) (.string (bs l)) true).run Tryz.prog w = .ok (.tuple #[.int .i64 (if S.contains l then (S.idxOf l : Int) else 0), .bool (S.contains l)]) w := by
  obtain ⟨es, clock, hb, hst, hks, hvs, hln⟩ := h
  have hkey := keyOfS hl
  have hmk := IsSet.mem_key hks l
  unfold keyV at hkey hmk
  have hz : (zeroValue 3).run Tryz.prog w = .ok (.int .i64 0) w := by kernel_rfl
  rcases keyLawS.find w hkey es.toList (IsSet.keys es hks hln) with ⟨h1, h2⟩ | ⟨j, e0, h1, h2, h3⟩
  · have hn : S.contains l = false := by
      rw [← Bool.not_eq_true, List.contains_iff_mem]
      rw [← hmk]
      rintro ⟨x, hx, e⟩
      exact h2 x hx e
    rw [hn]
    simp [Instr.lookup, run_underlying Tryz.underlying122, MapKept.run_getObj_map hb, keyLawS.check w _ hkey, h1, hz, Result.andThen]
  · have hc : S.contains l = true := by
      rw [List.contains_iff_mem, ← hmk]
      exact ⟨e0, List.mem_of_getElem? h2, h3⟩
    have hj := IsIdx.at hks h2 h3
    have hidx : S.idxOf l = j := by
      obtain ⟨hj1, hj2⟩ := List.getElem?_eq_some_iff.1 hj
      have h9 := hn.idxOf_getElem j hj1
      rw [hj2] at h9
      exact h9
    rw [hc, hidx]
    have hv := hvs j e0 h2
    simp [Instr.lookup, run_underlying Tryz.underlying122, MapKept.run_getObj_map hb, keyLawS.check w _ hkey, h1, hv, Result.andThen]
theorem IsIdx.put (h : IsIdx w b S) {l : List UInt8} (hl : l.length ≤ maxLen) (hn : l ∉ S) :
    ∃ w', (Instr.mapUpdate 122 (.map (some b)) (.string (bs l)) (.int .i64 (S.length : Int))).run Tryz.prog w = .ok () w' ∧ IsIdx w' b (S ++ [l]) ∧ Kept (· = b) w w' := by
  obtain ⟨es, clock, hb, hst, hks, hvs, hln⟩ := h
  have hkey := keyOfS hl
  have hmk := IsSet.mem_key hks l
  unfold keyV at hkey hmk
  have hkept : ∀ o : Obj, Kept (· = b) w { w with heap := w.heap.setIfInBounds b o } := fun o => ⟨rfl, rfl, rfl, by simp, fun i hi hne => by
    show (w.heap.setIfInBounds b o)[i]? = _
    rw [Array.getElem?_setIfInBounds, if_neg (fun e => hne e.symm)]⟩
  have hnew : ∀ o : Obj, ({ w with heap := w.heap.setIfInBounds b o } : World).heap[b]? = some o := fun o => by
    show (w.heap.setIfInBounds b o)[b]? = _
    rw [Array.getElem?_setIfInBounds, if_pos rfl, if_pos (lt_of_heap hb)]
  have hlen : es.toList.length = S.length := by
    have := congrArg List.length hks
    simpa using this
  rcases keyLawS.find w hkey es.toList (IsSet.keys es hks hln) with ⟨h1, h2⟩ | ⟨j, e0, h1, h2, h3⟩
  · refine ⟨_, by simp [Instr.mapUpdate, run_underlying Tryz.underlying122, MapKept.run_getObj_map hb, keyLawS.check w false hkey, h1, MapKept.run_setObj_map _ hb, Result.andThen]; rfl, ?_, hkept _⟩
    refine ⟨_, _, hnew _, stamped_push hst h2, ?_, ?_, ?_⟩
    · rw [List.map_append]
      simp only [Array.toList_push, List.map_append, hks]
      rfl
    · intro j x hx
      simp only [Array.toList_push] at hx
      rcases Nat.lt_or_ge j es.toList.length with hj | hj
      · rw [List.getElem?_append_left hj] at hx
        exact hvs j x hx
      · rw [List.getElem?_append_right hj] at hx
        have hj0 : j - es.toList.length = 0 := by
          have := (List.getElem?_eq_some_iff.1 hx).1
          simp only [List.length_cons, List.length_nil] at this
          omega
        rw [hj0] at hx
        simp only [List.getElem?_cons_zero, Option.some.injEq] at hx
        rw [← hx]
        have : j = S.length := by omega
        rw [this]
    · intro k hk
      rcases List.mem_append.1 hk with hk | hk
      · exact hln k hk
      · rw [List.mem_singleton.1 hk]; exact hl
  · exact absurd (hmk.1 ⟨e0, List.mem_of_getElem? h2, h3⟩) hn
theorem wpList_putI {ops : Array Oper} {rest : List Oper} {o : Oper} {a : Act} {w : World} {Q : Exit → Act → World → Prop} (hgd : o.guard = none) (m x v : Operand) (hop : o.op = .mapUpdate 122 m x v) (b : Nat) (S : List (List UInt8)) (hown : IsIdx w b S)
    (l : List UInt8) (hm : a.eval m = .map (some b)) (hx : a.eval x = .string (bs l)) (hv : a.eval v = .int .i64 (S.length : Int)) (hl : l.length ≤ maxLen) (hn : l ∉ S)
    (h : ∀ w', IsIdx w' b (S ++ [l]) → Kept (· = b) w w' → wpList Tryz.prog ops Q rest (a.put o.dst undef) w') : wpList Tryz.prog ops Q (o :: rest) a w :=
  wpList_plain hgd fun _ hK => by
    obtain ⟨w', hr, h1, h2⟩ := hown.put hl hn
    unfold Oper.wp
    simp [execOp, hop, hm, hx, hv, hr, Result.andThen]
    exact hK _ _ (h w' h1 h2)
theorem run_makeMapI (n : Int) (W : World) : (Instr.makeMap 122 (some (.int .i64 n))).run Tryz.prog W = .ok (.map (some W.heap.size)) (W.alloc (.map #[] 0)) := by
  simp [Instr.makeMap, run_underlying Tryz.underlying122, asIntOf, go_sem]
end
end Go.Proofs.YtfdodndagakmmaaGreatDoor
