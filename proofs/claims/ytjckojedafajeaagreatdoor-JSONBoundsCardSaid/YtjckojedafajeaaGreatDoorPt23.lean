/- Layer 8: end: what ends the innermost one that is open. -/
import Derived.Test.YtjckojedafajeaaGreatDoorPt22
import Derived.Maps.Keyed
import Derived.StringKeys
import Derived.WalkKit
namespace Go.Proofs.YtjckojedafajeaaGreatDoor
open Go.RowKit

/-- The last one of some bytes; a nought, if there is none. -/
def lastB (l : List UInt8) : Nat := if l = [] then 0 else byteAt l (l.length - 1)
set_option maxRecDepth 100000 in
set_option maxHeartbeats 2000000 in
theorem jend_ok (p : Nat) (X : Txt) (k : Nat) (A : Option Addr) (n c : Nat) (l : List UInt8) (O : Value) (f : Fl) (w : World) (h : JRd w p X k (.slice A n c) O f) (hl : l.length = n) (hn : n ≤ 9223372036854775806) (hA : Holds w A n 1 (u8s l)) :
    Calls Tryz.prog 63 #[.pointer (some ⟨p, 0, none⟩)] w fun e w' => e = .returned (.int .u8 (lastB l : Nat)) ∧ Below w.heap.size w w' := by
  have c2 := h.row.cell (i := 2) (v := .slice A n c) rfl
  have hp := h.row.lt
  clear h
  by_cases h0 : n = 0
  · subst h0
    have hb : lastB l = 0 := by unfold lastB; rw [if_pos (List.eq_nil_of_length_eq_zero hl)]
    rw [hb]
    clear hA hl hb
    go_enter Tryz.func63, Tryz.ntmps63
    go_wp2
    go_ret
    exact ⟨rfl, Below.refl _ _⟩
  · obtain ⟨g, off, rfl, hg, hr⟩ := hA.2 (by omega)
    have hb : lastB l = byteAt l (n - 1) := by unfold lastB; rw [if_neg (fun e => h0 (by rw [← hl, e]; rfl)), hl]
    have q := hr (n - 1) (.int .u8 (byteAt l (n - 1) : Int)) (by
      rw [u8s_get, List.getElem?_eq_getElem (by omega)]
      unfold byteAt
      simp [List.getD, List.getElem?_eq_getElem (show n - 1 < l.length by omega)])
    rw [hb]
    obtain ⟨n1, hn1⟩ : ∃ n1, n = n1 + 1 := ⟨n - 1, by omega⟩
    have e0 : ((n : Int) == 0) = false := by rw [beq_eq_false_iff_ne]; omega
    have en : (n : Int) - 1 = ((n - 1 : Nat) : Int) := by omega
    have hlt : n - 1 < n := by omega
    clear hA hl hb hr hn1
    generalize byteAt l (n - 1) = y at *
    generalize n - 1 = j at *
    go_enter Tryz.func63, Tryz.ntmps63
    go_wp2_with fail
    go_quiet (fail)
    go_wp2
    go_ret
    exact ⟨rfl, below_drewN (Below.refl _ _) _⟩
end Go.Proofs.YtjckojedafajeaaGreatDoor
/- Layer 8: sets of texts in memory (maps from texts to nothing). -/
namespace Go.Proofs.YtjckojedafajeaaGreatDoor
open Go.RowKit Go.MapKept Go.Maps

theorem keyLawS : Keyed Tryz.prog 9 := string_keyed Tryz.underlying9
def keyV (k : List UInt8) : Value := .string (bs k)
theorem keyV_inj {a b : List UInt8} (h : keyV a = keyV b) : a = b := by
  unfold keyV at h
  injection h with h
  have h2 : (bs a).data = (bs b).data := congrArg ByteArray.data h
  simpa [bs] using h2
theorem keyOfS {k : List UInt8} (h : k.length ≤ maxLen) : keyOf Tryz.prog 9 (keyV k) = some (.string k) := by
  have := WideMaps.keyOf_string_mk (P := Tryz.prog) (k := 9) Tryz.underlying9 (s := bs k) (by rw [bs_size]; exact h)
  simpa [bs, keyV] using this
/-- Block b is a set of texts, as they came. -/
def IsSet (w : World) (b : Nat) (S : List (List UInt8)) : Prop :=
  ∃ es clock, w.heap[b]? = some (.map es clock) ∧ Stamped es clock ∧ es.toList.map (·.key) = S.map keyV ∧ (∀ x ∈ es.toList, x.val = .agg #[]) ∧ ∀ k ∈ S, k.length ≤ maxLen
def addS (S : List (List UInt8)) (l : List UInt8) : List (List UInt8) := if S.contains l then S else S ++ [l]
theorem zeroNone (w : World) : (zeroValue 121).run Tryz.prog w = .ok (.agg #[]) w := by kernel_rfl
section
variable {F : Nat → Prop} {w w' : World} {b : Nat} {S : List (List UInt8)}
theorem IsSet.lt (h : IsSet w b S) : b < w.heap.size := by obtain ⟨es, clock, hb, _⟩ := h; exact lt_of_heap hb
theorem IsSet.heap (h : IsSet w b S) (hk : ∀ o, w.heap[b]? = some o → w'.heap[b]? = some o) : IsSet w' b S := by
  obtain ⟨es, clock, hb, r⟩ := h; exact ⟨es, clock, hk _ hb, r⟩
theorem IsSet.kept (h : IsSet w b S) (hk : Kept F w w') (hb : ¬ F b) : IsSet w' b S := h.heap fun _ ho => hk.heap ho hb
theorem IsSet.below (h : IsSet w b S) (hb : Below w.heap.size w w') : IsSet w' b S := h.heap fun _ ho => (hb.block b (lt_of_heap ho)).trans ho
theorem IsSet.drewN (h : IsSet w b S) (n : Nat) : IsSet (w.drewN n) b S := h
theorem IsSet.new (w : World) : IsSet (w.alloc (.map #[] 0)) w.heap.size [] :=
  ⟨#[], 0, heap_alloc_new w _, stamped_empty 0, by simp, by simp, by simp⟩
theorem IsSet.keys (es : Array MapEntry) (h : es.toList.map (·.key) = S.map keyV) (h2 : ∀ k ∈ S, k.length ≤ maxLen) : ∀ x ∈ es.toList, ∃ l, keyOf Tryz.prog 9 x.key = some l := fun x hx => by
  have hm : x.key ∈ S.map keyV := h ▸ List.mem_map_of_mem hx
  obtain ⟨k, hk, e⟩ := List.mem_map.1 hm
  exact ⟨_, by rw [← e]; exact keyOfS (h2 k hk)⟩
theorem IsSet.mem_key {es : Array MapEntry} (h : es.toList.map (·.key) = S.map keyV) (l : List UInt8) : (∃ x ∈ es.toList, x.key = keyV l) ↔ l ∈ S := by
  constructor
  · rintro ⟨x, hx, e⟩
    have hm : x.key ∈ S.map keyV := h ▸ List.mem_map_of_mem hx
    obtain ⟨k, hk, e2⟩ := List.mem_map.1 hm
    rwa [keyV_inj (e.symm.trans e2.symm)]
  · intro hl
    have hm : keyV l ∈ es.toList.map (·.key) := by rw [h]; exact List.mem_map_of_mem hl
    obtain ⟨x, hx, e⟩ := List.mem_map.1 hm
    exact ⟨x, hx, e⟩
theorem IsSet.look (h : IsSet w b S) {l : List UInt8} (hl : l.length ≤ maxLen) : (Instr.lookup 116 (.map (some b)) (.string (bs l)) true).run Tryz.prog w = .ok (.tuple #[.agg #[], .bool (S.contains l)]) w := by
  obtain ⟨es, clock, hb, hst, hks, hvs, hln⟩ := h
  have hkey := keyOfS hl
  have hmk := IsSet.mem_key hks l
  unfold keyV at hkey hmk
  rcases keyLawS.find w hkey es.toList (IsSet.keys es hks hln) with ⟨h1, h2⟩ | ⟨j, e0, h1, h2, h3⟩
  · have hn : S.contains l = false := by
      rw [← Bool.not_eq_true, List.contains_iff_mem]
      rw [← hmk]
      rintro ⟨x, hx, e⟩
      exact h2 x hx e
    rw [hn]
    simp [Instr.lookup, run_underlying Tryz.underlying116, MapKept.run_getObj_map hb, keyLawS.check w _ hkey, h1, Result.andThen]
  · have hn : S.contains l = true := by
      rw [List.contains_iff_mem, ← hmk]
      exact ⟨e0, List.mem_of_getElem? h2, h3⟩
    rw [hn]
    have hv := hvs e0 (List.mem_of_getElem? h2)
    simp [Instr.lookup, run_underlying Tryz.underlying116, MapKept.run_getObj_map hb, keyLawS.check w _ hkey, h1, hv, Result.andThen]
theorem IsSet.put (h : IsSet w b S) {l : List UInt8} (hl : l.length ≤ maxLen) :
    ∃ w', (Instr.mapUpdate 116 (.map (some b)) (.string (bs l)) (.agg #[])).run Tryz.prog w = .ok () w' ∧ IsSet w' b (addS S l) ∧ Kept (· = b) w w' := by
  obtain ⟨es, clock, hb, hst, hks, hvs, hln⟩ := h
  have hkey := keyOfS hl
  have hmk := IsSet.mem_key hks l
  unfold keyV at hkey hmk
  have hkept : ∀ o : Obj, Kept (· = b) w { w with heap := w.heap.setIfInBounds b o } := fun o => ⟨rfl, rfl, rfl, by simp, fun i hi hne => by
    show (w.heap.setIfInBounds b o)[i]? = _
    rw [Array.getElem?_setIfInBounds, if_neg (fun e => hne e.symm)]⟩
  have hnew : ∀ o : Obj, ({ w with heap := w.heap.setIfInBounds b o } : World).heap[b]? = some o := fun o => by
    show (w.heap.setIfInBounds b o)[b]? = _
    rw [Array.getElem?_setIfInBounds, if_pos rfl, if_pos (lt_of_heap hb)]
  rcases keyLawS.find w hkey es.toList (IsSet.keys es hks hln) with ⟨h1, h2⟩ | ⟨j, e0, h1, h2, h3⟩
  · have hn : S.contains l = false := by
      rw [← Bool.not_eq_true, List.contains_iff_mem]
      rw [← hmk]
      rintro ⟨x, hx, e⟩
      exact h2 x hx e
    refine ⟨_, by simp [Instr.mapUpdate, run_underlying Tryz.underlying116, MapKept.run_getObj_map hb, keyLawS.check w false hkey, h1, MapKept.run_setObj_map _ hb, Result.andThen]; rfl, ?_, hkept _⟩
    refine ⟨_, _, hnew _, stamped_push hst h2, ?_, ?_, ?_⟩
    · unfold addS
      rw [hn, if_neg (by simp), List.map_append]
      simp only [Array.toList_push, List.map_append, hks]
      rfl
    · intro x hx
      simp only [Array.toList_push, List.mem_append, List.mem_singleton] at hx
      rcases hx with hx | rfl
      · exact hvs x hx
      · rfl
    · intro k hk
      unfold addS at hk
      rw [hn, if_neg (by simp)] at hk
      rcases List.mem_append.1 hk with hk | hk
      · exact hln k hk
      · rw [List.mem_singleton.1 hk]; exact hl
  · have hn : S.contains l = true := by
      rw [List.contains_iff_mem, ← hmk]
      exact ⟨e0, List.mem_of_getElem? h2, h3⟩
    have hj : es[j]? = some e0 := by simpa using h2
    refine ⟨_, by simp [Instr.mapUpdate, run_underlying Tryz.underlying116, MapKept.run_getObj_map hb, keyLawS.check w false hkey, h1, hj, h3, keyLawS.stays w hkey, MapKept.run_setObj_map _ hb, Result.andThen]; rfl, ?_, hkept _⟩
    have hk2 : addS S l = S := by unfold addS; rw [hn, if_pos rfl]
    rw [hk2]
    refine ⟨_, _, hnew _, stamped_modify hst _ _ (fun _ _ => rfl) (fun e' _ he' => by rw [hj] at he'; cases he'; exact h3.symm), ?_, ?_, hln⟩
    · rw [modify_keys j _ (fun e' he' => by rw [hj] at he'; cases he'; exact h3.symm)]
      exact hks
    · intro x hx
      have hlist : (es.modify j (fun e' => { e' with key := .string (bs l), val := .agg #[] })).toList = es.toList.set j { e0 with key := .string (bs l), val := .agg #[] } := by
        rw [Array.toList_modify, ChangeMaps.modify_eq_set _ _ _ _ h2]
      rw [hlist] at hx
      rcases List.mem_or_eq_of_mem_set hx with hx | rfl
      · exact hvs x hx
      · rfl
end
/-- The names that have come. -/
def setL (ns : List (List UInt8)) : List (List UInt8) := ns.foldl addS []
theorem setL_snoc (ns : List (List UInt8)) (l : List UInt8) : setL (ns ++ [l]) = addS (setL ns) l := by unfold setL; rw [List.foldl_append]; rfl
theorem mem_addS (S : List (List UInt8)) (l k : List UInt8) : k ∈ addS S l ↔ k ∈ S ∨ k = l := by
  unfold addS
  split
  · rename_i h
    rw [List.contains_iff_mem] at h
    constructor
    · exact .inl
    · rintro (h1 | h1)
      · exact h1
      · rw [h1]; exact h
  · simp
theorem mem_foldl_addS (ns : List (List UInt8)) : ∀ (S : List (List UInt8)) (k : List UInt8), k ∈ ns.foldl addS S ↔ k ∈ S ∨ k ∈ ns := by
  induction ns with
  | nil => intro S k; simp
  | cons l ns ih =>
    intro S k
    rw [List.foldl_cons, ih, mem_addS]
    simp only [List.mem_cons]
    constructor
    · rintro ((h | h) | h)
      · exact .inl h
      · exact .inr (.inl h)
      · exact .inr (.inr h)
    · rintro (h | h | h)
      · exact .inl (.inl h)
      · exact .inl (.inr h)
      · exact .inr h
theorem setL_contains (ns : List (List UInt8)) (l : List UInt8) : (setL ns).contains l = ns.contains l := by
  rw [Bool.eq_iff_iff, List.contains_iff_mem, List.contains_iff_mem]
  unfold setL
  rw [mem_foldl_addS]
  simp
end Go.Proofs.YtjckojedafajeaaGreatDoor
