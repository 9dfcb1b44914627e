/- Sectors and pieces as values; maps from numbers to sectors. -/
import Derived.Test.YtielinebhbhegaaKept
import Derived.Test.YtielinebhbhegaaRows
import Derived.WalkKit
namespace Go.Proofs.Ytielinebhbhegaa
open Go.RowKit Go.MapKept Go.Maps

/-- The bytes of a sector. -/
def Sec (l : List Nat) : Prop := l.length = 512 ∧ Small l
def zsec : List Nat := List.replicate 512 0
theorem Sec.zero : Sec zsec := ⟨List.length_replicate, Small.zeros 512⟩
/-- A sector's value; a piece's. -/
def secV (l : List Nat) : Value := .agg (cellsOf l).toArray
def pieceCells (a : Int) (l : List Nat) : List Value := .int .i64 a :: cellsOf l
def pieceV (a : Int) (l : List Nat) : Value := .agg (pieceCells a l).toArray
theorem pieceCells_length {a : Int} {l : List Nat} (h : Sec l) : (pieceCells a l).length = 513 := by simp [pieceCells, cellsOf_length, h.1]
theorem pieceCells_one (a : Int) (l : List Nat) : ∀ v ∈ pieceCells a l, v.oneCell' = true := by
  intro v hv
  simp only [pieceCells, List.mem_cons] at hv
  rcases hv with rfl | hv
  · rfl
  · exact cellsOf_one l v hv
theorem secV_inj {a b : List Nat} (h : secV a = secV b) : a = b := by
  have h1 : (cellsOf a).toArray = (cellsOf b).toArray := by injection h
  exact cellsOf_inj (by simpa using h1)

theorem zeroSec (w : World) : (zeroValue 62).run Try.prog w = .ok (secV zsec) w := by kernel_rfl
theorem zeroPiece (w : World) : (zeroValue 64).run Try.prog w = .ok (pieceV 0 zsec) w := by kernel_rfl
theorem infoSec : (Try.prog.info? 62).map (fun i => (i.size, i.bytes)) = some (512, 512) := by kernel_rfl
theorem infoPiece : (Try.prog.info? 64).map (fun i => (i.zero, i.size, i.bytes)) = some (some (pieceV 0 zsec), 513, 520) := by kernel_rfl
theorem infoFate : (Try.prog.info? 58).map (fun i => (i.zero, i.size, i.bytes)) = some (some (.agg #[.int .i64 0, .int .i64 0]), 2, 16) := by kernel_rfl
theorem pieceV_size : (pieceV 0 zsec).cells.size = 513 := by kernel_rfl
theorem keyLaw : Keyed Try.prog 3 := int_keyed Try.underlying3

/-- Block b is a map from numbers to sectors, in which f is found (noughts where nothing is). -/
def IsMap (w : World) (b : Nat) (f : Int → List Nat) : Prop :=
  ∃ es clock, w.heap[b]? = some (.map es clock) ∧ Stamped es clock ∧ (∀ x ∈ es.toList, ∃ k, (Lit.int .i64 k).wf = true ∧ x.key = .int .i64 k ∧ x.val = secV (f k)) ∧
    (∀ k, (∀ x ∈ es.toList, x.key ≠ .int .i64 k) → f k = zsec) ∧ ∀ k, Sec (f k)
def upd (f : Int → List Nat) (k : Int) (l : List Nat) (j : Int) : List Nat := if j = k then l else f j

section
variable {F : Nat → Prop} {w w' : World} {b : Nat} {f : Int → List Nat}
theorem IsMap.lt (h : IsMap w b f) : b < w.heap.size := by obtain ⟨es, clock, hb, _⟩ := h; exact lt_of_heap hb
theorem IsMap.sec (h : IsMap w b f) (k : Int) : Sec (f k) := by obtain ⟨es, clock, _, _, _, _, hs⟩ := h; exact hs k
theorem IsMap.heap (h : IsMap w b f) (hk : ∀ o, w.heap[b]? = some o → w'.heap[b]? = some o) : IsMap w' b f := by
  obtain ⟨es, clock, hb, r⟩ := h; exact ⟨es, clock, hk _ hb, r⟩
theorem IsMap.kept (h : IsMap w b f) (hk : Kept F w w') (hb : ¬ F b) : IsMap w' b f := h.heap fun _ ho => hk.heap ho hb
theorem IsMap.below (h : IsMap w b f) (hb : Below w.heap.size w w') : IsMap w' b f := h.heap fun _ ho => (hb.block b (lt_of_heap ho)).trans ho
theorem IsMap.drewN (h : IsMap w b f) (n : Nat) : IsMap (w.drewN n) b f := h
theorem IsMap.row {e' : TypeId} {cs' : Array Value} {p : Nat} (h : IsMap w b f) (hp : w.heap[p]? = some (.cells cs' e' (0, 0))) (hk : Kept (· = p) w w') : IsMap w' b f :=
  h.kept hk fun e => by subst e; obtain ⟨es, clock, hb, _⟩ := h; rw [hp] at hb; cases hb
theorem Lies.map {e : TypeId} {size n : Nat} {v : Value} {xs : List Value} (h : Lies w F e size v n xs) (hm : IsMap w b f) (hk : Kept (· = b) w w') : Lies w' F e size v n xs :=
  h.same fun g cur _ hh => hk.heap hh fun hg => by subst hg; obtain ⟨es, clock, hb, _⟩ := hm; rw [hb] at hh; cases hh
theorem IsMap.new (w : World) : IsMap (w.alloc (.map #[] 0)) w.heap.size (fun _ => zsec) :=
  ⟨#[], 0, heap_alloc_new w _, stamped_empty 0, by simp, fun _ _ => rfl, fun _ => Sec.zero⟩

theorem IsMap.look (h : IsMap w b f) {k : Int} (hk : (Lit.int .i64 k).wf = true) : (Instr.lookup 49 (.map (some b)) (.int .i64 k) false).run Try.prog w = .ok (secV (f k)) w := by
  obtain ⟨es, clock, hb, hst, hes, hz, _⟩ := h
  have hkey := keyOf_int_mk Try.underlying3 hk
  have hks : ∀ x ∈ es.toList, ∃ l, keyOf Try.prog 3 x.key = some l := fun x hx => by
    obtain ⟨j, hj, e, _⟩ := hes x hx
    exact ⟨_, by rw [e]; exact keyOf_int_mk Try.underlying3 hj⟩
  rcases keyLaw.find w hkey es.toList hks with ⟨h1, h2⟩ | ⟨j, e0, h1, h2, h3⟩
  · rw [hz k h2]
    simp [Instr.lookup, run_underlying Try.underlying49, MapKept.run_getObj_map hb, keyLaw.check w _ hkey, h1, zeroSec, Result.andThen]
  · obtain ⟨k', hk', e1, e2⟩ := hes e0 (List.mem_of_getElem? h2)
    rw [h3] at e1
    injection e1 with _ e1
    subst e1
    simp [Instr.lookup, run_underlying Try.underlying49, MapKept.run_getObj_map hb, keyLaw.check w _ hkey, h1, e2, Result.andThen]

theorem IsMap.put (h : IsMap w b f) {k : Int} (hk : (Lit.int .i64 k).wf = true) {l : List Nat} (hl : Sec l) :
    ∃ w', (Instr.mapUpdate 49 (.map (some b)) (.int .i64 k) (secV l)).run Try.prog w = .ok () w' ∧ IsMap w' b (upd f k l) ∧ Kept (· = b) w w' := by
  obtain ⟨es, clock, hb, hst, hes, hz, hsec⟩ := h
  have hkey := keyOf_int_mk Try.underlying3 hk
  have hks : ∀ x ∈ es.toList, ∃ l, keyOf Try.prog 3 x.key = some l := fun x hx => by
    obtain ⟨j, hj, e, _⟩ := hes x hx
    exact ⟨_, by rw [e]; exact keyOf_int_mk Try.underlying3 hj⟩
  have hsec' : ∀ j, Sec (upd f k l j) := fun j => by by_cases e : j = k <;> simp [upd, e, hl, hsec]
  have hkept : ∀ o : Obj, Kept (· = b) w { w with heap := w.heap.setIfInBounds b o } := fun o => ⟨rfl, rfl, rfl, by simp, fun i hi hne => by
    show (w.heap.setIfInBounds b o)[i]? = _
    rw [Array.getElem?_setIfInBounds, if_neg (fun e => hne e.symm)]⟩
  have hnew : ∀ o : Obj, ({ w with heap := w.heap.setIfInBounds b o } : World).heap[b]? = some o := fun o => by
    show (w.heap.setIfInBounds b o)[b]? = _
    rw [Array.getElem?_setIfInBounds, if_pos rfl, if_pos (lt_of_heap hb)]
  rcases keyLaw.find w hkey es.toList hks with ⟨h1, h2⟩ | ⟨j, e0, h1, h2, h3⟩
  · refine ⟨_, by simp [Instr.mapUpdate, run_underlying Try.underlying49, MapKept.run_getObj_map hb, keyLaw.check w false hkey, h1, MapKept.run_setObj_map _ hb, Result.andThen]; rfl, ?_, hkept _⟩
    refine ⟨_, _, hnew _, stamped_push hst h2, ?_, ?_, hsec'⟩
    · intro x hx
      simp only [Array.toList_push, List.mem_append, List.mem_singleton] at hx
      rcases hx with hx | rfl
      · obtain ⟨i, hi, e1, e2⟩ := hes x hx
        refine ⟨i, hi, e1, ?_⟩
        rw [e2, upd, if_neg]
        intro e
        exact h2 x hx (by rw [e1, e])
      · exact ⟨k, hk, rfl, by simp [upd]⟩
    · intro i hi
      have hne : i ≠ k := fun e => hi ⟨.int .i64 k, secV l, clock⟩ (by simp) (by rw [e])
      rw [upd, if_neg hne]
      exact hz i fun x hx => hi x (by simp [hx])
  · have hj : es[j]? = some e0 := by simpa using h2
    have hlist : (es.modify j (fun e' => { e' with key := .int .i64 k, val := secV l })).toList = es.toList.set j { e0 with key := .int .i64 k, val := secV l } := by
      rw [Array.toList_modify, ChangeMaps.modify_eq_set _ _ _ _ h2]
    refine ⟨_, by simp [Instr.mapUpdate, run_underlying Try.underlying49, MapKept.run_getObj_map hb, keyLaw.check w false hkey, h1, hj, h3, keyLaw.stays w hkey, MapKept.run_setObj_map _ hb, Result.andThen]; rfl, ?_, hkept _⟩
    refine ⟨_, _, hnew _, stamped_modify hst _ _ (fun _ _ => rfl) (fun e' _ he' => by rw [hj] at he'; cases he'; exact h3.symm), ?_, ?_, hsec'⟩
    · intro x hx
      rw [hlist] at hx
      obtain ⟨i, hi, ex⟩ := List.getElem_of_mem hx
      rw [List.getElem_set] at ex
      split at ex
      · subst ex; exact ⟨k, hk, rfl, by simp [upd]⟩
      · rename_i hne
        have hi' : i < es.toList.length := by simpa using hi
        have hxm : x ∈ es.toList := ex ▸ List.getElem_mem hi'
        obtain ⟨i', hi2, e1, e2⟩ := hes x hxm
        refine ⟨i', hi2, e1, ?_⟩
        rw [e2, upd, if_neg]
        intro e
        have hnd := hst.2.2
        have hjl : j < es.toList.length := (List.getElem?_eq_some_iff.1 h2).1
        have e3 : (es.toList.map (·.key))[i]'(by simpa using hi') = (es.toList.map (·.key))[j]'(by simpa using hjl) := by
          simp only [List.getElem_map]
          rw [ex, e1, e, ← h3, ← (List.getElem?_eq_some_iff.1 h2).2]
        have hpw := List.pairwise_iff_getElem.1 hnd
        rcases Nat.lt_or_gt_of_ne hne with h4 | h4
        · exact hpw j i (by simpa using hjl) (by simpa using hi') h4 e3.symm
        · exact hpw i j (by simpa using hi') (by simpa using hjl) h4 e3
    · intro i hi
      have hkeys : ∀ x ∈ es.toList, x.key ≠ .int .i64 i := by
        intro x hx e
        have hm : x.key ∈ (es.modify j (fun e' => { e' with key := .int .i64 k, val := secV l })).toList.map (·.key) := by
          rw [modify_keys j _ (fun e' he' => by rw [hj] at he'; cases he'; exact h3.symm)]
          exact List.mem_map_of_mem hx
        obtain ⟨y, hy, ey⟩ := List.mem_map.1 hm
        exact hi y hy (ey.trans e)
      have hne : i ≠ k := fun e => hkeys e0 (List.mem_of_getElem? h2) (by rw [h3, e])
      rw [upd, if_neg hne]
      exact hz i hkeys
end

/-- A store into such a map, at an operation. -/
theorem wp_put {o : Oper} {a : Act} {w : World} {K : Act → World → Prop} {Q : Exit → Act → World → Prop} (m x v : Operand) (hop : o.op = .mapUpdate 49 m x v) (b : Nat) (f : Int → List Nat) (hown : IsMap w b f)
    (k : Int) (l : List Nat) (hm : a.eval m = .map (some b)) (hx : a.eval x = .int .i64 k) (hv : a.eval v = secV l) (hk : (Lit.int .i64 k).wf = true) (hl : Sec l)
    (h : ∀ w', IsMap w' b (upd f k l) → Kept (· = b) w w' → K (a.put o.dst undef) w') : o.wp Try.prog a w K Q := by
  obtain ⟨w', hr, h1, h2⟩ := hown.put hk hl
  unfold Oper.wp
  simp [execOp, hop, hm, hx, hv, hr, Result.andThen]
  exact h w' h1 h2
end Go.Proofs.Ytielinebhbhegaa
