/- Small words on memory, of no program: a block known whole; a table of numbers in a block; a slice of bytes. -/
import Derived.Below
import Derived.Laws.OwnMore
import Derived.Laws.Rows
import Derived.Deep.Draws
import Derived.WalkSmall
namespace Go.Proofs.YthgjelpmdndceaaDoor
open Go.RowKit

theorem ret_int {k : IntKind} {a b : Int} (h : a = b) : Ending.returned (.int k a) = .returned (.int k b) := by rw [h]
theorem ret_val {a b : Value} (h : a = b) : Ending.returned a = .returned b := by rw [h]

/-- Block g is the cells cs, none frozen. -/
def Row (w : World) (g : Nat) (t : TypeId) (cs : Array Value) : Prop := w.heap[g]? = some (.cells cs t (0, 0))
section
variable {w w' : World} {g : Nat} {t : TypeId} {cs : Array Value}
theorem Row.lt (h : Row w g t cs) : g < w.heap.size := by
  rcases Nat.lt_or_ge g w.heap.size with hlt | hge
  · exact hlt
  · unfold Row at h; rw [Array.getElem?_eq_none hge] at h; cases h
theorem Row.cell (h : Row w g t cs) {i : Nat} {v : Value} (hv : cs[i]? = some v) : w.cell? ⟨g, i, none⟩ = some v :=
  (cell_of_row w g i cs t (0, 0) h).trans hv
theorem Row.free (h : Row w g t cs) (i : Nat) : w.frozen? ⟨g, i, none⟩ = false := frozen_of_row w g i cs t h
theorem Row.new (w : World) (t : TypeId) (cs : Array Value) : Row (w.alloc (.cells cs t)) w.heap.size t cs := heap_alloc_new w _
theorem Row.drew (h : Row w g t cs) : Row w.drew g t cs := h
theorem Row.drewN (h : Row w g t cs) (n : Nat) : Row (w.drewN n) g t cs := h
theorem Row.alloc (h : Row w g t cs) (o : Obj) : Row (w.alloc o) g t cs := (Below.heap_alloc w o g h.lt).trans h
theorem Row.set_ (h : Row w g t cs) (i : Nat) (u : Value) : Row (w.setCell ⟨g, i, none⟩ u) g t (cs.setIfInBounds i u) := heap_setCell_same w g i cs t u h
theorem Row.far (h : Row w g t cs) {p : Addr} (hp : g ≠ p.block) (u : Value) : Row (w.setCell p u) g t cs := (heap_setCell_other w p g u hp).trans h
theorem Row.call (h : Row w g t cs) (hb : Below w.heap.size w w') : Row w' g t cs := (hb.block g h.lt).trans h
theorem Row.lit (h : Row w g t cs) {o : Obj} (hb : Below (w.alloc o).heap.size (w.alloc o) w') : Row w' g t cs := (h.alloc o).call hb
theorem Row.below {B : Nat} (h : Row w g t cs) (hb : Below B w w') (hg : g < B) : Row w' g t cs := (hb.block g hg).trans h
end

theorem _root_.Go.RowKit.Below.setRow {B : Nat} {a w : World} (h : Below B a w) {g : Nat} (hg : B ≤ g) (cs : Array Value) : Below B a (w.setRow g cs) :=
  h.trans ⟨rfl, rfl, rfl, by simp, fun k hk => setRow_other w g k cs (by omega)⟩
/-- Behind a call that touches nothing old; the same with a literal laid ahead of it. -/
theorem _root_.Go.RowKit.Below.call {W a b : World} (h : Below W.heap.size W a) (k : Below a.heap.size a b) : Below W.heap.size W b := h.trans (k.mono h.size)
theorem _root_.Go.RowKit.Below.lit {W a b : World} {o : Obj} (h : Below W.heap.size W a) (k : Below (a.alloc o).heap.size (a.alloc o) b) : Below W.heap.size W b :=
  (h.alloc h.size o).trans (k.mono (by have := h.size; simp; omega))
/-- Words of 32 and of 64 bits. -/
def U32 (x : Nat) : Prop := x < 4294967296
def U64 (x : Nat) : Prop := x < 18446744073709551616

/-- The cells of a table: n numbers of one kind, by a function of their places. -/
def tabOf (k : IntKind) (n : Nat) (f : Nat → Nat) : Array Value := Array.ofFn (n := n) fun j => .int k (f j : Int)
theorem tabOf_size (k : IntKind) (n : Nat) (f : Nat → Nat) : (tabOf k n f).size = n := by simp [tabOf]
theorem tabOf_get (k : IntKind) (n : Nat) (f : Nat → Nat) {j : Nat} (hj : j < n) : (tabOf k n f)[j]? = some (.int k (f j : Int)) := by
  simp [tabOf, hj]
theorem tabOf_set (k : IntKind) (n : Nat) (f : Nat → Nat) (i v : Nat) : (tabOf k n f).setIfInBounds i (.int k (v : Int)) = tabOf k n (fun j => if j = i then v else f j) := by
  unfold tabOf
  apply Array.ext
  · simp
  · intro j h1 h2
    rw [Array.getElem_setIfInBounds (by simpa using h1)]
    by_cases h : i = j
    · subst h; simp
    · rw [if_neg h]; simp; rw [if_neg (fun e => h e.symm)]
theorem tabOf_congr (k : IntKind) (n : Nat) {f g : Nat → Nat} (h : ∀ j, j < n → f j = g j) : tabOf k n f = tabOf k n g := by
  apply Array.ext
  · simp [tabOf]
  · intro j h1 h2
    have hj : j < n := by simpa [tabOf] using h1
    simp [tabOf, h j hj]

theorem tabOf_one (k : IntKind) (n : Nat) (f : Nat → Nat) : (tabOf k n f).all (·.oneCell') = true := by
  rw [Array.all_eq_true]; intro i hi; simp [tabOf, Value.oneCell']

/-- A new variable of an array type: its block. -/
theorem wpList_alloc_tab {P : Program} {ops : Array Oper} {rest : List Oper} {o : Oper} {a : Act} {w : World} {Q : Exit → Act → World → Prop} (hgd : o.guard = none) (ty : TypeId) (ho : o.op = .alloc ty)
    (cs : Array Value) (hz : ∀ w, (zeroValue ty).run P w = .ok (.agg cs) w)
    (h : wpList P ops Q rest (a.put o.dst (.pointer (some ⟨w.heap.size, 0, none⟩))) (w.alloc (.cells cs ty))) : wpList P ops Q (o :: rest) a w := by
  refine wpList_plain hgd fun K hK => ?_
  unfold Oper.wp execOp
  simp only [ho]
  simp [Instr.alloc, hz w]
  exact hK _ _ h

/-- A slice value that holds these bytes. -/
def Bytes (w : World) (A : Option Addr) (n : Nat) (l : List Nat) : Prop :=
  l.length = n ∧ (∀ x ∈ l, x < 256) ∧ (0 < n → ∃ b off, A = some ⟨b, off, none⟩ ∧ b < w.heap.size ∧ ∀ i, i < n → w.cell? ⟨b, off + i, none⟩ = some (.int .u8 (l.getD i 0 : Int)))
section
variable {w w' : World} {A : Option Addr} {n : Nat} {l : List Nat}
theorem Bytes.len (h : Bytes w A n l) : l.length = n := h.1
theorem Bytes.lt (h : Bytes w A n l) : ∀ x ∈ l, x < 256 := h.2.1
theorem Bytes.byte (h : Bytes w A n l) (i : Nat) : l.getD i 0 < 256 := by
  rcases Nat.lt_or_ge i l.length with hi | hi
  · rw [List.getD_eq_getElem?_getD, List.getElem?_eq_getElem hi]; exact h.2.1 _ (List.getElem_mem hi)
  · rw [List.getD_eq_getElem?_getD, List.getElem?_eq_none hi]; decide
theorem Bytes.keep (h : Bytes w A n l) (hs : w.heap.size ≤ w'.heap.size) (hk : ∀ p : Addr, p.block < w.heap.size → w'.cell? p = w.cell? p) : Bytes w' A n l :=
  ⟨h.1, h.2.1, fun hn => by
    obtain ⟨b, off, e, hb, hc⟩ := h.2.2 hn
    exact ⟨b, off, e, by omega, fun i hi => (hk _ hb).trans (hc i hi)⟩⟩
theorem Bytes.below (h : Bytes w A n l) (hb : Below w.heap.size w w') : Bytes w' A n l := h.keep hb.size fun _ hp => hb.cell hp
theorem Bytes.nil (w : World) (A : Option Addr) : Bytes w A 0 [] := ⟨rfl, by simp, fun h => by omega⟩
/-- A beginning, and the rest. -/
theorem Bytes.take (h : Bytes w A n l) {k : Nat} (hk : k ≤ n) : Bytes w A k (l.take k) := by
  refine ⟨by rw [List.length_take, h.1]; omega, fun x hx => h.2.1 x (List.mem_of_mem_take hx), fun hk0 => ?_⟩
  obtain ⟨b, off, e, hb, hc⟩ := h.2.2 (by omega)
  refine ⟨b, off, e, hb, fun i hi => ?_⟩
  rw [hc i (by omega)]
  simp [List.getD_eq_getElem?_getD, hi]
end

theorem Bytes.drop {w : World} {b off n : Nat} {l : List Nat} (h : Bytes w (some ⟨b, off, none⟩) n l) {k : Nat} (hk : k ≤ n) : Bytes w (some ⟨b, off + k, none⟩) (n - k) (l.drop k) := by
  refine ⟨by rw [List.length_drop, h.1], fun x hx => h.2.1 x (List.mem_of_mem_drop hx), fun h0 => ?_⟩
  obtain ⟨b', off', e, hb, hc⟩ := h.2.2 (by omega)
  cases e
  refine ⟨b, off + k, rfl, hb, fun i hi => ?_⟩
  have := hc (k + i) (by omega)
  rw [← Nat.add_assoc] at this
  rw [this]
  simp [List.getD_eq_getElem?_getD]
theorem Bytes.drop0 {w : World} {b n : Nat} {l : List Nat} (h : Bytes w (some ⟨b, 0, none⟩) n l) {k : Nat} (hk : k ≤ n) : Bytes w (some ⟨b, k, none⟩) (n - k) (l.drop k) := by
  have := h.drop hk
  rwa [Nat.zero_add] at this
theorem take_succ_getD (l : List Nat) (k : Nat) (h : k < l.length) : l.take (k + 1) = l.take k ++ [l.getD k 0] := by
  rw [List.take_succ_eq_append_getElem h]; simp [List.getD_eq_getElem?_getD, h]
end Go.Proofs.YthgjelpmdndceaaDoor
