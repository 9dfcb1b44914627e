/- Small words on memory, of no program: a block known whole; a table of numbers in a block; a slice of bytes. -/
import Derived.Below
import Derived.Laws.OwnMore
import Derived.Laws.Rows
import Derived.Deep.Draws
import Derived.WalkSmall
import Derived.Laws.CopyOwn
import Derived.Laws.MakeOwn
import Derived.Laws.AppendOwn
import Derived.Laws.AppendOwnNone
import Derived.Laws.BytesArg
import Derived.Laws.Strings
import Derived.Deep.AppendLies
import Derived.Maps.AppendAt
import Derived.OwnWalk
import Derived.Lib.Hide
import Derived.OpenShut
import Derived.Deep.MidRow
import Derived.Maps.Keyed
namespace Go.Proofs.YtljlkmmeedlaiaaDoor
open Go.RowKit

theorem ret_int {k : IntKind} {a b : Int} (h : a = b) : Ending.returned (.int k a) = .returned (.int k b) := by rw [h]
theorem ret_val {a b : Value} (h : a = b) : Ending.returned a = .returned b := by rw [h]

/-- Block g is the cells cs, none frozen. -/
def Row (w : World) (g : Nat) (t : TypeId) (cs : Array Value) : Prop := w.heap[g]? = some (.cells cs t (0, 0))
section
variable {w w' : World} {g : Nat} {t : TypeId} {cs : Array Value}
theorem Row.lt (h : Row w g t cs) : g < w.heap.size := by
  rcases Nat.lt_or_ge g w.heap.size with hlt | hge
  · exact hlt
  · unfold Row at h; rw [Array.getElem?_eq_none hge] at h; cases h
theorem Row.cell (h : Row w g t cs) {i : Nat} {v : Value} (hv : cs[i]? = some v) : w.cell? ⟨g, i, none⟩ = some v :=
  (cell_of_row w g i cs t (0, 0) h).trans hv
theorem Row.free (h : Row w g t cs) (i : Nat) : w.frozen? ⟨g, i, none⟩ = false := frozen_of_row w g i cs t h
theorem Row.new (w : World) (t : TypeId) (cs : Array Value) : Row (w.alloc (.cells cs t)) w.heap.size t cs := heap_alloc_new w _
theorem Row.drew (h : Row w g t cs) : Row w.drew g t cs := h
theorem Row.drewN (h : Row w g t cs) (n : Nat) : Row (w.drewN n) g t cs := h
theorem Row.alloc (h : Row w g t cs) (o : Obj) : Row (w.alloc o) g t cs := (Below.heap_alloc w o g h.lt).trans h
theorem Row.set_ (h : Row w g t cs) (i : Nat) (u : Value) : Row (w.setCell ⟨g, i, none⟩ u) g t (cs.setIfInBounds i u) := heap_setCell_same w g i cs t u h
theorem Row.far (h : Row w g t cs) {p : Addr} (hp : g ≠ p.block) (u : Value) : Row (w.setCell p u) g t cs := (heap_setCell_other w p g u hp).trans h
theorem Row.call (h : Row w g t cs) (hb : Below w.heap.size w w') : Row w' g t cs := (hb.block g h.lt).trans h
theorem Row.lit (h : Row w g t cs) {o : Obj} (hb : Below (w.alloc o).heap.size (w.alloc o) w') : Row w' g t cs := (h.alloc o).call hb
theorem Row.below {B : Nat} (h : Row w g t cs) (hb : Below B w w') (hg : g < B) : Row w' g t cs := (hb.block g hg).trans h
end

theorem _root_.Go.RowKit.Below.setRow {B : Nat} {a w : World} (h : Below B a w) {g : Nat} (hg : B ≤ g) (cs : Array Value) : Below B a (w.setRow g cs) :=
  h.trans ⟨rfl, rfl, rfl, by simp, fun k hk => setRow_other w g k cs (by omega)⟩
/-- Behind a call that touches nothing old; the same with a literal laid ahead of it. -/
theorem _root_.Go.RowKit.Below.call {W a b : World} (h : Below W.heap.size W a) (k : Below a.heap.size a b) : Below W.heap.size W b := h.trans (k.mono h.size)
theorem _root_.Go.RowKit.Below.lit {W a b : World} {o : Obj} (h : Below W.heap.size W a) (k : Below (a.alloc o).heap.size (a.alloc o) b) : Below W.heap.size W b :=
  (h.alloc h.size o).trans (k.mono (by have := h.size; simp; omega))
/-- Words of 32 and of 64 bits. -/
def U32 (x : Nat) : Prop := x < 4294967296
def U64 (x : Nat) : Prop := x < 18446744073709551616

/-- The cells of a table: n numbers of one kind, by a function of their places. -/
def tabOf (k : IntKind) (n : Nat) (f : Nat → Nat) : Array Value := Array.ofFn (n := n) fun j => .int k (f j : Int)
theorem tabOf_size (k : IntKind) (n : Nat) (f : Nat → Nat) : (tabOf k n f).size = n := by simp [tabOf]
theorem tabOf_get (k : IntKind) (n : Nat) (f : Nat → Nat) {j : Nat} (hj : j < n) : (tabOf k n f)[j]? = some (.int k (f j : Int)) := by
  simp [tabOf, hj]
theorem tabOf_set (k : IntKind) (n : Nat) (f : Nat → Nat) (i v : Nat) : (tabOf k n f).setIfInBounds i (.int k (v : Int)) = tabOf k n (fun j => if j = i then v else f j) := by
  unfold tabOf
  apply Array.ext
  · simp
  · intro j h1 h2
    rw [Array.getElem_setIfInBounds (by simpa using h1)]
    by_cases h : i = j
    · subst h; simp
    · rw [if_neg h]; simp; rw [if_neg (fun e => h e.symm)]
theorem tabOf_congr (k : IntKind) (n : Nat) {f g : Nat → Nat} (h : ∀ j, j < n → f j = g j) : tabOf k n f = tabOf k n g := by
  apply Array.ext
  · simp [tabOf]
  · intro j h1 h2
    have hj : j < n := by simpa [tabOf] using h1
    simp [tabOf, h j hj]

theorem tabOf_one (k : IntKind) (n : Nat) (f : Nat → Nat) : (tabOf k n f).all (·.oneCell') = true := by
  rw [Array.all_eq_true]; intro i hi; simp [tabOf, Value.oneCell']

/-- A new variable of an array type: its block. -/
theorem wpList_alloc_tab {P : Program} {ops : Array Oper} {rest : List Oper} {o : Oper} {a : Act} {w : World} {Q : Exit → Act → World → Prop} (hgd : o.guard = none) (ty : TypeId) (ho : o.op = .alloc ty)
    (cs : Array Value) (hz : ∀ w, (zeroValue ty).run P w = .ok (.agg cs) w)
    (h : wpList P ops Q rest (a.put o.dst (.pointer (some ⟨w.heap.size, 0, none⟩))) (w.alloc (.cells cs ty))) : wpList P ops Q (o :: rest) a w := by
  refine wpList_plain hgd fun K hK => ?_
  unfold Oper.wp execOp
  simp only [ho]
  simp [Instr.alloc, hz w]
  exact hK _ _ h

/-- A slice value that holds these bytes. -/
def Bytes (w : World) (A : Option Addr) (n : Nat) (l : List Nat) : Prop :=
  l.length = n ∧ (∀ x ∈ l, x < 256) ∧ (0 < n → ∃ b off, A = some ⟨b, off, none⟩ ∧ b < w.heap.size ∧ ∀ i, i < n → w.cell? ⟨b, off + i, none⟩ = some (.int .u8 (l.getD i 0 : Int)))
section
variable {w w' : World} {A : Option Addr} {n : Nat} {l : List Nat}
theorem Bytes.len (h : Bytes w A n l) : l.length = n := h.1
theorem Bytes.lt (h : Bytes w A n l) : ∀ x ∈ l, x < 256 := h.2.1
theorem Bytes.byte (h : Bytes w A n l) (i : Nat) : l.getD i 0 < 256 := by
  rcases Nat.lt_or_ge i l.length with hi | hi
  · rw [List.getD_eq_getElem?_getD, List.getElem?_eq_getElem hi]; exact h.2.1 _ (List.getElem_mem hi)
  · rw [List.getD_eq_getElem?_getD, List.getElem?_eq_none hi]; decide
theorem Bytes.keep (h : Bytes w A n l) (hs : w.heap.size ≤ w'.heap.size) (hk : ∀ p : Addr, p.block < w.heap.size → w'.cell? p = w.cell? p) : Bytes w' A n l :=
  ⟨h.1, h.2.1, fun hn => by
    obtain ⟨b, off, e, hb, hc⟩ := h.2.2 hn
    exact ⟨b, off, e, by omega, fun i hi => (hk _ hb).trans (hc i hi)⟩⟩
theorem Bytes.below (h : Bytes w A n l) (hb : Below w.heap.size w w') : Bytes w' A n l := h.keep hb.size fun _ hp => hb.cell hp
theorem Bytes.nil (w : World) (A : Option Addr) : Bytes w A 0 [] := ⟨rfl, by simp, fun h => by omega⟩
/-- A beginning, and the rest. -/
theorem Bytes.take (h : Bytes w A n l) {k : Nat} (hk : k ≤ n) : Bytes w A k (l.take k) := by
  refine ⟨by rw [List.length_take, h.1]; omega, fun x hx => h.2.1 x (List.mem_of_mem_take hx), fun hk0 => ?_⟩
  obtain ⟨b, off, e, hb, hc⟩ := h.2.2 (by omega)
  refine ⟨b, off, e, hb, fun i hi => ?_⟩
  rw [hc i (by omega)]
  simp [List.getD_eq_getElem?_getD, hi]
end

theorem Bytes.drop {w : World} {b off n : Nat} {l : List Nat} (h : Bytes w (some ⟨b, off, none⟩) n l) {k : Nat} (hk : k ≤ n) : Bytes w (some ⟨b, off + k, none⟩) (n - k) (l.drop k) := by
  refine ⟨by rw [List.length_drop, h.1], fun x hx => h.2.1 x (List.mem_of_mem_drop hx), fun h0 => ?_⟩
  obtain ⟨b', off', e, hb, hc⟩ := h.2.2 (by omega)
  cases e
  refine ⟨b, off + k, rfl, hb, fun i hi => ?_⟩
  have := hc (k + i) (by omega)
  rw [← Nat.add_assoc] at this
  rw [this]
  simp [List.getD_eq_getElem?_getD]
theorem Bytes.drop0 {w : World} {b n : Nat} {l : List Nat} (h : Bytes w (some ⟨b, 0, none⟩) n l) {k : Nat} (hk : k ≤ n) : Bytes w (some ⟨b, k, none⟩) (n - k) (l.drop k) := by
  have := h.drop hk
  rwa [Nat.zero_add] at this
theorem take_succ_getD (l : List Nat) (k : Nat) (h : k < l.length) : l.take (k + 1) = l.take k ++ [l.getD k 0] := by
  rw [List.take_succ_eq_append_getElem h]; simp [List.getD_eq_getElem?_getD, h]
end Go.Proofs.YtljlkmmeedlaiaaDoor
/- Slices of bytes: made, copied, appended to, turned into texts. Of no program: what a program's tables must say comes in as premises. -/
namespace Go.Proofs.YtljlkmmeedlaiaaDoor
open Go.RowKit

/-- Bytes as cells. -/
def cellsOf (l : List Nat) : List Value := l.map fun (x : Nat) => Value.int .u8 (x : Int)
theorem cellsOf_length (l : List Nat) : (cellsOf l).length = l.length := by simp [cellsOf]
theorem cellsOf_get (l : List Nat) {j : Nat} (h : j < l.length) : (cellsOf l)[j]? = some (.int .u8 (l.getD j 0 : Int)) := by
  simp [cellsOf, List.getD_eq_getElem?_getD, h]
theorem cellsOf_append (a b : List Nat) : cellsOf (a ++ b) = cellsOf a ++ cellsOf b := by simp [cellsOf]
theorem cellsOf_one (l : List Nat) : ∀ v ∈ cellsOf l, v.oneCell' = true := by
  intro v hv
  simp only [cellsOf, List.mem_map] at hv
  obtain ⟨x, _, rfl⟩ := hv
  rfl
theorem cellsOf_set (l : List Nat) (i v : Nat) : (cellsOf l).toArray.setIfInBounds i (.int .u8 (v : Int)) = (cellsOf (l.set i v)).toArray := by
  simp [cellsOf, List.map_set]
theorem cellsOf_inj {a b : List Nat} (h : cellsOf a = cellsOf b) : a = b := by
  induction a generalizing b with
  | nil => cases b with
    | nil => rfl
    | cons y b => simp [cellsOf] at h
  | cons x a ih => cases b with
    | nil => simp [cellsOf] at h
    | cons y b =>
      simp only [cellsOf, List.map_cons, List.cons.injEq, Value.int.injEq, true_and] at h
      rw [ih h.2]
      congr 1
      omega

theorem addr_add (b o j : Nat) : (⟨b, o, none⟩ : Addr).add j = ⟨b, o + j, none⟩ := by
  unfold Addr.add; split <;> simp_all

/-- Each is a byte. -/
def Small (l : List Nat) : Prop := ∀ x ∈ l, x < 256
theorem Small.nil : Small [] := fun _ h => by cases h
theorem Small.append {a b : List Nat} (ha : Small a) (hb : Small b) : Small (a ++ b) := fun x hx => by
  rcases List.mem_append.1 hx with h | h
  · exact ha x h
  · exact hb x h
theorem Small.take {l : List Nat} (h : Small l) (k : Nat) : Small (l.take k) := fun x hx => h x (List.mem_of_mem_take hx)
theorem Small.drop {l : List Nat} (h : Small l) (k : Nat) : Small (l.drop k) := fun x hx => h x (List.mem_of_mem_drop hx)
theorem Small.zeros (k : Nat) : Small (List.replicate k 0) := fun x hx => by rw [List.eq_of_mem_replicate hx]; decide

section
variable {w w' : World} {A : Option Addr} {n : Nat} {l : List Nat}
/-- The cells, as the laws on appends and copies ask for them. -/
theorem Bytes.at_ (h : Bytes w A n l) (hn : 0 < n) : ∃ b off, A = some ⟨b, off, none⟩ ∧ b < w.heap.size ∧ ∀ j v, (cellsOf l)[j]? = some v → w.cell? ((⟨b, off, none⟩ : Addr).add j) = some v := by
  obtain ⟨b, off, e, hb, hc⟩ := h.2.2 hn
  refine ⟨b, off, e, hb, fun j v hv => ?_⟩
  have hj : j < l.length := by
    rcases Nat.lt_or_ge j l.length with h1 | h1
    · exact h1
    · rw [List.getElem?_eq_none (by rw [cellsOf_length]; exact h1)] at hv; cases hv
  rw [cellsOf_get l hj] at hv
  rw [addr_add, hc j (by rw [← h.1]; exact hj)]
  exact hv
theorem Bytes.of_row {g t : Nat} {cs : List Nat} (h : Row w g t (cellsOf cs).toArray) (hs : Small cs) {off : Nat} (hn : off + n ≤ cs.length) : Bytes w (some ⟨g, off, none⟩) n ((cs.drop off).take n) := by
  refine ⟨by rw [List.length_take, List.length_drop]; omega, (hs.drop off).take n, fun h0 => ⟨g, off, rfl, h.lt, fun i hi => ?_⟩⟩
  refine h.cell ?_
  rw [List.getElem?_toArray, cellsOf_get cs (by omega)]
  congr 3
  simp [List.getD_eq_getElem?_getD, hi]
theorem Bytes.of_row' {g t : Nat} {cs : List Nat} (h : Row w g t (cellsOf cs).toArray) (hs : Small cs) (hn : cs.length = n) : Bytes w (some ⟨g, 0, none⟩) n cs := by
  have := Bytes.of_row h hs (off := 0) (n := n) (by omega)
  rwa [List.drop_zero, List.take_of_length_le (by omega)] at this
theorem Bytes.of_own {base e c : Nat} (h : w.ownsRow base e 1 (.slice A n c) n (cellsOf l)) (hs : Small l) : Bytes w A n l := by
  have hl : l.length = n := by have := h.1; rw [cellsOf_length] at this; omega
  refine ⟨hl, hs, fun h0 => ?_⟩
  rcases h.2 with ⟨_, h1⟩ | ⟨g, cap, cur, hv, hg, hh, _, _, hsz, ht⟩
  · omega
  · injection hv with h1 h2 h3
    subst h1
    refine ⟨g, 0, rfl, Row.lt (t := e) (cs := cur) hh, fun i hi => ?_⟩
    have hr : Row w g e cur := hh
    rw [Nat.zero_add]
    refine hr.cell ?_
    have h2 : (cellsOf l)[i]? = cur.toList[i]? := by rw [← ht]; simp [hi]
    rw [cellsOf_get l (by omega)] at h2
    rw [← Array.getElem?_toList]
    exact h2.symm
end

section
variable {P : Program} {ops : Array Oper} {rest : List Oper} {o : Oper} {a : Act} {w : World} {Q : Exit → Act → World → Prop}
/-- 'make([]byte, n)'. -/
theorem wpList_make_bytes (hgd : o.guard = none) (t e : TypeId) (x : Operand) (ho : o.op = .makeSlice t x x) (n : Nat) (hx : a.eval x = .int .i64 n) (ht : P.underlying t = some (.slice e))
    (hi : (P.info? e).map (fun i => (i.zero, i.size, i.bytes)) = some (some (.int .u8 0), 1, 1)) (hn : n ≤ 281474976710656)
    (h : wpList P ops Q rest (a.put o.dst (.slice (some ⟨w.heap.size, 0, none⟩) n n)) (w.alloc (.cells (cellsOf (List.replicate n 0)).toArray e))) : wpList P ops Q (o :: rest) a w := by
  obtain ⟨i, hi, hz, hs, hb⟩ := info_parts hi
  have hr := run_make (P := P) w t e i _ ht hi hz .i64 .i64 n n (by omega) (Int.le_refl _) (by rw [hb]; omega) (by omega)
  rw [hs, Nat.mul_one] at hr
  have e1 : madeCells (Value.int .u8 0).cells n = (cellsOf (List.replicate n 0)).toArray := by
    apply Array.toList_inj.1
    have := toList_madeCells_one (.int .u8 0) n
    simp only [cellsOf, List.map_replicate]
    exact this
  simp only [Int.toNat_natCast] at hr
  rw [e1] at hr
  refine wpList_plain hgd fun K hK => ?_
  unfold Oper.wp
  simp [execOp, ho, hx, hr, Result.andThen]
  exact hK _ _ h

/-- 'copy(d, s)' of all of s into a row of bytes of the call's own, from place 'off' on. -/
theorem wpList_copy_bytes (hgd : o.guard = none) (d s : Operand) (t e : TypeId) (ho : o.op = .call { callee := .builtin .copy, args := #[d, s], argTypes := #[t, t] }) (ht : P.underlying t = some (.slice e))
    (hi : (P.info? e).map (·.size) = some 1) (g off dn dc : Nat) (A : Option Addr) (n c : Nat) (l cur : List Nat) (hd : a.eval d = .slice (some ⟨g, off, none⟩) dn dc) (hs : a.eval s = .slice A n c)
    (hA : Bytes w A n l) (hle : n ≤ dn) (hg : Row w g e (cellsOf cur).toArray) (hfit : off + n ≤ cur.length) (B : Nat) (w0 : World) (hb : Below B w0 w) (hBg : B ≤ g)
    (h : ∀ w', Row w' g e (cellsOf (cur.take off ++ (l ++ cur.drop (off + n)))).toArray → Below B w0 w' → wpList P ops Q rest (a.put o.dst (goInt n)) w') : wpList P ops Q (o :: rest) a w := by
  have hlen : (cellsOf l).length = n := by rw [cellsOf_length, hA.len]
  refine wpList_copy_splice hgd d s t t ho e ht hi (some ⟨g, off, none⟩) A dn dc n c hd hs g off (cellsOf cur) e hg (cellsOf l) (by rw [hlen]; exact (Nat.min_eq_left hle).symm) ?_ (by rw [hlen, cellsOf_length]; exact hfit) (cellsOf_one l) B w0 hb hBg ?_
  · intro h0
    obtain ⟨b, o', e1, _, hc⟩ := hA.at_ (by omega)
    exact ⟨rfl, _, e1, hc⟩
  · intro w' h1 h2
    rw [hlen]
    refine h w' ?_ h2
    have h3 := h1.out
    have e1 : splice (cellsOf cur) off (cellsOf l) = cellsOf (cur.take off ++ (l ++ cur.drop (off + n))) := by
      unfold splice
      rw [hlen]
      simp [cellsOf]
    rw [e1] at h3
    exact h3

/-- 'append(s, x...)' onto a row of bytes of the call's own; x may be nil or empty. -/
theorem wpList_append_bytes (hgd : o.guard = none) (s x : Operand) (t e : TypeId) (ho : o.op = .call { callee := .builtin .append, args := #[s, x], argTypes := #[t, t] }) (ht : P.underlying t = some (.slice e))
    (hi : (P.info? e).map (fun i => (i.zero, i.size, i.bytes)) = some (some (.int .u8 0), 1, 1)) (base : Nat) (v : Value) (k : Nat) (xs : List Nat) (hs : a.eval s = v) (hown : w.ownsRow base e 1 v k (cellsOf xs))
    (A : Option Addr) (n c : Nat) (l : List Nat) (hx : a.eval x = .slice A n c) (hA : Bytes w A n l) (hnil : A = none → n = 0 ∧ c = 0) (hle : k + n ≤ 140737488355328) (hbase : base ≤ w.heap.size)
    (h : ∀ v' w', w'.ownsRow base e 1 v' (k + n) (cellsOf (xs ++ l)) → w.grownBy w' v.ownBlock → (v'.ownBlock = v.ownBlock ∨ v'.ownBlock = some w.heap.size) → (v = .slice none 0 0 → n = 0 → v' = .slice none 0 0) → wpList P ops Q rest (a.put o.dst v') w') : wpList P ops Q (o :: rest) a w := by
  obtain ⟨i, hi, hz, hs1, hb⟩ := info_parts hi
  rcases A with _ | ad
  · obtain ⟨rfl, rfl⟩ := hnil rfl
    have hl : l = [] := List.eq_nil_of_length_eq_zero hA.len
    subst hl
    refine wpList_append_own_none hgd s x t ho base e i 1 ht hi v k (cellsOf xs) hs hown hx ?_
    have := h v w (by simpa using hown) (World.grownBy.refl w _) (.inl rfl) (fun h1 _ => h1)
    rwa [hs] at *
  · refine wpList_append_own_at w hgd s x t ho base e i _ 1 1 ht hi hz hs1 hb rfl (by decide) v k (cellsOf xs) hs hown ad n c (cellsOf l) hx (by rw [cellsOf_length, hA.len]; omega) ?_ (cellsOf_one l) (by unfold maxLen; omega) (by omega) hbase ?_
    · intro j u hu
      have hn : 0 < n := by
        rcases Nat.eq_zero_or_pos n with h0 | h0
        · have : l = [] := List.eq_nil_of_length_eq_zero (by rw [hA.len, h0])
          subst this; simp [cellsOf] at hu
        · exact h0
      obtain ⟨b, off, e1, _, hc⟩ := hA.at_ hn
      injection e1 with e1
      subst e1
      exact hc j u hu
    · intro v' w' h1 h2 h3 h4
      exact h v' w' (by rw [cellsOf_append]; exact h1) h2 h4 (fun a b => h3.2 ⟨a, b⟩)
end

/-- Bytes as a text. -/
def textOf (l : List Nat) : ByteArray := ⟨(l.map UInt8.ofNat).toArray⟩
theorem textOf_inj {a b : List Nat} (ha : Small a) (hb : Small b) (h : (textOf a).toList = (textOf b).toList) : a = b := by
  have h1 : a.map UInt8.ofNat = b.map UInt8.ofNat := by
    have e : ∀ l, (textOf l).toList = l.map UInt8.ofNat := fun l => by exact ByteArray.toList_mk _
    rw [← e, ← e, h]
  have key : ∀ l, Small l → (l.map UInt8.ofNat).map UInt8.toNat = l := by
    intro l hl
    rw [List.map_map]
    conv => rhs; rw [← List.map_id l]
    refine List.map_congr_left fun x hx => ?_
    have := hl x hx
    simp [UInt8.toNat_ofNat']
    omega
  rw [← key a ha, ← key b hb, h1]
/-- 'string(b)'. -/
theorem run_text {P : Program} {w : World} {A : Option Addr} {n : Nat} {l : List Nat} (hA : Bytes w A n l) (src dst e : TypeId) (c : Nat) (hs : P.underlying src = some (.slice e)) (he : P.underlying e = some (.int .u8)) (hd : P.underlying dst = some .string) :
    (convert src dst (.slice A n c)).run P w = .ok (.string (textOf l)) w := by
  rcases Nat.eq_zero_or_pos n with h0 | h0
  · subst h0
    have hl : l = [] := List.eq_nil_of_length_eq_zero hA.len
    subst hl
    rcases A with _ | ad
    · exact run_convert_bytes_nil w src e hs he 0 c dst hd
    · rw [run_convert_bytes_string w src dst e _ 0 c hs he hd, run_bytesToString w ad 0 c [] (by simpa using run_loadCells_list (P := P) w ad [] (by simp))]
      rfl
  · obtain ⟨b, off, rfl, _, hc⟩ := hA.2.2 h0
    rw [run_convert_bytes_arg w src e hs he b off n c (l.map fun (x : Nat) => (x : Int)) (by rw [List.length_map, hA.len]) (fun i hi => by
      rw [hc i hi]
      congr 2
      simp [List.getD_eq_getElem?_getD, hA.len, hi]) dst hd]
    congr 2
    simp [strOfNums, textOf]

/-- A literal's bytes, in the block that was laid last. -/
theorem Bytes.of_lit (w : World) (e : TypeId) (C : Array Value) (fr : Nat × Nat) (l : List Nat) (n : Nat) (hC : C = (cellsOf l).toArray) (hs : Small l) (hn : l.length = n) : Bytes (w.alloc (.cells C e fr)) (some ⟨w.heap.size, 0, none⟩) n l := by
  subst hC
  refine ⟨hn, hs, fun h0 => ⟨_, 0, rfl, by simp, fun i hi => ?_⟩⟩
  rw [cell_of_row _ w.heap.size (0 + i) _ e fr (heap_alloc_new w _), Nat.zero_add, List.getElem?_toArray]
  exact cellsOf_get l (by omega)

/-- A slice of bytes that came in, as the row's step opens it. -/
theorem Bytes.of_arg {w : World} {a0 : Option Addr} {len cap : Nat} {zs : List Int}
    (h : (a0 = none ∧ len = 0 ∧ cap = 0 ∧ zs = []) ∨ ∃ x, a0 = some x ∧ len ≤ cap ∧ cap ≤ maxLen ∧ zs.length = cap ∧ (∀ i, i < zs.length → w.cell? (x.add i) = some (.int .u8 (zs.getD i 0))) ∧ ∀ n ∈ zs, (Lit.int .u8 n).wf = true) :
    ∃ l, Bytes w a0 len l ∧ (a0 = none → len = 0 ∧ cap = 0) ∧ len ≤ cap ∧ cap ≤ 9223372036854775807 := by
  rcases h with ⟨rfl, rfl, rfl, rfl⟩ | ⟨x, rfl, hl, hm, hz, hc, hw⟩
  · exact ⟨[], Bytes.nil w _, fun _ => ⟨rfl, rfl⟩, Nat.le_refl _, by omega⟩
  · have hb : ∀ n ∈ zs, 0 ≤ n ∧ n < 256 := fun n hn => by
      have := hw n hn
      have h1 := (bounds_u8 this)
      omega
    refine ⟨(zs.take len).map Int.toNat, ⟨by rw [List.length_map, List.length_take]; omega, ?_, fun h0 => ?_⟩, (fun h => by cases h), hl, by unfold maxLen at hm; omega⟩
    · intro y hy
      obtain ⟨n, hn, rfl⟩ := List.mem_map.1 hy
      have := hb n (List.mem_of_mem_take hn)
      omega
    · obtain ⟨b, off, spot⟩ := x
      have hspot : spot = none := by simpa [Addr.add] using World.cell?_spot (hc 0 (by omega))
      subst hspot
      refine ⟨b, off, rfl, block_lt_of_cell (hc 0 (by omega)), fun i hi => ?_⟩
      have h1 := hc i (by omega)
      rw [addr_add] at h1
      rw [h1]
      have h2 := hb (zs.getD i 0) (by
        rw [List.getD_eq_getElem?_getD, List.getElem?_eq_getElem (by omega)]
        exact List.getElem_mem _)
      have hiz : i < zs.length := by omega
      have e1 : zs.getD i 0 = zs[i] := by rw [List.getD_eq_getElem?_getD, List.getElem?_eq_getElem hiz]; rfl
      have e2 : ((zs.take len).map Int.toNat).getD i 0 = zs[i].toNat := by
        rw [List.getD_eq_getElem?_getD, List.getElem?_map, List.getElem?_take, if_pos hi, List.getElem?_eq_getElem hiz]; rfl
      rw [e2]
      rw [e1] at h2 ⊢
      rw [Int.toNat_of_nonneg h2.1]

/-- What the call owns stays so behind a call that touches nothing old. -/
theorem own_call {w w' : World} {base e k : Nat} {v : Value} {xs : List Value} (h : w.ownsRow base e 1 v k xs) (hb : Below w.heap.size w w') : w'.ownsRow base e 1 v k xs := by
  refine ⟨h.1, ?_⟩
  rcases h.2 with h1 | ⟨g, cap, cur, hv, hg, hh, h2, h3, h4, h5⟩
  · exact .inl h1
  · exact .inr ⟨g, cap, cur, hv, hg, (hb.block g (Row.lt (t := e) (cs := cur) hh)).trans hh, h2, h3, h4, h5⟩
theorem own_block {w : World} {base e k : Nat} {v : Value} {xs : List Value} (h : w.ownsRow base e 1 v k xs) : ∀ g, v.ownBlock = some g → base ≤ g := by
  intro g hg
  rcases h.2 with ⟨h1, _⟩ | ⟨g', cap, cur, h1, h2, _⟩
  · rw [h1] at hg; simp [Value.ownBlock] at hg
  · rw [h1] at hg; simp [Value.ownBlock] at hg; omega
/-- What an append has left: a slice over a block of the call's own. -/
theorem own_form {w : World} {base e k : Nat} {v : Value} {l : List Nat} (h : w.ownsRow base e 1 v k (cellsOf l)) (hk : 0 < k) :
    ∃ g cap, v = .slice (some ⟨g, 0, none⟩) k cap ∧ base ≤ g ∧ k ≤ cap ∧ cap ≤ maxLen := by
  rcases h.2 with ⟨_, h1⟩ | ⟨g, cap, cur, hv, hg, _, h2, h3, _, _⟩
  · omega
  · exact ⟨g, cap, hv, hg, h2, h3⟩
theorem Bytes.snoc {w : World} {A : Option Addr} {n x : Nat} {l : List Nat} (h : Bytes w A (n + 1) (l ++ [x])) : Bytes w A n l ∧ l.length = n := by
  have hl : l.length = n := by have := h.len; simp at this; omega
  have := h.take (k := n) (by omega)
  rw [← hl, List.take_left, hl] at this
  exact ⟨this, hl⟩
end Go.Proofs.YtljlkmmeedlaiaaDoor
/- Words on memory, of no program: what a call keeps; slices that may lie anywhere in a block. -/
namespace Go.Proofs.YtljlkmmeedlaiaaDoor
open Go.RowKit

/-- All but the blocks of F is as it was; new blocks may have come. -/
structure Kept (F : Nat → Prop) (w w' : World) : Prop where
  os : w'.os = w.os
  tape : w'.tape = w.tape
  output : w'.output = w.output
  size : w.heap.size ≤ w'.heap.size
  block : ∀ k, k < w.heap.size → ¬ F k → w'.heap[k]? = w.heap[k]?
/-- F, and what is new behind w. -/
def grow (F : Nat → Prop) (w : World) (k : Nat) : Prop := F k ∨ w.heap.size ≤ k
def noBlock (_ : Nat) : Prop := False

section
variable {F G : Nat → Prop} {w a b c : World}
theorem grow.old {k : Nat} (h : F k) : grow F w k := .inl h
theorem grow.fresh {k : Nat} (h : w.heap.size ≤ k) : grow F w k := .inr h
theorem Kept.refl (F : Nat → Prop) (w : World) : Kept F w w := ⟨rfl, rfl, rfl, Nat.le_refl _, fun _ _ _ => rfl⟩
theorem Kept.mono (h : Kept F a b) (hf : ∀ k, k < a.heap.size → F k → G k) : Kept G a b := ⟨h.os, h.tape, h.output, h.size, fun k hk hg => h.block k hk fun hF => hg (hf k hk hF)⟩
/-- Two steps; the second one may touch what came with the first. -/
theorem Kept.trans (h : Kept F a b) (k : Kept (grow F a) b c) : Kept F a c :=
  ⟨k.os.trans h.os, k.tape.trans h.tape, k.output.trans h.output, Nat.le_trans h.size k.size, fun i hi hn =>
    (k.block i (Nat.lt_of_lt_of_le hi h.size) fun hg => by
      rcases hg with hg | hg
      · exact hn hg
      · omega).trans (h.block i hi hn)⟩
theorem Kept.trans' (h : Kept F a b) (k : Kept F b c) : Kept F a c := h.trans (k.mono fun _ _ => grow.old)
theorem Kept.drew (h : Kept F a b) : Kept F a b.drew := ⟨h.os, h.tape, h.output, h.size, h.block⟩
theorem Kept.drewN (h : Kept F a b) (n : Nat) : Kept F a (b.drewN n) := ⟨h.os, h.tape, h.output, h.size, h.block⟩
theorem Kept.alloc (h : Kept F a b) (o : Obj) : Kept F a (b.alloc o) :=
  h.trans' ⟨rfl, rfl, rfl, by simp, fun k hk _ => Below.heap_alloc _ _ _ hk⟩
theorem Kept.setCell (h : Kept F a b) {p : Addr} (hp : grow F a p.block) (u : Value) : Kept F a (b.setCell p u) :=
  h.trans ⟨rfl, rfl, rfl, by simp [World.setCell], fun k _ hk => Below.heap_setCell _ _ _ _ (fun e => hk (e ▸ hp))⟩
theorem Kept.setRow (h : Kept F a b) {g : Nat} (hg : grow F a g) (cs : Array Value) : Kept F a (b.setRow g cs) :=
  h.trans ⟨rfl, rfl, rfl, by simp, fun k _ hk => setRow_other _ _ _ _ (fun e => hk (e ▸ hg))⟩
theorem _root_.Go.RowKit.Below.kept (h : Below a.heap.size a b) : Kept F a b := ⟨h.os, h.tape, h.output, h.size, fun k hk _ => h.block k hk⟩
theorem Kept.below (h : Kept F a b) {B : Nat} (hB : B ≤ a.heap.size) (hf : ∀ k, F k → B ≤ k) : Below B a b :=
  ⟨h.os, h.tape, h.output, h.size, fun k hk => h.block k (by omega) fun hF => by have := hf k hF; omega⟩
theorem Kept.heap (h : Kept F a b) {k : Nat} {o : Obj} (ho : a.heap[k]? = some o) (hk : ¬ F k) : b.heap[k]? = some o :=
  (h.block k (by rcases Nat.lt_or_ge k a.heap.size with h1 | h1
                 · exact h1
                 · rw [Array.getElem?_eq_none h1] at ho; cases ho) hk).trans ho
theorem Row.kept {t : TypeId} {cs : Array Value} {g : Nat} (h : Row a g t cs) (k : Kept F a b) (hg : ¬ F g) : Row b g t cs := k.heap h hg
theorem Kept.cell (a : World) (p i : Nat) (u : Value) : Kept (· = p) a (a.setCell ⟨p, i, none⟩ u) := (Kept.refl _ _).setCell (grow.old (F := (· = p)) rfl) u
theorem lt_of_heap {k : Nat} {o : Obj} (ho : a.heap[k]? = some o) : k < a.heap.size := by
  rcases Nat.lt_or_ge k a.heap.size with h1 | h1
  · exact h1
  · rw [Array.getElem?_eq_none h1] at ho; cases ho
end

theorem _root_.Go.Proofs.YtljlkmmeedlaiaaDoor.Bytes.kept {F : Nat → Prop} {w w' : World} {A : Option Addr} {n : Nat} {l : List Nat} (h : Bytes w A n l) (hk : Kept F w w') (hF : 0 < n → ∀ x, A = some x → ¬ F x.block) : Bytes w' A n l :=
  ⟨h.1, h.2.1, fun h0 => by
    obtain ⟨b, off, e, hb, hc⟩ := h.2.2 h0
    refine ⟨b, off, e, Nat.lt_of_lt_of_le hb hk.size, fun i hi => ?_⟩
    rw [World.cell?_of_block (w := w) (hk.block b hb (hF h0 _ e))]
    exact hc i hi⟩
/-- v is a slice of n elements (each of so many cells) whose cells are xs; its block is one of F. -/
def Lies (w : World) (F : Nat → Prop) (e : TypeId) (size : Nat) (v : Value) (n : Nat) (xs : List Value) : Prop :=
  xs.length = n * size ∧ ((∃ A, v = .slice A 0 0 ∧ n = 0) ∨
    ∃ g off cap cur, v = .slice (some ⟨g, off, none⟩) n cap ∧ F g ∧ w.heap[g]? = some (.cells cur e (0, 0)) ∧ n ≤ cap ∧ cap ≤ maxLen ∧ off + cap * size ≤ cur.size ∧ (cur.toList.drop off).take (n * size) = xs)

section
variable {F G : Nat → Prop} {w w' : World} {e : TypeId} {size n : Nat} {v : Value} {xs : List Value}
theorem Lies.empty (w : World) (F : Nat → Prop) (e : TypeId) (size : Nat) (A : Option Addr) : Lies w F e size (.slice A 0 0) 0 [] := ⟨by simp, .inl ⟨A, rfl, rfl⟩⟩
theorem Lies.mono (h : Lies w F e size v n xs) (hf : ∀ k, F k → G k) : Lies w G e size v n xs :=
  ⟨h.1, h.2.imp id fun ⟨g, off, cap, cur, h1, h2, h3⟩ => ⟨g, off, cap, cur, h1, hf g h2, h3⟩⟩
/-- The blocks of this type that F has are as they were. -/
theorem Lies.same (h : Lies w F e size v n xs) (hk : ∀ g cur, F g → w.heap[g]? = some (.cells cur e (0, 0)) → w'.heap[g]? = some (.cells cur e (0, 0))) : Lies w' F e size v n xs :=
  ⟨h.1, h.2.imp id fun ⟨g, off, cap, cur, h1, h2, h3, h4⟩ => ⟨g, off, cap, cur, h1, h2, hk g cur h2 h3, h4⟩⟩
theorem Lies.drewN (h : Lies w F e size v n xs) (k : Nat) : Lies (w.drewN k) F e size v n xs := h
theorem Lies.kept (h : Lies w F e size v n xs) (hk : Kept G w w') (hd : ∀ k, F k → ¬ G k) : Lies w' F e size v n xs :=
  h.same fun g _ hF hh => hk.heap hh (hd g hF)
/-- Another type's block turns. -/
theorem Lies.row {e' : TypeId} {cs' : Array Value} {p : Nat} (h : Lies w F e size v n xs) (hp : w.heap[p]? = some (.cells cs' e' (0, 0))) (he : e' ≠ e) (hk : Kept (· = p) w w') : Lies w' F e size v n xs :=
  h.same fun g cur _ hh => hk.heap hh fun hg => by subst hg; rw [hp] at hh; injection hh with hh; injection hh with _ hh _; exact he hh
theorem Lies.below (h : Lies w F e size v n xs) (hb : Below w.heap.size w w') : Lies w' F e size v n xs :=
  h.same fun g _ _ hh => (hb.block g (lt_of_heap hh)).trans hh
theorem Lies.there (h : Lies w F e size v n xs) : Lies w (fun k => F k ∧ k < w.heap.size) e size v n xs :=
  ⟨h.1, h.2.imp id fun ⟨g, off, cap, cur, h1, h2, h3, h4⟩ => ⟨g, off, cap, cur, h1, ⟨h2, lt_of_heap h3⟩, h3, h4⟩⟩
/-- It is a slice value, of so many elements. -/
theorem Lies.form (h : Lies w F e size v n xs) : ∃ A c, v = .slice A n c ∧ n ≤ c ∧ c ≤ maxLen := by
  rcases h.2 with ⟨A, rfl, rfl⟩ | ⟨g, off, cap, cur, rfl, _, _, h1, h2, _⟩
  · exact ⟨A, 0, rfl, Nat.le_refl _, by unfold maxLen; omega⟩
  · exact ⟨_, cap, rfl, h1, h2⟩
theorem Lies.length (h : Lies w F e size v n xs) : xs.length = n * size := h.1
/-- Its cells. -/
theorem Lies.cells (h : Lies w F e size v n xs) (hn : 0 < n) : ∃ g off cap, v = .slice (some ⟨g, off, none⟩) n cap ∧ F g ∧ n ≤ cap ∧ cap ≤ maxLen ∧ g < w.heap.size ∧ w.rangeAt g off xs := by
  rcases h.2 with ⟨A, rfl, rfl⟩ | ⟨g, off, cap, cur, rfl, h0, h1, h2, h3, h4, h5⟩
  · omega
  · refine ⟨g, off, cap, rfl, h0, h2, h3, lt_of_heap h1, fun j u hu => ?_⟩
    rw [cell_of_row w g (off + j) cur e (0, 0) h1]
    rw [← h5] at hu
    have hj : j < n * size := by
      have := (List.getElem?_eq_some_iff.1 hu).1
      simp at this; omega
    rw [List.getElem?_take_of_lt hj, List.getElem?_drop] at hu
    simpa using hu
end

/-- A slice of n elements holds these cells (whosever they are). -/
def Holds (w : World) (A : Option Addr) (n size : Nat) (xs : List Value) : Prop := xs.length = n * size ∧ (0 < n → ∃ b off, A = some ⟨b, off, none⟩ ∧ b < w.heap.size ∧ w.rangeAt b off xs)
theorem Lies.holds {w : World} {F : Nat → Prop} {e : TypeId} {size n : Nat} {v : Value} {xs : List Value} (h : Lies w F e size v n xs) : ∃ A c, v = .slice A n c ∧ n ≤ c ∧ c ≤ maxLen ∧ Holds w A n size xs := by
  obtain ⟨A, c, rfl, h1, h2⟩ := h.form
  refine ⟨A, c, rfl, h1, h2, h.1, fun h0 => ?_⟩
  obtain ⟨g, off, cap, hv, _, _, _, hg, hr⟩ := h.cells h0
  injection hv with hv _ _
  exact ⟨g, off, hv, hg, hr⟩
theorem rangeAt_below {w w' : World} {b o : Nat} {cs : List Value} (h : w.rangeAt b o cs) (hb : b < w.heap.size) (hk : Below w.heap.size w w') : w'.rangeAt b o cs := fun j v hv =>
  (hk.cell (p := ⟨b, o + j, none⟩) hb).trans (h j v hv)
theorem Holds.below {w w' : World} {A : Option Addr} {n size : Nat} {xs : List Value} (h : Holds w A n size xs) (hb : Below w.heap.size w w') : Holds w' A n size xs :=
  ⟨h.1, fun h0 => let ⟨b, off, e, hlt, hr⟩ := h.2 h0; ⟨b, off, e, Nat.lt_of_lt_of_le hlt hb.size, rangeAt_below hr hlt hb⟩⟩
theorem Holds.nil (w : World) (A : Option Addr) (size : Nat) : Holds w A 0 size [] := ⟨by simp, fun h => by omega⟩

section
variable {P : Program}
theorem run_append_room_off (w : World) (t ty e : TypeId) (i : TypeInfo) (ht : P.underlying t = some (.slice e)) (hi : P.info? e = some i)
    (g off sLen sCap : Nat) (cur : Array Value) (hg : w.heap[g]? = some (.cells cur e (0, 0)))
    (a : Addr) (m c : Nat) (news : List Value) (hl : news.length = m * i.size) (hnews : ∀ j u, news[j]? = some u → w.cell? (a.add j) = some u) (h1 : ∀ u ∈ news, u.oneCell' = true)
    (hroom : sLen + m ≤ sCap) (hfit : off + sLen * i.size + news.length ≤ cur.size) :
    (Builtin.append_ #[t, t] ty #[.slice (some ⟨g, off, none⟩) sLen sCap, .slice (some a) m c]).run P w =
      .ok (.slice (some ⟨g, off, none⟩) (sLen + m) sCap) (w.setRow g (cur.toList.take (off + sLen * i.size) ++ news ++ cur.toList.drop (off + sLen * i.size + news.length)).toArray) := by
  have hf := run_firstCells_some (P := P) w i.size m a m c news hl hnews
  have hst := run_storeCells_at P g (off + sLen * i.size) e news 0 cur w hg (by simpa using hfit) h1
  simp only [Nat.add_zero] at hst
  simp [Builtin.append_, run_underlying ht, sizeOf, typeInfo, hi, Builtin.lenOf, hroom, hf, Addr.add_lit, hst]

/-- Appended is nothing: the slice is as it was. -/
theorem run_append_nothing (w : World) (t ty e : TypeId) (i : TypeInfo) (ht : P.underlying t = some (.slice e)) (hi : P.info? e = some i) (A A' : Option Addr) (n cap c : Nat) (hn : n ≤ cap) :
    (Builtin.append_ #[t, t] ty #[.slice A n cap, .slice A' 0 c]).run P w = .ok (.slice A n cap) w := by
  have hf : (Builtin.firstCells i.size 0 (.slice A' 0 c)).run P w = .ok #[] w := by
    rcases A' with _ | a
    · simp [Builtin.firstCells]
    · exact run_firstCells_some (P := P) w i.size 0 a 0 c [] (by simp) (by simp)
  rcases A with _ | a <;> simp [Builtin.append_, run_underlying ht, sizeOf, typeInfo, hi, Builtin.lenOf, hn, hf, storeCells]

/-- The source of an append: nothing, or cells that lie somewhere. -/
def Source (w : World) (A : Option Addr) (m : Nat) (news : List Value) : Prop := m = 0 ∨ ∃ a, A = some a ∧ ∀ j u, news[j]? = some u → w.cell? (a.add j) = some u

theorem Holds.source {w : World} {A : Option Addr} {n size : Nat} {xs : List Value} (h : Holds w A n size xs) : Source w A n xs := by
  rcases Nat.eq_zero_or_pos n with h0 | h0
  · exact .inl h0
  · obtain ⟨b, off, rfl, _, hr⟩ := h.2 h0
    exact .inr ⟨_, rfl, fun j u hu => by rw [Addr.add_lit]; exact hr j u hu⟩

/-- v has room in block b. -/
def Spare (v : Value) (b : Nat) : Prop := ∃ off n cap, v = .slice (some ⟨b, off, none⟩) n cap ∧ 0 < cap
theorem Lies.spare {w : World} {F : Nat → Prop} {e : TypeId} {size n : Nat} {v : Value} {xs : List Value} (h : Lies w F e size v n xs) {b : Nat} (hs : Spare v b) : b < w.heap.size := by
  obtain ⟨off, n', cap, rfl, h0⟩ := hs
  rcases h.2 with ⟨A, hv, _⟩ | ⟨g, off', cap', cur, hv, _, hg, _⟩
  · injection hv with _ _ hv; omega
  · injection hv with hv _ _; injection hv with hv; injection hv with hv _ _; subst hv; exact lt_of_heap hg

theorem run_append_any (w : World) (F : Nat → Prop) (t ty e : TypeId) (i : TypeInfo) (z : Value) (size bytes : Nat) (ht : P.underlying t = some (.slice e)) (hi : P.info? e = some i) (hz : i.zero = some z)
    (hsize : i.size = size) (hby : i.bytes = bytes) (hzs : z.cells.size = size) (hsz : 0 < size)
    (v : Value) (n : Nat) (xs : List Value) (hown : Lies w F e size v n xs) (A : Option Addr) (m c : Nat) (news : List Value) (hl : news.length = m * size) (hsrc : Source w A m news) (h1 : ∀ u ∈ news, u.oneCell' = true)
    (hbytes : (n + m) * bytes ≤ 140737488355328) (hb0 : 0 < bytes) :
    ∃ v' w', (Builtin.append_ #[t, t] ty #[v, .slice A m c]).run P w = .ok v' w' ∧ Lies w' (grow F w) e size v' (n + m) (xs ++ news) ∧ Kept (fun g => F g ∧ Spare v g ∧ ∃ cur, w.heap[g]? = some (.cells cur e (0, 0))) w w' := by
  subst hsize
  subst hby
  have hnm : n + m ≤ 140737488355328 := Nat.le_trans (Nat.le_mul_of_pos_right _ hb0) hbytes
  have hlen : (xs ++ news).length = (n + m) * i.size := by rw [List.length_append, hown.1, hl, Nat.add_mul]
  have grown : ∀ (old : Nat), old < n + m →
      Lies (w.drew.alloc (.cells (xs.toArray ++ news.toArray ++ Builtin.zeroCells z.cells (grownCap w (n + m) old e - (n + m))) e)) (grow F w) e i.size (.slice (some ⟨w.heap.size, 0, none⟩) (n + m) (grownCap w (n + m) old e)) (n + m) (xs ++ news) ∧
      Kept (fun g => F g ∧ Spare v g ∧ ∃ cur, w.heap[g]? = some (.cells cur e (0, 0))) w (w.drew.alloc (.cells (xs.toArray ++ news.toArray ++ Builtin.zeroCells z.cells (grownCap w (n + m) old e - (n + m))) e)) := by
    intro old ho
    have hge := grownCap_ge w (n + m) old e
    have hcm : grownCap w (n + m) old e ≤ maxLen := grownCap_le_maxLen w (n + m) old e (by unfold maxLen; omega)
    refine ⟨⟨hlen, .inr ⟨w.heap.size, 0, _, _, rfl, grow.fresh (Nat.le_refl _), heap_alloc_new w.drew _, hge, hcm, ?_, ?_⟩⟩, (Kept.refl _ _).drew.alloc _⟩
    · simp only [Array.size_append, List.size_toArray, size_zeroCells, hzs, hown.1, hl, ← Nat.add_mul, Nat.zero_add]
      refine Nat.le_of_eq ?_
      congr 1
      omega
    · simp only [Array.toList_append, List.append_assoc, List.drop_zero]
      rw [← List.append_assoc, ← hlen]
      exact List.take_left
  rcases Nat.eq_zero_or_pos m with rfl | hm
  · obtain rfl : news = [] := List.eq_nil_of_length_eq_zero (by simpa using hl)
    obtain ⟨B, cap, rfl, hcap, _⟩ := hown.form
    refine ⟨_, w, run_append_nothing w t ty e i ht hi B A n cap c hcap, ?_, Kept.refl _ _⟩
    simpa using hown.mono (fun _ => grow.old)
  · obtain ⟨a, rfl, hcells⟩ : ∃ a, A = some a ∧ ∀ j u, news[j]? = some u → w.cell? (a.add j) = some u := by
      rcases hsrc with h | h
      · omega
      · exact h
    rcases hown.2 with ⟨B, rfl, rfl⟩ | ⟨g, off, cap, cur, rfl, hF, hg, hnc, hcm, hfit, htake⟩
    · obtain rfl : xs = [] := List.eq_nil_of_length_eq_zero (by simpa using hown.1)
      rcases B with _ | b
      · have hr := run_append_nil (P := P) w t ty e i z ht hi hz a m c news hl hcells (by omega) (by omega) (by have hb := hbytes; simp only [Nat.zero_add] at hb; omega)
        have hgr := grown 0 (by omega)
        simp only [Nat.zero_add, List.nil_append, Array.empty_append] at hgr ⊢
        exact ⟨_, _, hr, hgr.1, hgr.2⟩
      · have hr := run_append_grow (P := P) w t ty e i z ht hi hz b 0 0 [] (by simp) (by simp) a m c news hl hcells (by omega) (by omega) (growslice_fits (by omega) hbytes)
        exact ⟨_, _, hr, (grown 0 (by omega)).1, (grown 0 (by omega)).2⟩
    · by_cases hroom : n + m ≤ cap
      · have hmul : n * i.size + news.length ≤ cap * i.size := by rw [hl, ← Nat.add_mul]; exact Nat.mul_le_mul_right _ hroom
        have hr := run_append_room_off (P := P) w t ty e i ht hi g off n cap cur hg a m c news hl hcells h1 hroom (by omega)
        refine ⟨_, _, hr, ⟨hlen, .inr ⟨g, off, cap, _, rfl, grow.old hF, setRow_heap w g cur _ e _ hg, hroom, hcm, ?_, ?_⟩⟩, (Kept.refl _ _).setRow (grow.old ⟨hF, ⟨off, n, cap, rfl, by omega⟩, cur, hg⟩) _⟩
        · simp only [List.size_toArray, List.length_append, List.length_take, List.length_drop, Array.length_toList]
          omega
        · have e1 : (cur.toList.take (off + n * i.size)) = cur.toList.take off ++ xs := by rw [← htake, List.take_add]
          simp only [List.append_assoc]
          rw [e1, List.append_assoc, List.drop_append_of_le_length (by simp; omega), List.drop_of_length_le (by simp; omega), List.nil_append, ← List.append_assoc, ← hlen]
          exact List.take_left
      · have holds : ∀ j u, xs[j]? = some u → w.cell? ((⟨g, off, none⟩ : Addr).add j) = some u := by
          intro j u hu
          rcases Nat.eq_zero_or_pos n with h0 | h0
          · subst h0
            obtain rfl : xs = [] := List.eq_nil_of_length_eq_zero (by simpa using hown.1)
            simp at hu
          · obtain ⟨g', off', cap', hv, _, _, _, _, hr⟩ := hown.cells h0
            injection hv with hv1 hv2 hv3
            injection hv1 with hv1
            injection hv1 with hv4 hv5
            subst hv4; subst hv5
            rw [Addr.add_lit]
            exact hr j u hu
        have hr := run_append_grow (P := P) w t ty e i z ht hi hz ⟨g, off, none⟩ n cap xs hown.1 holds a m c news hl hcells (by omega) (by omega) (growslice_fits (by omega) hbytes)
        exact ⟨_, _, hr, (grown cap (by omega)).1, (grown cap (by omega)).2⟩

/-- At an operation. -/
theorem wp_append_any {o : Oper} {a : Act} {w : World} {K : Act → World → Prop} {Q : Exit → Act → World → Prop} (F : Nat → Prop) (s x : Operand) (t : TypeId)
    (ho : o.op = .call { callee := .builtin .append, args := #[s, x], argTypes := #[t, t] }) (e : TypeId) (size bytes : Nat) (z : Value) (ht : P.underlying t = some (.slice e)) (hi : (P.info? e).map (fun i => (i.zero, i.size, i.bytes)) = some (some z, size, bytes))
    (hzs : z.cells.size = size) (hsz : 0 < size) (v : Value) (n : Nat) (xs : List Value) (hs : a.eval s = v) (hown : Lies w F e size v n xs) (A : Option Addr) (m c : Nat) (news : List Value) (hx : a.eval x = .slice A m c)
    (hl : news.length = m * size) (hsrc : Source w A m news) (h1 : ∀ u ∈ news, u.oneCell' = true) (hbytes : (n + m) * bytes ≤ 140737488355328) (hb0 : 0 < bytes)
    (h : ∀ v' w', Lies w' (grow F w) e size v' (n + m) (xs ++ news) → Kept (fun g => F g ∧ Spare v g ∧ ∃ cur, w.heap[g]? = some (.cells cur e (0, 0))) w w' → K (a.put o.dst v') w') : o.wp P a w K Q := by
  obtain ⟨i, hi, hz, hs1, hb⟩ := info_parts hi
  obtain ⟨v', w', hr, h2, h3⟩ := run_append_any (P := P) w F t o.type e i z size bytes ht hi hz hs1 hb hzs hsz v n xs hown A m c news hl hsrc h1 hbytes hb0
  unfold Oper.wp execOp
  simp only [ho, resolve, invoke, builtin, Sem.run_bind, Sem.run_pure, Result.andThen_ok, List.map_toArray, List.map_cons, List.map_nil, hs, hx, hr]
  exact h v' w' h2 h3

theorem wpList_append_any {ops : Array Oper} {rest : List Oper} {o : Oper} {a : Act} {w : World} {Q : Exit → Act → World → Prop} (hgd : o.guard = none) (F : Nat → Prop) (s x : Operand) (t : TypeId)
    (ho : o.op = .call { callee := .builtin .append, args := #[s, x], argTypes := #[t, t] }) (e : TypeId) (size bytes : Nat) (z : Value) (ht : P.underlying t = some (.slice e)) (hi : (P.info? e).map (fun i => (i.zero, i.size, i.bytes)) = some (some z, size, bytes))
    (hzs : z.cells.size = size) (hsz : 0 < size) (v : Value) (n : Nat) (xs : List Value) (hs : a.eval s = v) (hown : Lies w F e size v n xs) (A : Option Addr) (m c : Nat) (news : List Value) (hx : a.eval x = .slice A m c)
    (hl : news.length = m * size) (hsrc : Source w A m news) (h1 : ∀ u ∈ news, u.oneCell' = true) (hbytes : (n + m) * bytes ≤ 140737488355328) (hb0 : 0 < bytes)
    (h : ∀ v' w', Lies w' (grow F w) e size v' (n + m) (xs ++ news) → Kept (fun g => F g ∧ Spare v g ∧ ∃ cur, w.heap[g]? = some (.cells cur e (0, 0))) w w' → wpList P ops Q rest (a.put o.dst v') w') : wpList P ops Q (o :: rest) a w :=
  wpList_plain hgd fun _ hK => wp_append_any F s x t ho e size bytes z ht hi hzs hsz v n xs hs hown A m c news hx hl hsrc h1 hbytes hb0 fun v' w' h2 h3 => hK _ _ (h v' w' h2 h3)

/-- 's[k:]' as the model has it. -/
def cutFrom (A : Option Addr) (n c k size : Nat) : Value := .slice (if c = k then A else A.map (·.add (k * size))) (n - k) (c - k)
theorem cutFrom_lies {w : World} {F : Nat → Prop} {e : TypeId} {size n c k : Nat} {A : Option Addr} {xs : List Value} (h : Lies w F e size (.slice A n c) n xs) (hk : k ≤ n) : Lies w F e size (cutFrom A n c k size) (n - k) (xs.drop (k * size)) := by
  refine ⟨by rw [List.length_drop, h.1, Nat.sub_mul], ?_⟩
  rcases h.2 with ⟨A', hv, rfl⟩ | ⟨g, off, cap, cur, hv, hF, hg, h1, h2, h3, h4⟩
  · injection hv with _ _ hv3
    subst hv3
    obtain rfl : k = 0 := by omega
    exact .inl ⟨_, rfl, rfl⟩
  · injection hv with hv1 _ hv3
    subst hv1; subst hv3
    by_cases hck : c = k
    · subst hck
      obtain rfl : n = c := by omega
      exact .inl ⟨some ⟨g, off, none⟩, by simp [cutFrom], by omega⟩
    · refine .inr ⟨g, off + k * size, c - k, cur, by simp [cutFrom, hck, Addr.add_lit], hF, hg, by omega, by omega, ?_, ?_⟩
      · have : k * size + (c - k) * size = c * size := by rw [← Nat.add_mul, Nat.add_sub_cancel' (by omega)]
        omega
      · rw [← h4, List.drop_take, List.drop_drop, Nat.sub_mul]
end
end Go.Proofs.YtljlkmmeedlaiaaDoor
