/- Slices of bytes: made, copied, appended to, turned into texts. Of no program: what a program's tables must say comes in as premises. -/
import Derived.Test.YthgjelpmdndceaaDoorMem
import Derived.Laws.CopyOwn
import Derived.Laws.MakeOwn
import Derived.Laws.AppendOwn
import Derived.Laws.AppendOwnNone
import Derived.Laws.BytesArg
import Derived.Laws.Strings
import Derived.Deep.AppendLies
import Derived.Maps.AppendAt
import Derived.OwnWalk
import Derived.Lib.Hide
import Derived.OpenShut
namespace Go.Proofs.YthgjelpmdndceaaDoor
open Go.RowKit

/-- Bytes as cells. -/
def cellsOf (l : List Nat) : List Value := l.map fun (x : Nat) => Value.int .u8 (x : Int)
theorem cellsOf_length (l : List Nat) : (cellsOf l).length = l.length := by simp [cellsOf]
theorem cellsOf_get (l : List Nat) {j : Nat} (h : j < l.length) : (cellsOf l)[j]? = some (.int .u8 (l.getD j 0 : Int)) := by
  simp [cellsOf, List.getD_eq_getElem?_getD, h]
theorem cellsOf_append (a b : List Nat) : cellsOf (a ++ b) = cellsOf a ++ cellsOf b := by simp [cellsOf]
theorem cellsOf_one (l : List Nat) : ∀ v ∈ cellsOf l, v.oneCell' = true := by
  intro v hv
  simp only [cellsOf, List.mem_map] at hv
  obtain ⟨x, _, rfl⟩ := hv
  rfl
theorem cellsOf_set (l : List Nat) (i v : Nat) : (cellsOf l).toArray.setIfInBounds i (.int .u8 (v : Int)) = (cellsOf (l.set i v)).toArray := by
  simp [cellsOf, List.map_set]
theorem cellsOf_inj {a b : List Nat} (h : cellsOf a = cellsOf b) : a = b := by
  induction a generalizing b with
  | nil => cases b with
    | nil => rfl
    | cons y b => simp [cellsOf] at h
  | cons x a ih => cases b with
    | nil => simp [cellsOf] at h
    | cons y b =>
      simp only [cellsOf, List.map_cons, List.cons.injEq, Value.int.injEq, true_and] at h
      rw [ih h.2]
      congr 1
      omega

theorem addr_add (b o j : Nat) : (⟨b, o, none⟩ : Addr).add j = ⟨b, o + j, none⟩ := by
  unfold Addr.add; split <;> simp_all

/-- Each is a byte. -/
def Small (l : List Nat) : Prop := ∀ x ∈ l, x < 256
theorem Small.nil : Small [] := fun _ h => by cases h
theorem Small.append {a b : List Nat} (ha : Small a) (hb : Small b) : Small (a ++ b) := fun x hx => by
  rcases List.mem_append.1 hx with h | h
  · exact ha x h
  · exact hb x h
theorem Small.take {l : List Nat} (h : Small l) (k : Nat) : Small (l.take k) := fun x hx => h x (List.mem_of_mem_take hx)
theorem Small.drop {l : List Nat} (h : Small l) (k : Nat) : Small (l.drop k) := fun x hx => h x (List.mem_of_mem_drop hx)
theorem Small.zeros (k : Nat) : Small (List.replicate k 0) := fun x hx => by rw [List.eq_of_mem_replicate hx]; decide

section
variable {w w' : World} {A : Option Addr} {n : Nat} {l : List Nat}
/-- The cells, as the laws on appends and copies ask for them. -/
theorem Bytes.at_ (h : Bytes w A n l) (hn : 0 < n) : ∃ b off, A = some ⟨b, off, none⟩ ∧ b < w.heap.size ∧ ∀ j v, (cellsOf l)[j]? = some v → w.cell? ((⟨b, off, none⟩ : Addr).add j) = some v := by
  obtain ⟨b, off, e, hb, hc⟩ := h.2.2 hn
  refine ⟨b, off, e, hb, fun j v hv => ?_⟩
  have hj : j < l.length := by
    rcases Nat.lt_or_ge j l.length with h1 | h1
    · exact h1
    · rw [List.getElem?_eq_none (by rw [cellsOf_length]; exact h1)] at hv; cases hv
  rw [cellsOf_get l hj] at hv
  rw [addr_add, hc j (by rw [← h.1]; exact hj)]
  exact hv
theorem Bytes.of_row {g t : Nat} {cs : List Nat} (h : Row w g t (cellsOf cs).toArray) (hs : Small cs) {off : Nat} (hn : off + n ≤ cs.length) : Bytes w (some ⟨g, off, none⟩) n ((cs.drop off).take n) := by
  refine ⟨by rw [List.length_take, List.length_drop]; omega, (hs.drop off).take n, fun h0 => ⟨g, off, rfl, h.lt, fun i hi => ?_⟩⟩
  refine h.cell ?_
  rw [List.getElem?_toArray, cellsOf_get cs (by omega)]
  congr 3
  simp [List.getD_eq_getElem?_getD, hi]
theorem Bytes.of_row' {g t : Nat} {cs : List Nat} (h : Row w g t (cellsOf cs).toArray) (hs : Small cs) (hn : cs.length = n) : Bytes w (some ⟨g, 0, none⟩) n cs := by
  have := Bytes.of_row h hs (off := 0) (n := n) (by omega)
  rwa [List.drop_zero, List.take_of_length_le (by omega)] at this
theorem Bytes.of_own {base e c : Nat} (h : w.ownsRow base e 1 (.slice A n c) n (cellsOf l)) (hs : Small l) : Bytes w A n l := by
  have hl : l.length = n := by have := h.1; rw [cellsOf_length] at this; omega
  refine ⟨hl, hs, fun h0 => ?_⟩
  rcases h.2 with ⟨_, h1⟩ | ⟨g, cap, cur, hv, hg, hh, _, _, hsz, ht⟩
  · omega
  · injection hv with h1 h2 h3
    subst h1
    refine ⟨g, 0, rfl, Row.lt (t := e) (cs := cur) hh, fun i hi => ?_⟩
    have hr : Row w g e cur := hh
    rw [Nat.zero_add]
    refine hr.cell ?_
    have h2 : (cellsOf l)[i]? = cur.toList[i]? := by rw [← ht]; simp [hi]
    rw [cellsOf_get l (by omega)] at h2
    rw [← Array.getElem?_toList]
    exact h2.symm
end

section
variable {P : Program} {ops : Array Oper} {rest : List Oper} {o : Oper} {a : Act} {w : World} {Q : Exit → Act → World → Prop}
/-- 'make([]byte, n)'. -/
theorem wpList_make_bytes (hgd : o.guard = none) (t e : TypeId) (x : Operand) (ho : o.op = .makeSlice t x x) (n : Nat) (hx : a.eval x = .int .i64 n) (ht : P.underlying t = some (.slice e))
    (hi : (P.info? e).map (fun i => (i.zero, i.size, i.bytes)) = some (some (.int .u8 0), 1, 1)) (hn : n ≤ 281474976710656)
    (h : wpList P ops Q rest (a.put o.dst (.slice (some ⟨w.heap.size, 0, none⟩) n n)) (w.alloc (.cells (cellsOf (List.replicate n 0)).toArray e))) : wpList P ops Q (o :: rest) a w := by
  obtain ⟨i, hi, hz, hs, hb⟩ := info_parts hi
  have hr := run_make (P := P) w t e i _ ht hi hz .i64 .i64 n n (by omega) (Int.le_refl _) (by rw [hb]; omega) (by omega)
  rw [hs, Nat.mul_one] at hr
  have e1 : madeCells (Value.int .u8 0).cells n = (cellsOf (List.replicate n 0)).toArray := by
    apply Array.toList_inj.1
    have := toList_madeCells_one (.int .u8 0) n
    simp only [cellsOf, List.map_replicate]
    exact this
  simp only [Int.toNat_natCast] at hr
  rw [e1] at hr
  refine wpList_plain hgd fun K hK => ?_
  unfold Oper.wp
  simp [execOp, ho, hx, hr, Result.andThen]
  exact hK _ _ h

/-- 'copy(d, s)' of all of s into a row of bytes of the call's own, from place 'off' on. -/
theorem wpList_copy_bytes (hgd : o.guard = none) (d s : Operand) (t e : TypeId) (ho : o.op = .call { callee := .builtin .copy, args := #[d, s], argTypes := #[t, t] }) (ht : P.underlying t = some (.slice e))
    (hi : (P.info? e).map (·.size) = some 1) (g off dn dc : Nat) (A : Option Addr) (n c : Nat) (l cur : List Nat) (hd : a.eval d = .slice (some ⟨g, off, none⟩) dn dc) (hs : a.eval s = .slice A n c)
    (hA : Bytes w A n l) (hle : n ≤ dn) (hg : Row w g e (cellsOf cur).toArray) (hfit : off + n ≤ cur.length) (B : Nat) (w0 : World) (hb : Below B w0 w) (hBg : B ≤ g)
    (h : ∀ w', Row w' g e (cellsOf (cur.take off ++ (l ++ cur.drop (off + n)))).toArray → Below B w0 w' → wpList P ops Q rest (a.put o.dst (goInt n)) w') : wpList P ops Q (o :: rest) a w := by
  have hlen : (cellsOf l).length = n := by rw [cellsOf_length, hA.len]
  refine wpList_copy_splice hgd d s t t ho e ht hi (some ⟨g, off, none⟩) A dn dc n c hd hs g off (cellsOf cur) e hg (cellsOf l) (by rw [hlen]; exact (Nat.min_eq_left hle).symm) ?_ (by rw [hlen, cellsOf_length]; exact hfit) (cellsOf_one l) B w0 hb hBg ?_
  · intro h0
    obtain ⟨b, o', e1, _, hc⟩ := hA.at_ (by omega)
    exact ⟨rfl, _, e1, hc⟩
  · intro w' h1 h2
    rw [hlen]
    refine h w' ?_ h2
    have h3 := h1.out
    have e1 : splice (cellsOf cur) off (cellsOf l) = cellsOf (cur.take off ++ (l ++ cur.drop (off + n))) := by
      unfold splice
      rw [hlen]
      simp [cellsOf]
    rw [e1] at h3
    exact h3

/-- 'append(s, x...)' onto a row of bytes of the call's own; x may be nil or empty. -/
theorem wpList_append_bytes (hgd : o.guard = none) (s x : Operand) (t e : TypeId) (ho : o.op = .call { callee := .builtin .append, args := #[s, x], argTypes := #[t, t] }) (ht : P.underlying t = some (.slice e))
    (hi : (P.info? e).map (fun i => (i.zero, i.size, i.bytes)) = some (some (.int .u8 0), 1, 1)) (base : Nat) (v : Value) (k : Nat) (xs : List Nat) (hs : a.eval s = v) (hown : w.ownsRow base e 1 v k (cellsOf xs))
    (A : Option Addr) (n c : Nat) (l : List Nat) (hx : a.eval x = .slice A n c) (hA : Bytes w A n l) (hnil : A = none → n = 0 ∧ c = 0) (hle : k + n ≤ 140737488355328) (hbase : base ≤ w.heap.size)
    (h : ∀ v' w', w'.ownsRow base e 1 v' (k + n) (cellsOf (xs ++ l)) → w.grownBy w' v.ownBlock → (v'.ownBlock = v.ownBlock ∨ v'.ownBlock = some w.heap.size) → (v = .slice none 0 0 → n = 0 → v' = .slice none 0 0) → wpList P ops Q rest (a.put o.dst v') w') : wpList P ops Q (o :: rest) a w := by
  obtain ⟨i, hi, hz, hs1, hb⟩ := info_parts hi
  rcases A with _ | ad
  · obtain ⟨rfl, rfl⟩ := hnil rfl
    have hl : l = [] := List.eq_nil_of_length_eq_zero hA.len
    subst hl
    refine wpList_append_own_none hgd s x t ho base e i 1 ht hi v k (cellsOf xs) hs hown hx ?_
    have := h v w (by simpa using hown) (World.grownBy.refl w _) (.inl rfl) (fun h1 _ => h1)
    rwa [hs] at *
  · refine wpList_append_own_at w hgd s x t ho base e i _ 1 1 ht hi hz hs1 hb rfl (by decide) v k (cellsOf xs) hs hown ad n c (cellsOf l) hx (by rw [cellsOf_length, hA.len]; omega) ?_ (cellsOf_one l) (by unfold maxLen; omega) (by omega) hbase ?_
    · intro j u hu
      have hn : 0 < n := by
        rcases Nat.eq_zero_or_pos n with h0 | h0
        · have : l = [] := List.eq_nil_of_length_eq_zero (by rw [hA.len, h0])
          subst this; simp [cellsOf] at hu
        · exact h0
      obtain ⟨b, off, e1, _, hc⟩ := hA.at_ hn
      injection e1 with e1
      subst e1
      exact hc j u hu
    · intro v' w' h1 h2 h3 h4
      exact h v' w' (by rw [cellsOf_append]; exact h1) h2 h4 (fun a b => h3.2 ⟨a, b⟩)
end

/-- Bytes as a text. -/
def textOf (l : List Nat) : ByteArray := ⟨(l.map UInt8.ofNat).toArray⟩
theorem textOf_inj {a b : List Nat} (ha : Small a) (hb : Small b) (h : (textOf a).toList = (textOf b).toList) : a = b := by
  have h1 : a.map UInt8.ofNat = b.map UInt8.ofNat := by
    have e : ∀ l, (textOf l).toList = l.map UInt8.ofNat := fun l => by exact ByteArray.toList_mk _
    rw [← e, ← e, h]
  have key : ∀ l, Small l → (l.map UInt8.ofNat).map UInt8.toNat = l := by
    intro l hl
    rw [List.map_map]
    conv => rhs; rw [← List.map_id l]
    refine List.map_congr_left fun x hx => ?_
    have := hl x hx
    simp [UInt8.toNat_ofNat']
    omega
  rw [← key a ha, ← key b hb, h1]
/-- 'string(b)'. -/
theorem run_text {P : Program} {w : World} {A : Option Addr} {n : Nat} {l : List Nat} (hA : Bytes w A n l) (src dst e : TypeId) (c : Nat) (hs : P.underlying src = some (.slice e)) (he : P.underlying e = some (.int .u8)) (hd : P.underlying dst = some .string) :
    (convert src dst (.slice A n c)).run P w = .ok (.string (textOf l)) w := by
  rcases Nat.eq_zero_or_pos n with h0 | h0
  · subst h0
    have hl : l = [] := List.eq_nil_of_length_eq_zero hA.len
    subst hl
    rcases A with _ | ad
    · exact run_convert_bytes_nil w src e hs he 0 c dst hd
    · rw [run_convert_bytes_string w src dst e _ 0 c hs he hd, run_bytesToString w ad 0 c [] (by simpa using run_loadCells_list (P := P) w ad [] (by simp))]
      rfl
  · obtain ⟨b, off, rfl, _, hc⟩ := hA.2.2 h0
    rw [run_convert_bytes_arg w src e hs he b off n c (l.map fun (x : Nat) => (x : Int)) (by rw [List.length_map, hA.len]) (fun i hi => by
      rw [hc i hi]
      congr 2
      simp [List.getD_eq_getElem?_getD, hA.len, hi]) dst hd]
    congr 2
    simp [strOfNums, textOf]

/-- A literal's bytes, in the block that was laid last. -/
theorem Bytes.of_lit (w : World) (e : TypeId) (C : Array Value) (fr : Nat × Nat) (l : List Nat) (n : Nat) (hC : C = (cellsOf l).toArray) (hs : Small l) (hn : l.length = n) : Bytes (w.alloc (.cells C e fr)) (some ⟨w.heap.size, 0, none⟩) n l := by
  subst hC
  refine ⟨hn, hs, fun h0 => ⟨_, 0, rfl, by simp, fun i hi => ?_⟩⟩
  rw [cell_of_row _ w.heap.size (0 + i) _ e fr (heap_alloc_new w _), Nat.zero_add, List.getElem?_toArray]
  exact cellsOf_get l (by omega)

/-- A slice of bytes that came in, as the row's step opens it. -/
theorem Bytes.of_arg {w : World} {a0 : Option Addr} {len cap : Nat} {zs : List Int}
    (h : (a0 = none ∧ len = 0 ∧ cap = 0 ∧ zs = []) ∨ ∃ x, a0 = some x ∧ len ≤ cap ∧ cap ≤ maxLen ∧ zs.length = cap ∧ (∀ i, i < zs.length → w.cell? (x.add i) = some (.int .u8 (zs.getD i 0))) ∧ ∀ n ∈ zs, (Lit.int .u8 n).wf = true) :
    ∃ l, Bytes w a0 len l ∧ (a0 = none → len = 0 ∧ cap = 0) ∧ len ≤ cap ∧ cap ≤ 9223372036854775807 := by
  rcases h with ⟨rfl, rfl, rfl, rfl⟩ | ⟨x, rfl, hl, hm, hz, hc, hw⟩
  · exact ⟨[], Bytes.nil w _, fun _ => ⟨rfl, rfl⟩, Nat.le_refl _, by omega⟩
  · have hb : ∀ n ∈ zs, 0 ≤ n ∧ n < 256 := fun n hn => by
      have := hw n hn
      have h1 := (bounds_u8 this)
      omega
    refine ⟨(zs.take len).map Int.toNat, ⟨by rw [List.length_map, List.length_take]; omega, ?_, fun h0 => ?_⟩, (fun h => by cases h), hl, by unfold maxLen at hm; omega⟩
    · intro y hy
      obtain ⟨n, hn, rfl⟩ := List.mem_map.1 hy
      have := hb n (List.mem_of_mem_take hn)
      omega
    · obtain ⟨b, off, spot⟩ := x
      have hspot : spot = none := by simpa [Addr.add] using World.cell?_spot (hc 0 (by omega))
      subst hspot
      refine ⟨b, off, rfl, block_lt_of_cell (hc 0 (by omega)), fun i hi => ?_⟩
      have h1 := hc i (by omega)
      rw [addr_add] at h1
      rw [h1]
      have h2 := hb (zs.getD i 0) (by
        rw [List.getD_eq_getElem?_getD, List.getElem?_eq_getElem (by omega)]
        exact List.getElem_mem _)
      have hiz : i < zs.length := by omega
      have e1 : zs.getD i 0 = zs[i] := by rw [List.getD_eq_getElem?_getD, List.getElem?_eq_getElem hiz]; rfl
      have e2 : ((zs.take len).map Int.toNat).getD i 0 = zs[i].toNat := by
        rw [List.getD_eq_getElem?_getD, List.getElem?_map, List.getElem?_take, if_pos hi, List.getElem?_eq_getElem hiz]; rfl
      rw [e2]
      rw [e1] at h2 ⊢
      rw [Int.toNat_of_nonneg h2.1]

/-- What the call owns stays so behind a call that touches nothing old. -/
theorem own_call {w w' : World} {base e k : Nat} {v : Value} {xs : List Value} (h : w.ownsRow base e 1 v k xs) (hb : Below w.heap.size w w') : w'.ownsRow base e 1 v k xs := by
  refine ⟨h.1, ?_⟩
  rcases h.2 with h1 | ⟨g, cap, cur, hv, hg, hh, h2, h3, h4, h5⟩
  · exact .inl h1
  · exact .inr ⟨g, cap, cur, hv, hg, (hb.block g (Row.lt (t := e) (cs := cur) hh)).trans hh, h2, h3, h4, h5⟩
theorem own_block {w : World} {base e k : Nat} {v : Value} {xs : List Value} (h : w.ownsRow base e 1 v k xs) : ∀ g, v.ownBlock = some g → base ≤ g := by
  intro g hg
  rcases h.2 with ⟨h1, _⟩ | ⟨g', cap, cur, h1, h2, _⟩
  · rw [h1] at hg; simp [Value.ownBlock] at hg
  · rw [h1] at hg; simp [Value.ownBlock] at hg; omega
/-- What an append has left: a slice over a block of the call's own. -/
theorem own_form {w : World} {base e k : Nat} {v : Value} {l : List Nat} (h : w.ownsRow base e 1 v k (cellsOf l)) (hk : 0 < k) :
    ∃ g cap, v = .slice (some ⟨g, 0, none⟩) k cap ∧ base ≤ g ∧ k ≤ cap ∧ cap ≤ maxLen := by
  rcases h.2 with ⟨_, h1⟩ | ⟨g, cap, cur, hv, hg, _, h2, h3, _, _⟩
  · omega
  · exact ⟨g, cap, hv, hg, h2, h3⟩
theorem Bytes.snoc {w : World} {A : Option Addr} {n x : Nat} {l : List Nat} (h : Bytes w A (n + 1) (l ++ [x])) : Bytes w A n l ∧ l.length = n := by
  have hl : l.length = n := by have := h.len; simp at this; omega
  have := h.take (k := n) (by omega)
  rw [← hl, List.take_left, hl] at this
  exact ⟨this, hl⟩
end Go.Proofs.YthgjelpmdndceaaDoor
