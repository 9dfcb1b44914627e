/- Layer 2: operations on pieces and sectors. -/
import Derived.Test.YtljlkmmeedlaiaaDoorPt04
import Derived.Deep.RegionHeld3
import Derived.Deep.RegionLaw
import Derived.Deep.DeepCutAuto
namespace Go.Proofs.YtljlkmmeedlaiaaDoor
open Go.RowKit

theorem run_buildPiece (a : Int) (w : World) : (Instr.build 93 #[(0, .int .i64 a)]).run Tryd.prog w = .ok (pieceV a zsec) w := by kernel_rfl
theorem wpList_build_piece {ops : Array Oper} {rest : List Oper} {o : Oper} {a : Act} {w : World} {Q : Exit → Act → World → Prop} (hgd : o.guard = none) (x : Operand) (ho : o.op = .build 93 #[(0, x)]) (k : Int) (hx : a.eval x = .int .i64 k)
    (h : wpList Tryd.prog ops Q rest (a.put o.dst (pieceV k zsec)) w) : wpList Tryd.prog ops Q (o :: rest) a w := by
  refine wpList_plain hgd fun K hK => ?_
  unfold Oper.wp execOp
  simp [ho, hx, run_buildPiece, Result.andThen]
  exact hK _ _ h
theorem fold_set (off : Nat) : ∀ (l : List Value) (k : Nat) (cs : Array Value), off + k + l.length ≤ cs.size → ((l.zipIdx k).foldl (fun cs (x : Value × Nat) => cs.setIfInBounds (off + x.2) x.1) cs).toList = cs.toList.take (off + k) ++ (l ++ cs.toList.drop (off + k + l.length))
  | [], k, cs, _ => by simp
  | v :: r, k, cs, h => by
    have h1 : off + k < cs.size := by simp at h; omega
    rw [List.zipIdx_cons, List.foldl_cons, fold_set off r (k + 1) _ (by rw [Array.size_setIfInBounds]; rw [List.length_cons] at h; omega)]
    simp only [Array.toList_setIfInBounds]
    rw [show off + (k + 1) = (off + k) + 1 by omega, List.take_succ_eq_append_getElem (by rw [List.length_set, Array.length_toList]; exact h1), List.take_set_of_le (Nat.le_refl _), List.drop_set_of_lt (by omega)]
    simp
    congr 1
    omega
theorem fill_one (place : Nat → Option (Nat × Nat)) (cells : Array Value) (i : Nat) (v : Value) (hp : place i = some (0, v.cells.size)) (hs : v.cells.size = cells.size) : Instr.fill place cells [(i, v)] = some v.cells := by
  have h2 : (v.cells.zipIdx.foldl (fun cs (x : Value × Nat) => cs.setIfInBounds (0 + x.2) x.1) cells) = v.cells := by
    apply Array.toList_inj.1
    rw [← Array.foldl_toList, Array.toList_zipIdx, fold_set 0 v.cells.toList 0 cells (by simp; omega)]
    simp
    omega
  simp only [Instr.fill, hp]
  simp only [Nat.zero_add] at h2 ⊢
  rw [if_neg (by simp; omega)]
  exact congrArg some h2
theorem run_buildPieces (k : Int) (s : List Nat) (hs : Sec s) (w : World) : (Instr.buildSlice 76 1 #[(0, pieceV k s)]).run Tryd.prog w = .ok (.slice (some ⟨w.heap.size, 0, none⟩) 1 1) (w.alloc (.cells (pieceCells k s).toArray 93)) := by
  obtain ⟨i, hi, hz, hs1, hb⟩ := info_parts infoPiece
  have hc : (pieceV k s).cells = (pieceCells k s).toArray := rfl
  have hl : (pieceV k s).cells.size = 513 := by rw [hc]; simpa using pieceCells_length hs
  have hf := fill_one (fun i => some (i * 513, 513)) ((Array.range (1 * 513)).map ((pieceV 0 zsec).cells[· % (pieceV 0 zsec).cells.size]!)) 0 (pieceV k s) (by rw [hl]) (by rw [hl]; simp)
  rw [hc] at hf
  have hsz : ∀ w : World, (sizeOf 93).run Tryd.prog w = .ok 513 w := fun w => by kernel_rfl
  have hz := zeroPiece
  generalize pieceV 0 zsec = Z at hf hz
  unfold Instr.buildSlice
  simp only [Sem.run_bind, run_underlying Tryd.underlying76, Result.andThen_ok, hsz]
  rw [if_neg (by decide), if_neg (by decide)]
  simp only [Sem.run_bind, Result.andThen_ok, hz, Sem.run_pure, hf]
  simp [newRow]
theorem wp_build_pieces {o : Oper} {a : Act} {w : World} {K : Act → World → Prop} {Q : Exit → Act → World → Prop} (x : Operand) (ho : o.op = .buildSlice 76 1 #[(0, x)]) (k : Int) (s : List Nat) (hs : Sec s) (hx : a.eval x = pieceV k s)
    (h : K (a.put o.dst (.slice (some ⟨w.heap.size, 0, none⟩) 1 1)) (w.alloc (.cells (pieceCells k s).toArray 93))) : o.wp Tryd.prog a w K Q := by
  unfold Oper.wp execOp
  simp [ho, hx, run_buildPieces k s hs w, Result.andThen]
  exact h
theorem secPiece {k : Int} {s : List Nat} {w : World} {g : Nat} (h : Row w g 93 (pieceCells k s).toArray) : w.rangeAt g 1 (cellsOf s) := fun j v hv => h.cell (by
  rw [List.getElem?_toArray, pieceCells, show 1 + j = j + 1 by omega, List.getElem?_cons_succ]; exact hv)
theorem rowPiece {k : Int} {s : List Nat} {w : World} {g : Nat} (h : Row w g 93 (pieceCells k s).toArray) : w.rangeAt g 0 (pieceCells k s) := fun j v hv => h.cell (by
  rw [List.getElem?_toArray, Nat.zero_add]; exact hv)
theorem atPiece {k : Int} {s : List Nat} {w : World} {g : Nat} (h : Row w g 93 (pieceCells k s).toArray) : w.cell? ⟨g, 0, none⟩ = some (.int .i64 k) := h.cell rfl
theorem sizeU8 : (Tryd.prog.info? 5).map (·.size) = some 1 := by kernel_rfl
theorem infoSec1 : (Tryd.prog.info? 90).map (·.size) = some 512 := by kernel_rfl
theorem infoPiece1 : (Tryd.prog.info? 93).map (·.size) = some 513 := by kernel_rfl
/-- A new variable of a row's type, and the store of its first value: two operations. -/
theorem wpList_alloc_store {P : Program} {ops : Array Oper} {rest : List Oper} {o o' : Oper} {a : Act} {w : World} {Q : Exit → Act → World → Prop} (hgd : o.guard = none) (hgd' : o'.guard = none) (ty : TypeId) (x y : Operand)
    (ho : o.op = .alloc ty) (ho' : o'.op = .store ty x y) (zs cs : Array Value) (hz : ∀ w, (zeroValue ty).run P w = .ok (.agg zs) w) (hi : (P.info? ty).map (·.size) = some cs.size) (hs : zs.size = cs.size) (h1 : cs.all (·.oneCell') = true)
    (hx : (a.put o.dst (.pointer (some ⟨w.heap.size, 0, none⟩))).eval x = .pointer (some ⟨w.heap.size, 0, none⟩)) (hy : (a.put o.dst (.pointer (some ⟨w.heap.size, 0, none⟩))).eval y = .agg cs)
    (h : ∀ g w', Hid (g = w.heap.size) → Row w' g ty cs → Below w.heap.size w w' → w'.heap.size = g + 1 → wpList P ops Q rest ((a.put o.dst (.pointer (some ⟨g, 0, none⟩))).put o'.dst undef) w') : wpList P ops Q (o :: o' :: rest) a w := by
  refine wpList_alloc_tab hgd ty ho zs hz ?_
  refine wpList_store_row hgd' ty x y ho' w.heap.size cs hx hy ty zs (Row.new _ _ _) hi hs h1 ?_
  exact h _ _ (Lib.hid rfl) (setRow_heap _ _ _ _ _ _ (Row.new _ _ _)) (((Below.refl _ _).alloc (Nat.le_refl _) _).setRow (Nat.le_refl _) _) (by simp)
theorem splice_piece (k : Int) (s : List Nat) (hs : Sec s) : splice (pieceCells k zsec) 1 (cellsOf s) = pieceCells k s := by
  have e : (pieceCells k zsec).drop (1 + (cellsOf s).length) = [] := List.drop_of_length_le (by rw [pieceCells_length Sec.zero, cellsOf_length, hs.1]; omega)
  unfold splice
  rw [e, List.append_nil]
  rfl
theorem step_append_any {P : Program} {ops : Array Oper} {o : Oper} {a : Act} {w : World} {K : Act → World → Prop} {Q : Exit → Act → World → Prop} {E : Prop} (hgd : o.guard = none) (F : Nat → Prop) (s x : Operand) (t : TypeId)
    (ho : o.op = .call { callee := .builtin .append, args := #[s, x], argTypes := #[t, t] }) (e : TypeId) (size bytes : Nat) (z : Value) (ht : P.underlying t = some (.slice e)) (hi : (P.info? e).map (fun i => (i.zero, i.size, i.bytes)) = some (some z, size, bytes))
    (hzs : z.cells.size = size) (hsz : 0 < size) (v : Value) (n : Nat) (xs : List Value) (hs : a.eval s = v) (hown : Lies w F e size v n xs) (A : Option Addr) (m c : Nat) (news : List Value) (hx : a.eval x = .slice A m c)
    (hl : news.length = m * size) (hsrc : Source w A m news) (h1 : ∀ u ∈ news, u.oneCell' = true) (hbytes : (n + m) * bytes ≤ 140737488355328) (hb0 : 0 < bytes)
    (h : ∀ v' w', Lies w' (grow F w) e size v' (n + m) (xs ++ news) → Kept (fun g => F g ∧ Spare v g ∧ ∃ cur, w.heap[g]? = some (.cells cur e (0, 0))) w w' → K (a.put o.dst v') w') :
    if Region.wanted o (yielded ops a.tmps) = true then Oper.wp P o a w K Q else E := by
  have hw : Region.wanted o (yielded ops a.tmps) = true := by simp [Region.wanted, hgd]
  rw [if_pos hw]
  exact wp_append_any F s x t ho e size bytes z ht hi hzs hsz v n xs hs hown A m c news hx hl hsrc h1 hbytes hb0 h

section
variable {w w' w1 : World} {F : Nat → Prop} {p : Nat} {d : D} {t : Parts}
/-- A piece more. -/
theorem DiskIs.appended (h : DiskIs w F p d t) {v : Value} {k : Int} {s : List Nat} (hk0 : 0 ≤ k) (hk1 : k < d.size) (hs : Sec s) (hl : Lies w' (grow F w) 93 513 v (d.pieces.length + 1) (pcs d.pieces ++ pieceCells k s))
    (hk : Kept (fun g => F g ∧ Spare t.vp g ∧ ∃ cur, w.heap[g]? = some (.cells cur 93 (0, 0))) w w') :
    DiskIs (w'.setCell ⟨p, 3, none⟩ v) (grow F w) p { d with pieces := d.pieces ++ [(k, s)] } { t with vp := v } := by
  have hrow : Row w' p 78 (diskCells d t) := h.row.kept hk fun ⟨_, _, cur, hc⟩ => by
    have := h.row; unfold Row at this; rw [this] at hc; injection hc with hc; injection hc with _ hc _; exact absurd hc (by decide)
  have hlast : IsMap w' t.bl d.lasting := h.last.kept hk fun ⟨_, _, cur, hc⟩ => by
    obtain ⟨es, clock, hb, _⟩ := h.last; rw [hb] at hc; cases hc
  have hread : IsMap w' t.br d.read := h.read.kept hk fun ⟨_, _, cur, hc⟩ => by
    obtain ⟨es, clock, hb, _⟩ := h.read; rw [hb] at hc; cases hc
  have hfat : Lies w' F 75 2 t.vf d.fates.length (fcs d.fates) := h.fates.same fun g cur _ hh => hk.heap hh fun ⟨_, _, cur', hc⟩ => by
    rw [hh] at hc; injection hc with hc; injection hc with _ hc _; exact absurd hc (by decide)
  have k1 := Kept.cell w' p 3 v
  refine ⟨⟨h.good.pos, h.good.most, ?_⟩, ?_, .inl h.fp, .inl h.fl, .inl h.fr, h.ne, hlast.row hrow k1, hread.row hrow k1, ?_, (hfat.row hrow (by decide) k1).mono fun _ => grow.old⟩
  · intro q hq
    rcases List.mem_append.1 hq with hq | hq
    · exact h.good.piece q hq
    · simp at hq; subst hq; exact ⟨hk0, hk1, hs⟩
  · have := hrow.set_ 3 v
    simpa [diskCells] using this
  · have := hl.row hrow (by decide) k1
    simpa [pcs] using this
theorem kept_appended (h : DiskIs w F p d t) {v : Value} (hk : Kept (fun g => F g ∧ Spare t.vp g ∧ ∃ cur, w.heap[g]? = some (.cells cur 93 (0, 0))) w w') : Kept F w (w'.setCell ⟨p, 3, none⟩ v) :=
  (hk.mono fun _ _ h => h.1).setCell (grow.old h.fp) _
theorem DiskIs.row_appended (h : DiskIs w F p d t) (hk : Kept (fun g => F g ∧ Spare t.vp g ∧ ∃ cur, w.heap[g]? = some (.cells cur 93 (0, 0))) w w') : Row w' p 78 (diskCells d t) :=
  h.row.kept hk fun ⟨_, _, cur, hc⟩ => by
    have := h.row; unfold Row at this; rw [this] at hc; injection hc with hc; injection hc with _ hc _; exact absurd hc (by decide)
theorem row_ne {g : Nat} {e e' : TypeId} {cs cs' : Array Value} (h : Row w p e cs) (h' : Row w g e' cs') (he : e ≠ e') : p ≠ g := fun x => by
  subst x; unfold Row at h h'; rw [h] at h'; injection h' with h'; injection h' with _ h' _; exact he h'
/-- Behind an append of a piece that lies in block g. -/
theorem mid_of {g : Nat} {k : Int} {s : List Nat} {v : Value} (h : DiskIs w (grow F w1) p d t) (hkw : Kept F w1 w) (hrow : Row w g 93 (pieceCells k s).toArray) (hsp : ¬ Spare t.vp g) (hk0 : 0 ≤ k) (hk1 : k < d.size) (hs : Sec s)
    (hl : Lies w' (grow (grow F w1) w) 93 513 v (d.pieces.length + 1) (pcs d.pieces ++ pieceCells k s))
    (hk : Kept (fun g => grow F w1 g ∧ Spare t.vp g ∧ ∃ cur, w.heap[g]? = some (.cells cur 93 (0, 0))) w w') :
    ∃ vp, DiskIs (w'.setCell ⟨p, 3, none⟩ v) (grow F w1) p { d with pieces := d.pieces ++ [(k, s)] } { t with vp := vp } ∧ Kept F w1 (w'.setCell ⟨p, 3, none⟩ v) ∧ Row (w'.setCell ⟨p, 3, none⟩ v) g 93 (pieceCells k s).toArray := by
  have hpg := row_ne h.row hrow (by decide)
  refine ⟨v, (h.appended hk0 hk1 hs hl hk).mono ?_, hkw.trans (kept_appended h hk), ((hrow.kept hk fun hh => hsp hh.2.1).kept (Kept.cell _ _ _ _) fun e => hpg e.symm)⟩
  intro x hx
  rcases hx with hx | hx
  · exact hx
  · exact .inr (Nat.le_trans hkw.size hx)
/-- What is read of a sector turns. -/
theorem DiskIs.readPut (h : DiskIs w F p d t) {f : Int → List Nat} (hm : IsMap w' t.br f) (hk : Kept (· = t.br) w w') : DiskIs w' F p { d with read := f } t :=
  ⟨⟨h.good.pos, h.good.most, h.good.piece⟩, h.row.kept hk (fun e => by obtain ⟨es, clock, hb, _⟩ := h.read; have := h.row; unfold Row at this; rw [e, hb] at this; cases this), h.fp, h.fl, h.fr, h.ne, h.last.kept hk h.ne, hm, h.pieces.map h.read hk, h.fates.map h.read hk⟩
end
end Go.Proofs.YtljlkmmeedlaiaaDoor
