/- Layer 3: marks and heads: taken off sectors, laid on them. -/
import Derived.Test.YtljlkmmeedlaiaaDoorPt02
import Derived.Laws.Rows
namespace Go.Proofs.YtljlkmmeedlaiaaDoor
open Go.RowKit

theorem Row.new1 (w : World) (o : Obj) (t : TypeId) (cs : Array Value) : Row ((w.alloc o).alloc (.cells cs t)) (w.heap.size + 1) t cs := by
  have := Row.new (w.alloc o) t cs
  rwa [show (w.alloc o).heap.size = w.heap.size + 1 by simp] at this
theorem infoMark : (Tryd.prog.info? 108).map (·.size) = some 2 := by kernel_rfl
theorem infoHead : (Tryd.prog.info? 66).map (·.size) = some 2 := by kernel_rfl
abbrev markV (r p : Nat) : Value := .agg #[.int .u64 r, .int .u64 p]
/-- The run and the place that bytes begin with. -/
def runL (l : List Nat) : Nat := le (l.take 8)
def plL (l : List Nat) : Nat := le ((l.drop 8).take 4)
theorem LeftAt.row {w w' : World} {q g off n c k : Nat} {t : TypeId} {v0 : Value} (h : LeftAt w q g off n c k w') (hq : Row w q t #[v0]) (hk : k < c) : Row w' q t #[slc g (off + k) (n - k) (c - k)] := by
  obtain ⟨v, rfl, h1⟩ := h
  have := hq.set_ 0 v
  rw [h1 hk] at this ⊢
  exact this
theorem LeftAt.kept {w w' : World} {q g off n c k : Nat} (h : LeftAt w q g off n c k w') : Kept (· = q) w w' := by
  obtain ⟨v, rfl, _⟩ := h
  exact Kept.cell _ _ _ _

set_option maxHeartbeats 1000000 in
theorem markOf_ok (g off n c : Nat) (l : List Nat) (w : World) (hA : Bytes w (some ⟨g, off, none⟩) n l) (hn : 12 ≤ n) (hnc : n ≤ c) (hc : c ≤ maxLen) :
    Calls Tryd.prog 62 #[slc g off n c] w fun e w' => e = .returned (markV (runL l) (plL l)) ∧ Below w.heap.size w w' := by
  have hg : g < w.heap.size := by
    obtain ⟨b, o, e, hb, _⟩ := hA.2.2 (by omega)
    injection e with e; injection e with e; omega
  have HA := Lib.hid hA
  clear hA
  go_enter Tryd.func62, Tryd.ntmps62
  go_wp2_with fail
  refine (taker_ok _ n c _).mono ?_
  rintro e w1 ⟨rfl, rfl⟩
  go_wp2_with fail
  have hb0 : Below w.heap.size w ((w.alloc (.cells #[.int .u64 0, .int .u64 0] 108)).alloc (.cells #[slc g off n c] 41)) := ((Below.refl _ _).alloc (Nat.le_refl _) _).alloc (by simp) _
  have hq : Row ((w.alloc (.cells #[.int .u64 0, .int .u64 0] 108)).alloc (.cells #[slc g off n c] 41)) (w.heap.size + 1) 41 #[slc g off n c] := Row.new1 _ _ _ _
  have hr : Row ((w.alloc (.cells #[.int .u64 0, .int .u64 0] 108)).alloc (.cells #[slc g off n c] 41)) w.heap.size 108 #[.int .u64 0, .int .u64 0] := (Row.new _ _ _).alloc _
  have hA1 := HA.out.below hb0
  refine (take_ok (w.heap.size + 1) g off n c 8 l _ hq hA1 (by omega) (by omega) hnc hc).mono ?_
  generalize (w.alloc (.cells #[.int .u64 0, .int .u64 0] 108)).alloc (.cells #[slc g off n c] 41) = w1 at *
  rintro e w2 ⟨rfl, hl⟩
  have hq2 := hl.row hq (by omega)
  have hr2 := hr.kept hl.kept (by omega)
  have hA2 := (hA1.kept hl.kept (fun _ x e => by injection e with e; subst e; show g ≠ _; omega)).drop (k := 8) (by omega)
  have hb2 := hb0.trans (hl.kept.below (B := w.heap.size) (by have := hb0.size; omega) (fun k hk => by omega))
  clear hq hr hA1 hb0 hl
  have HQ2 := Lib.hid hq2
  have HR2 := Lib.hid hr2
  have HA2 := Lib.hid hA2
  have HB2 := Lib.hid hb2
  clear hq2 hr2 hA2 hb2
  go_wp2_with fail
  refine (take_ok (w.heap.size + 1) g (off + 8) (n - 8) (c - 8) 4 (l.drop 8) _ HQ2.out HA2.out (by omega) (by omega) (by omega) (by omega)).mono ?_
  rintro e w3 ⟨rfl, hl3⟩
  have hr3 := HR2.out.kept hl3.kept (by omega)
  have HB3 := Lib.hid (HB2.out.trans (hl3.kept.below (B := w.heap.size) HB2.out.size (fun k hk => by omega)))
  have HR3 := Lib.hid hr3
  have hf0 := hr3.free 0
  have hf1 := hr3.free 1
  have h0 := hr3.cell (i := 0) (v := .int .u64 0) rfl
  have h1 := hr3.cell (i := 1) (v := .int .u64 0) rfl
  have hrow : ∀ a b : Nat, Row ((w3.setCell ⟨w.heap.size, 0, none⟩ (.int .u64 a)).setCell ⟨w.heap.size, 1, none⟩ (.int .u64 b)) w.heap.size 108 #[.int .u64 a, .int .u64 b] := fun a b => by
    have := (hr3.set_ 0 (.int .u64 a)).set_ 1 (.int .u64 b)
    simpa using this
  have HROW := Lib.hid hrow
  clear HQ2 HR2 HA2 HB2 hl3 hr3 HA hrow
  go_wp2_with fail
  refine bodyPost_ret (results_cell_row rfl _ _ w.heap.size 108 #[.int .u64 (runL l), .int .u64 (plL l)] (0, 0) _ rfl (HROW.out _ _) Tryd.underlying108 rfl infoMark) rfl ?_
  exact ⟨rfl, (HB3.out.setCell (p := ⟨w.heap.size, 0, none⟩) (Nat.le_refl _) _).setCell (p := ⟨w.heap.size, 1, none⟩) (Nat.le_refl _) _⟩

/-- A mark is laid on bytes. -/
structure Put (w : World) (g off : Nat) (cur xs : List Nat) (w' : World) : Prop where
  row : Row w' g 5 (cellsOf (over cur off xs)).toArray
  kept : Kept (fun x => x = g ∨ w.heap.size ≤ x) w w'
set_option maxHeartbeats 1000000 in
theorem put_mark (r p g off n c : Nat) (cur : List Nat) (w : World) (hg : Row w g 5 (cellsOf cur).toArray) (hfit : off + n ≤ cur.length) (hn : 12 ≤ n) (hnc : n ≤ c) (hc : c ≤ maxLen) :
    Calls Tryd.prog 61 #[markV r p, slc g off n c] w fun e w' => (∃ x, e = .returned x) ∧ Put w g off cur (leB 8 r ++ leB 4 p) w' := by
  have hgl := hg.lt
  have HG := Lib.hid hg
  clear hg
  go_enter Tryd.func61, Tryd.ntmps61
  go_wp2_with fail
  refine (putter_ok _ n c _).mono ?_
  rintro e w1 ⟨rfl, rfl⟩
  have hb0 : Below w.heap.size w ((w.alloc (.cells #[.int .u64 r, .int .u64 p] 108)).alloc (.cells #[slc g off n c] 41)) := ((Below.refl _ _).alloc (Nat.le_refl _) _).alloc (by simp) _
  have hq : Row ((w.alloc (.cells #[.int .u64 r, .int .u64 p] 108)).alloc (.cells #[slc g off n c] 41)) (w.heap.size + 1) 41 #[slc g off n c] := Row.new1 _ _ _ _
  have hr : Row ((w.alloc (.cells #[.int .u64 r, .int .u64 p] 108)).alloc (.cells #[slc g off n c] 41)) w.heap.size 108 #[.int .u64 r, .int .u64 p] := (Row.new _ _ _).alloc _
  have hg1 := HG.out.below hb0 hgl
  have h0 := hr.cell (i := 0) (v := .int .u64 r) rfl
  clear HG
  go_wp2_with fail
  refine (put_ok (w.heap.size + 1) g off n c 8 r cur _ hq hg1 (by omega) hfit (by omega) (by omega) hnc hc).mono ?_
  generalize (w.alloc (.cells #[.int .u64 r, .int .u64 p] 108)).alloc (.cells #[slc g off n c] 41) = w1 at *
  rintro e w2 ⟨⟨x, rfl⟩, hl⟩
  obtain ⟨v2, hq2, hv2⟩ := hl.var
  obtain rfl := hv2 (by omega)
  have hr2 := hr.kept hl.kept (by omega)
  have hk2 : Kept (fun x => x = g ∨ w.heap.size ≤ x) w w2 := (hb0.kept (F := fun x => x = g ∨ w.heap.size ≤ x)).trans' (hl.kept.mono fun k _ hk => by omega)
  have h1 := hr2.cell (i := 1) (v := .int .u64 p) rfl
  have hg2 := hl.row
  have HS : Hid (w.heap.size < w2.heap.size) := Lib.hid hr2.lt
  have HK2 := Lib.hid hk2
  have HQ2 := Lib.hid hq2
  have HG2 := Lib.hid hg2
  clear hb0 hq hr hg1 h0 hl hr2 hk2 hv2 hq2 hg2
  go_wp2_with fail
  refine (put_ok (w.heap.size + 1) g (off + 8) (n - 8) (c - 8) 4 p _ _ HQ2.out HG2.out (by omega) (by rw [over_length (by rw [leB_length]; omega)]; omega) (by omega) (by omega) (by omega) (by omega)).mono ?_
  rintro e w3 ⟨⟨y, rfl⟩, hl3⟩
  have h9 := hl3.row
  have h8 := over_over cur (leB 8 r) (leB 4 p) off (by rw [leB_length, leB_length]; omega)
  rw [leB_length] at h8
  rw [h8] at h9
  have HP : Hid (Put w g off cur (leB 8 r ++ leB 4 p) w3) := Lib.hid ⟨h9, HK2.out.trans' (hl3.kept.mono fun k _ hk => by omega)⟩
  clear h9 h8 hl3 HK2 HQ2 HG2 HS
  go_wp2_with fail
  go_end0
  exact ⟨⟨_, rfl⟩, HP.out⟩

/-- A head: its run, and the run since which batches count. -/
abbrev headV (r b : Nat) : Value := .agg #[.int .u64 r, .int .u64 b]
theorem sector_ok (r b : Nat) (w : World) (hr : r < 9223372036854775808) :
    Calls Tryd.prog 29 #[headV r b] w fun e w' => e = .returned (.int .i64 (r % 2 : Nat)) ∧ Below w.heap.size w w' := by
  have hb : Below w.heap.size w (w.alloc (.cells #[.int .u64 r, .int .u64 b] 66)) := (Below.refl _ _).alloc (Nat.le_refl _) _
  have h0 : (w.alloc (.cells #[.int .u64 r, .int .u64 b] 66)).cell? ⟨w.heap.size, 0, none⟩ = some (.int .u64 r) := (Row.new _ _ _).cell rfl
  have HB := Lib.hid hb
  clear hb
  go_enter Tryd.func29, Tryd.ntmps29
  go_wp2
  go_ret
  exact ⟨ret_int (by simp), HB.out⟩
end Go.Proofs.YtljlkmmeedlaiaaDoor
