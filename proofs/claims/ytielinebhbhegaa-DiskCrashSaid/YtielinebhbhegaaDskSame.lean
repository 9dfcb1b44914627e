/- Layer 2: Same. -/
import Derived.Test.YtielinebhbhegaaDskCopy
import Derived.Stop.BytesEq
import Derived.Maps.Range
namespace Go.Proofs.Ytielinebhbhegaa
open Go.RowKit Go.MapKept
open Go.ChangeMaps (setBlock)

theorem cellsOf_cells {l : List Nat} (h : Small l) : cellsOf l = (l.map UInt8.ofNat).map Extern.Stop.cell := by
  unfold cellsOf
  rw [List.map_map]
  refine List.map_congr_left fun x hx => ?_
  have := h x hx
  simp [Extern.Stop.cell, UInt8.toNat_ofNat']
  omega
theorem run_neq_same {l : List Nat} (h : Sec l) (W : World) : (binOp .neq 62 (secV l) (secV l)).run Try.prog W = .ok (.bool false) W := by
  unfold secV
  rw [cellsOf_cells h.2, run_neq_struct, run_equalIn_bytes W 9998 62 5 512 Try.underlying62 Try.underlying5 (fun w => by kernel_rfl) _ _ (by simpa using h.1) (by simpa using h.1)]
  simp [Result.andThen]

theorem guardSec (s : List Nat) (W : World) : (eqGuard .neq 62 (.tmp 16) (.tmp 17) (secV s) (.agg (cellsOf s).toArray)).run Try.prog W = .ok () W :=
  run_eqGuard_agg W .neq 62 (.tmp 16) (.tmp 17) _ _ (by kernel_rfl)
/-- A range over a map of sectors, under way: so many entries are still to come. -/
def Going (w : World) (r b : Nat) (f : Int → List Nat) (cnt : Nat) : Prop :=
  ∃ es clock since seen c0, w.heap[b]? = some (.map es clock) ∧ Stamped es clock ∧ (∀ x ∈ es.toList, ∃ k, (Lit.int .i64 k).wf = true ∧ x.key = .int .i64 k ∧ x.val = secV (f k)) ∧
    w.heap[r]? = some (.mapIter (some b) since seen c0) ∧ (∀ x ∈ es.toList, x.born < since) ∧ (leftOf es seen).size = cnt ∧ since ≤ c0 ∧ since ≤ clock
theorem Going.below {w w' : World} {r b : Nat} {f : Int → List Nat} {cnt : Nat} (h : Going w r b f cnt) (hb : Below w.heap.size w w') : Going w' r b f cnt := by
  obtain ⟨es, clock, since, seen, c0, h1, h2, h3, h4, h5⟩ := h
  exact ⟨es, clock, since, seen, c0, (hb.block b (lt_of_heap h1)).trans h1, h2, h3, (hb.block r (lt_of_heap h4)).trans h4, h5⟩
theorem IsMap.range {w : World} {b : Nat} {f : Int → List Nat} (h : IsMap w b f) :
    ∃ o cnt, (Instr.range 49 (.map (some b))).run Try.prog w = .ok (.pointer (some ⟨w.heap.size, 0, none⟩)) (w.alloc o) ∧ Going (w.alloc o) w.heap.size b f cnt := by
  obtain ⟨es, clock, hb, hst, hes, _, _⟩ := h
  exact ⟨_, _, run_range_map w 49 _ _ b es clock Try.underlying49 hb, es, clock, clock, #[], clock, (Below.heap_alloc w _ b (lt_of_heap hb)).trans hb, hst, hes, Go.heap_alloc_new w _, hst.1, rfl, Nat.le_refl _, Nat.le_refl _⟩
theorem Going.next {w : World} {r b : Nat} {f : Int → List Nat} {cnt : Nat} (h : Going w r b f cnt) (ty : TypeId) :
    (cnt = 0 ∧ (Instr.next (.pointer (some ⟨r, 0, none⟩)) false ty).run Try.prog w = .ok (.tuple #[.bool false]) w) ∨
    ∃ k w' cnt', (Lit.int .i64 k).wf = true ∧ (Instr.next (.pointer (some ⟨r, 0, none⟩)) false ty).run Try.prog w = .ok (.tuple #[.bool true, .int .i64 k, secV (f k)]) w' ∧
      Going w' r b f cnt' ∧ cnt' < cnt ∧ Kept (· = r) w w' ∧ w'.heap.size = w.heap.size ∧ (Instr.entry (.pointer (some ⟨r, 0, none⟩))).run Try.prog w' = .ok (.tuple #[.int .i64 k, secV (f k)]) w' := by
  obtain ⟨es, clock, since, seen, c0, hb, hst, hes, hr, hold, rfl, hsc, hsk⟩ := h
  have hne : r ≠ b := fun e => by rw [e, hb] at hr; cases hr
  rcases run_next_at (P := Try.prog) w ty r b since c0 seen es clock hr hb hold hsc with ⟨h0, hrun⟩ | ⟨e, he, w1, hal, hrun⟩
  · exact .inl ⟨h0, hrun⟩
  · obtain ⟨hem, hes2⟩ := mem_left he
    obtain ⟨k, hk, e1, e2⟩ := hes e hem
    have hr1 : w1.heap[r]? = some (.mapIter (some b) since seen c0) := by rcases hal with rfl | rfl <;> exact hr
    have hb1 : w1.heap[b]? = some (.map es clock) := by rcases hal with rfl | rfl <;> exact hb
    have hset := heap_set (o' := .mapIter (some b) since (seen.push e.born) clock) hr1
    have hb' := (hset.2 b (fun e1 => hne e1.symm)).trans hb1
    refine .inr ⟨k, _, _, hk, by rw [hrun, e1, e2], ⟨es, clock, since, seen.push e.born, clock, hb', hst, hes, hset.1, hold, rfl, hsk, hsk⟩, left_shrinks es seen e he, ?_, ?_, ?_⟩
    · rcases hal with rfl | rfl <;> exact ⟨rfl, rfl, rfl, by simp [setBlock], fun i _ hi => hset.2 i hi⟩
    · rcases hal with rfl | rfl <;> simp [setBlock]
    · rw [← e1, ← e2]
      exact run_entry_at _ r b since seen es clock e hset.1 hb' hem ((stamped_iff es clock).1 hst).2.1
theorem Going.kept {F : Nat → Prop} {w w' : World} {r b : Nat} {f : Int → List Nat} {cnt : Nat} (h : Going w r b f cnt) (hk : Kept F w w') (hr : ¬ F r) (hb : ¬ F b) : Going w' r b f cnt := by
  obtain ⟨es, clock, since, seen, c0, h1, h2, h3, h4, h5⟩ := h
  exact ⟨es, clock, since, seen, c0, hk.heap h1 hb, h2, h3, hk.heap h4 hr, h5⟩
theorem Going.lt {w : World} {r b : Nat} {f : Int → List Nat} {cnt : Nat} (h : Going w r b f cnt) : r < w.heap.size ∧ b < w.heap.size := by
  obtain ⟨es, clock, since, seen, c0, h1, h2, h3, h4, h5⟩ := h
  exact ⟨lt_of_heap h4, lt_of_heap h1⟩
theorem Going.left {w : World} {r b : Nat} {f : Int → List Nat} {cnt : Nat} (h : Going w r b f cnt) : w.rangeLeft b r = cnt := by
  obtain ⟨es, clock, since, seen, c0, h1, h2, h3, h4, h5, h6, h7⟩ := h
  simp only [World.rangeLeft, h1, h4, h6]
section
variable {P : Program} {ops : Array Oper} {rest : List Oper} {o : Oper} {a : Act} {w : World} {Q : Exit → Act → World → Prop}
/-- A new variable of a row's type; a store into it: apart. -/
theorem wpList_alloc_abs (hgd : o.guard = none) (ty : TypeId) (ho : o.op = .alloc ty) (zs : Array Value) (hz : ∀ w, (zeroValue ty).run P w = .ok (.agg zs) w)
    (h : ∀ g w', Hid (g = w.heap.size) → Row w' g ty zs → Below w.heap.size w w' → wpList P ops Q rest (a.put o.dst (.pointer (some ⟨g, 0, none⟩))) w') : wpList P ops Q (o :: rest) a w :=
  wpList_alloc_tab hgd ty ho zs hz (h _ _ (Lib.hid rfl) (Row.new _ _ _) ((Below.refl _ _).alloc (Nat.le_refl _) _))
theorem wpList_store_abs (hgd : o.guard = none) (ty : TypeId) (x y : Operand) (ho : o.op = .store ty x y) (g : Nat) (zs cs : Array Value) (hg : Row w g ty zs) (hi : (P.info? ty).map (·.size) = some cs.size) (hs : zs.size = cs.size) (h1 : cs.all (·.oneCell') = true)
    (hx : a.eval x = .pointer (some ⟨g, 0, none⟩)) (hy : a.eval y = .agg cs)
    (h : ∀ w', Row w' g ty cs → Kept (· = g) w w' → wpList P ops Q rest (a.put o.dst undef) w') : wpList P ops Q (o :: rest) a w :=
  wpList_store_row hgd ty x y ho g cs hx hy ty zs hg hi hs h1 (h _ (setRow_heap _ _ _ _ _ _ hg) ((Kept.refl _ _).setRow (grow.old (F := (· = g)) rfl) _))
end

set_option maxRecDepth 100000 in
set_option maxHeartbeats 1000000 in
theorem has_ok (ba bb : Nat) (f : Int → List Nat) (w : World) (ha : IsMap w ba f) (hb : IsMap w bb f) :
    Calls Try.prog 34 #[.map (some ba), .map (some bb)] w fun e w' => e = .returned (.bool true) ∧ Below w.heap.size w w' := by
  obtain ⟨o0, c0, hrun, hgo⟩ := hb.range
  have HA := Lib.hid ha
  have HGO := Lib.hid hgo
  have HSEC := Lib.hid ha.sec
  clear ha hb hgo
  go_enter Try.func34, Try.ntmps34
  go_wp2_with fail
  have hb0 : Below w.heap.size w (w.alloc o0) := (Below.refl _ _).alloc (Nat.le_refl _) _
  have HB0 := Lib.hid hb0
  clear hb0 hrun
  generalize w.alloc o0 = W0 at *
  go_loopw [9] (fun v9 wr => ∃ cnt, Going wr w.heap.size bb f cnt ∧ Below w.heap.size w wr) (fun _ wr => wr.rangeLeft bb w.heap.size)
  case atStart => exact ⟨c0, HGO.out, HB0.out⟩
  case round =>
    obtain ⟨cnt, hg, hbr⟩ := hrel
    have HG := Lib.hid hg
    have HBR := Lib.hid hbr
    rcases hg.next 0 with ⟨h0, hrun⟩ | ⟨k, w1, cnt1, hk, hrun, hg1, hlt, hk1, hs1, hent⟩
    · clear hg hbr
      go_wp2
      go_ret
      exact ⟨rfl, HBR.out⟩
    · have hb1 : Below w.heap.size w w1 := hbr.trans (hk1.below hbr.size fun x hx => by rw [hx]; exact Nat.le_refl _)
      have HG1 := Lib.hid hg1
      have HB1 := Lib.hid hb1
      have hs := HSEC.out k
      obtain ⟨s, hse⟩ : ∃ s, f k = s := ⟨_, rfl⟩
      rw [hse] at hrun hent hs
      have HS := Lib.hid hs
      have HE := Lib.hid hse
      have HLT := Lib.hid hlt
      have HKW := Lib.hid hk
      have hlz : Hid ((cellsOf s).length = 512) := Lib.hid (by rw [cellsOf_length, HS.out.1])
      clear hg hbr hg1 hb1 hs hse hlt hk1 hs1 hk
      go_wp2_with (first
        | (refine wpList_alloc_abs ?_ 62 ?_ (cellsOf zsec).toArray zeroSec ?_
           · with_reducible rfl
           · with_reducible rfl
           intro g w2 hg2 hr2 hb2)
        | (refine wpList_store_abs ?_ 62 (.tmp 6) (.tmp 13) ?_ g (cellsOf zsec).toArray (cellsOf s).toArray hr2 ?_ ?_ ?_ ?_ ?_ ?_
           · with_reducible rfl
           · with_reducible rfl
           · rw [infoSec1, List.size_toArray, hlz.out]
           · rw [List.size_toArray, List.size_toArray, hlz.out, zsec_cells]
           · exact all_oneCell_toArray (cellsOf_one _)
           · rfl
           · rfl
           intro w3 hr3 hk3
           have hb3 : Below w1.heap.size w1 w3 := hb2.trans (hk3.below hb2.size fun x hx => by rw [hx]; exact Nat.le_of_eq hg2.out.symm)
           have HB3 := Lib.hid hb3
           have HR3 := Lib.hid hr3
           have hlk := (HA.out.below (HB1.out.call hb3)).look HKW.out
           rw [HE.out] at hlk
           have hneq : ∀ W : World, (binOp .neq 62 (secV s) (.agg (cellsOf s).toArray)).run Try.prog W = .ok (.bool false) W := run_neq_same HS.out
           have heg : ∀ W : World, (eqGuard .neq 62 (.tmp 16) (.tmp 17) (secV s) (.agg (cellsOf s).toArray)).run Try.prog W = .ok () W := guardSec s
           have hsi : Hid ((Try.prog.info? 62).map (·.size) = some (cellsOf s).toArray.size) := Lib.hid (by rw [infoSec1, List.size_toArray, hlz.out])
           clear hr2 hb2 hr3 hk3 hb3)
        | (refine wpList_load_row ?_ 62 (.tmp 6) ?_ g ?_ 62 (cellsOf s).toArray (0, 0) _ HR3.out Try.underlying62 rfl hsi.out ?_
           · with_reducible rfl
           · with_reducible rfl
           · rfl))
      have hrel : Hid (Going w3 w.heap.size bb f cnt1 ∧ Below w.heap.size w w3) := Lib.hid ⟨HG1.out.below HB3.out, HB1.out.call HB3.out⟩
      have hme : Hid (w3.rangeLeft bb w.heap.size < wr.rangeLeft bb w.heap.size) := Lib.hid (by rw [hrel.out.1.left, HG.out.left]; exact HLT.out)
      exact ⟨⟨cnt1, hrel.out.1, hrel.out.2⟩, hme.out⟩
end Go.Proofs.Ytielinebhbhegaa
