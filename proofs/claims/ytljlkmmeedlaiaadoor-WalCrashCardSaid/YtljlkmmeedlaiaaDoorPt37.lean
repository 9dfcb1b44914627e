/- Layer 3: Look: what a log that was loaded hands over is gathered. -/
import Derived.Test.YtljlkmmeedlaiaaDoorPt36
import Derived.Test.YtljlkmmeedlaiaaDoorPt35
import Derived.Test.YtljlkmmeedlaiaaDoorPt30
import Derived.Test.YtljlkmmeedlaiaaDoorPt26
import Derived.Test.YtljlkmmeedlaiaaDoorPt18
import Derived.Test.YtljlkmmeedlaiaaDoorPt10
namespace Go.Proofs.YtljlkmmeedlaiaaDoor
open Go.RowKit Go.Shelf
attribute [local go_sem] Oper.semAt_some

/-- What has been gathered: a list in the block o, all of it made since. -/
structure LookI (w3 : World) (o n₀ : Nat) (ls : List (List Nat)) (pre : List (Nat × Bat)) (W : World) : Prop where
  same : pre.map (fun x => x.2.l) = ls.take pre.length
  cell : ∃ v, Row W o 36 #[v] ∧ Lies W (fun k => n₀ ≤ k) 41 1 v pre.length (bvs (pre.map (·.2)))
  bats : ∀ x ∈ pre, BatOk W (fun k => n₀ ≤ k) x.2
  kept : KB o n₀ w3 W
theorem look_own {w3 : World} {o n₀ B : Nat} {ls : List (List Nat)} (hB : n₀ ≤ B) : OwnFrom B (fun pre W => LookI w3 o n₀ ls pre W) := by
  intro pre W W' row h hg hr
  have hc : ∀ {k : Nat} {cs : Array Value} {t : TypeId}, Row W k t cs → Row W' k t cs := fun {k cs t} hk => (grownBy_keeps_cells hg (fun r e => (hr r e).2) (k := k) (o := .cells cs t (0, 0)) hk rfl).trans hk
  obtain ⟨v, h1, h2⟩ := h.cell
  exact ⟨h.same, ⟨v, hc h1, h2.same fun g cur _ hh => hc hh⟩, fun x hx => ⟨(h.bats x hx).lies.same fun g cur _ hh => hc hh, (h.bats x hx).small⟩, h.kept.grown hg fun r e => Nat.le_trans hB (hr r e).1⟩
theorem look_start {w3 : World} {o n₀ : Nat} {ls : List (List Nat)} (h : Row w3 o 36 #[.slice none 0 0]) : LookI w3 o n₀ ls [] w3 :=
  ⟨by simp, ⟨_, h, Lies.empty _ _ _ _ _⟩, fun x hx => (List.not_mem_nil hx).elim, KB.refl _ _ _⟩
/-- A round: one batch more. -/
theorem look_next {w3 W w6 : World} {o n₀ : Nat} {xs : List Bat} {pre : List (Nat × Bat)} {x : Nat × Bat} {A : Option Addr} {c : Nat} {v : Value} {y : Obj} (h : LookI w3 o n₀ (xs.map (·.l)) pre W) (hx : BatNext xs n₀ pre x W) (hlen : pre.length < xs.length) (ho : o < n₀) (hn : n₀ ≤ w3.heap.size)
    (hl : Lies w6 (grow (fun k => n₀ ≤ k) (W.alloc y)) 41 1 (.slice A (pre.length + 1) c) (pre.length + 1) (bvs (pre.map (·.2)) ++ [x.2.v]))
    (hk : Kept (fun g => n₀ ≤ g ∧ Spare v g ∧ ∃ cur, (W.alloc y).heap[g]? = some (.cells cur 41 (0, 0))) (W.alloc y) w6) :
    KeepsOthers W (w6.setCell ⟨o, 0, none⟩ (.slice A (pre.length + 1) c)) ∧ KB o n₀ W (w6.setCell ⟨o, 0, none⟩ (.slice A (pre.length + 1) c)) ∧ LookI w3 o n₀ (xs.map (·.l)) (pre ++ [x]) (w6.setCell ⟨o, 0, none⟩ (.slice A (pre.length + 1) c)) := by
  have hsz : w3.heap.size ≤ W.heap.size := h.kept.size
  have hba : Below W.heap.size W (W.alloc y) := (Below.refl _ _).alloc (Nat.le_refl _) _
  have hkb : KB o n₀ W (w6.setCell ⟨o, 0, none⟩ (.slice A (pre.length + 1) c)) := by
    refine Kept.setCell ?_ (grow.old (.inl rfl)) _
    refine Kept.trans' ((Kept.refl _ W).alloc y) (hk.mono fun k _ hk => .inr hk.1)
  obtain ⟨v0, h1, h2⟩ := h.cell
  have ho6 : Row w6 o 36 #[v0] := (h1.alloc y).kept hk (fun hx => by have := hx.1; omega)
  have hbat : ∀ z : Bat, BatOk W (fun k => n₀ ≤ k) z → BatOk (w6.setCell ⟨o, 0, none⟩ (.slice A (pre.length + 1) c)) (fun k => n₀ ≤ k) z := fun z hz =>
    ⟨(spare_other hk (hz.lies.below hba) (by decide)).row ho6 (by decide) (Kept.cell _ _ _ _), hz.small⟩
  refine ⟨((KeepsOthers.alloc _ _).trans (KeepsOthers.of_spare hk)).trans (KeepsOthers.setCell _ _ _), hkb, ?_, ⟨_, ho6.set_ 0 _, ?_⟩, fun z hz => ?_, h.kept.trans hkb⟩
  · rw [List.map_append, h.same, List.length_append, List.length_singleton, List.take_add_one, List.getElem?_map, List.getElem?_eq_getElem hlen]
    have h9 := hx.2.1
    rw [List.getD_eq_getElem?_getD, List.getElem?_eq_getElem hlen] at h9
    simp only [List.map_cons, List.map_nil, Option.map_some, Option.toList_some, h9, Option.getD_some]
  · have e : bvs ((pre ++ [x]).map (·.2)) = bvs (pre.map (·.2)) ++ [x.2.v] := by simp [bvs]
    rw [e, List.length_append, List.length_singleton]
    refine (hl.mono fun k hk => ?_).row ho6 (by decide) (Kept.cell _ _ _ _)
    rcases hk with hk | hk
    · exact hk
    · have : (W.alloc y).heap.size = W.heap.size + 1 := by simp
      omega
  · rcases List.mem_append.1 hz with hz | hz
    · exact hbat _ (h.bats z hz)
    · obtain rfl := List.mem_singleton.1 hz
      exact hbat _ hx.2.2
/-- What Look hands back: batches of its own. -/
def LookPost (w : World) (ls : List (List Nat)) (k : Int) (e : Ending) (w' : World) : Prop :=
  ∃ v ys, e = .returned (.tuple #[v, .int .i64 k]) ∧ ys.map (·.l) = ls ∧ Lies w' (grow noBlock w) 41 1 v ys.length (bvs ys) ∧ (∀ b ∈ ys, BatOk w' (grow noBlock w) b) ∧ Below w.heap.size w w'
/-- What load has handed back: what Batches of it hands over. -/
structure Loaded (w : World) (v : Value) (xs : List Bat) : Prop where
  batches : ∀ W, Below w.heap.size w W → Calls Tryd.prog 35 #[v] W (BatchesPost W xs)
  bats : ∀ b ∈ xs, BatOk w (fun k => k < w.heap.size) b
  few : xs.length ≤ 1000000
  small : ∀ b ∈ xs, b.l.length ≤ 140737488355328
set_option maxRecDepth 100000 in
set_option maxHeartbeats 1000000 in
theorem look_run (v : Value) (from_ n k : Int) (w : World) (ls : List (List Nat)) (h : Calls Tryd.prog 32 #[v, .int .i64 from_, .int .i64 n] w fun e w' => ∃ vl xs, e = .returned (.tuple #[vl, .int .i64 k]) ∧ Below w.heap.size w w' ∧ Loaded w' vl xs ∧ xs.map (·.l) = ls) :
    Calls Tryd.prog 12 #[v, .int .i64 from_, .int .i64 n] w (LookPost w ls k) := by
  have H := Lib.hid h
  clear h
  refine (callsIn_wide (n := 4)).1 ?_
  refine callsIn_of_wp_marks Tryd.func12 rfl trivial ?_ rfl
  simp only [Tryd.ntmps12, List.size_toArray, List.length_cons, List.length_nil, Nat.reduceAdd, Nat.reduceSub, Array.replicate_succ, Array.replicate_zero, List.push_toArray, List.append_toArray, List.nil_append, List.cons_append]
  refine wpIn_wide.2 ?_
  go_wp2_with (go_at_call 32; refine H.out.mono ?_; rintro e w1 ⟨vl, xs, rfl, hb1, hld, rfl⟩)
  have HB1 := Lib.hid hb1
  have HLD := Lib.hid hld
  clear hb1 hld
  obtain ⟨w2, hw2⟩ : ∃ w2, w2 = w1.alloc (.cells #[.slice none 0 0] 36) := ⟨_, rfl⟩
  have hr2 : Row w2 w1.heap.size 36 #[.slice none 0 0] := by subst hw2; exact Row.new _ _ _
  have hb2 : Below w1.heap.size w1 w2 := by subst hw2; exact (Below.refl _ _).alloc (Nat.le_refl _) _
  have HR2 := Lib.hid hr2
  have HB2 := Lib.hid hb2
  rw [← hw2]
  clear hw2 hr2 hb2
  refine (HLD.out.batches w2 HB2.out).mono ?_
  rintro e w3 ⟨q, vq, rfl, hq, hrq, hlq, hb3⟩
  have HRQ := Lib.hid hrq
  have HLQ := Lib.hid hlq
  have HB3 := Lib.hid hb3
  have HQ := Lib.hid hq
  have ho : w1.heap.size < w3.heap.size := Nat.lt_of_lt_of_le HR2.out.lt HB3.out.size
  have hoq : w1.heap.size < q := Nat.lt_of_lt_of_le HR2.out.lt HQ.out
  have hq3 : q < w3.heap.size := HRQ.out.lt
  clear hrq hlq hb3 hq
  go_wp2_with fail
  refine (wpIn_wide (n := 4)).1 ?_
  refine wpIn_rangeP rfl (by omega) (gf := 59) (lb := #[.pointer (some ⟨q, 0, none⟩)]) rfl trivial (enters_of Tryd.func59 (by kernel_rfl) rfl)
    (batches_seq (fun k => k < w3.heap.size ∧ k ≠ w1.heap.size) w3 q w3.heap.size xs vq HLD.out.few HLD.out.small (KB w1.heap.size w3.heap.size) ?hKl (Nat.le_refl _) (HRQ.out.cell (i := 0) rfl) ?hl ?hb)
    KB.trans (fun W l o o' h1 h2 h3 h4 => KB.turn (Nat.le_refl _) W l o o' h1 h2 h3 h4) ?hPb (Below.refl _ _) (fun _ => rfl)
    (fun pre W => LookI w3 w1.heap.size w3.heap.size (xs.map (·.l)) pre W) (fun _ _ _ => False) (look_own (Nat.le_refl _)) (fun c s W W' row h _ _ => h.elim) (look_start (HR2.out.call HB3.out)) ?a1 ?assign ?body ?done ?stop
  case stop =>
    rintro D c pre W _ _ h _
    exact h.elim
  case hKl =>
    intro W W' hk hs
    refine ⟨Nat.le_trans hs hk.size, fun hc => hk.cell hc hq3 (Nat.ne_of_gt hoq), fun hl => hl.kept hk fun k h1 h2 => ?_, fun b _ hb => hb.kept hk fun k h1 h2 => ?_⟩
    · rcases h2 with h2 | h2
      · exact h1.2 h2
      · have := h1.1; omega
    · rcases h2 with h2 | h2
      · exact h1.2 h2
      · have := h1.1; omega
  case hl =>
    refine HLQ.out.there.mono fun k hk => ⟨hk.2, ?_⟩
    rcases hk.1 with h1 | h1
    · exact h1.elim
    · have := HR2.out.lt
      omega
  case hb =>
    intro b hb
    exact ((HLD.out.bats b hb).below (HB2.out.trans (HB3.out.mono HB2.out.size))).mono fun k hk => ⟨by omega, by omega⟩
  case hPb =>
    rintro pre x W l o o' hl hc ⟨h1, h2, h3⟩
    refine ⟨h1, h2, h3.lies.same fun g cur _ hg => ?_, h3.small⟩
    refine (World.putObj_heap_other ?_).trans hg
    rintro rfl
    rw [hl] at hg
    cases hg
    cases hc
  case assign =>
    intro l' x W K hK
    simp only [oneBat]
    gi_wp2
    exact hK
  case body =>
    rintro l' pre ⟨i, xA, xc, xl⟩ W hI hx hlen
    have hfew : xs.length ≤ 1000000 := HLD.out.few
    obtain ⟨v0, hrow, hl⟩ := hI.cell
    obtain ⟨A0, c0, hv, _, _⟩ := hl.form
    subst hv
    have hba : Below W.heap.size W (W.alloc (.cells #[.slice xA xl.length xc] 41)) := (Below.refl _ _).alloc (Nat.le_refl _) _
    have hr1 := hrow.call hba
    have hc0 := hrow.cell (i := 0) (v := .slice A0 pre.length c0) rfl
    have hc1 := hr1.cell (i := 0) (v := .slice A0 pre.length c0) rfl
    have HR1 := Lib.hid hr1
    have HL1 := Lib.hid (hl.below hba)
    have hsrc : Hid (Source (W.alloc (.cells #[.slice xA xl.length xc] 41)) (some ⟨W.heap.size, 0, none⟩) 1 [.slice xA xl.length xc]) := Lib.hid (.inr ⟨_, rfl, World.news_of_block (heap_alloc_new _ _)⟩)
    have HI := Lib.hid hI
    have HX := Lib.hid hx
    clear hI hx hrow hl hba hr1
    simp only [Bat.v]
    gi_wp2_with (first
      | (gi_at_builtin
         go_loud (
           refine wpListIn_append_any ?_ (fun k => w3.heap.size ≤ k) (.tmp 24) (.tmp 26) 36 ?_ 41 1 24 (.slice none 0 0) Tryd.underlying36 infoBats rfl (by decide) (.slice A0 pre.length c0) pre.length (bvs (pre.map (·.2))) ?_ HL1.out _ 1 1 [.slice xA xl.length xc] ?_ rfl hsrc.out ?_ (by omega) (by decide) ?_
           · with_reducible rfl
           · with_reducible rfl
           · rfl
           · rfl
           · intro u hu; simp at hu; subst hu; rfl
           intro v' w6 hl6 hk6
           obtain ⟨A6, c6, rfl, _, _⟩ := hl6.form
           have ho6 := HR1.out.kept hk6 (fun h9 => by have := h9.1; omega)
           have ho6c := ho6.cell (i := 0) (v := .slice A0 pre.length c0) rfl
           have ho6f := ho6.free 0
           have HN := Lib.hid (look_next (x := (i, ⟨xA, xc, xl⟩)) HI.out HX.out hlen ho (Nat.le_refl _) hl6 hk6)
           clear hl6 hk6 ho6)))
    exact HN.out
  case done =>
    rintro D ys W hD hys hI hK
    obtain ⟨v, hr, hl⟩ := hI.cell
    have hcl := hr.cell (i := 0) (v := v) rfl
    have hbw : Below w.heap.size w W := HB1.out.trans (((HB2.out.trans (HB3.out.mono HB2.out.size)).mono HB1.out.size).trans (hI.kept.below (Nat.le_trans HB1.out.size (Nat.le_of_lt ho)) (fun k hk => by
      have h1 := HB1.out.size
      rcases hk with hk | hk <;> omega)))
    have hbe : Below w.heap.size w (W.putObj D (.deferred none)) := hbw.trans (belowK_b (w := w) (Nat.le_refl _) W D _ (.deferred none) (by have := HB1.out.size; omega) hK rfl rfl)
    have hput : ∀ (g : Nat) (cur : Array Value) (e : TypeId), W.heap[g]? = some (.cells cur e (0, 0)) → (W.putObj D (.deferred none)).heap[g]? = some (.cells cur e (0, 0)) := fun g cur e hg => (World.putObj_heap_other (by
      rintro rfl
      rw [hK] at hg
      cases hg)).trans hg
    have hF : ∀ k, w3.heap.size ≤ k → grow noBlock w k := fun k hk => .inr (by have := HB1.out.size; omega)
    have HFIN : Hid (LookPost w (xs.map (·.l)) k (.returned (.tuple #[v, .int .i64 k])) (W.putObj D (.deferred none))) := Lib.hid (by
      have h1 := hI.same
      rw [hys, List.take_of_length_le (by rw [List.length_map]; exact Nat.le_refl _)] at h1
      refine ⟨v, ys.map (·.2), rfl, by rw [← h1, List.map_map]; rfl, ?_, fun b hb => ?_, hbe⟩
      · rw [List.length_map]
        exact (hl.same fun g cur _ hg => hput g cur _ hg).mono hF
      · obtain ⟨x, hx, rfl⟩ := List.mem_map.1 hb
        exact BatOk.mono ⟨(hI.bats x hx).lies.same fun g cur _ hg => hput g cur _ hg, (hI.bats x hx).small⟩ hF)
    have HKK := Lib.hid hK
    obtain ⟨A, c, rfl, _, _⟩ := hl.form
    clear hI hr hl hbw hbe hput hF hK
    go_wp2
    refine ⟨by simp, .inl ⟨_, _, rfl, run_takeDeferred HKK.out, ?_⟩⟩
    refine ⟨.tuple #[.slice A ys.length c, .int .i64 k], ?_, HFIN.out⟩
    simp [results, Tryd.f12, go_sem]
    exact hys.symm
/-- No log was loaded: there are no batches. -/
theorem loaded_none (w : World) : Loaded w (.pointer none) [] :=
  ⟨fun W _ => batches_no (.pointer none) W (.inl rfl), fun b hb => (List.not_mem_nil hb).elim, by decide, fun b hb => (List.not_mem_nil hb).elim⟩
theorem look_no (v : Value) (from_ n : Int) (w : World) (h : NoDisk w v) :
    Calls Tryd.prog 12 #[v, .int .i64 from_, .int .i64 n] w (LookPost w [] 1) :=
  look_run v from_ n 1 w [] ((load_no v from_ n w h).mono fun _ w' ⟨he, hb⟩ => ⟨_, [], he, hb, loaded_none w', rfl⟩)
theorem look_not (w : World) (FD : Nat → Prop) (dp : Nat) (d : D) (from_ n : Int) (h : DiskAt w FD dp d) (hw : (Lit.int .i64 from_).wf = true) (hp : placeE d.size from_ n ≠ 0) :
    Calls Tryd.prog 12 #[.pointer (some ⟨dp, 0, none⟩), .int .i64 from_, .int .i64 n] w (LookPost w [] (placeE d.size from_ n)) :=
  look_run _ from_ n _ w [] ((load_not w FD dp d from_ n h hw hp).mono fun _ w' ⟨he, hb⟩ => ⟨_, [], he, hb, loaded_none w', rfl⟩)
/-- A log was loaded: its batches. -/
theorem loaded_log {w : World} {FL FD : Nat → Prop} {p : Nat} {l : L} {d : D} (h : LogOn w FL FD p l d) (hn : l.bs.length ≤ 1000000) (hs : ∀ b ∈ l.bs, b.length ≤ 140737488355328) : ∃ xs : List Bat, xs.map (·.l) = l.bs ∧ Loaded w (.pointer (some ⟨p, 0, none⟩)) xs := by
  obtain ⟨vb, xs, hx⟩ := h.log
  have hlen : xs.length = l.bs.length := by rw [← hx.same, List.length_map]
  refine ⟨xs, hx.same, fun W hb => batches_ok W FL FD p l d vb xs (h.call hb) (hx.below hb) (by omega), fun b hb => (hx.bats b hb).mono fun k hk => h.thereL k hk, by omega, fun b hb => hs _ ?_⟩
  rw [← hx.same]
  exact List.mem_map_of_mem hb
end Go.Proofs.YtljlkmmeedlaiaaDoor
/- Layer 3: settle of a log whose disk has no pieces. -/
namespace Go.Proofs.YtljlkmmeedlaiaaDoor
open Go.RowKit Go.Shelf
attribute [local go_sem] Oper.semAt_some

set_option maxRecDepth 100000 in
set_option maxHeartbeats 2000000 in
theorem settle_ok (w : World) (FL FD : Nat → Prop) (p : Nat) (l : L) (d : D) (h : LogOn w FL FD p l d) (hp : d.pieces = []) :
    Calls Tryd.prog 33 #[.pointer (some ⟨p, 0, none⟩)] w fun e w' => e = .returned (.int .i64 0) ∧ Below w.heap.size w w' := by
  obtain ⟨w0, hw0⟩ : ∃ w0, w0 = (w.alloc (.cells #[.pointer (some ⟨p, 0, none⟩)] 33)).alloc (.cells #[.int .i64 0] 26) := ⟨_, rfl⟩
  have hb0 : Below w.heap.size w w0 := by subst hw0; exact ((Below.refl _ _).alloc (Nat.le_refl _) _).alloc (by simp) _
  have hr0 : Row w0 w.heap.size 33 #[.pointer (some ⟨p, 0, none⟩)] := by subst hw0; exact (Row.new _ _ _).alloc _
  have hr4 : Row w0 (w.heap.size + 1) 26 #[.int .i64 0] := by subst hw0; exact Row.new1 _ _ _ _
  have hpc : Calls Tryd.prog 57 #[.pointer (some ⟨l.dp, 0, none⟩)] w0 (IterPost w0 []) := by
    have := pieces_ok l.dp d w0 (h.call hb0).disk (by rw [hp]; decide)
    unfold atsOf at this
    rwa [hp] at this
  obtain ⟨vb, xs, hx⟩ := (h.call hb0).log
  have k0 := hr0.cell (i := 0) (v := .pointer (some ⟨p, 0, none⟩)) rfl
  have k1 := hx.c0
  have HPC := Lib.hid hpc
  have HB0 := Lib.hid hb0
  have HR4 := Lib.hid hr4
  clear h hp hpc hb0 hr0 hr4 hx
  refine (callsIn_wide (n := 3)).1 ?_
  refine callsIn_of_wp_marks Tryd.func33 rfl trivial ?_ rfl
  simp only [Tryd.ntmps33, List.size_toArray, List.length_cons, List.length_nil, Nat.reduceAdd, Nat.reduceSub, Array.replicate_succ, Array.replicate_zero, List.push_toArray, List.append_toArray, List.nil_append, List.cons_append]
  refine wpIn_wide.2 ?_
  rw [hw0] at k0 k1
  go_wp2_with fail
  rw [← hw0]
  clear hw0 k0 k1
  refine HPC.out.mono ?_
  rintro e w4 ⟨q, rfl, hq1, hq2, hL, hb4⟩
  have HB4 := Lib.hid (HB0.out.call hb4)
  have HR44 := Lib.hid (HR4.out.call hb4)
  have HL4 := Lib.hid hL
  clear hb4 hL
  go_wp2_with fail
  refine (wpIn_wide (n := 4)).1 ?_
  refine wpIn_rangeFunc_ownF rfl (by omega) (gf := 78) (lb := #[.pointer (some ⟨q, 0, none⟩)]) rfl trivial (enters_of Tryd.func78 (by kernel_rfl) rfl)
    (values_stops q w4.heap.size [] (by simp) hq2 w4 (Nat.le_refl _) HL4.out) belowK_t (belowK_b (Nat.le_refl _)) (Below.refl _ _) (fun _ => rfl)
    (fun _ W => Below w4.heap.size w4 W) (fun _ _ _ => False) ?hI ?hIx ?h0 ?a1 ?assign ?body ?done ?stop
  case assign =>
    intro l' x W K hK
    simp only [oneInt]
    gi_wp2
    exact hK
  case hI => exact ownFrom_below (Nat.le_refl _) (Nat.le_refl _)
  case hIx => exact fun _ _ _ _ _ h _ _ => h
  case h0 => exact Below.refl _ _
  case body => exact fun _ pre _ _ _ h => absurd h (Nat.not_lt_zero _)
  case stop => exact fun _ _ _ _ _ _ h => h.elim
  case done =>
    rintro D ys W hD rfl hBW hK
    have hBW2 : Below w.heap.size w W := HB4.out.trans (hBW.mono HB4.out.size)
    have hr4 := HR44.out.below hBW HR44.out.lt
    have hDw : w.heap.size + 1 < D := Nat.lt_of_lt_of_le HR44.out.lt hD
    have c4 := hr4.cell (i := 0) (v := .int .i64 0) rfl
    have f4 := hr4.free 0
    obtain ⟨V, hV⟩ : ∃ V, V = W.setCell ⟨w.heap.size + 1, 0, none⟩ (.int .i64 0) := ⟨_, rfl⟩
    have HF : Hid (V.heap[D]? = some (.deferred (some [])) ∧ (V.putObj D (.deferred none)).cell? ⟨w.heap.size + 1, 0, none⟩ = some (.int .i64 0) ∧ Below w.heap.size w (V.putObj D (.deferred none))) := Lib.hid (by
      subst hV
      have hV2 := (KeepsOthers.setCell W ⟨w.heap.size + 1, 0, none⟩ (.int .i64 0)).same D _ hK rfl
      have hbe : Below w.heap.size w (W.setCell ⟨w.heap.size + 1, 0, none⟩ (.int .i64 0)) := hBW2.setCell (p := ⟨w.heap.size + 1, 0, none⟩) (Nat.le_succ _) _
      have hc2 := cell_kept ((hr4.set_ 0 (.int .i64 0)).cell (i := 0) (v := .int .i64 0) rfl) (grownBy_putObj' _ D (.deferred none)) (fun r e => by cases e; exact ⟨_, hV2, rfl⟩)
      exact ⟨hV2, hc2, hbe.trans (belowK_b (w := w) (Nat.le_refl _) _ D _ (.deferred none) (by omega) hV2 rfl rfl)⟩)
    clear hBW hBW2 hK hD hr4
    go_wp2_with fail
    rw [← hV]
    refine ⟨by simp, .inl ⟨_, _, rfl, run_takeDeferred HF.out.1, ?_⟩⟩
    refine ⟨.int .i64 0, ?_, rfl, HF.out.2.2⟩
    have hr2 := HF.out.2.1
    simp [results, Tryd.f33, go_sem, hr2]
end Go.Proofs.YtljlkmmeedlaiaaDoor
