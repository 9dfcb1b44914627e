/- Layer 3: a batch more in memory; what Append answers without a write. -/
import Derived.Test.YtdaefhlfalhfnaaDoorPt26
import Derived.Test.YtdaefhlfalhfnaaDoorPt18
import Derived.Test.YtdaefhlfalhfnaaDoorPt29
import Derived.Test.YtdaefhlfalhfnaaDoorPt31
import Derived.Test.YtdaefhlfalhfnaaDoorPt27
import Derived.Test.YtdaefhlfalhfnaaDoorPt28
namespace Go.Proofs.YtdaefhlfalhfnaaDoor
open Go.RowKit

/-- What an append to the list of batches turns is no block of another type. -/
theorem spare_other {w w' : World} {FL F : Nat → Prop} {vb : Value} {e e' : TypeId} {size n : Nat} {v : Value} {ys : List Value} (hk : Kept (fun g => FL g ∧ Spare vb g ∧ ∃ cur, w.heap[g]? = some (.cells cur e (0, 0))) w w') (h : Lies w F e' size v n ys) (he : e ≠ e') : Lies w' F e' size v n ys :=
  h.same fun g cur _ hh => hk.heap hh fun hy => by
    obtain ⟨_, _, cur', hc⟩ := hy
    rw [hh] at hc
    injection hc with hc
    injection hc with _ hc _
    exact he hc.symm
/-- A batch more: its bytes lie in blocks G, the list has grown. -/
theorem LogIs.appended {w w' : World} {FL G : Nat → Prop} {p : Nat} {l : L} {vb v' : Value} {xs : List Bat} {x : Bat} (h : LogIs w FL p l vb xs) (hx : BatOk w G x)
    (hl : Lies w' (grow FL w) 41 1 v' (xs.length + 1) (bvs xs ++ [x.v])) (hk : Kept (fun g => FL g ∧ Spare vb g ∧ ∃ cur, w.heap[g]? = some (.cells cur 41 (0, 0))) w w') :
    LogIs (w'.setCell ⟨p, 6, none⟩ v') (fun k => grow FL w k ∨ G k) p { l with bs := l.bs ++ [x.l] } v' (xs ++ [x]) := by
  have hrow : Row w' p 68 (logCells l vb) := h.row.kept hk (fun hy => by
    obtain ⟨_, _, cur, hc⟩ := hy
    have h9 := h.row
    unfold Row at h9
    rw [hc] at h9
    injection h9 with h9
    injection h9 with _ h9 _
    exact absurd h9 (by decide))
  have hset := Kept.cell w' p 6 v'
  refine ⟨by have := hrow.set_ 6 v'; simpa [logCells] using this, .inl (.inl h.fp), ?_, ?_, ?_⟩
  · have h2 : bvs (xs ++ [x]) = bvs xs ++ [x.v] := by simp [bvs]
    rw [h2, List.length_append, List.length_singleton]
    exact (hl.row hrow (by decide) hset).mono fun _ => .inl
  · intro b hb
    rcases List.mem_append.1 hb with hb | hb
    · have h3 := h.bats b hb
      exact ⟨((spare_other hk h3.lies (by decide)).row hrow (by decide) hset).mono fun _ hk => .inl (.inl hk), h3.small⟩
    · obtain rfl := List.mem_singleton.1 hb
      exact ⟨((spare_other hk hx.lies (by decide)).row hrow (by decide) hset).mono fun _ hk => .inr hk, hx.small⟩
  · rw [List.map_append, h.same]
    rfl
/-- A batch more, its disk beside it. -/
theorem LogOn.appended {w w' : World} {FL FD G : Nat → Prop} {p : Nat} {l : L} {d : D} {vb v' : Value} {xs : List Bat} {x : Bat} (h : LogOn w FL FD p l d) (h1 : LogIs w FL p l vb xs) (hx : BatOk w G x) (hG : ∀ k, G k → ¬ FD k ∧ k < w.heap.size)
    (hl : Lies w' (grow FL w) 41 1 v' (xs.length + 1) (bvs xs ++ [x.v])) (hk : Kept (fun g => FL g ∧ Spare vb g ∧ ∃ cur, w.heap[g]? = some (.cells cur 41 (0, 0))) w w') :
    LogOn (w'.setCell ⟨p, 6, none⟩ v') (fun k => (grow FL w k ∨ G k) ∧ k < w'.heap.size) FD p { l with bs := l.bs ++ [x.l] } d := by
  have hset := Kept.cell w' p 6 v'
  have hsz : (w'.setCell ⟨p, 6, none⟩ v').heap.size = w'.heap.size := by simp [World.setCell]
  refine ⟨⟨v', xs ++ [x], ?_⟩, ?_, ?_, fun k hk => by rw [hsz]; exact hk.2, fun k hk9 => by rw [hsz]; exact Nat.lt_of_lt_of_le (h.thereD k hk9) hk.size, h.size, h.n4, h.used, h.base, h.run⟩
  · have := (h1.appended hx hl hk).there
    rw [hsz] at this
    exact this
  · refine (h.disk.kept hk fun k hd hy => h.apart k hy.1 hd).kept hset fun k hd e => ?_
    subst e
    exact h.pp hd
  · rintro k ⟨hk1, hk2⟩ hd
    rcases hk1 with (hk1 | hk1) | hk1
    · exact h.apart k hk1 hd
    · have := h.thereD k hd; omega
    · exact (hG k hk1).1 hd

theorem LogIs.rowKept {w w' : World} {FL : Nat → Prop} {p : Nat} {l : L} {vb : Value} {xs : List Bat} (h : LogIs w FL p l vb xs) (hk : Kept (fun g => FL g ∧ Spare vb g ∧ ∃ cur, w.heap[g]? = some (.cells cur 41 (0, 0))) w w') : Row w' p 68 (logCells l vb) :=
  h.row.kept hk (fun hy => by
    obtain ⟨_, _, cur, hc⟩ := hy
    have h9 := h.row
    unfold Row at h9
    rw [hc] at h9
    injection h9 with h9
    injection h9 with _ h9 _
    exact absurd h9 (by decide))
/-- What is left of a log to which a batch was appended that was cloned just before. -/
theorem appended_left {V W w8 : World} {FL FD : Nat → Prop} {p : Nat} {l : L} {d : D} {vb v8 : Value} {xs : List Bat} {A6 : Option Addr} {c6 : Nat} {b : List Nat} (h : LogOn V FL FD p l d) (h1 : LogIs V FL p l vb xs) (hb : Below V.heap.size V W)
    (hx : Lies W (fun k => V.heap.size ≤ k) 5 1 (.slice A6 b.length c6) b.length (cellsOf b)) (hs : Small b) (hl : Lies w8 (grow FL W) 41 1 v8 (xs.length + 1) (bvs xs ++ [.slice A6 b.length c6]))
    (hk : Kept (fun g => FL g ∧ Spare vb g ∧ ∃ cur, W.heap[g]? = some (.cells cur 41 (0, 0))) W w8) : Left V FL FD p { l with bs := l.bs ++ [b] } d (w8.setCell ⟨p, 6, none⟩ v8) := by
  have hsz := hb.size
  have hlies := hx.there
  have hon := LogOn.appended (x := ⟨A6, c6, b⟩) (G := fun k => V.heap.size ≤ k ∧ k < W.heap.size) (h.call hb) (h1.below hb) ⟨hlies, hs⟩ (fun k hk => ⟨fun hd => by have := h.thereD k hd; omega, hk.2⟩) hl hk
  refine hon.left (fun k hk => ?_) (fun k hk => grow.old hk) ?_
  · rcases hk.1 with (h2 | h2) | h2
    · exact grow.old h2
    · exact grow.fresh (Nat.le_trans hsz h2)
    · exact grow.fresh h2.1
  · exact (hb.kept.trans' (hk.mono fun k _ h2 => .inl h2.1)).trans' ((Kept.cell w8 p 6 v8).mono fun k _ e => by subst e; exact .inl h.mem)
theorem append_no (v : Value) (A : Option Addr) (n c : Nat) (w : World) (h : NoLog w v) :
    Calls Tryd.prog 13 #[v, .slice A n c] w fun e w' => e = .returned (.int .i64 1) ∧ w = w' := by
  have H := Lib.hid h
  clear h
  go_enter Tryd.func13, Tryd.ntmps13
  go_wp2_with (go_at_call 36; refine (lnone_no v _ H.out).mono ?_; rintro e w' ⟨rfl, rfl⟩)
  go_ret
  exact ⟨rfl, rfl⟩
theorem append_dead (w : World) (FL FD : Nat → Prop) (p : Nat) (l : L) (d : D) (A : Option Addr) (n c : Nat) (h : LogOn w FL FD p l d) (hd : l.dead = true) :
    Calls Tryd.prog 13 #[.pointer (some ⟨p, 0, none⟩), .slice A n c] w fun e w' => e = .returned (.int .i64 10) ∧ w = w' := by
  obtain ⟨vb, m, _, _, _, _, _, _, _, h7, _⟩ := h.cells
  rw [hd] at h7
  have H := Lib.hid h
  clear h hd
  go_enter Tryd.func13, Tryd.ntmps13
  go_wp2_with (go_at_call 36; refine (lnone_ok _ FL FD p l d H.out).mono ?_; rintro e w' ⟨rfl, rfl⟩)
  go_ret
  exact ⟨rfl, rfl⟩
theorem append_full (w : World) (FL FD : Nat → Prop) (p : Nat) (l : L) (d : D) (A : Option Addr) (n c : Nat) (h : LogOn w FL FD p l d) (hd : l.dead = false) (hn : roomL l < (n : Int)) :
    Calls Tryd.prog 13 #[.pointer (some ⟨p, 0, none⟩), .slice A n c] w fun e w' => e = .returned (.int .i64 6) ∧ Below w.heap.size w w' := by
  obtain ⟨vb, m, _, _, _, _, _, _, _, h7, _⟩ := h.cells
  rw [hd] at h7
  have H := Lib.hid h
  clear h hd
  go_enter Tryd.func13, Tryd.ntmps13
  go_wp2_with (first
    | (go_at_call 36; refine (lnone_ok _ FL FD p l d H.out).mono ?_; rintro e w' ⟨rfl, rfl⟩)
    | (go_at_call 37; refine (room_ok _ FL FD p l d H.out).mono ?_; rintro e w1 ⟨rfl, hb1⟩))
  go_ret
  exact ⟨rfl, hb1⟩
end Go.Proofs.YtdaefhlfalhfnaaDoor
/- Layer 3: Look: what a log that was loaded hands over is gathered. -/
namespace Go.Proofs.YtdaefhlfalhfnaaDoor
open Go.RowKit Go.Shelf
attribute [local go_sem] Oper.semAt_some

/-- What has been gathered: a list in the block o, all of it made since. -/
structure LookI (w3 : World) (o n₀ : Nat) (ls : List (List Nat)) (pre : List (Nat × Bat)) (W : World) : Prop where
  same : pre.map (fun x => x.2.l) = ls.take pre.length
  cell : ∃ v, Row W o 36 #[v] ∧ Lies W (fun k => n₀ ≤ k) 41 1 v pre.length (bvs (pre.map (·.2)))
  bats : ∀ x ∈ pre, BatOk W (fun k => n₀ ≤ k) x.2
  kept : KB o n₀ w3 W
theorem look_own {w3 : World} {o n₀ B : Nat} {ls : List (List Nat)} (hB : n₀ ≤ B) : OwnFrom B (fun pre W => LookI w3 o n₀ ls pre W) := by
  intro pre W W' row h hg hr
  have hc : ∀ {k : Nat} {cs : Array Value} {t : TypeId}, Row W k t cs → Row W' k t cs := fun {k cs t} hk => (grownBy_keeps_cells hg (fun r e => (hr r e).2) (k := k) (o := .cells cs t (0, 0)) hk rfl).trans hk
  obtain ⟨v, h1, h2⟩ := h.cell
  exact ⟨h.same, ⟨v, hc h1, h2.same fun g cur _ hh => hc hh⟩, fun x hx => ⟨(h.bats x hx).lies.same fun g cur _ hh => hc hh, (h.bats x hx).small⟩, h.kept.grown hg fun r e => Nat.le_trans hB (hr r e).1⟩
theorem look_start {w3 : World} {o n₀ : Nat} {ls : List (List Nat)} (h : Row w3 o 36 #[.slice none 0 0]) : LookI w3 o n₀ ls [] w3 :=
  ⟨by simp, ⟨_, h, Lies.empty _ _ _ _ _⟩, fun x hx => (List.not_mem_nil hx).elim, KB.refl _ _ _⟩
/-- A round: one batch more. -/
theorem look_next {w3 W w6 : World} {o n₀ : Nat} {xs : List Bat} {pre : List (Nat × Bat)} {x : Nat × Bat} {A : Option Addr} {c : Nat} {v : Value} {y : Obj} (h : LookI w3 o n₀ (xs.map (·.l)) pre W) (hx : BatNext xs n₀ pre x W) (hlen : pre.length < xs.length) (ho : o < n₀) (hn : n₀ ≤ w3.heap.size)
    (hl : Lies w6 (grow (fun k => n₀ ≤ k) (W.alloc y)) 41 1 (.slice A (pre.length + 1) c) (pre.length + 1) (bvs (pre.map (·.2)) ++ [x.2.v]))
    (hk : Kept (fun g => n₀ ≤ g ∧ Spare v g ∧ ∃ cur, (W.alloc y).heap[g]? = some (.cells cur 41 (0, 0))) (W.alloc y) w6) :
    KeepsOthers W (w6.setCell ⟨o, 0, none⟩ (.slice A (pre.length + 1) c)) ∧ KB o n₀ W (w6.setCell ⟨o, 0, none⟩ (.slice A (pre.length + 1) c)) ∧ LookI w3 o n₀ (xs.map (·.l)) (pre ++ [x]) (w6.setCell ⟨o, 0, none⟩ (.slice A (pre.length + 1) c)) := by
  have hsz : w3.heap.size ≤ W.heap.size := h.kept.size
  have hba : Below W.heap.size W (W.alloc y) := (Below.refl _ _).alloc (Nat.le_refl _) _
  have hkb : KB o n₀ W (w6.setCell ⟨o, 0, none⟩ (.slice A (pre.length + 1) c)) := by
    refine Kept.setCell ?_ (grow.old (.inl rfl)) _
    refine Kept.trans' ((Kept.refl _ W).alloc y) (hk.mono fun k _ hk => .inr hk.1)
  obtain ⟨v0, h1, h2⟩ := h.cell
  have ho6 : Row w6 o 36 #[v0] := (h1.alloc y).kept hk (fun hx => by have := hx.1; omega)
  have hbat : ∀ z : Bat, BatOk W (fun k => n₀ ≤ k) z → BatOk (w6.setCell ⟨o, 0, none⟩ (.slice A (pre.length + 1) c)) (fun k => n₀ ≤ k) z := fun z hz =>
    ⟨(spare_other hk (hz.lies.below hba) (by decide)).row ho6 (by decide) (Kept.cell _ _ _ _), hz.small⟩
  refine ⟨((KeepsOthers.alloc _ _).trans (KeepsOthers.of_spare hk)).trans (KeepsOthers.setCell _ _ _), hkb, ?_, ⟨_, ho6.set_ 0 _, ?_⟩, fun z hz => ?_, h.kept.trans hkb⟩
  · rw [List.map_append, h.same, List.length_append, List.length_singleton, List.take_add_one, List.getElem?_map, List.getElem?_eq_getElem hlen]
    have h9 := hx.2.1
    rw [List.getD_eq_getElem?_getD, List.getElem?_eq_getElem hlen] at h9
    simp only [List.map_cons, List.map_nil, Option.map_some, Option.toList_some, h9, Option.getD_some]
  · have e : bvs ((pre ++ [x]).map (·.2)) = bvs (pre.map (·.2)) ++ [x.2.v] := by simp [bvs]
    rw [e, List.length_append, List.length_singleton]
    refine (hl.mono fun k hk => ?_).row ho6 (by decide) (Kept.cell _ _ _ _)
    rcases hk with hk | hk
    · exact hk
    · have : (W.alloc y).heap.size = W.heap.size + 1 := by simp
      omega
  · rcases List.mem_append.1 hz with hz | hz
    · exact hbat _ (h.bats z hz)
    · obtain rfl := List.mem_singleton.1 hz
      exact hbat _ hx.2.2
/-- What Look hands back: batches of its own. -/
def LookPost (w : World) (ls : List (List Nat)) (k : Int) (e : Ending) (w' : World) : Prop :=
  ∃ v ys, e = .returned (.tuple #[v, .int .i64 k]) ∧ ys.map (·.l) = ls ∧ Lies w' (grow noBlock w) 41 1 v ys.length (bvs ys) ∧ (∀ b ∈ ys, BatOk w' (grow noBlock w) b) ∧ Below w.heap.size w w'
/-- What load has handed back: what Batches of it hands over. -/
structure Loaded (w : World) (v : Value) (xs : List Bat) : Prop where
  batches : ∀ W, Below w.heap.size w W → Calls Tryd.prog 35 #[v] W (BatchesPost W xs)
  bats : ∀ b ∈ xs, BatOk w (fun k => k < w.heap.size) b
  few : xs.length ≤ 1000000
  small : ∀ b ∈ xs, b.l.length ≤ 140737488355328
set_option maxRecDepth 100000 in
set_option maxHeartbeats 1000000 in
theorem look_run (v : Value) (from_ n k : Int) (w : World) (ls : List (List Nat)) (h : Calls Tryd.prog 32 #[v, .int .i64 from_, .int .i64 n] w fun e w' => ∃ vl xs, e = .returned (.tuple #[vl, .int .i64 k]) ∧ Below w.heap.size w w' ∧ Loaded w' vl xs ∧ xs.map (·.l) = ls) :
    Calls Tryd.prog 12 #[v, .int .i64 from_, .int .i64 n] w (LookPost w ls k) := by
  have H := Lib.hid h
  clear h
  refine (callsIn_wide (n := 4)).1 ?_
  refine callsIn_of_wp_marks Tryd.func12 rfl trivial ?_ rfl
  simp only [Tryd.ntmps12, List.size_toArray, List.length_cons, List.length_nil, Nat.reduceAdd, Nat.reduceSub, Array.replicate_succ, Array.replicate_zero, List.push_toArray, List.append_toArray, List.nil_append, List.cons_append]
  refine wpIn_wide.2 ?_
  go_wp2_with (go_at_call 32; refine H.out.mono ?_; rintro e w1 ⟨vl, xs, rfl, hb1, hld, rfl⟩)
  have HB1 := Lib.hid hb1
  have HLD := Lib.hid hld
  clear hb1 hld
  obtain ⟨w2, hw2⟩ : ∃ w2, w2 = w1.alloc (.cells #[.slice none 0 0] 36) := ⟨_, rfl⟩
  have hr2 : Row w2 w1.heap.size 36 #[.slice none 0 0] := by subst hw2; exact Row.new _ _ _
  have hb2 : Below w1.heap.size w1 w2 := by subst hw2; exact (Below.refl _ _).alloc (Nat.le_refl _) _
  have HR2 := Lib.hid hr2
  have HB2 := Lib.hid hb2
  rw [← hw2]
  clear hw2 hr2 hb2
  refine (HLD.out.batches w2 HB2.out).mono ?_
  rintro e w3 ⟨q, vq, rfl, hq, hrq, hlq, hb3⟩
  have HRQ := Lib.hid hrq
  have HLQ := Lib.hid hlq
  have HB3 := Lib.hid hb3
  have HQ := Lib.hid hq
  have ho : w1.heap.size < w3.heap.size := Nat.lt_of_lt_of_le HR2.out.lt HB3.out.size
  have hoq : w1.heap.size < q := Nat.lt_of_lt_of_le HR2.out.lt HQ.out
  have hq3 : q < w3.heap.size := HRQ.out.lt
  clear hrq hlq hb3 hq
  go_wp2_with fail
  refine (wpIn_wide (n := 4)).1 ?_
  refine wpIn_rangeP rfl (by omega) (gf := 59) (lb := #[.pointer (some ⟨q, 0, none⟩)]) rfl trivial (enters_of Tryd.func59 (by kernel_rfl) rfl)
    (batches_seq (fun k => k < w3.heap.size ∧ k ≠ w1.heap.size) w3 q w3.heap.size xs vq HLD.out.few HLD.out.small (KB w1.heap.size w3.heap.size) ?hKl (Nat.le_refl _) (HRQ.out.cell (i := 0) rfl) ?hl ?hb)
    KB.trans (fun W l o o' h1 h2 h3 h4 => KB.turn (Nat.le_refl _) W l o o' h1 h2 h3 h4) ?hPb (Below.refl _ _) (fun _ => rfl)
    (fun pre W => LookI w3 w1.heap.size w3.heap.size (xs.map (·.l)) pre W) (fun _ _ _ => False) (look_own (Nat.le_refl _)) (fun c s W W' row h _ _ => h.elim) (look_start (HR2.out.call HB3.out)) ?a1 ?assign ?body ?done ?stop
  case stop =>
    rintro D c pre W _ _ h _
    exact h.elim
  case hKl =>
    intro W W' hk hs
    refine ⟨Nat.le_trans hs hk.size, fun hc => hk.cell hc hq3 (Nat.ne_of_gt hoq), fun hl => hl.kept hk fun k h1 h2 => ?_, fun b _ hb => hb.kept hk fun k h1 h2 => ?_⟩
    · rcases h2 with h2 | h2
      · exact h1.2 h2
      · have := h1.1; omega
    · rcases h2 with h2 | h2
      · exact h1.2 h2
      · have := h1.1; omega
  case hl =>
    refine HLQ.out.there.mono fun k hk => ⟨hk.2, ?_⟩
    rcases hk.1 with h1 | h1
    · exact h1.elim
    · have := HR2.out.lt
      omega
  case hb =>
    intro b hb
    exact ((HLD.out.bats b hb).below (HB2.out.trans (HB3.out.mono HB2.out.size))).mono fun k hk => ⟨by omega, by omega⟩
  case hPb =>
    rintro pre x W l o o' hl hc ⟨h1, h2, h3⟩
    refine ⟨h1, h2, h3.lies.same fun g cur _ hg => ?_, h3.small⟩
    refine (World.putObj_heap_other ?_).trans hg
    rintro rfl
    rw [hl] at hg
    cases hg
    cases hc
  case assign =>
    intro l' x W K hK
    simp only [oneBat]
    gi_wp2
    exact hK
  case body =>
    rintro l' pre ⟨i, xA, xc, xl⟩ W hI hx hlen
    have hfew : xs.length ≤ 1000000 := HLD.out.few
    obtain ⟨v0, hrow, hl⟩ := hI.cell
    obtain ⟨A0, c0, hv, _, _⟩ := hl.form
    subst hv
    have hba : Below W.heap.size W (W.alloc (.cells #[.slice xA xl.length xc] 41)) := (Below.refl _ _).alloc (Nat.le_refl _) _
    have hr1 := hrow.call hba
    have hc0 := hrow.cell (i := 0) (v := .slice A0 pre.length c0) rfl
    have hc1 := hr1.cell (i := 0) (v := .slice A0 pre.length c0) rfl
    have HR1 := Lib.hid hr1
    have HL1 := Lib.hid (hl.below hba)
    have hsrc : Hid (Source (W.alloc (.cells #[.slice xA xl.length xc] 41)) (some ⟨W.heap.size, 0, none⟩) 1 [.slice xA xl.length xc]) := Lib.hid (.inr ⟨_, rfl, World.news_of_block (heap_alloc_new _ _)⟩)
    have HI := Lib.hid hI
    have HX := Lib.hid hx
    clear hI hx hrow hl hba hr1
    simp only [Bat.v]
    gi_wp2_with (first
      | (gi_at_builtin
         go_loud (
           refine wpListIn_append_any ?_ (fun k => w3.heap.size ≤ k) (.tmp 24) (.tmp 26) 36 ?_ 41 1 24 (.slice none 0 0) Tryd.underlying36 infoBats rfl (by decide) (.slice A0 pre.length c0) pre.length (bvs (pre.map (·.2))) ?_ HL1.out _ 1 1 [.slice xA xl.length xc] ?_ rfl hsrc.out ?_ (by omega) (by decide) ?_
           · with_reducible rfl
           · with_reducible rfl
           · rfl
           · rfl
           · intro u hu; simp at hu; subst hu; rfl
           intro v' w6 hl6 hk6
           obtain ⟨A6, c6, rfl, _, _⟩ := hl6.form
           have ho6 := HR1.out.kept hk6 (fun h9 => by have := h9.1; omega)
           have ho6c := ho6.cell (i := 0) (v := .slice A0 pre.length c0) rfl
           have ho6f := ho6.free 0
           have HN := Lib.hid (look_next (x := (i, ⟨xA, xc, xl⟩)) HI.out HX.out hlen ho (Nat.le_refl _) hl6 hk6)
           clear hl6 hk6 ho6)))
    exact HN.out
  case done =>
    rintro D ys W hD hys hI hK
    obtain ⟨v, hr, hl⟩ := hI.cell
    have hcl := hr.cell (i := 0) (v := v) rfl
    have hbw : Below w.heap.size w W := HB1.out.trans (((HB2.out.trans (HB3.out.mono HB2.out.size)).mono HB1.out.size).trans (hI.kept.below (Nat.le_trans HB1.out.size (Nat.le_of_lt ho)) (fun k hk => by
      have h1 := HB1.out.size
      rcases hk with hk | hk <;> omega)))
    have hbe : Below w.heap.size w (W.putObj D (.deferred none)) := hbw.trans (belowK_b (w := w) (Nat.le_refl _) W D _ (.deferred none) (by have := HB1.out.size; omega) hK rfl rfl)
    have hput : ∀ (g : Nat) (cur : Array Value) (e : TypeId), W.heap[g]? = some (.cells cur e (0, 0)) → (W.putObj D (.deferred none)).heap[g]? = some (.cells cur e (0, 0)) := fun g cur e hg => (World.putObj_heap_other (by
      rintro rfl
      rw [hK] at hg
      cases hg)).trans hg
    have hF : ∀ k, w3.heap.size ≤ k → grow noBlock w k := fun k hk => .inr (by have := HB1.out.size; omega)
    have HFIN : Hid (LookPost w (xs.map (·.l)) k (.returned (.tuple #[v, .int .i64 k])) (W.putObj D (.deferred none))) := Lib.hid (by
      have h1 := hI.same
      rw [hys, List.take_of_length_le (by rw [List.length_map]; exact Nat.le_refl _)] at h1
      refine ⟨v, ys.map (·.2), rfl, by rw [← h1, List.map_map]; rfl, ?_, fun b hb => ?_, hbe⟩
      · rw [List.length_map]
        exact (hl.same fun g cur _ hg => hput g cur _ hg).mono hF
      · obtain ⟨x, hx, rfl⟩ := List.mem_map.1 hb
        exact BatOk.mono ⟨(hI.bats x hx).lies.same fun g cur _ hg => hput g cur _ hg, (hI.bats x hx).small⟩ hF)
    have HKK := Lib.hid hK
    obtain ⟨A, c, rfl, _, _⟩ := hl.form
    clear hI hr hl hbw hbe hput hF hK
    go_wp2
    refine ⟨by simp, .inl ⟨_, _, rfl, run_takeDeferred HKK.out, ?_⟩⟩
    refine ⟨.tuple #[.slice A ys.length c, .int .i64 k], ?_, HFIN.out⟩
    simp [results, Tryd.f12, go_sem]
    exact hys.symm
/-- No log was loaded: there are no batches. -/
theorem loaded_none (w : World) : Loaded w (.pointer none) [] :=
  ⟨fun W _ => batches_no (.pointer none) W (.inl rfl), fun b hb => (List.not_mem_nil hb).elim, by decide, fun b hb => (List.not_mem_nil hb).elim⟩
theorem look_no (v : Value) (from_ n : Int) (w : World) (h : NoDisk w v) :
    Calls Tryd.prog 12 #[v, .int .i64 from_, .int .i64 n] w (LookPost w [] 1) :=
  look_run v from_ n 1 w [] ((load_no v from_ n w h).mono fun _ w' ⟨he, hb⟩ => ⟨_, [], he, hb, loaded_none w', rfl⟩)
theorem look_not (w : World) (FD : Nat → Prop) (dp : Nat) (d : D) (from_ n : Int) (h : DiskAt w FD dp d) (hw : (Lit.int .i64 from_).wf = true) (hp : placeE d.size from_ n ≠ 0) :
    Calls Tryd.prog 12 #[.pointer (some ⟨dp, 0, none⟩), .int .i64 from_, .int .i64 n] w (LookPost w [] (placeE d.size from_ n)) :=
  look_run _ from_ n _ w [] ((load_not w FD dp d from_ n h hw hp).mono fun _ w' ⟨he, hb⟩ => ⟨_, [], he, hb, loaded_none w', rfl⟩)
/-- A log was loaded: its batches. -/
theorem loaded_log {w : World} {FL FD : Nat → Prop} {p : Nat} {l : L} {d : D} (h : LogOn w FL FD p l d) (hn : l.bs.length ≤ 1000000) (hs : ∀ b ∈ l.bs, b.length ≤ 140737488355328) : ∃ xs : List Bat, xs.map (·.l) = l.bs ∧ Loaded w (.pointer (some ⟨p, 0, none⟩)) xs := by
  obtain ⟨vb, xs, hx⟩ := h.log
  have hlen : xs.length = l.bs.length := by rw [← hx.same, List.length_map]
  refine ⟨xs, hx.same, fun W hb => batches_ok W FL FD p l d vb xs (h.call hb) (hx.below hb) (by omega), fun b hb => (hx.bats b hb).mono fun k hk => h.thereL k hk, by omega, fun b hb => hs _ ?_⟩
  rw [← hx.same]
  exact List.mem_map_of_mem hb
end Go.Proofs.YtdaefhlfalhfnaaDoor
