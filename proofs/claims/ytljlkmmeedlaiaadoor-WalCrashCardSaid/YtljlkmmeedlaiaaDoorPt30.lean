/- Layer 3: a batch more in memory; what Append answers without a write. -/
import Derived.Test.YtljlkmmeedlaiaaDoorPt26
import Derived.Test.YtljlkmmeedlaiaaDoorPt28
import Derived.Test.YtljlkmmeedlaiaaDoorPt24
import Derived.Test.YtljlkmmeedlaiaaDoorPt29
namespace Go.Proofs.YtljlkmmeedlaiaaDoor
open Go.RowKit

/-- What an append to the list of batches turns is no block of another type. -/
theorem spare_other {w w' : World} {FL F : Nat → Prop} {vb : Value} {e e' : TypeId} {size n : Nat} {v : Value} {ys : List Value} (hk : Kept (fun g => FL g ∧ Spare vb g ∧ ∃ cur, w.heap[g]? = some (.cells cur e (0, 0))) w w') (h : Lies w F e' size v n ys) (he : e ≠ e') : Lies w' F e' size v n ys :=
  h.same fun g cur _ hh => hk.heap hh fun hy => by
    obtain ⟨_, _, cur', hc⟩ := hy
    rw [hh] at hc
    injection hc with hc
    injection hc with _ hc _
    exact he hc.symm
/-- A batch more: its bytes lie in blocks G, the list has grown. -/
theorem LogIs.appended {w w' : World} {FL G : Nat → Prop} {p : Nat} {l : L} {vb v' : Value} {xs : List Bat} {x : Bat} (h : LogIs w FL p l vb xs) (hx : BatOk w G x)
    (hl : Lies w' (grow FL w) 41 1 v' (xs.length + 1) (bvs xs ++ [x.v])) (hk : Kept (fun g => FL g ∧ Spare vb g ∧ ∃ cur, w.heap[g]? = some (.cells cur 41 (0, 0))) w w') :
    LogIs (w'.setCell ⟨p, 6, none⟩ v') (fun k => grow FL w k ∨ G k) p { l with bs := l.bs ++ [x.l] } v' (xs ++ [x]) := by
  have hrow : Row w' p 68 (logCells l vb) := h.row.kept hk (fun hy => by
    obtain ⟨_, _, cur, hc⟩ := hy
    have h9 := h.row
    unfold Row at h9
    rw [hc] at h9
    injection h9 with h9
    injection h9 with _ h9 _
    exact absurd h9 (by decide))
  have hset := Kept.cell w' p 6 v'
  refine ⟨by have := hrow.set_ 6 v'; simpa [logCells] using this, .inl (.inl h.fp), ?_, ?_, ?_⟩
  · have h2 : bvs (xs ++ [x]) = bvs xs ++ [x.v] := by simp [bvs]
    rw [h2, List.length_append, List.length_singleton]
    exact (hl.row hrow (by decide) hset).mono fun _ => .inl
  · intro b hb
    rcases List.mem_append.1 hb with hb | hb
    · have h3 := h.bats b hb
      exact ⟨((spare_other hk h3.lies (by decide)).row hrow (by decide) hset).mono fun _ hk => .inl (.inl hk), h3.small⟩
    · obtain rfl := List.mem_singleton.1 hb
      exact ⟨((spare_other hk hx.lies (by decide)).row hrow (by decide) hset).mono fun _ hk => .inr hk, hx.small⟩
  · rw [List.map_append, h.same]
    rfl
/-- A batch more, its disk beside it. -/
theorem LogOn.appended {w w' : World} {FL FD G : Nat → Prop} {p : Nat} {l : L} {d : D} {vb v' : Value} {xs : List Bat} {x : Bat} (h : LogOn w FL FD p l d) (h1 : LogIs w FL p l vb xs) (hx : BatOk w G x) (hG : ∀ k, G k → ¬ FD k ∧ k < w.heap.size)
    (hl : Lies w' (grow FL w) 41 1 v' (xs.length + 1) (bvs xs ++ [x.v])) (hk : Kept (fun g => FL g ∧ Spare vb g ∧ ∃ cur, w.heap[g]? = some (.cells cur 41 (0, 0))) w w') :
    LogOn (w'.setCell ⟨p, 6, none⟩ v') (fun k => (grow FL w k ∨ G k) ∧ k < w'.heap.size) FD p { l with bs := l.bs ++ [x.l] } d := by
  have hset := Kept.cell w' p 6 v'
  have hsz : (w'.setCell ⟨p, 6, none⟩ v').heap.size = w'.heap.size := by simp [World.setCell]
  refine ⟨⟨v', xs ++ [x], ?_⟩, ?_, ?_, fun k hk => by rw [hsz]; exact hk.2, fun k hk9 => by rw [hsz]; exact Nat.lt_of_lt_of_le (h.thereD k hk9) hk.size, h.size, h.n4, h.used, h.base, h.run⟩
  · have := (h1.appended hx hl hk).there
    rw [hsz] at this
    exact this
  · refine (h.disk.kept hk fun k hd hy => h.apart k hy.1 hd).kept hset fun k hd e => ?_
    subst e
    exact h.pp hd
  · rintro k ⟨hk1, hk2⟩ hd
    rcases hk1 with (hk1 | hk1) | hk1
    · exact h.apart k hk1 hd
    · have := h.thereD k hd; omega
    · exact (hG k hk1).1 hd

theorem LogIs.rowKept {w w' : World} {FL : Nat → Prop} {p : Nat} {l : L} {vb : Value} {xs : List Bat} (h : LogIs w FL p l vb xs) (hk : Kept (fun g => FL g ∧ Spare vb g ∧ ∃ cur, w.heap[g]? = some (.cells cur 41 (0, 0))) w w') : Row w' p 68 (logCells l vb) :=
  h.row.kept hk (fun hy => by
    obtain ⟨_, _, cur, hc⟩ := hy
    have h9 := h.row
    unfold Row at h9
    rw [hc] at h9
    injection h9 with h9
    injection h9 with _ h9 _
    exact absurd h9 (by decide))
/-- What is left of a log to which a batch was appended that was cloned just before. -/
theorem appended_left {V W w8 : World} {FL FD : Nat → Prop} {p : Nat} {l : L} {d : D} {vb v8 : Value} {xs : List Bat} {A6 : Option Addr} {c6 : Nat} {b : List Nat} (h : LogOn V FL FD p l d) (h1 : LogIs V FL p l vb xs) (hb : Below V.heap.size V W)
    (hx : Lies W (fun k => V.heap.size ≤ k) 5 1 (.slice A6 b.length c6) b.length (cellsOf b)) (hs : Small b) (hl : Lies w8 (grow FL W) 41 1 v8 (xs.length + 1) (bvs xs ++ [.slice A6 b.length c6]))
    (hk : Kept (fun g => FL g ∧ Spare vb g ∧ ∃ cur, W.heap[g]? = some (.cells cur 41 (0, 0))) W w8) : Left V FL FD p { l with bs := l.bs ++ [b] } d (w8.setCell ⟨p, 6, none⟩ v8) := by
  have hsz := hb.size
  have hlies := hx.there
  have hon := LogOn.appended (x := ⟨A6, c6, b⟩) (G := fun k => V.heap.size ≤ k ∧ k < W.heap.size) (h.call hb) (h1.below hb) ⟨hlies, hs⟩ (fun k hk => ⟨fun hd => by have := h.thereD k hd; omega, hk.2⟩) hl hk
  refine hon.left (fun k hk => ?_) (fun k hk => grow.old hk) ?_
  · rcases hk.1 with (h2 | h2) | h2
    · exact grow.old h2
    · exact grow.fresh (Nat.le_trans hsz h2)
    · exact grow.fresh h2.1
  · exact (hb.kept.trans' (hk.mono fun k _ h2 => .inl h2.1)).trans' ((Kept.cell w8 p 6 v8).mono fun k _ e => by subst e; exact .inl h.mem)
theorem append_no (v : Value) (A : Option Addr) (n c : Nat) (w : World) (h : NoLog w v) :
    Calls Tryd.prog 13 #[v, .slice A n c] w fun e w' => e = .returned (.int .i64 1) ∧ w = w' := by
  have H := Lib.hid h
  clear h
  go_enter Tryd.func13, Tryd.ntmps13
  go_wp2_with (go_at_call 36; refine (lnone_no v _ H.out).mono ?_; rintro e w' ⟨rfl, rfl⟩)
  go_ret
  exact ⟨rfl, rfl⟩
theorem append_dead (w : World) (FL FD : Nat → Prop) (p : Nat) (l : L) (d : D) (A : Option Addr) (n c : Nat) (h : LogOn w FL FD p l d) (hd : l.dead = true) :
    Calls Tryd.prog 13 #[.pointer (some ⟨p, 0, none⟩), .slice A n c] w fun e w' => e = .returned (.int .i64 10) ∧ w = w' := by
  obtain ⟨vb, m, _, _, _, _, _, _, _, h7, _⟩ := h.cells
  rw [hd] at h7
  have H := Lib.hid h
  clear h hd
  go_enter Tryd.func13, Tryd.ntmps13
  go_wp2_with (go_at_call 36; refine (lnone_ok _ FL FD p l d H.out).mono ?_; rintro e w' ⟨rfl, rfl⟩)
  go_ret
  exact ⟨rfl, rfl⟩
theorem append_full (w : World) (FL FD : Nat → Prop) (p : Nat) (l : L) (d : D) (A : Option Addr) (n c : Nat) (h : LogOn w FL FD p l d) (hd : l.dead = false) (hn : roomL l < (n : Int)) :
    Calls Tryd.prog 13 #[.pointer (some ⟨p, 0, none⟩), .slice A n c] w fun e w' => e = .returned (.int .i64 6) ∧ Below w.heap.size w w' := by
  obtain ⟨vb, m, _, _, _, _, _, _, _, h7, _⟩ := h.cells
  rw [hd] at h7
  have H := Lib.hid h
  clear h hd
  go_enter Tryd.func13, Tryd.ntmps13
  go_wp2_with (first
    | (go_at_call 36; refine (lnone_ok _ FL FD p l d H.out).mono ?_; rintro e w' ⟨rfl, rfl⟩)
    | (go_at_call 37; refine (room_ok _ FL FD p l d H.out).mono ?_; rintro e w1 ⟨rfl, hb1⟩))
  go_ret
  exact ⟨rfl, hb1⟩
end Go.Proofs.YtljlkmmeedlaiaaDoor
/- Layer 3: what stands while a body's batches are counted (readBody's second loop). -/
namespace Go.Proofs.YtljlkmmeedlaiaaDoor
open Go.RowKit Go.Shelf

/-- A log and its disk stand where a block that is neither cells nor theirs turns. -/
theorem LogOn.grown {W W' : World} {FL FD : Nat → Prop} {p B : Nat} {l : L} {d : D} {row : Option Nat} (h : LogOn W FL FD p l d) (hg : W.grownBy W' row) (hB : ∀ k, FD k → k < B) (hr : ∀ r, row = some r → B ≤ r ∧ ∃ o : Obj, W.heap[r]? = some o ∧ o.isCells = false) : LogOn W' FL FD p l d := by
  have hc : ∀ {k : Nat} {cs : Array Value} {t : TypeId}, Row W k t cs → Row W' k t cs := fun {k cs t} hk => (grownBy_keeps_cells hg (fun r e => (hr r e).2) (k := k) (o := .cells cs t (0, 0)) hk rfl).trans hk
  obtain ⟨vb, xs, hx⟩ := h.log
  have hk : Kept (fun k => row = some k) W W' := ⟨hg.os, hg.tape, hg.output, hg.size, fun k hk hn => hg.block k hk fun e => hn e.symm⟩
  refine ⟨⟨vb, xs, hc hx.row, hx.fp, hx.list.same fun g cur _ hh => hc hh, fun b hb => ⟨(hx.bats b hb).lies.same fun g cur _ hh => hc hh, (hx.bats b hb).small⟩, hx.same⟩, h.disk.kept hk fun k hd e => ?_, h.apart, fun k hk => Nat.lt_of_lt_of_le (h.thereL k hk) hg.size, fun k hk => Nat.lt_of_lt_of_le (h.thereD k hk) hg.size, h.size, h.n4, h.used, h.base, h.run⟩
  have h1 := hB k hd
  have h2 := (hr k e).1
  omega
/-- The four cells (run and left, batch, place) in blocks G to G + 3, the log and the batch under way. -/
structure CountI (w8 : World) (FL FD : Nat → Prop) (p G : Nat) (l : L) (d : D) (c : Sc) (W : World) : Prop where
  run : Row W G 40 #[.int .u64 c.run]
  left : Row W (G + 1) 40 #[.int .u64 c.left]
  place : Row W (G + 1 + 1 + 1) 3 #[.int .i64 c.place]
  small : Small c.batch
  log : ∃ FL' v, LogOn W FL' FD p { l with used := c.used, bs := c.bs } d ∧ (∀ k, FL' k → FL k ∨ w8.heap.size ≤ k) ∧ Row W (G + 1 + 1) 41 #[v] ∧ (c.left ≠ 0 → Lies W (fun k => w8.heap.size ≤ k ∧ ¬ FL' k) 5 1 v c.batch.length (cellsOf c.batch))
  kept : Kept (fun k => FL k ∨ (G ≤ k ∧ k ≤ G + 3)) w8 W
theorem count_own {w8 : World} {FL FD : Nat → Prop} {p G B : Nat} {l : L} {d : D} {α : Type} (S : α → Sc → Prop) (hB : w8.heap.size ≤ B) (hD : ∀ k, FD k → k < B) : OwnFrom B (fun (pre : α) W => ∃ c, S pre c ∧ CountI w8 FL FD p G l d c W) := by
  rintro pre W W' row ⟨c, hS, h⟩ hg hr
  have hc : ∀ {k : Nat} {cs : Array Value} {t : TypeId}, Row W k t cs → Row W' k t cs := fun {k cs t} hk => (grownBy_keeps_cells hg (fun r e => (hr r e).2) (k := k) (o := .cells cs t (0, 0)) hk rfl).trans hk
  obtain ⟨FL', v, h1, h2, h3, h4⟩ := h.log
  exact ⟨c, hS, hc h.run, hc h.left, hc h.place, h.small, ⟨FL', v, h1.grown hg hD hr, h2, hc h3, fun h0 => (h4 h0).same fun g cur _ hh => hc hh⟩,
    h.kept.trans ⟨hg.os, hg.tape, hg.output, hg.size, fun k hk hn => hg.block k hk fun e => hn (.inr (Nat.le_trans hB (hr k e.symm).1))⟩⟩
theorem CountI.call {w8 W W' : World} {FL FD : Nat → Prop} {p G : Nat} {l : L} {d : D} {c : Sc} (h : CountI w8 FL FD p G l d c W) (hb : Below W.heap.size W W') : CountI w8 FL FD p G l d c W' := by
  obtain ⟨FL', v, h1, h2, h3, h4⟩ := h.log
  exact ⟨h.run.call hb, h.left.call hb, h.place.call hb, h.small, ⟨FL', v, h1.call hb, h2, h3.call hb, fun h0 => (h4 h0).below hb⟩, h.kept.trans' hb.kept⟩
theorem count_start {w8 : World} {FL FD : Nat → Prop} {p G : Nat} {l : L} {d : D} (h0 : Row w8 G 40 #[.int .u64 0]) (h1 : Row w8 (G + 1) 40 #[.int .u64 0]) (h2 : Row w8 (G + 1 + 1) 41 #[.slice none 0 0]) (h3 : Row w8 (G + 1 + 1 + 1) 3 #[.int .i64 0])
    (h : LogOn w8 FL FD p l d) (hu : l.used = 0) (hb : l.bs = []) : CountI w8 FL FD p G l d sc0 w8 := by
  refine ⟨h0, h1, h3, Small.nil, ⟨FL, _, ?_, fun k => .inl, h2, fun h9 => absurd rfl h9⟩, Kept.refl _ _⟩
  have e : ({ l with used := sc0.used, bs := sc0.bs } : L) = l := by
    cases l
    simp only [] at hu hb
    subst hu; subst hb
    rfl
  rw [e]
  exact h
/-- All sectors were taken. -/
theorem frTo_body (f : Int → List Nat) (a : Int) (N : Nat) : (frTo N N).map (fun x => f (a + (x.val : Int))) = bodyFrom f a N 0 := by
  have h := congrArg (List.map fun (j : Nat) => f (a + (j : Int))) (frTo_map (N := N) (Nat.le_refl N))
  rw [List.map_map] at h
  unfold bodyFrom
  rw [Nat.sub_zero, ← List.range_eq_range']
  exact h
theorem count_all {f : Int → List Nat} {a : Int} {N base : Nat} {c : Sc} (h : scanAll base sc0 ((frTo N N).map fun x => f (a + (x.val : Int))) = some c) : scan base sc0 (bodyFrom f a N 0) = c := by
  rw [frTo_body] at h
  exact scan_of_all h
theorem frTo_more {N j : Nat} (h : j ≤ N) : ∃ r, frTo N N = frTo N j ++ r := by
  obtain ⟨k, rfl⟩ := Nat.exists_eq_add_of_le h
  clear h
  suffices H : ∀ i, i ≤ k → ∃ r, frTo (j + k) (j + i) = frTo (j + k) j ++ r from H k (Nat.le_refl _)
  intro i
  induction i with
  | zero => intro _; exact ⟨[], by simp⟩
  | succ i ih =>
    intro hi
    obtain ⟨r, hr⟩ := ih (by omega)
    have hlt : j + i < j + k := by omega
    refine ⟨r ++ [⟨j + i, hlt⟩], ?_⟩
    rw [← Nat.add_assoc, frTo_succ hlt, hr, List.append_assoc]
/-- A sector stopped it. -/
theorem count_stop {f : Int → List Nat} {a : Int} {N base j : Nat} {c : Sc} {pre : List (Fin N)} {x : Fin N} (hj : j ≤ N) (hp : pre ++ [x] = frTo N j) (h : scanAll base sc0 (pre.map fun x => f (a + (x.val : Int))) = some c) (hs : stopsB base c (f (a + (x.val : Int))) = true) :
    scan base sc0 (bodyFrom f a N 0) = c := by
  obtain ⟨r, hr⟩ := frTo_more hj
  rw [← frTo_body, hr, ← hp, List.append_assoc, List.map_append]
  exact scan_stop h hs
theorem LogOn.kept {W W' : World} {FL FD X : Nat → Prop} {p : Nat} {l : L} {d : D} (h : LogOn W FL FD p l d) (hk : Kept X W W') (hL : ∀ k, FL k → ¬ X k) (hD : ∀ k, FD k → ¬ X k) : LogOn W' FL FD p l d := by
  obtain ⟨vb, xs, hx⟩ := h.log
  exact ⟨⟨vb, xs, hx.kept hk hL⟩, h.disk.kept hk hD, h.apart, fun k hk9 => Nat.lt_of_lt_of_le (h.thereL k hk9) hk.size, fun k hk9 => Nat.lt_of_lt_of_le (h.thereD k hk9) hk.size, h.size, h.n4, h.used, h.base, h.run⟩
/-- A batch begins. -/
theorem CountI.begin {w8 W W6 : World} {FL FD : Nat → Prop} {p G : Nat} {l : L} {d : D} {c : Sc} (h : CountI w8 FL FD p G l d c W) (hG : G + 3 < w8.heap.size) (hL : ∀ k, FL k → k < G) (hD : ∀ k, FD k → k < G) (s : List Nat) (h0 : c.left = 0)
    (hb : Below (W.setCell ⟨G, 0, none⟩ (.int .u64 (runL s))).heap.size (W.setCell ⟨G, 0, none⟩ (.int .u64 (runL s))) W6) :
    CountI w8 FL FD p G l d (beginS c s) ((W6.setCell ⟨G + 1, 0, none⟩ (.int .u64 ((4 + le ((s.drop 12).take 4) : Nat) : Int))).setCell ⟨G + 1 + 1, 0, none⟩ (.slice none 0 0)) := by
  obtain ⟨FL', v, h1, h2, h3, _⟩ := h.log
  have hk : Kept (fun k => G ≤ k ∧ k ≤ G + 3) W ((W6.setCell ⟨G + 1, 0, none⟩ (.int .u64 ((4 + le ((s.drop 12).take 4) : Nat) : Int))).setCell ⟨G + 1 + 1, 0, none⟩ (.slice none 0 0)) :=
    ((((Kept.cell W G 0 _).mono fun k _ e => by omega).trans' hb.kept).trans' ((Kept.cell _ (G + 1) 0 _).mono fun k _ e => by omega)).trans' ((Kept.cell _ (G + 1 + 1) 0 _).mono fun k _ e => by omega)
  have hFL : ∀ k, FL' k → ¬ (G ≤ k ∧ k ≤ G + 3) := fun k hk hn => by
    rcases h2 k hk with h9 | h9
    · have := hL k h9; omega
    · omega
  have e : beginS c s = { c with run := runL s, left := 4 + le ((s.drop 12).take 4), batch := [] } := by unfold beginS; rw [if_pos h0]
  rw [e]
  refine ⟨?_, ?_, ?_, Small.nil, ⟨FL', .slice none 0 0, h1.kept hk hFL (fun k hd hn => by have := hD k hd; omega), h2, ?_, fun _ => Lies.empty _ _ _ _ _⟩, h.kept.trans' (hk.mono fun k _ hx => .inr hx)⟩
  · have := h.run.set_ 0 (.int .u64 (runL s))
    exact ((this.call hb).far (p := ⟨G + 1, 0, none⟩) (by show G ≠ G + 1; omega) _).far (p := ⟨G + 1 + 1, 0, none⟩) (by show G ≠ G + 1 + 1; omega) _
  · exact (((h.left.far (p := ⟨G, 0, none⟩) (by show G + 1 ≠ G; omega) _).call hb).set_ 0 _).far (p := ⟨G + 1 + 1, 0, none⟩) (by show G + 1 ≠ G + 1 + 1; omega) _
  · exact (((h.place.far (p := ⟨G, 0, none⟩) (by show G + 1 + 1 + 1 ≠ G; omega) _).call hb).far (p := ⟨G + 1, 0, none⟩) (by show G + 1 + 1 + 1 ≠ G + 1; omega) _).far (p := ⟨G + 1 + 1, 0, none⟩) (by show G + 1 + 1 + 1 ≠ G + 1 + 1; omega) _
  · exact ((((h3.far (p := ⟨G, 0, none⟩) (by show G + 1 + 1 ≠ G; omega) _).call hb).far (p := ⟨G + 1, 0, none⟩) (by show G + 1 + 1 ≠ G + 1; omega) _).set_ 0 _)
/-- Bounds of what has been read. -/
theorem partS_bounds {c : Sc} {s : List Nat} (hs : Small s) (h1 : c.left ≤ 4294967299) (h2 : c.batch.length ≤ 488 * c.place) (h3 : c.bs.length ≤ c.place) :
    (beginS c s).left ≤ 4294967299 ∧ (beginS c s).batch.length ≤ 488 * (beginS c s).place ∧ (beginS c s).bs.length ≤ (beginS c s).place ∧ (partS (beginS c s) s).left ≤ 4294967299 ∧ (partS (beginS c s) s).batch.length ≤ 488 * (partS (beginS c s) s).place ∧ (partS (beginS c s) s).bs.length ≤ (partS (beginS c s) s).place := by
  have h4 := le_lt ((hs.drop 12).take 4)
  have h5 : ((s.drop 12).take 4).length ≤ 4 := by rw [List.length_take]; exact Nat.min_le_left _ _
  have h6 : 256 ^ ((s.drop 12).take 4).length ≤ 256 ^ 4 := Nat.pow_le_pow_right (by decide) h5
  have hb : (beginS c s).left ≤ 4294967299 ∧ (beginS c s).batch.length ≤ 488 * (beginS c s).place ∧ (beginS c s).bs.length ≤ (beginS c s).place := by
    unfold beginS
    split
    · exact ⟨by simp only; omega, by simp, h3⟩
    · exact ⟨h1, h2, h3⟩
  refine ⟨hb.1, hb.2.1, hb.2.2, ?_⟩
  generalize beginS c s = c1 at hb
  obtain ⟨g1, g2, g3⟩ := hb
  have h7 : ((s.drop 12).take (min c1.left 488)).length ≤ 488 := by rw [List.length_take]; omega
  unfold partS
  simp only []
  split
  · refine ⟨by simp only; omega, ?_, ?_⟩
    · simp only [List.length_append]; omega
    · simp only [List.length_append, List.length_singleton]; omega
  · refine ⟨by simp only; omega, ?_, ?_⟩
    · simp only [List.length_append]; omega
    · simp only []; omega
theorem scanAll_bounds {base : Nat} {c c' : Sc} {l : List (List Nat)} (h : scanAll base c l = some c') (hs : ∀ s ∈ l, Small s) (h1 : c.left ≤ 4294967299) (h2 : c.batch.length ≤ 488 * c.place) (h3 : c.bs.length ≤ c.place) : c'.left ≤ 4294967299 ∧ c'.batch.length ≤ 488 * c'.place ∧ c'.bs.length ≤ c'.place := by
  induction l generalizing c with
  | nil => obtain rfl := Option.some.inj h; exact ⟨h1, h2, h3⟩
  | cons x l ih =>
    change (if stopsB base c x then none else scanAll base _ l) = some c' at h
    split at h
    · cases h
    · obtain ⟨_, _, _, k1, k2, k3⟩ := partS_bounds (hs x (List.mem_cons_self ..)) h1 h2 h3
      exact ih h (fun s hm => hs s (List.mem_cons_of_mem _ hm)) k1 k2 k3
/-- A sector's part was taken; whether the batch is whole is still to be seen. -/
structure CountM (w8 : World) (FL FD : Nat → Prop) (p G : Nat) (l : L) (d : D) (c : Sc) (FL' : Nat → Prop) (v : Value) (W : World) : Prop where
  run : Row W G 40 #[.int .u64 c.run]
  left : Row W (G + 1) 40 #[.int .u64 c.left]
  place : Row W (G + 1 + 1 + 1) 3 #[.int .i64 c.place]
  small : Small c.batch
  log : LogOn W FL' FD p { l with used := c.used, bs := c.bs } d
  from_ : ∀ k, FL' k → FL k ∨ w8.heap.size ≤ k
  cell : Row W (G + 1 + 1) 41 #[v]
  lies : Lies W (fun k => w8.heap.size ≤ k ∧ ¬ FL' k) 5 1 v c.batch.length (cellsOf c.batch)
  kept : Kept (fun k => FL k ∨ (G ≤ k ∧ k ≤ G + 3)) w8 W
theorem CountI.open_ {w8 W : World} {FL FD : Nat → Prop} {p G : Nat} {l : L} {d : D} {c : Sc} (h : CountI w8 FL FD p G l d c W) (h0 : c.left ≠ 0) : ∃ FL' v, CountM w8 FL FD p G l d c FL' v W := by
  obtain ⟨FL', v, h1, h2, h3, h4⟩ := h.log
  exact ⟨FL', v, h.run, h.left, h.place, h.small, h1, h2, h3, h4 h0, h.kept⟩
theorem CountM.close {w8 W : World} {FL FD FL' : Nat → Prop} {p G : Nat} {l : L} {d : D} {c : Sc} {v : Value} (h : CountM w8 FL FD p G l d c FL' v W) : CountI w8 FL FD p G l d c W :=
  ⟨h.run, h.left, h.place, h.small, ⟨FL', v, h.log, h.from_, h.cell, fun _ => h.lies⟩, h.kept⟩
theorem CountM.part {w8 W w2 : World} {FL FD FL' : Nat → Prop} {p G : Nat} {l : L} {d : D} {c : Sc} {v v2 : Value} (h : CountM w8 FL FD p G l d c FL' v W) (hG : G + 3 < w8.heap.size) (hL : ∀ k, FL k → k < G) (hD : ∀ k, FD k → k < G) (part : List Nat) (k : Nat) (hp : part.length = k) (hs : Small part)
    (hl : Lies w2 (grow (fun k => w8.heap.size ≤ k ∧ ¬ FL' k) (W.setCell ⟨G + 1 + 1 + 1, 0, none⟩ (.int .i64 ((c.place + 1 : Nat) : Int)))) 5 1 v2 (c.batch.length + k) (cellsOf c.batch ++ cellsOf part))
    (hk2 : Kept (fun k => w8.heap.size ≤ k ∧ ¬ FL' k) (W.setCell ⟨G + 1 + 1 + 1, 0, none⟩ (.int .i64 ((c.place + 1 : Nat) : Int))) w2) :
    CountM w8 FL FD p G l d { c with place := c.place + 1, left := c.left - k, batch := c.batch ++ part } FL' v2 ((w2.setCell ⟨G + 1 + 1, 0, none⟩ v2).setCell ⟨G + 1, 0, none⟩ (.int .u64 ((c.left - k : Nat) : Int))) := by
  have hFL : ∀ k, FL' k → ¬ (G ≤ k ∧ k ≤ G + 3) := fun k hk hn => by
    rcases h.from_ k hk with h9 | h9
    · have := hL k h9; omega
    · omega
  have hsz : (W.setCell ⟨G + 1 + 1 + 1, 0, none⟩ (.int .i64 ((c.place + 1 : Nat) : Int))).heap.size = W.heap.size := by simp [World.setCell]
  have hK1 : Kept (fun k => G ≤ k ∧ k ≤ G + 3) W (W.setCell ⟨G + 1 + 1 + 1, 0, none⟩ (.int .i64 ((c.place + 1 : Nat) : Int))) := (Kept.cell W (G + 1 + 1 + 1) 0 _).mono fun k _ e => by omega
  have hK3 : Kept (fun k => G ≤ k ∧ k ≤ G + 3) w2 ((w2.setCell ⟨G + 1 + 1, 0, none⟩ v2).setCell ⟨G + 1, 0, none⟩ (.int .u64 ((c.left - k : Nat) : Int))) :=
    ((Kept.cell w2 (G + 1 + 1) 0 _).mono fun k _ e => by omega).trans' ((Kept.cell _ (G + 1) 0 _).mono fun k _ e => by omega)
  have hlow : ∀ k, k ≤ G + 3 → ¬ (w8.heap.size ≤ k ∧ ¬ FL' k) := fun k h1 h2 => by omega
  have hon := ((h.log.kept hK1 hFL (fun k hd hn => by have := hD k hd; omega)).kept hk2 (fun k hk hn => hn.2 hk) (fun k hd hn => by have := hD k hd; omega)).kept hK3 hFL (fun k hd hn => by have := hD k hd; omega)
  have r0 := (h.run.far (p := ⟨G + 1 + 1 + 1, 0, none⟩) (by show G ≠ G + 1 + 1 + 1; omega) (.int .i64 ((c.place + 1 : Nat) : Int))).kept hk2 (hlow _ (by omega))
  have r1 := (h.left.far (p := ⟨G + 1 + 1 + 1, 0, none⟩) (by show G + 1 ≠ G + 1 + 1 + 1; omega) (.int .i64 ((c.place + 1 : Nat) : Int))).kept hk2 (hlow _ (by omega))
  have r2 := (h.cell.far (p := ⟨G + 1 + 1 + 1, 0, none⟩) (by show G + 1 + 1 ≠ G + 1 + 1 + 1; omega) (.int .i64 ((c.place + 1 : Nat) : Int))).kept hk2 (hlow _ (by omega))
  have r3 := (h.place.set_ 0 (.int .i64 ((c.place + 1 : Nat) : Int))).kept hk2 (hlow _ (by omega))
  have hsz8 := h.kept.size
  refine ⟨?_, ?_, ?_, h.small.append hs, hon, h.from_, ?_, ?_, ?_⟩
  · exact (r0.far (p := ⟨G + 1 + 1, 0, none⟩) (by show G ≠ G + 1 + 1; omega) _).far (p := ⟨G + 1, 0, none⟩) (by show G ≠ G + 1; omega) _
  · exact (r1.far (p := ⟨G + 1 + 1, 0, none⟩) (by show G + 1 ≠ G + 1 + 1; omega) _).set_ 0 _
  · exact (r3.far (p := ⟨G + 1 + 1, 0, none⟩) (by show G + 1 + 1 + 1 ≠ G + 1 + 1; omega) _).far (p := ⟨G + 1, 0, none⟩) (by show G + 1 + 1 + 1 ≠ G + 1; omega) _
  · exact (r2.set_ 0 v2).far (p := ⟨G + 1, 0, none⟩) (by show G + 1 + 1 ≠ G + 1; omega) _
  · show Lies _ _ _ _ _ (c.batch ++ part).length (cellsOf (c.batch ++ part))
    have e : cellsOf (c.batch ++ part) = cellsOf c.batch ++ cellsOf part := by simp [cellsOf]
    rw [e, List.length_append, hp]
    refine (hl.mono fun j hj => ?_).kept hK3 (fun j hj hn => by have := hj.1; omega)
    rcases hj with hj | hj
    · exact hj
    · rw [hsz] at hj
      exact ⟨by omega, fun hf => by have := h.log.thereL j hf; omega⟩
  · exact ((h.kept.trans' (hK1.mono fun j _ hx => .inr hx)).trans ((hk2.mono (G := grow (fun k => FL k ∨ (G ≤ k ∧ k ≤ G + 3)) w8) fun j _ hx => .inr hx.1))).trans' (hK3.mono fun j _ hx => .inr hx)
/-- s[k:] of one-cell elements. -/
theorem Lies.drop {w : World} {F : Nat → Prop} {e : TypeId} {g off n cap k : Nat} {xs : List Value} (h : Lies w F e 1 (.slice (some ⟨g, off, none⟩) n cap) n xs) (hk : k ≤ n) (hc : k < cap) : Lies w F e 1 (.slice (some ⟨g, off + k, none⟩) (n - k) (cap - k)) (n - k) (xs.drop k) := by
  obtain ⟨hl, ⟨A, h1, h2⟩ | ⟨g', off', cap', cur, hv, hF, hh, h1, h2, h3, h4⟩⟩ := h
  · injection h1 with _ _ h1
    omega
  · injection hv with ha _ hcc
    injection ha with ha
    injection ha with hg ho _
    subst hg; subst ho; subst hcc
    refine ⟨by rw [List.length_drop]; omega, .inr ⟨g, off + k, cap - k, cur, rfl, hF, hh, by omega, by omega, by omega, ?_⟩⟩
    rw [← h4, ← List.drop_drop, List.drop_take]
    congr 1
    omega
/-- A batch is whole: the log has it. -/
theorem CountM.whole {w8 W V w2 : World} {FL FD FL' : Nat → Prop} {p G : Nat} {l : L} {d : D} {c : Sc} {v vb v2 : Value} {xs : List Bat} {x : Bat} (h : CountM w8 FL FD p G l d c FL' v W) (hG : G + 3 < w8.heap.size) (hL : ∀ k, FL k → k < G) (hD : ∀ k, FD k → k < G) (hFp : FL p) (h0 : c.left = 0) (hu : c.place + 2 ≤ l.n)
    (h1 : LogIs W FL' p { l with used := c.used, bs := c.bs } vb xs) (hx : Lies W (fun k => w8.heap.size ≤ k ∧ ¬ FL' k) 5 1 x.v x.l.length (cellsOf x.l)) (hs : Small x.l)
    (hba : Below (W.setCell ⟨p, 5, none⟩ (.int .i64 c.place)).heap.size (W.setCell ⟨p, 5, none⟩ (.int .i64 c.place)) V)
    (hl : Lies w2 (grow FL' V) 41 1 v2 (xs.length + 1) (bvs xs ++ [x.v]))
    (hk : Kept (fun g => FL' g ∧ Spare vb g ∧ ∃ cur, V.heap[g]? = some (.cells cur 41 (0, 0))) V w2) :
    CountI w8 FL FD p G l d { c with used := c.place, bs := c.bs ++ [x.l] } (w2.setCell ⟨p, 6, none⟩ v2) := by
  have hpG := hL p hFp
  have hsz8 := h.kept.size
  have hsz1 : W.heap.size ≤ V.heap.size := by have := hba.size; simp [World.setCell] at this; exact this
  have hFL : ∀ k, FL' k → ¬ (G ≤ k ∧ k ≤ G + 3) := fun k hk hn => by
    rcases h.from_ k hk with h9 | h9
    · have := hL k h9; omega
    · omega
  have hon := (h.log.setUsed c.place hu).call hba
  have hli := (h1.setUsed c.place).below hba
  have hxx : BatOk V (fun k => (w8.heap.size ≤ k ∧ ¬ FL' k) ∧ k < W.heap.size) x :=
    ⟨(hx.there.kept (Kept.cell W p 5 _) (fun j hj e => by have := hj.1.1; omega)).below hba, hs⟩
  have hap := hon.appended hli hxx (fun k hk => ⟨fun hd => by have := hD k hd; have := hk.1.1; omega, by have := hk.2; omega⟩) hl hk
  have hrow : ∀ {g : Nat} {t : TypeId} {cs : Array Value}, Row W g t cs → G ≤ g ∧ g ≤ G + 3 → Row (w2.setCell ⟨p, 6, none⟩ v2) g t cs := fun {g t cs} hr hg =>
    (((hr.far (p := ⟨p, 5, none⟩) (by show g ≠ p; omega) _).call hba).kept hk (fun hn => hFL g hn.1 hg)).far (p := ⟨p, 6, none⟩) (by show g ≠ p; omega) _
  refine ⟨hrow h.run (by omega), hrow h.left (by omega), hrow h.place (by omega), h.small, ⟨_, v, hap, fun k hk => ?_, hrow h.cell (by omega), fun h9 => absurd h0 h9⟩, ?_⟩
  · rcases hk.1 with (h9 | h9) | h9
    · exact h.from_ k h9
    · exact .inr (by omega)
    · exact .inr h9.1.1
  · refine ((h.kept.trans' (((Kept.cell W p 5 _).mono fun k _ e => by subst e; exact .inl hFp).trans' hba.kept)).trans (hk.mono fun k _ hx => ?_)).trans' ((Kept.cell w2 p 6 v2).mono fun k _ e => by subst e; exact .inl hFp)
    rcases h.from_ k hx.1 with h9 | h9
    · exact grow.old (.inl h9)
    · exact grow.fresh h9
/-- The batch behind its length. -/
theorem cut_bat {W : World} {F : Nat → Prop} {A : Option Addr} {n c : Nat} {b : List Nat} (h : Lies W F 5 1 (.slice A n c) b.length (cellsOf b)) (hn : b.length = n) (hk : 4 ≤ n) : ∃ x : Bat, x.v = cutFrom A n c 4 1 ∧ x.l = b.drop 4 ∧ Lies W F 5 1 x.v x.l.length (cellsOf x.l) := by
  rw [hn] at h
  have h2 := cutFrom_lies h hk
  have e1 : (b.drop 4).length = n - 4 := by rw [List.length_drop, hn]
  have e2 : (⟨if c = 4 then A else A.map (·.add (4 * 1)), c - 4, b.drop 4⟩ : Bat).v = cutFrom A n c 4 1 := by
    show Value.slice _ (b.drop 4).length _ = Value.slice _ _ _
    rw [e1]
  refine ⟨_, e2, rfl, ?_⟩
  rw [e2]
  show Lies _ _ _ _ _ (b.drop 4).length (cellsOf (b.drop 4))
  rw [e1]
  have e3 : cellsOf (b.drop 4) = (cellsOf b).drop (4 * 1) := by simp [cellsOf]
  rw [e3]
  exact h2
/-- A batch under way has room for its length. -/
theorem partS_four {c : Sc} {s : List Nat} (h : c.left ≠ 0 → 4 ≤ c.left + c.batch.length) (hs : s.length = 512) :
    4 ≤ (beginS c s).left + (beginS c s).batch.length ∧ ((partS (beginS c s) s).left ≠ 0 → 4 ≤ (partS (beginS c s) s).left + (partS (beginS c s) s).batch.length) := by
  have hb : 4 ≤ (beginS c s).left + (beginS c s).batch.length := by
    unfold beginS
    split
    · simp only []; omega
    · next hn => exact h hn
  refine ⟨hb, ?_⟩
  generalize beginS c s = c1 at hb
  have h7 : ((s.drop 12).take (min c1.left 488)).length = min c1.left 488 := by rw [List.length_take, List.length_drop]; omega
  unfold partS
  simp only []
  split
  · intro h9; exact absurd rfl h9
  · intro _; simp only [List.length_append]; omega
theorem scanAll_four {base : Nat} {c c' : Sc} {l : List (List Nat)} (h : scanAll base c l = some c') (hs : ∀ s ∈ l, s.length = 512) (h1 : c.left ≠ 0 → 4 ≤ c.left + c.batch.length) : c'.left ≠ 0 → 4 ≤ c'.left + c'.batch.length := by
  induction l generalizing c with
  | nil => obtain rfl := Option.some.inj h; exact h1
  | cons x l ih =>
    change (if stopsB base c x then none else scanAll base _ l) = some c' at h
    split at h
    · cases h
    · exact ih h (fun s hm => hs s (List.mem_cons_of_mem _ hm)) (partS_four h1 (hs x (List.mem_cons_self ..))).2
/-- The end: the result's cell (block q) is stored, both loops' lists are taken. -/
theorem count_left {w w9 W V : World} {FL FD : Nat → Prop} {p G D1 D2 q : Nat} {l : L} {d : D} {c : Sc} {o1 o2 x1 x2 : Obj} (h : CountI w9 FL FD p G l d c W) (hb : Below w.heap.size w w9) (hG : w.heap.size ≤ G) (hL : ∀ k, FL k → k < w.heap.size) (hD : ∀ k, FD k → k < w.heap.size)
    (hv : Kept (· = q) W V) (hq : w.heap.size ≤ q) (hq9 : q < w9.heap.size)
    (h2 : V.heap[D2]? = some o2) (hc2 : o2.isCells = false) (hw2 : w.heap.size ≤ D2) (h1 : (V.putObj D2 x2).heap[D1]? = some o1) (hc1 : o1.isCells = false) (hw1 : w.heap.size ≤ D1) : LeftL w FL FD p { l with used := c.used, bs := c.bs } d ((V.putObj D2 x2).putObj D1 x1) := by
  obtain ⟨FL', v, hl, hf, _⟩ := h.log
  have g2 := grownBy_putObj' V D2 x2
  have g1 := grownBy_putObj' (V.putObj D2 x2) D1 x1
  have hlv := hl.kept hv (fun k hk e => by
    rcases hf k hk with h9 | h9
    · have := hL k h9; omega
    · omega) (fun k hk e => by have := hD k hk; omega)
  have hl2 := (hlv.grown g2 hD (fun r e => by cases e; exact ⟨hw2, o2, h2, hc2⟩)).grown g1 hD (fun r e => by cases e; exact ⟨hw1, o1, h1, hc1⟩)
  have k2 : Kept (· = D2) V (V.putObj D2 x2) := ⟨g2.os, g2.tape, g2.output, g2.size, fun k hk hn => g2.block k hk fun e => hn (Option.some.inj e)⟩
  have k1 : Kept (· = D1) (V.putObj D2 x2) ((V.putObj D2 x2).putObj D1 x1) := ⟨g1.os, g1.tape, g1.output, g1.size, fun k hk hn => g1.block k hk fun e => hn (Option.some.inj e)⟩
  refine hl2.leftL (fun k hk => ?_) ?_
  · rcases hf k hk with h9 | h9
    · exact grow.old h9
    · exact grow.fresh (Nat.le_trans hb.size h9)
  · refine (((hb.kept.trans (h.kept.mono fun k _ hx => ?_)).trans (hv.mono fun k _ e => grow.fresh (by omega))).trans (k2.mono fun k _ e => grow.fresh (by omega))).trans (k1.mono fun k _ e => grow.fresh (by omega))
    rcases hx with hx | hx
    · exact grow.old hx
    · exact grow.fresh (by omega)
end Go.Proofs.YtljlkmmeedlaiaaDoor
