/- Layer 3: a batch more in memory; what Append answers without a write. -/
import Derived.Test.YtdaefhlfalhfnaaDoorPt26
import Derived.Test.YtdaefhlfalhfnaaDoorPt27
import Derived.Test.YtdaefhlfalhfnaaDoorPt30
import Derived.Test.YtdaefhlfalhfnaaDoorPt32
namespace Go.Proofs.YtdaefhlfalhfnaaDoor
open Go.RowKit

/-- What an append to the list of batches turns is no block of another type. -/
theorem spare_other {w w' : World} {FL F : Nat → Prop} {vb : Value} {e e' : TypeId} {size n : Nat} {v : Value} {ys : List Value} (hk : Kept (fun g => FL g ∧ Spare vb g ∧ ∃ cur, w.heap[g]? = some (.cells cur e (0, 0))) w w') (h : Lies w F e' size v n ys) (he : e ≠ e') : Lies w' F e' size v n ys :=
  h.same fun g cur _ hh => hk.heap hh fun hy => by
    obtain ⟨_, _, cur', hc⟩ := hy
    rw [hh] at hc
    injection hc with hc
    injection hc with _ hc _
    exact he hc.symm
/-- A batch more: its bytes lie in blocks G, the list has grown. -/
theorem LogIs.appended {w w' : World} {FL G : Nat → Prop} {p : Nat} {l : L} {vb v' : Value} {xs : List Bat} {x : Bat} (h : LogIs w FL p l vb xs) (hx : BatOk w G x)
    (hl : Lies w' (grow FL w) 41 1 v' (xs.length + 1) (bvs xs ++ [x.v])) (hk : Kept (fun g => FL g ∧ Spare vb g ∧ ∃ cur, w.heap[g]? = some (.cells cur 41 (0, 0))) w w') :
    LogIs (w'.setCell ⟨p, 6, none⟩ v') (fun k => grow FL w k ∨ G k) p { l with bs := l.bs ++ [x.l] } v' (xs ++ [x]) := by
  have hrow : Row w' p 68 (logCells l vb) := h.row.kept hk (fun hy => by
    obtain ⟨_, _, cur, hc⟩ := hy
    have h9 := h.row
    unfold Row at h9
    rw [hc] at h9
    injection h9 with h9
    injection h9 with _ h9 _
    exact absurd h9 (by decide))
  have hset := Kept.cell w' p 6 v'
  refine ⟨by have := hrow.set_ 6 v'; simpa [logCells] using this, .inl (.inl h.fp), ?_, ?_, ?_⟩
  · have h2 : bvs (xs ++ [x]) = bvs xs ++ [x.v] := by simp [bvs]
    rw [h2, List.length_append, List.length_singleton]
    exact (hl.row hrow (by decide) hset).mono fun _ => .inl
  · intro b hb
    rcases List.mem_append.1 hb with hb | hb
    · have h3 := h.bats b hb
      exact ⟨((spare_other hk h3.lies (by decide)).row hrow (by decide) hset).mono fun _ hk => .inl (.inl hk), h3.small⟩
    · obtain rfl := List.mem_singleton.1 hb
      exact ⟨((spare_other hk hx.lies (by decide)).row hrow (by decide) hset).mono fun _ hk => .inr hk, hx.small⟩
  · rw [List.map_append, h.same]
    rfl
/-- A batch more, its disk beside it. -/
theorem LogOn.appended {w w' : World} {FL FD G : Nat → Prop} {p : Nat} {l : L} {d : D} {vb v' : Value} {xs : List Bat} {x : Bat} (h : LogOn w FL FD p l d) (h1 : LogIs w FL p l vb xs) (hx : BatOk w G x) (hG : ∀ k, G k → ¬ FD k ∧ k < w.heap.size)
    (hl : Lies w' (grow FL w) 41 1 v' (xs.length + 1) (bvs xs ++ [x.v])) (hk : Kept (fun g => FL g ∧ Spare vb g ∧ ∃ cur, w.heap[g]? = some (.cells cur 41 (0, 0))) w w') :
    LogOn (w'.setCell ⟨p, 6, none⟩ v') (fun k => (grow FL w k ∨ G k) ∧ k < w'.heap.size) FD p { l with bs := l.bs ++ [x.l] } d := by
  have hset := Kept.cell w' p 6 v'
  have hsz : (w'.setCell ⟨p, 6, none⟩ v').heap.size = w'.heap.size := by simp [World.setCell]
  refine ⟨⟨v', xs ++ [x], ?_⟩, ?_, ?_, fun k hk => by rw [hsz]; exact hk.2, fun k hk9 => by rw [hsz]; exact Nat.lt_of_lt_of_le (h.thereD k hk9) hk.size, h.size, h.n4, h.used, h.base, h.run⟩
  · have := (h1.appended hx hl hk).there
    rw [hsz] at this
    exact this
  · refine (h.disk.kept hk fun k hd hy => h.apart k hy.1 hd).kept hset fun k hd e => ?_
    subst e
    exact h.pp hd
  · rintro k ⟨hk1, hk2⟩ hd
    rcases hk1 with (hk1 | hk1) | hk1
    · exact h.apart k hk1 hd
    · have := h.thereD k hd; omega
    · exact (hG k hk1).1 hd

theorem LogIs.rowKept {w w' : World} {FL : Nat → Prop} {p : Nat} {l : L} {vb : Value} {xs : List Bat} (h : LogIs w FL p l vb xs) (hk : Kept (fun g => FL g ∧ Spare vb g ∧ ∃ cur, w.heap[g]? = some (.cells cur 41 (0, 0))) w w') : Row w' p 68 (logCells l vb) :=
  h.row.kept hk (fun hy => by
    obtain ⟨_, _, cur, hc⟩ := hy
    have h9 := h.row
    unfold Row at h9
    rw [hc] at h9
    injection h9 with h9
    injection h9 with _ h9 _
    exact absurd h9 (by decide))
/-- What is left of a log to which a batch was appended that was cloned just before. -/
theorem appended_left {V W w8 : World} {FL FD : Nat → Prop} {p : Nat} {l : L} {d : D} {vb v8 : Value} {xs : List Bat} {A6 : Option Addr} {c6 : Nat} {b : List Nat} (h : LogOn V FL FD p l d) (h1 : LogIs V FL p l vb xs) (hb : Below V.heap.size V W)
    (hx : Lies W (fun k => V.heap.size ≤ k) 5 1 (.slice A6 b.length c6) b.length (cellsOf b)) (hs : Small b) (hl : Lies w8 (grow FL W) 41 1 v8 (xs.length + 1) (bvs xs ++ [.slice A6 b.length c6]))
    (hk : Kept (fun g => FL g ∧ Spare vb g ∧ ∃ cur, W.heap[g]? = some (.cells cur 41 (0, 0))) W w8) : Left V FL FD p { l with bs := l.bs ++ [b] } d (w8.setCell ⟨p, 6, none⟩ v8) := by
  have hsz := hb.size
  have hlies := hx.there
  have hon := LogOn.appended (x := ⟨A6, c6, b⟩) (G := fun k => V.heap.size ≤ k ∧ k < W.heap.size) (h.call hb) (h1.below hb) ⟨hlies, hs⟩ (fun k hk => ⟨fun hd => by have := h.thereD k hd; omega, hk.2⟩) hl hk
  refine hon.left (fun k hk => ?_) (fun k hk => grow.old hk) ?_
  · rcases hk.1 with (h2 | h2) | h2
    · exact grow.old h2
    · exact grow.fresh (Nat.le_trans hsz h2)
    · exact grow.fresh h2.1
  · exact (hb.kept.trans' (hk.mono fun k _ h2 => .inl h2.1)).trans' ((Kept.cell w8 p 6 v8).mono fun k _ e => by subst e; exact .inl h.mem)
theorem append_no (v : Value) (A : Option Addr) (n c : Nat) (w : World) (h : NoLog w v) :
    Calls Tryd.prog 13 #[v, .slice A n c] w fun e w' => e = .returned (.int .i64 1) ∧ w = w' := by
  have H := Lib.hid h
  clear h
  go_enter Tryd.func13, Tryd.ntmps13
  go_wp2_with (go_at_call 36; refine (lnone_no v _ H.out).mono ?_; rintro e w' ⟨rfl, rfl⟩)
  go_ret
  exact ⟨rfl, rfl⟩
theorem append_dead (w : World) (FL FD : Nat → Prop) (p : Nat) (l : L) (d : D) (A : Option Addr) (n c : Nat) (h : LogOn w FL FD p l d) (hd : l.dead = true) :
    Calls Tryd.prog 13 #[.pointer (some ⟨p, 0, none⟩), .slice A n c] w fun e w' => e = .returned (.int .i64 10) ∧ w = w' := by
  obtain ⟨vb, m, _, _, _, _, _, _, _, h7, _⟩ := h.cells
  rw [hd] at h7
  have H := Lib.hid h
  clear h hd
  go_enter Tryd.func13, Tryd.ntmps13
  go_wp2_with (go_at_call 36; refine (lnone_ok _ FL FD p l d H.out).mono ?_; rintro e w' ⟨rfl, rfl⟩)
  go_ret
  exact ⟨rfl, rfl⟩
theorem append_full (w : World) (FL FD : Nat → Prop) (p : Nat) (l : L) (d : D) (A : Option Addr) (n c : Nat) (h : LogOn w FL FD p l d) (hd : l.dead = false) (hn : roomL l < (n : Int)) :
    Calls Tryd.prog 13 #[.pointer (some ⟨p, 0, none⟩), .slice A n c] w fun e w' => e = .returned (.int .i64 6) ∧ Below w.heap.size w w' := by
  obtain ⟨vb, m, _, _, _, _, _, _, _, h7, _⟩ := h.cells
  rw [hd] at h7
  have H := Lib.hid h
  clear h hd
  go_enter Tryd.func13, Tryd.ntmps13
  go_wp2_with (first
    | (go_at_call 36; refine (lnone_ok _ FL FD p l d H.out).mono ?_; rintro e w' ⟨rfl, rfl⟩)
    | (go_at_call 37; refine (room_ok _ FL FD p l d H.out).mono ?_; rintro e w1 ⟨rfl, hb1⟩))
  go_ret
  exact ⟨rfl, hb1⟩
end Go.Proofs.YtdaefhlfalhfnaaDoor
