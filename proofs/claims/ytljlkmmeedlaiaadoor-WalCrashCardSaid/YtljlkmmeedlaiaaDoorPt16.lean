/- Layer 2: Feed and Same where there is no disk. -/
import Derived.Test.YtljlkmmeedlaiaaDoorPt10
import Derived.Test.YtljlkmmeedlaiaaDoorPt15
import Derived.Test.YtljlkmmeedlaiaaDoorPt13
import Derived.Handy
namespace Go.Proofs.YtljlkmmeedlaiaaDoor
open Go.RowKit

theorem feed_no (v : Value) (A : Option Addr) (n c : Nat) (w : World) (h : NoDisk w v) :
    Calls Tryd.prog 22 #[v, .slice A n c] w fun e w' => e = .returned (.int .i64 1) ∧ w = w' := by
  have H := Lib.hid h
  clear h
  go_enter Tryd.func22, Tryd.ntmps22
  go_wp2_with (go_at_call 41; refine (none_no v _ H.out).mono ?_; rintro e w' ⟨rfl, rfl⟩)
  go_ret
  exact ⟨rfl, rfl⟩
theorem same_nn (v o : Value) (w : World) (h : NoDisk w v) (h' : NoDisk w o) :
    Calls Tryd.prog 18 #[v, o] w fun e w' => e = .returned (.bool true) ∧ w = w' := by
  have H := Lib.hid h
  have H' := Lib.hid h'
  clear h h'
  go_enter Tryd.func18, Tryd.ntmps18
  go_wp2_with fail
  refine (none_no v _ H.out).mono ?_
  rintro e w' ⟨rfl, rfl⟩
  go_wp2_with fail
  refine (none_no v _ H.out).mono ?_
  rintro e w' ⟨rfl, rfl⟩
  go_wp2_with fail
  refine (none_no o _ H'.out).mono ?_
  rintro e w' ⟨rfl, rfl⟩
  go_wp2
  go_ret
  exact ⟨rfl, rfl⟩
theorem same_no {F : Nat → Prop} (v : Value) (p : Nat) (d : D) (w : World) (h : NoDisk w v) (h' : DiskAt w F p d) :
    Calls Tryd.prog 18 #[v, .pointer (some ⟨p, 0, none⟩)] w fun e w' => e = .returned (.bool false) ∧ w = w' := by
  have H := Lib.hid h
  have H' := Lib.hid h'
  clear h h'
  go_enter Tryd.func18, Tryd.ntmps18
  go_wp2_with fail
  refine (none_no v _ H.out).mono ?_
  rintro e w' ⟨rfl, rfl⟩
  go_wp2_with fail
  refine (none_no v _ H.out).mono ?_
  rintro e w' ⟨rfl, rfl⟩
  go_wp2_with fail
  refine (none_ok p d _ H'.out).mono ?_
  rintro e w' ⟨rfl, rfl⟩
  go_wp2
  go_ret
  exact ⟨rfl, rfl⟩
theorem same_on {F : Nat → Prop} (p : Nat) (d : D) (o : Value) (w : World) (h : DiskAt w F p d) (h' : NoDisk w o) :
    Calls Tryd.prog 18 #[.pointer (some ⟨p, 0, none⟩), o] w fun e w' => e = .returned (.bool false) ∧ w = w' := by
  have H := Lib.hid h
  have H' := Lib.hid h'
  clear h h'
  go_enter Tryd.func18, Tryd.ntmps18
  go_wp2_with fail
  refine (none_ok p d _ H.out).mono ?_
  rintro e w' ⟨rfl, rfl⟩
  go_wp2_with fail
  refine (none_no o _ H'.out).mono ?_
  rintro e w' ⟨rfl, rfl⟩
  go_wp2_with fail
  refine (none_ok p d _ H.out).mono ?_
  rintro e w' ⟨rfl, rfl⟩
  go_wp2
  go_ret
  exact ⟨rfl, rfl⟩
end Go.Proofs.YtljlkmmeedlaiaaDoor
/- Layer 3: a log as it lies in memory, over its disk. -/
namespace Go.Proofs.YtljlkmmeedlaiaaDoor
open Go.RowKit

/-- A log: where it lies on its disk, its head, its batches. -/
structure L where
  dp : Nat
  from_ : Nat
  n : Nat
  run : Nat
  base : Nat
  used : Nat
  bs : List (List Nat)
  dead : Bool
/-- A batch in memory. -/
structure Bat where
  A : Option Addr
  c : Nat
  l : List Nat
def Bat.v (b : Bat) : Value := .slice b.A b.l.length b.c
def bvs (xs : List Bat) : List Value := xs.map Bat.v
def logCells (l : L) (vb : Value) : Array Value := #[.pointer (some ⟨l.dp, 0, none⟩), .int .i64 l.from_, .int .i64 l.n, .int .u64 l.run, .int .u64 l.base, .int .i64 l.used, vb, .bool l.dead]
structure BatOk (w : World) (F : Nat → Prop) (b : Bat) : Prop where
  lies : Lies w F 5 1 b.v b.l.length (cellsOf b.l)
  small : Small b.l
structure LogIs (w : World) (F : Nat → Prop) (p : Nat) (l : L) (vb : Value) (xs : List Bat) : Prop where
  row : Row w p 68 (logCells l vb)
  fp : F p
  list : Lies w F 41 1 vb xs.length (bvs xs)
  bats : ∀ b ∈ xs, BatOk w F b
  same : xs.map (·.l) = l.bs
theorem bvs_one (xs : List Bat) : ∀ v ∈ bvs xs, v.oneCell' = true := by
  intro v hv
  obtain ⟨b, _, rfl⟩ := List.mem_map.1 hv
  rfl

section
variable {w w' : World} {F G : Nat → Prop} {p : Nat} {l l' : L} {vb : Value} {xs : List Bat} {b : Bat}
theorem BatOk.kept (h : BatOk w F b) (hk : Kept G w w') (hd : ∀ k, F k → ¬ G k) : BatOk w' F b := ⟨h.lies.kept hk hd, h.small⟩
theorem BatOk.below (h : BatOk w F b) (hb : Below w.heap.size w w') : BatOk w' F b := ⟨h.lies.below hb, h.small⟩
theorem BatOk.mono (h : BatOk w F b) (hf : ∀ k, F k → G k) : BatOk w G b := ⟨h.lies.mono hf, h.small⟩
theorem LogIs.kept (h : LogIs w F p l vb xs) (hk : Kept G w w') (hd : ∀ k, F k → ¬ G k) : LogIs w' F p l vb xs :=
  ⟨h.row.kept hk (hd _ h.fp), h.fp, h.list.kept hk hd, fun b hb => (h.bats b hb).kept hk hd, h.same⟩
theorem LogIs.below (h : LogIs w F p l vb xs) (hb : Below w.heap.size w w') : LogIs w' F p l vb xs :=
  ⟨h.row.call hb, h.fp, h.list.below hb, fun b hx => (h.bats b hx).below hb, h.same⟩
theorem LogIs.mono (h : LogIs w F p l vb xs) (hf : ∀ k, F k → G k) : LogIs w G p l vb xs :=
  ⟨h.row, hf _ h.fp, h.list.mono hf, fun b hb => (h.bats b hb).mono hf, h.same⟩
theorem LogIs.there (h : LogIs w F p l vb xs) : LogIs w (fun k => F k ∧ k < w.heap.size) p l vb xs :=
  ⟨h.row, ⟨h.fp, h.row.lt⟩, h.list.there, fun b hb => ⟨(h.bats b hb).lies.there, (h.bats b hb).small⟩, h.same⟩
/-- The log's own block turns. -/
theorem LogIs.put (h : LogIs w F p l vb xs) (hr : Row w' p 68 (logCells l' vb)) (hk : Kept (· = p) w w') (hs : l'.bs = l.bs) : LogIs w' F p l' vb xs :=
  ⟨hr, h.fp, h.list.row h.row (by decide) hk, fun b hb => ⟨(h.bats b hb).lies.row h.row (by decide) hk, (h.bats b hb).small⟩, h.same.trans hs.symm⟩
theorem LogIs.c0 (h : LogIs w F p l vb xs) : w.cell? ⟨p, 0, none⟩ = some (.pointer (some ⟨l.dp, 0, none⟩)) := h.row.cell (by simp [logCells])
theorem LogIs.c1 (h : LogIs w F p l vb xs) : w.cell? ⟨p, 1, none⟩ = some (.int .i64 l.from_) := h.row.cell (by simp [logCells])
theorem LogIs.c2 (h : LogIs w F p l vb xs) : w.cell? ⟨p, 2, none⟩ = some (.int .i64 l.n) := h.row.cell (by simp [logCells])
theorem LogIs.c3 (h : LogIs w F p l vb xs) : w.cell? ⟨p, 3, none⟩ = some (.int .u64 l.run) := h.row.cell (by simp [logCells])
theorem LogIs.c4 (h : LogIs w F p l vb xs) : w.cell? ⟨p, 4, none⟩ = some (.int .u64 l.base) := h.row.cell (by simp [logCells])
theorem LogIs.c5 (h : LogIs w F p l vb xs) : w.cell? ⟨p, 5, none⟩ = some (.int .i64 l.used) := h.row.cell (by simp [logCells])
theorem LogIs.c6 (h : LogIs w F p l vb xs) : w.cell? ⟨p, 6, none⟩ = some vb := h.row.cell (by simp [logCells])
theorem LogIs.c7 (h : LogIs w F p l vb xs) : w.cell? ⟨p, 7, none⟩ = some (.bool l.dead) := h.row.cell (by simp [logCells])
theorem LogIs.setDead (h : LogIs w F p l vb xs) (x : Bool) : LogIs (w.setCell ⟨p, 7, none⟩ (.bool x)) F p { l with dead := x } vb xs :=
  h.put (by have := h.row.set_ 7 (.bool x); simpa [logCells] using this) (Kept.cell _ _ _ _) rfl
theorem LogIs.setUsed (h : LogIs w F p l vb xs) (x : Nat) : LogIs (w.setCell ⟨p, 5, none⟩ (.int .i64 x)) F p { l with used := x } vb xs :=
  h.put (by have := h.row.set_ 5 (.int .i64 x); simpa [logCells] using this) (Kept.cell _ _ _ _) rfl
theorem LogIs.setHead (h : LogIs w F p l vb xs) (r b : Nat) : LogIs ((w.setCell ⟨p, 3, none⟩ (.int .u64 r)).setCell ⟨p, 4, none⟩ (.int .u64 b)) F p { l with run := r, base := b } vb xs :=
  h.put (by have := (h.row.set_ 3 (.int .u64 r)).set_ 4 (.int .u64 b); simpa [logCells] using this) ((Kept.cell _ _ _ _).trans' (Kept.cell _ _ _ _)) rfl
end

/-- A log and its disk, apart from each other. -/
structure LogOn (w : World) (FL FD : Nat → Prop) (p : Nat) (l : L) (d : D) : Prop where
  log : ∃ vb xs, LogIs w FL p l vb xs
  disk : DiskAt w FD l.dp d
  apart : ∀ k, FL k → ¬ FD k
  thereL : ∀ k, FL k → k < w.heap.size
  thereD : ∀ k, FD k → k < w.heap.size
  size : l.from_ + l.n ≤ d.size
  n4 : 4 ≤ l.n
  used : l.used + 2 ≤ l.n
  base : l.base ≤ l.run
  run : l.run < 4611686018427387904
/-- Nothing is to be synced: what is read is what lasts. -/
structure Still (d : D) (f : Int → List Nat) : Prop where
  pieces : d.pieces = []
  last : d.lasting = f
  read : d.read = f
  sec : ∀ k, Sec (f k)
/-- Of a write that failed some of the first sectors last, and some behind them are pieces. -/
def TornD (d : D) (f : Int → List Nat) (a : Int) (b : List Nat) (m : Nat) : Prop :=
  ∃ j1 j2, j1 ≤ j2 ∧ j2 ≤ m ∧ d.lasting = readW f a b j1 ∧ d.pieces = (piecesW a b j2).drop j1
section
variable {w w' : World} {FL FD : Nat → Prop} {p : Nat} {l l' : L} {d d' : D}
theorem LogOn.call (h : LogOn w FL FD p l d) (hb : Below w.heap.size w w') : LogOn w' FL FD p l d :=
  ⟨let ⟨vb, xs, hx⟩ := h.log; ⟨vb, xs, hx.below hb⟩, h.disk.below hb, h.apart, fun k hk => Nat.lt_of_lt_of_le (h.thereL k hk) hb.size, fun k hk => Nat.lt_of_lt_of_le (h.thereD k hk) hb.size, h.size, h.n4, h.used, h.base, h.run⟩
/-- What a disk's blocks become. -/
def next (FD : Nat → Prop) (w w' : World) (k : Nat) : Prop := grow FD w k ∧ k < w'.heap.size
theorem LogOn.step (h : LogOn w FL FD p l d) (hd : DiskAt w' (grow FD w) l.dp d') (hk : Kept FD w w') (hs : d'.size = d.size) : LogOn w' FL (next FD w w') p l d' := by
  obtain ⟨vb, xs, hx⟩ := h.log
  refine ⟨⟨vb, xs, hx.kept hk h.apart⟩, hd.there, fun k hl hn => ?_, fun k hl => Nat.lt_of_lt_of_le (h.thereL k hl) hk.size, fun k hk => hk.2, by rw [hs]; exact h.size, h.n4, h.used, h.base, h.run⟩
  rcases hn.1 with hn | hn
  · exact h.apart k hl hn
  · have := h.thereL k hl
    omega
theorem LogOn.pp (h : LogOn w FL FD p l d) : ¬ FD p := by
  obtain ⟨vb, xs, hx⟩ := h.log
  exact h.apart p hx.fp
theorem LogOn.own (h : LogOn w FL FD p l d) (hk : Kept (· = p) w w') (hl : ∀ vb xs, LogIs w FL p l vb xs → LogIs w' FL p l' vb xs) (hdp : l'.dp = l.dp) (hf : l'.from_ = l.from_) (hn : l'.n = l.n) (hu : l'.used + 2 ≤ l.n) (hb : l'.base ≤ l'.run) (hr : l'.run < 4611686018427387904) : LogOn w' FL FD p l' d := by
  obtain ⟨vb, xs, hx⟩ := h.log
  refine ⟨⟨vb, xs, hl vb xs hx⟩, ?_, h.apart, fun k hl => Nat.lt_of_lt_of_le (h.thereL k hl) hk.size, fun k hl => Nat.lt_of_lt_of_le (h.thereD k hl) hk.size, by rw [hf, hn]; exact h.size, by rw [hn]; exact h.n4, by rw [hn]; exact hu, hb, hr⟩
  rw [hdp]
  exact h.disk.kept hk fun k hk e => h.pp (e ▸ hk)
theorem LogOn.cells (h : LogOn w FL FD p l d) : ∃ vb m, w.cell? ⟨p, 0, none⟩ = some (.pointer (some ⟨l.dp, 0, none⟩)) ∧ w.cell? ⟨p, 1, none⟩ = some (.int .i64 l.from_) ∧ w.cell? ⟨p, 2, none⟩ = some (.int .i64 l.n) ∧ w.cell? ⟨p, 3, none⟩ = some (.int .u64 l.run) ∧
    w.cell? ⟨p, 4, none⟩ = some (.int .u64 l.base) ∧ w.cell? ⟨p, 5, none⟩ = some (.int .i64 l.used) ∧ w.cell? ⟨p, 6, none⟩ = some vb ∧ w.cell? ⟨p, 7, none⟩ = some (.bool l.dead) ∧ (∃ A c, vb = .slice A m c) ∧ m = l.bs.length ∧ ∀ i, w.frozen? ⟨p, i, none⟩ = false := by
  obtain ⟨vb, xs, hx⟩ := h.log
  obtain ⟨A, c, hv, _⟩ := hx.list.form
  exact ⟨vb, xs.length, hx.c0, hx.c1, hx.c2, hx.c3, hx.c4, hx.c5, hx.c6, hx.c7, ⟨A, c, hv⟩, by rw [← hx.same, List.length_map], hx.row.free⟩
theorem LogOn.setDead (h : LogOn w FL FD p l d) (x : Bool) : LogOn (w.setCell ⟨p, 7, none⟩ (.bool x)) FL FD p { l with dead := x } d :=
  h.own (Kept.cell _ _ _ _) (fun _ _ hx => hx.setDead x) rfl rfl rfl h.used h.base h.run
theorem LogOn.setHead (h : LogOn w FL FD p l d) (r b : Nat) (hb : b ≤ r) (hr : r < 4611686018427387904) : LogOn ((w.setCell ⟨p, 3, none⟩ (.int .u64 r)).setCell ⟨p, 4, none⟩ (.int .u64 b)) FL FD p { l with run := r, base := b } d :=
  h.own ((Kept.cell _ _ _ _).trans' (Kept.cell _ _ _ _)) (fun _ _ hx => hx.setHead r b) rfl rfl rfl h.used hb hr
theorem LogOn.most (h : LogOn w FL FD p l d) : d.size ≤ 65536 := by obtain ⟨t, ht⟩ := h.disk; exact ht.good.most
end

theorem lnone_ok (w : World) (FL FD : Nat → Prop) (p : Nat) (l : L) (d : D) (h : LogOn w FL FD p l d) :
    Calls Tryd.prog 36 #[.pointer (some ⟨p, 0, none⟩)] w fun e w' => e = .returned (.bool false) ∧ w = w' := by
  obtain ⟨vb, m, h0, _⟩ := h.cells
  clear h
  go_enter Tryd.func36, Tryd.ntmps36
  go_wp2
  go_ret
  exact ⟨rfl, rfl⟩
/-- No log: nil, or a zero one. -/
def NoLog (w : World) (v : Value) : Prop := v = .pointer none ∨ ∃ p, v = .pointer (some ⟨p, 0, none⟩) ∧ w.cell? ⟨p, 0, none⟩ = some (.pointer none)
theorem NoLog.below {w w' : World} {v : Value} (h : NoLog w v) (hb : Below w.heap.size w w') : NoLog w' v :=
  h.imp id fun ⟨p, hp, hz⟩ => ⟨p, hp, (hb.cell (p := ⟨p, 0, none⟩) (block_lt_of_cell hz)).trans hz⟩
theorem lnone_no (v : Value) (w : World) (h : NoLog w v) :
    Calls Tryd.prog 36 #[v] w fun e w' => e = .returned (.bool true) ∧ w = w' := by
  rcases h with rfl | ⟨p, rfl, h0⟩
  · go_enter Tryd.func36, Tryd.ntmps36
    go_wp2
    go_ret
    exact ⟨rfl, rfl⟩
  · go_enter Tryd.func36, Tryd.ntmps36
    go_wp2
    go_ret
    exact ⟨rfl, rfl⟩
def roomL (l : L) : Int := ((l.n : Int) - 2 - l.used) * 488 - 4
theorem room_ok (w : World) (FL FD : Nat → Prop) (p : Nat) (l : L) (d : D) (h : LogOn w FL FD p l d) :
    Calls Tryd.prog 37 #[.pointer (some ⟨p, 0, none⟩)] w fun e w' => e = .returned (.int .i64 (roomL l)) ∧ Below w.heap.size w w' := by
  obtain ⟨vb, m, _, _, h2, _, _, h5, _⟩ := h.cells
  have hm := h.most
  have hs := h.size
  have hu := h.used
  have HR : Hid (roomL l = ((l.n : Int) - 2 - l.used) * 488 - 4) := Lib.hid rfl
  clear h
  generalize l.n = n at *
  generalize l.used = u at *
  go_enter Tryd.func37, Tryd.ntmps37
  go_wp2
  go_quiet (fail)
  go_wp2
  go_ret
  exact ⟨ret_int HR.out.symm, below_drewN (Below.refl _ _) _⟩
end Go.Proofs.YtljlkmmeedlaiaaDoor
