/- Layer 2: a disk as the chapter has it, and how it lies in memory. The small functions. -/
import Derived.Test.YtielinebhbhegaaSects
import Derived.WalkSpells
import Derived.WalkLawsBesides
import Derived.Outline
import Derived.Lib.Hide
import Derived.WalkMore
namespace Go.Proofs.Ytielinebhbhegaa
open Go.RowKit

structure D where
  size : Nat
  lasting : Int → List Nat
  read : Int → List Nat
  pieces : List (Int × List Nat)
  fates : List (Int × Int)
  steps : Int

def pcs (l : List (Int × List Nat)) : List Value := l.flatMap fun p => pieceCells p.1 p.2
def fcs (l : List (Int × Int)) : List Value := l.flatMap fun p => [.int .i64 p.1, .int .i64 p.2]
theorem pcs_append (a b : List (Int × List Nat)) : pcs (a ++ b) = pcs a ++ pcs b := by simp [pcs]
theorem fcs_append (a b : List (Int × Int)) : fcs (a ++ b) = fcs a ++ fcs b := by simp [fcs]

/-- A disk that is one. -/
structure D.Good (d : D) : Prop where
  pos : 1 ≤ d.size
  most : d.size ≤ 65536
  piece : ∀ p ∈ d.pieces, 0 ≤ p.1 ∧ p.1 < d.size ∧ Sec p.2

theorem pcs_length {l : List (Int × List Nat)} (h : ∀ p ∈ l, Sec p.2) : (pcs l).length = l.length * 513 := by
  induction l with
  | nil => rfl
  | cons p r ih =>
    have h1 : pcs (p :: r) = pieceCells p.1 p.2 ++ pcs r := rfl
    rw [h1, List.length_append, pieceCells_length (h p (by simp)), ih (fun q hq => h q (by simp [hq])), List.length_cons]
    omega
theorem fcs_length (l : List (Int × Int)) : (fcs l).length = l.length * 2 := by
  induction l with
  | nil => rfl
  | cons p r ih =>
    have h1 : fcs (p :: r) = [.int .i64 p.1, .int .i64 p.2] ++ fcs r := rfl
    rw [h1, List.length_append, ih, List.length_cons]
    simp
    omega
theorem pcs_one (l : List (Int × List Nat)) : ∀ v ∈ pcs l, v.oneCell' = true := by
  intro v hv
  obtain ⟨p, _, h⟩ := List.mem_flatMap.1 hv
  exact pieceCells_one _ _ v h
theorem fcs_one (l : List (Int × Int)) : ∀ v ∈ fcs l, v.oneCell' = true := by
  intro v hv
  obtain ⟨p, _, h⟩ := List.mem_flatMap.1 hv
  simp at h
  rcases h with rfl | rfl <;> rfl

/-- Where a disk lies: its own block, its two maps, its two lists. -/
structure Parts where
  bl : Nat
  br : Nat
  vp : Value
  vf : Value
def diskCells (d : D) (t : Parts) : Array Value := #[.int .i64 d.size, .map (some t.bl), .map (some t.br), t.vp, t.vf, .int .i64 d.steps]
structure DiskIs (w : World) (F : Nat → Prop) (p : Nat) (d : D) (t : Parts) : Prop where
  good : d.Good
  row : Row w p 52 (diskCells d t)
  fp : F p
  fl : F t.bl
  fr : F t.br
  ne : t.bl ≠ t.br
  last : IsMap w t.bl d.lasting
  read : IsMap w t.br d.read
  pieces : Lies w F 64 513 t.vp d.pieces.length (pcs d.pieces)
  fates : Lies w F 58 2 t.vf d.fates.length (fcs d.fates)
def DiskAt (w : World) (F : Nat → Prop) (p : Nat) (d : D) : Prop := ∃ t, DiskIs w F p d t

section
variable {w w' : World} {F G : Nat → Prop} {p : Nat} {d : D} {t : Parts}
theorem DiskIs.mono (h : DiskIs w F p d t) (hf : ∀ k, F k → G k) : DiskIs w G p d t :=
  ⟨h.good, h.row, hf _ h.fp, hf _ h.fl, hf _ h.fr, h.ne, h.last, h.read, h.pieces.mono hf, h.fates.mono hf⟩
theorem DiskIs.below (h : DiskIs w F p d t) (hb : Below w.heap.size w w') : DiskIs w' F p d t :=
  ⟨h.good, h.row.call hb, h.fp, h.fl, h.fr, h.ne, h.last.below hb, h.read.below hb, h.pieces.below hb, h.fates.below hb⟩
theorem DiskIs.drewN (h : DiskIs w F p d t) (n : Nat) : DiskIs (w.drewN n) F p d t :=
  ⟨h.good, h.row, h.fp, h.fl, h.fr, h.ne, h.last.drewN n, h.read.drewN n, h.pieces.drewN n, h.fates.drewN n⟩
theorem DiskIs.kept (h : DiskIs w F p d t) (hk : Kept G w w') (hd : ∀ k, F k → ¬ G k) : DiskIs w' F p d t :=
  ⟨h.good, h.row.kept hk (hd _ h.fp), h.fp, h.fl, h.fr, h.ne, h.last.kept hk (hd _ h.fl), h.read.kept hk (hd _ h.fr), h.pieces.kept hk hd, h.fates.kept hk hd⟩
/-- A disk's blocks are there. -/
theorem DiskIs.there (h : DiskIs w F p d t) : DiskIs w (fun k => F k ∧ k < w.heap.size) p d t :=
  ⟨h.good, h.row, ⟨h.fp, h.row.lt⟩, ⟨h.fl, h.last.lt⟩, ⟨h.fr, h.read.lt⟩, h.ne, h.last, h.read, h.pieces.there, h.fates.there⟩
theorem DiskAt.there (h : DiskAt w F p d) : DiskAt w (fun k => F k ∧ k < w.heap.size) p d := let ⟨t, ht⟩ := h; ⟨t, ht.there⟩
theorem DiskAt.mono (h : DiskAt w F p d) (hf : ∀ k, F k → G k) : DiskAt w G p d := let ⟨t, ht⟩ := h; ⟨t, ht.mono hf⟩
theorem DiskAt.below (h : DiskAt w F p d) (hb : Below w.heap.size w w') : DiskAt w' F p d := let ⟨t, ht⟩ := h; ⟨t, ht.below hb⟩
theorem DiskAt.kept (h : DiskAt w F p d) (hk : Kept G w w') (hd : ∀ k, F k → ¬ G k) : DiskAt w' F p d := let ⟨t, ht⟩ := h; ⟨t, ht.kept hk hd⟩
theorem DiskIs.c0 (h : DiskIs w F p d t) : w.cell? ⟨p, 0, none⟩ = some (.int .i64 d.size) := h.row.cell (by simp [diskCells])
theorem DiskIs.c1 (h : DiskIs w F p d t) : w.cell? ⟨p, 1, none⟩ = some (.map (some t.bl)) := h.row.cell (by simp [diskCells])
theorem DiskIs.c2 (h : DiskIs w F p d t) : w.cell? ⟨p, 2, none⟩ = some (.map (some t.br)) := h.row.cell (by simp [diskCells])
theorem DiskIs.c3 (h : DiskIs w F p d t) : w.cell? ⟨p, 3, none⟩ = some t.vp := h.row.cell (by simp [diskCells])
theorem DiskIs.c4 (h : DiskIs w F p d t) : w.cell? ⟨p, 4, none⟩ = some t.vf := h.row.cell (by simp [diskCells])
theorem DiskIs.c5 (h : DiskIs w F p d t) : w.cell? ⟨p, 5, none⟩ = some (.int .i64 d.steps) := h.row.cell (by simp [diskCells])
theorem DiskIs.free (h : DiskIs w F p d t) (i : Nat) : w.frozen? ⟨p, i, none⟩ = false := h.row.free i
end

/-- A zero one: as nil. -/
def ZeroAt (w : World) (p : Nat) : Prop := w.cell? ⟨p, 0, none⟩ = some (.int .i64 0)
/-- What answers as none: nil, or a zero one. -/
def NoDisk (w : World) (v : Value) : Prop := v = .pointer none ∨ ∃ p, v = .pointer (some ⟨p, 0, none⟩) ∧ ZeroAt w p
theorem NoDisk.below {w w' : World} {v : Value} (h : NoDisk w v) (hb : Below w.heap.size w w') : NoDisk w' v :=
  h.imp id fun ⟨p, hp, hz⟩ => ⟨p, hp, (hb.cell (p := ⟨p, 0, none⟩) (block_lt_of_cell hz)).trans hz⟩

theorem none_ok {F : Nat → Prop} (p : Nat) (d : D) (w : World) (h : DiskAt w F p d) :
    Calls Try.prog 20 #[.pointer (some ⟨p, 0, none⟩)] w fun e w' => e = .returned (.bool false) ∧ w = w' := by
  obtain ⟨t, h⟩ := h
  have h0 := h.c0
  have hp := h.good.pos
  have hne : ((d.size : Int) == 0) = false := by simp; omega
  clear h
  go_enter Try.func20, Try.ntmps20
  go_wp2
  go_ret
  exact ⟨rfl, rfl⟩
theorem none_no (v : Value) (w : World) (h : NoDisk w v) :
    Calls Try.prog 20 #[v] w fun e w' => e = .returned (.bool true) ∧ w = w' := by
  rcases h with rfl | ⟨p, rfl, h⟩
  · go_enter Try.func20, Try.ntmps20
    go_wp2
    go_ret
    exact ⟨rfl, rfl⟩
  · unfold ZeroAt at h
    go_enter Try.func20, Try.ntmps20
    go_wp2
    go_ret
    exact ⟨rfl, rfl⟩

theorem size_no (v : Value) (w : World) (h : NoDisk w v) :
    Calls Try.prog 18 #[v] w fun e w' => e = .returned (.int .i64 0) ∧ w = w' := by
  have H := Lib.hid h
  clear h
  go_enter Try.func18, Try.ntmps18
  go_wp2_with (go_at_call 20; refine (none_no v _ H.out).mono ?_; rintro e w' ⟨rfl, rfl⟩)
  go_ret
  exact ⟨rfl, rfl⟩
theorem size_ok {F : Nat → Prop} (p : Nat) (d : D) (w : World) (h : DiskAt w F p d) :
    Calls Try.prog 18 #[.pointer (some ⟨p, 0, none⟩)] w fun e w' => e = .returned (.int .i64 d.size) ∧ w = w' := by
  have H := Lib.hid h
  obtain ⟨t, h⟩ := h
  have h0 := h.c0
  clear h
  go_enter Try.func18, Try.ntmps18
  go_wp2_with (go_at_call 20; refine (none_ok p d _ H.out).mono ?_; rintro e w' ⟨rfl, rfl⟩)
  go_ret
  exact ⟨rfl, rfl⟩
theorem steps_no (v : Value) (w : World) (h : NoDisk w v) :
    Calls Try.prog 35 #[v] w fun e w' => e = .returned (.tuple #[.int .i64 0, .int .i64 0]) ∧ w = w' := by
  have H := Lib.hid h
  clear h
  go_enter Try.func35, Try.ntmps35
  go_wp2_with (go_at_call 20; refine (none_no v _ H.out).mono ?_; rintro e w' ⟨rfl, rfl⟩)
  go_ret2
  exact ⟨rfl, rfl⟩
theorem copy_no (v : Value) (w : World) (h : NoDisk w v) :
    Calls Try.prog 12 #[v] w fun e w' => e = .returned (.pointer none) ∧ w = w' := by
  have H := Lib.hid h
  clear h
  go_enter Try.func12, Try.ntmps12
  go_wp2_with (go_at_call 20; refine (none_no v _ H.out).mono ?_; rintro e w' ⟨rfl, rfl⟩)
  go_ret
  exact ⟨rfl, rfl⟩
theorem sync_no (v : Value) (w : World) (h : NoDisk w v) :
    Calls Try.prog 15 #[v] w fun e w' => e = .returned (.int .i64 1) ∧ w = w' := by
  have H := Lib.hid h
  clear h
  go_enter Try.func15, Try.ntmps15
  go_wp2_with (go_at_call 20; refine (none_no v _ H.out).mono ?_; rintro e w' ⟨rfl, rfl⟩)
  go_ret
  exact ⟨rfl, rfl⟩
end Go.Proofs.Ytielinebhbhegaa
