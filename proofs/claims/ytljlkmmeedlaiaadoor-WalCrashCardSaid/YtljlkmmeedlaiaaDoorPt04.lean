/- Layer 2: a step takes a fate. -/
import Derived.Test.YtljlkmmeedlaiaaDoorPt03
namespace Go.Proofs.YtljlkmmeedlaiaaDoor
open Go.RowKit

/-- How many of n parts of a step are done, and the error. -/
def stepOf (l : List (Int × Int)) (n : Nat) : Nat × Int :=
  match l with
  | [] => (n, 0)
  | (k, keep) :: _ => if k = 0 then (n, 0) else (min (max keep 0).toNat n, 5)
theorem stepOf_le (l : List (Int × Int)) (n : Nat) : (stepOf l n).1 ≤ n := by
  unfold stepOf
  split
  · exact Nat.le_refl _
  · split
    · exact Nat.le_refl _
    · exact Nat.min_le_right _ _
def StepPost (w : World) (F : Nat → Prop) (p : Nat) (d : D) (t : Parts) (n : Nat) (e : Ending) (w' : World) : Prop :=
  ∃ s vf, e = .returned (.tuple #[.int .i64 (stepOf d.fates n).1, .int .i64 (stepOf d.fates n).2]) ∧ DiskIs w' F p { d with fates := d.fates.tail, steps := s } { t with vf := vf } ∧ Kept (· = p) w w'

theorem Lies.far {w : World} {F : Nat → Prop} {e e' : TypeId} {size n p : Nat} {v : Value} {xs : List Value} {cs : Array Value} (h : Lies w F e size v n xs) (hn : 0 < n) (hp : w.heap[p]? = some (.cells cs e' (0, 0))) (he : e' ≠ e) :
    ∃ g off cap, v = .slice (some ⟨g, off, none⟩) n cap ∧ n ≤ cap ∧ cap ≤ maxLen ∧ g < w.heap.size ∧ g ≠ p ∧ w.rangeAt g off xs := by
  rcases h.2 with ⟨A, rfl, rfl⟩ | ⟨g, off, cap, cur, rfl, h0, h1, h2, h3, h4, h5⟩
  · omega
  · obtain ⟨g', off', cap', hv, _, h6, h7, h8, h9⟩ := h.cells hn
    injection hv with hv1 _ hv3
    injection hv1 with hv1
    injection hv1 with hv1 hv2
    subst hv1; subst hv2; subst hv3
    exact ⟨g, off, cap, rfl, h6, h7, h8, fun e => by subst e; rw [hp] at h1; injection h1 with h1; injection h1 with _ h1 _; exact he h1, h9⟩

theorem DiskIs.stepped {w : World} {F : Nat → Prop} {p : Nat} {d : D} {t : Parts} (h : DiskIs w F p d t) (s : Int) (v : Value) (l : List (Int × Int)) (hl : Lies w F 75 2 v l.length (fcs l)) :
    DiskIs ((w.setCell ⟨p, 5, none⟩ (.int .i64 s)).setCell ⟨p, 4, none⟩ v) F p { d with fates := l, steps := s } { t with vf := v } ∧ Kept (· = p) w ((w.setCell ⟨p, 5, none⟩ (.int .i64 s)).setCell ⟨p, 4, none⟩ v) := by
  have k1 := (Kept.cell w p 5 (.int .i64 s)).trans' (Kept.cell _ p 4 v)
  refine ⟨⟨⟨h.good.pos, h.good.most, h.good.piece⟩, ?_, h.fp, h.fl, h.fr, h.ne, h.last.row h.row k1, h.read.row h.row k1, h.pieces.row h.row (by decide) k1, hl.row h.row (by decide) k1⟩, k1⟩
  have := (h.row.set_ 5 (.int .i64 s)).set_ 4 v
  simpa [diskCells] using this
theorem DiskIs.stepped0 {w : World} {F : Nat → Prop} {p : Nat} {d : D} {t : Parts} (h : DiskIs w F p d t) (s : Int) :
    DiskIs (w.setCell ⟨p, 5, none⟩ (.int .i64 s)) F p { d with steps := s } t ∧ Kept (· = p) w (w.setCell ⟨p, 5, none⟩ (.int .i64 s)) := by
  have k1 := Kept.cell w p 5 (.int .i64 s)
  refine ⟨⟨⟨h.good.pos, h.good.most, h.good.piece⟩, ?_, h.fp, h.fl, h.fr, h.ne, h.last.row h.row k1, h.read.row h.row k1, h.pieces.row h.row (by decide) k1, h.fates.row h.row (by decide) k1⟩, k1⟩
  have := h.row.set_ 5 (.int .i64 s)
  simpa [diskCells] using this

theorem way (keep : Int) (n : Nat) : keep < 0 ∨ (∃ m : Nat, keep = m ∧ (m : Int) ≤ n) ∨ (n : Int) < keep := by
  rcases (by omega : keep < 0 ∨ 0 ≤ keep) with h | h
  · exact .inl h
  · rcases (by omega : (n : Int) < keep ∨ keep ≤ n) with h1 | h1
    · exact .inr (.inr h1)
    · exact .inr (.inl ⟨keep.toNat, by omega, by omega⟩)
set_option maxHeartbeats 1000000 in
theorem step_ok (F : Nat → Prop) (p : Nat) (d : D) (t : Parts) (n : Nat) (w : World) (h : DiskIs w F p d t) (hn : n ≤ 1000000) :
    Calls Tryd.prog 68 #[.pointer (some ⟨p, 0, none⟩), .int .i64 n] w (StepPost w F p d t n) := by
  have c4 := h.c4
  have c5 := h.c5
  have f4 := h.free 4
  have f5 := h.free 5
  have hpl := h.row.lt
  obtain ⟨fa, hfa⟩ : ∃ fa, d.fates = fa := ⟨_, rfl⟩
  have hfl := h.fates
  rw [hfa] at hfl
  have HFA := Lib.hid hfa
  clear hfa
  have HT : Hid (∀ s, t = { t with vf := s } ↔ s = t.vf) := Lib.hid fun s => ⟨fun e => by rw [e], fun e => by subst e; rfl⟩
  rcases fa with _ | ⟨⟨k, keep⟩, fr⟩
  · obtain ⟨A, c, hv, _, _⟩ := hfl.form
    simp only [List.length_nil] at hv
    rw [hv] at c4
    have H := Lib.hid h
    clear h hv hfl
    go_enter Tryd.func68, Tryd.ntmps68
    go_wp2
    go_ret2
    refine ⟨wrap64 (d.steps + 1), t.vf, ?_, ?_, (H.out.stepped0 _).2⟩
    · rw [HFA.out]; rfl
    · have := (H.out.stepped0 (wrap64 (d.steps + 1))).1
      have e : d.fates.tail = d.fates := by rw [HFA.out]; rfl
      rw [e]
      exact this
  · obtain ⟨b, off, c, hv, h1, h2, h3, h4, h5⟩ := hfl.far (by simp) h.row (by decide)
    simp only [List.length_cons] at hv h1
    have hc0 := h5 0 (.int .i64 k) rfl
    have hc1 := h5 1 (.int .i64 keep) rfl
    have hl := hfl
    rw [hv] at hl c4
    have hl := cutFrom_lies (k := 1) hl (by simp)
    have HL : Hid (Lies w F 75 2 (cutFrom (some ⟨b, off, none⟩) (fr.length + 1) c 1 2) fr.length (fcs fr)) := Lib.hid (by simpa [fcs] using hl)
    simp only [Nat.add_zero] at hc0
    have H := Lib.hid h
    clear h hl hfl hv h5
    have HS : Hid (∀ n, stepOf d.fates n = if k = 0 then (n, 0) else (min (max keep 0).toNat n, 5)) := Lib.hid fun n => by rw [HFA.out]; rfl
    have HTL : Hid (d.fates.tail = fr) := Lib.hid (by rw [HFA.out]; rfl)
    clear HFA
    have key : Hid (∀ (v : Value) (o : Obj) (q : Nat) (m : Int), v = cutFrom (some ⟨b, off, none⟩) (fr.length + 1) c 1 2 → ((stepOf d.fates n).1 : Int) = q → (stepOf d.fates n).2 = m →
        StepPost w F p d t n (.returned (.tuple #[.int .i64 q, .int .i64 m])) (((w.setCell ⟨p, 5, none⟩ (.int .i64 (wrap64 (d.steps + 1)))).setCell ⟨p, 4, none⟩ v).alloc o)) := Lib.hid fun v o q m hv hq hm => by
      subst hv
      have hst := H.out.stepped (wrap64 (d.steps + 1)) _ fr HL.out
      refine ⟨wrap64 (d.steps + 1), cutFrom (some ⟨b, off, none⟩) (fr.length + 1) c 1 2, by rw [hq, hm], ?_, hst.2.alloc o⟩
      rw [HTL.out]
      exact hst.1.below ((Below.refl _ _).alloc (Nat.le_refl _) _)
    by_cases hk : k = 0
    · have e : (k == 0) = true := by simp [hk]
      have HS2 : Hid (stepOf d.fates n = (n, 0)) := Lib.hid (by rw [HS.out, if_pos hk])
      clear hk HS
      by_cases hcc : c = 1
      · have E : Hid (Value.slice (some ⟨b, off, none⟩) fr.length 0 = cutFrom (some ⟨b, off, none⟩) (fr.length + 1) c 1 2) := Lib.hid (by simp [cutFrom, hcc])
        subst hcc
        obtain rfl : fr = [] := List.eq_nil_of_length_eq_zero (by omega)
        go_enter Tryd.func68, Tryd.ntmps68
        go_wp2
        go_ret2
        exact key.out _ _ n 0 E.out (by rw [HS2.out]) (by rw [HS2.out])
      · have E : Hid (Value.slice (some ⟨b, off + 2, none⟩) fr.length (c - 1) = cutFrom (some ⟨b, off, none⟩) (fr.length + 1) c 1 2) := Lib.hid (by simp [cutFrom, hcc, Addr.add_lit])
        go_enter Tryd.func68, Tryd.ntmps68
        go_wp2
        go_ret2
        exact key.out _ _ n 0 E.out (by rw [HS2.out]) (by rw [HS2.out])
    · have e : (k == 0) = false := by simp [hk]
      have HS2 : Hid (stepOf d.fates n = (min (max keep 0).toNat n, 5)) := Lib.hid (by rw [HS.out, if_neg hk])
      clear hk HS
      by_cases hcc : c = 1
      · have E : Hid (Value.slice (some ⟨b, off, none⟩) fr.length 0 = cutFrom (some ⟨b, off, none⟩) (fr.length + 1) c 1 2) := Lib.hid (by simp [cutFrom, hcc])
        subst hcc
        obtain rfl : fr = [] := List.eq_nil_of_length_eq_zero (by omega)
        rcases (way keep n) with hw | ⟨m, rfl, hw2⟩ | hw
        all_goals
          go_enter Tryd.func68, Tryd.ntmps68
          go_wp2
          go_ret2
        · exact key.out _ _ 0 5 E.out (by rw [HS2.out]; simp; omega) (by rw [HS2.out])
        · exact key.out _ _ m 5 E.out (by rw [HS2.out]; simp; omega) (by rw [HS2.out])
        · exact key.out _ _ n 5 E.out (by rw [HS2.out]; simp; omega) (by rw [HS2.out])
      · have E : Hid (Value.slice (some ⟨b, off + 2, none⟩) fr.length (c - 1) = cutFrom (some ⟨b, off, none⟩) (fr.length + 1) c 1 2) := Lib.hid (by simp [cutFrom, hcc, Addr.add_lit])
        rcases (way keep n) with hw | ⟨m, rfl, hw2⟩ | hw
        all_goals
          go_enter Tryd.func68, Tryd.ntmps68
          go_wp2
          go_ret2
        · exact key.out _ _ 0 5 E.out (by rw [HS2.out]; simp; omega) (by rw [HS2.out])
        · exact key.out _ _ m 5 E.out (by rw [HS2.out]; simp; omega) (by rw [HS2.out])
        · exact key.out _ _ n 5 E.out (by rw [HS2.out]; simp; omega) (by rw [HS2.out])
end Go.Proofs.YtljlkmmeedlaiaaDoor
