/- Words on memory, of no program: what a call keeps; slices that may lie anywhere in a block. -/
import Derived.Test.YtfdodndagakmmaaGreatDoorPt01
import Derived.Deep.MidRow
import Derived.Maps.Keyed
import Derived.Test.YtfdodndagakmmaaGreatDoorRows
import Derived.WalkKit
import Derived.WalkSpells
import Derived.WalkLawsBesides
import Derived.Lib.Hide
import Derived.Laws.StructEq
import Derived.Deep.DeepCutAuto
import Derived.Deep.RegionHeld3
import Derived.Deep.RegionLaw
import Derived.OrdersHeld
import Derived.BigQuiet
namespace Go.Proofs.YtfdodndagakmmaaGreatDoor
open Go.RowKit

/-- All but the blocks of F is as it was; new blocks may have come. -/
structure Kept (F : Nat → Prop) (w w' : World) : Prop where
  os : w'.os = w.os
  tape : w'.tape = w.tape
  output : w'.output = w.output
  size : w.heap.size ≤ w'.heap.size
  block : ∀ k, k < w.heap.size → ¬ F k → w'.heap[k]? = w.heap[k]?
/-- F, and what is new behind w. -/
def grow (F : Nat → Prop) (w : World) (k : Nat) : Prop := F k ∨ w.heap.size ≤ k
def noBlock (_ : Nat) : Prop := False

section
variable {F G : Nat → Prop} {w a b c : World}
theorem grow.old {k : Nat} (h : F k) : grow F w k := .inl h
theorem grow.fresh {k : Nat} (h : w.heap.size ≤ k) : grow F w k := .inr h
theorem Kept.refl (F : Nat → Prop) (w : World) : Kept F w w := ⟨rfl, rfl, rfl, Nat.le_refl _, fun _ _ _ => rfl⟩
theorem Kept.mono (h : Kept F a b) (hf : ∀ k, k < a.heap.size → F k → G k) : Kept G a b := ⟨h.os, h.tape, h.output, h.size, fun k hk hg => h.block k hk fun hF => hg (hf k hk hF)⟩
/-- Two steps; the second one may touch what came with the first. -/
theorem Kept.trans (h : Kept F a b) (k : Kept (grow F a) b c) : Kept F a c :=
  ⟨k.os.trans h.os, k.tape.trans h.tape, k.output.trans h.output, Nat.le_trans h.size k.size, fun i hi hn =>
    (k.block i (Nat.lt_of_lt_of_le hi h.size) fun hg => by
      rcases hg with hg | hg
      · exact hn hg
      · omega).trans (h.block i hi hn)⟩
theorem Kept.trans' (h : Kept F a b) (k : Kept F b c) : Kept F a c := h.trans (k.mono fun _ _ => grow.old)
theorem Kept.drew (h : Kept F a b) : Kept F a b.drew := ⟨h.os, h.tape, h.output, h.size, h.block⟩
theorem Kept.drewN (h : Kept F a b) (n : Nat) : Kept F a (b.drewN n) := ⟨h.os, h.tape, h.output, h.size, h.block⟩
theorem Kept.alloc (h : Kept F a b) (o : Obj) : Kept F a (b.alloc o) :=
  h.trans' ⟨rfl, rfl, rfl, by simp, fun k hk _ => Below.heap_alloc _ _ _ hk⟩
theorem Kept.setCell (h : Kept F a b) {p : Addr} (hp : grow F a p.block) (u : Value) : Kept F a (b.setCell p u) :=
  h.trans ⟨rfl, rfl, rfl, by simp [World.setCell], fun k _ hk => Below.heap_setCell _ _ _ _ (fun e => hk (e ▸ hp))⟩
theorem Kept.setRow (h : Kept F a b) {g : Nat} (hg : grow F a g) (cs : Array Value) : Kept F a (b.setRow g cs) :=
  h.trans ⟨rfl, rfl, rfl, by simp, fun k _ hk => setRow_other _ _ _ _ (fun e => hk (e ▸ hg))⟩
theorem _root_.Go.RowKit.Below.kept (h : Below a.heap.size a b) : Kept F a b := ⟨h.os, h.tape, h.output, h.size, fun k hk _ => h.block k hk⟩
theorem Kept.below (h : Kept F a b) {B : Nat} (hB : B ≤ a.heap.size) (hf : ∀ k, F k → B ≤ k) : Below B a b :=
  ⟨h.os, h.tape, h.output, h.size, fun k hk => h.block k (by omega) fun hF => by have := hf k hF; omega⟩
theorem Kept.heap (h : Kept F a b) {k : Nat} {o : Obj} (ho : a.heap[k]? = some o) (hk : ¬ F k) : b.heap[k]? = some o :=
  (h.block k (by rcases Nat.lt_or_ge k a.heap.size with h1 | h1
                 · exact h1
                 · rw [Array.getElem?_eq_none h1] at ho; cases ho) hk).trans ho
theorem Row.kept {t : TypeId} {cs : Array Value} {g : Nat} (h : Row a g t cs) (k : Kept F a b) (hg : ¬ F g) : Row b g t cs := k.heap h hg
theorem Kept.cell (a : World) (p i : Nat) (u : Value) : Kept (· = p) a (a.setCell ⟨p, i, none⟩ u) := (Kept.refl _ _).setCell (grow.old (F := (· = p)) rfl) u
theorem lt_of_heap {k : Nat} {o : Obj} (ho : a.heap[k]? = some o) : k < a.heap.size := by
  rcases Nat.lt_or_ge k a.heap.size with h1 | h1
  · exact h1
  · rw [Array.getElem?_eq_none h1] at ho; cases ho
end

theorem _root_.Go.Proofs.YtfdodndagakmmaaGreatDoor.Bytes.kept {F : Nat → Prop} {w w' : World} {A : Option Addr} {n : Nat} {l : List Nat} (h : Bytes w A n l) (hk : Kept F w w') (hF : 0 < n → ∀ x, A = some x → ¬ F x.block) : Bytes w' A n l :=
  ⟨h.1, h.2.1, fun h0 => by
    obtain ⟨b, off, e, hb, hc⟩ := h.2.2 h0
    refine ⟨b, off, e, Nat.lt_of_lt_of_le hb hk.size, fun i hi => ?_⟩
    rw [World.cell?_of_block (w := w) (hk.block b hb (hF h0 _ e))]
    exact hc i hi⟩
/-- v is a slice of n elements (each of so many cells) whose cells are xs; its block is one of F. -/
def Lies (w : World) (F : Nat → Prop) (e : TypeId) (size : Nat) (v : Value) (n : Nat) (xs : List Value) : Prop :=
  xs.length = n * size ∧ ((∃ A, v = .slice A 0 0 ∧ n = 0) ∨
    ∃ g off cap cur, v = .slice (some ⟨g, off, none⟩) n cap ∧ F g ∧ w.heap[g]? = some (.cells cur e (0, 0)) ∧ n ≤ cap ∧ cap ≤ maxLen ∧ off + cap * size ≤ cur.size ∧ (cur.toList.drop off).take (n * size) = xs)

section
variable {F G : Nat → Prop} {w w' : World} {e : TypeId} {size n : Nat} {v : Value} {xs : List Value}
theorem Lies.empty (w : World) (F : Nat → Prop) (e : TypeId) (size : Nat) (A : Option Addr) : Lies w F e size (.slice A 0 0) 0 [] := ⟨by simp, .inl ⟨A, rfl, rfl⟩⟩
theorem Lies.mono (h : Lies w F e size v n xs) (hf : ∀ k, F k → G k) : Lies w G e size v n xs :=
  ⟨h.1, h.2.imp id fun ⟨g, off, cap, cur, h1, h2, h3⟩ => ⟨g, off, cap, cur, h1, hf g h2, h3⟩⟩
/-- The blocks of this type that F has are as they were. -/
theorem Lies.same (h : Lies w F e size v n xs) (hk : ∀ g cur, F g → w.heap[g]? = some (.cells cur e (0, 0)) → w'.heap[g]? = some (.cells cur e (0, 0))) : Lies w' F e size v n xs :=
  ⟨h.1, h.2.imp id fun ⟨g, off, cap, cur, h1, h2, h3, h4⟩ => ⟨g, off, cap, cur, h1, h2, hk g cur h2 h3, h4⟩⟩
theorem Lies.drewN (h : Lies w F e size v n xs) (k : Nat) : Lies (w.drewN k) F e size v n xs := h
theorem Lies.kept (h : Lies w F e size v n xs) (hk : Kept G w w') (hd : ∀ k, F k → ¬ G k) : Lies w' F e size v n xs :=
  h.same fun g _ hF hh => hk.heap hh (hd g hF)
/-- Another type's block turns. -/
theorem Lies.row {e' : TypeId} {cs' : Array Value} {p : Nat} (h : Lies w F e size v n xs) (hp : w.heap[p]? = some (.cells cs' e' (0, 0))) (he : e' ≠ e) (hk : Kept (· = p) w w') : Lies w' F e size v n xs :=
  h.same fun g cur _ hh => hk.heap hh fun hg => by subst hg; rw [hp] at hh; injection hh with hh; injection hh with _ hh _; exact he hh
theorem Lies.below (h : Lies w F e size v n xs) (hb : Below w.heap.size w w') : Lies w' F e size v n xs :=
  h.same fun g _ _ hh => (hb.block g (lt_of_heap hh)).trans hh
theorem Lies.there (h : Lies w F e size v n xs) : Lies w (fun k => F k ∧ k < w.heap.size) e size v n xs :=
  ⟨h.1, h.2.imp id fun ⟨g, off, cap, cur, h1, h2, h3, h4⟩ => ⟨g, off, cap, cur, h1, ⟨h2, lt_of_heap h3⟩, h3, h4⟩⟩
/-- It is a slice value, of so many elements. -/
theorem Lies.form (h : Lies w F e size v n xs) : ∃ A c, v = .slice A n c ∧ n ≤ c ∧ c ≤ maxLen := by
  rcases h.2 with ⟨A, rfl, rfl⟩ | ⟨g, off, cap, cur, rfl, _, _, h1, h2, _⟩
  · exact ⟨A, 0, rfl, Nat.le_refl _, by unfold maxLen; omega⟩
  · exact ⟨_, cap, rfl, h1, h2⟩
theorem Lies.length (h : Lies w F e size v n xs) : xs.length = n * size := h.1
/-- Its cells. -/
theorem Lies.cells (h : Lies w F e size v n xs) (hn : 0 < n) : ∃ g off cap, v = .slice (some ⟨g, off, none⟩) n cap ∧ F g ∧ n ≤ cap ∧ cap ≤ maxLen ∧ g < w.heap.size ∧ w.rangeAt g off xs := by
  rcases h.2 with ⟨A, rfl, rfl⟩ | ⟨g, off, cap, cur, rfl, h0, h1, h2, h3, h4, h5⟩
  · omega
  · refine ⟨g, off, cap, rfl, h0, h2, h3, lt_of_heap h1, fun j u hu => ?_⟩
    rw [cell_of_row w g (off + j) cur e (0, 0) h1]
    rw [← h5] at hu
    have hj : j < n * size := by
      have := (List.getElem?_eq_some_iff.1 hu).1
      simp at this; omega
    rw [List.getElem?_take_of_lt hj, List.getElem?_drop] at hu
    simpa using hu
end

/-- A slice of n elements holds these cells (whosever they are). -/
def Holds (w : World) (A : Option Addr) (n size : Nat) (xs : List Value) : Prop := xs.length = n * size ∧ (0 < n → ∃ b off, A = some ⟨b, off, none⟩ ∧ b < w.heap.size ∧ w.rangeAt b off xs)
theorem Lies.holds {w : World} {F : Nat → Prop} {e : TypeId} {size n : Nat} {v : Value} {xs : List Value} (h : Lies w F e size v n xs) : ∃ A c, v = .slice A n c ∧ n ≤ c ∧ c ≤ maxLen ∧ Holds w A n size xs := by
  obtain ⟨A, c, rfl, h1, h2⟩ := h.form
  refine ⟨A, c, rfl, h1, h2, h.1, fun h0 => ?_⟩
  obtain ⟨g, off, cap, hv, _, _, _, hg, hr⟩ := h.cells h0
  injection hv with hv _ _
  exact ⟨g, off, hv, hg, hr⟩
theorem rangeAt_below {w w' : World} {b o : Nat} {cs : List Value} (h : w.rangeAt b o cs) (hb : b < w.heap.size) (hk : Below w.heap.size w w') : w'.rangeAt b o cs := fun j v hv =>
  (hk.cell (p := ⟨b, o + j, none⟩) hb).trans (h j v hv)
theorem Holds.below {w w' : World} {A : Option Addr} {n size : Nat} {xs : List Value} (h : Holds w A n size xs) (hb : Below w.heap.size w w') : Holds w' A n size xs :=
  ⟨h.1, fun h0 => let ⟨b, off, e, hlt, hr⟩ := h.2 h0; ⟨b, off, e, Nat.lt_of_lt_of_le hlt hb.size, rangeAt_below hr hlt hb⟩⟩
theorem Holds.nil (w : World) (A : Option Addr) (size : Nat) : Holds w A 0 size [] := ⟨by simp, fun h => by omega⟩

section
variable {P : Program}
theorem run_append_room_off (w : World) (t ty e : TypeId) (i : TypeInfo) (ht : P.underlying t = some (.slice e)) (hi : P.info? e = some i)
    (g off sLen sCap : Nat) (cur : Array Value) (hg : w.heap[g]? = some (.cells cur e (0, 0)))
    (a : Addr) (m c : Nat) (news : List Value) (hl : news.length = m * i.size) (hnews : ∀ j u, news[j]? = some u → w.cell? (a.add j) = some u) (h1 : ∀ u ∈ news, u.oneCell' = true)
    (hroom : sLen + m ≤ sCap) (hfit : off + sLen * i.size + news.length ≤ cur.size) :
    (Builtin.append_ #[t, t] ty #[.slice (some ⟨g, off, none⟩) sLen sCap, .slice (some a) m c]).run P w =
      .ok (.slice (some ⟨g, off, none⟩) (sLen + m) sCap) (w.setRow g (cur.toList.take (off + sLen * i.size) ++ news ++ cur.toList.drop (off + sLen * i.size + news.length)).toArray) := by
  have hf := run_firstCells_some (P := P) w i.size m a m c news hl hnews
  have hst := run_storeCells_at P g (off + sLen * i.size) e news 0 cur w hg (by simpa using hfit) h1
  simp only [Nat.add_zero] at hst
  simp [Builtin.append_, run_underlying ht, sizeOf, typeInfo, hi, Builtin.lenOf, hroom, hf, Addr.add_lit, hst]

/-- Appended is nothing: the slice is as it was. -/
theorem run_append_nothing (w : World) (t ty e : TypeId) (i : TypeInfo) (ht : P.underlying t = some (.slice e)) (hi : P.info? e = some i) (A A' : Option Addr) (n cap c : Nat) (hn : n ≤ cap) :
    (Builtin.append_ #[t, t] ty #[.slice A n cap, .slice A' 0 c]).run P w = .ok (.slice A n cap) w := by
  have hf : (Builtin.firstCells i.size 0 (.slice A' 0 c)).run P w = .ok #[] w := by
    rcases A' with _ | a
    · simp [Builtin.firstCells]
    · exact run_firstCells_some (P := P) w i.size 0 a 0 c [] (by simp) (by simp)
  rcases A with _ | a <;> simp [Builtin.append_, run_underlying ht, sizeOf, typeInfo, hi, Builtin.lenOf, hn, hf, storeCells]

/-- The source of an append: nothing, or cells that lie somewhere. -/
def Source (w : World) (A : Option Addr) (m : Nat) (news : List Value) : Prop := m = 0 ∨ ∃ a, A = some a ∧ ∀ j u, news[j]? = some u → w.cell? (a.add j) = some u

/-- v has room in block b. -/
def Spare (v : Value) (b : Nat) : Prop := ∃ off n cap, v = .slice (some ⟨b, off, none⟩) n cap ∧ 0 < cap
theorem Lies.spare {w : World} {F : Nat → Prop} {e : TypeId} {size n : Nat} {v : Value} {xs : List Value} (h : Lies w F e size v n xs) {b : Nat} (hs : Spare v b) : b < w.heap.size := by
  obtain ⟨off, n', cap, rfl, h0⟩ := hs
  rcases h.2 with ⟨A, hv, _⟩ | ⟨g, off', cap', cur, hv, _, hg, _⟩
  · injection hv with _ _ hv; omega
  · injection hv with hv _ _; injection hv with hv; injection hv with hv _ _; subst hv; exact lt_of_heap hg

theorem run_append_any (w : World) (F : Nat → Prop) (t ty e : TypeId) (i : TypeInfo) (z : Value) (size bytes : Nat) (ht : P.underlying t = some (.slice e)) (hi : P.info? e = some i) (hz : i.zero = some z)
    (hsize : i.size = size) (hby : i.bytes = bytes) (hzs : z.cells.size = size) (hsz : 0 < size)
    (v : Value) (n : Nat) (xs : List Value) (hown : Lies w F e size v n xs) (A : Option Addr) (m c : Nat) (news : List Value) (hl : news.length = m * size) (hsrc : Source w A m news) (h1 : ∀ u ∈ news, u.oneCell' = true)
    (hbytes : (n + m) * bytes ≤ 140737488355328) (hb0 : 0 < bytes) :
    ∃ v' w', (Builtin.append_ #[t, t] ty #[v, .slice A m c]).run P w = .ok v' w' ∧ Lies w' (grow F w) e size v' (n + m) (xs ++ news) ∧ Kept (fun g => F g ∧ Spare v g ∧ ∃ cur, w.heap[g]? = some (.cells cur e (0, 0))) w w' := by
  subst hsize
  subst hby
  have hnm : n + m ≤ 140737488355328 := Nat.le_trans (Nat.le_mul_of_pos_right _ hb0) hbytes
  have hlen : (xs ++ news).length = (n + m) * i.size := by rw [List.length_append, hown.1, hl, Nat.add_mul]
  have grown : ∀ (old : Nat), old < n + m →
      Lies (w.drew.alloc (.cells (xs.toArray ++ news.toArray ++ Builtin.zeroCells z.cells (grownCap w (n + m) old e - (n + m))) e)) (grow F w) e i.size (.slice (some ⟨w.heap.size, 0, none⟩) (n + m) (grownCap w (n + m) old e)) (n + m) (xs ++ news) ∧
      Kept (fun g => F g ∧ Spare v g ∧ ∃ cur, w.heap[g]? = some (.cells cur e (0, 0))) w (w.drew.alloc (.cells (xs.toArray ++ news.toArray ++ Builtin.zeroCells z.cells (grownCap w (n + m) old e - (n + m))) e)) := by
    intro old ho
    have hge := grownCap_ge w (n + m) old e
    have hcm : grownCap w (n + m) old e ≤ maxLen := grownCap_le_maxLen w (n + m) old e (by unfold maxLen; omega)
    refine ⟨⟨hlen, .inr ⟨w.heap.size, 0, _, _, rfl, grow.fresh (Nat.le_refl _), heap_alloc_new w.drew _, hge, hcm, ?_, ?_⟩⟩, (Kept.refl _ _).drew.alloc _⟩
    · simp only [Array.size_append, List.size_toArray, size_zeroCells, hzs, hown.1, hl, ← Nat.add_mul, Nat.zero_add]
      refine Nat.le_of_eq ?_
      congr 1
      omega
    · simp only [Array.toList_append, List.append_assoc, List.drop_zero]
      rw [← List.append_assoc, ← hlen]
      exact List.take_left
  rcases Nat.eq_zero_or_pos m with rfl | hm
  · obtain rfl : news = [] := List.eq_nil_of_length_eq_zero (by simpa using hl)
    obtain ⟨B, cap, rfl, hcap, _⟩ := hown.form
    refine ⟨_, w, run_append_nothing w t ty e i ht hi B A n cap c hcap, ?_, Kept.refl _ _⟩
    simpa using hown.mono (fun _ => grow.old)
  · obtain ⟨a, rfl, hcells⟩ : ∃ a, A = some a ∧ ∀ j u, news[j]? = some u → w.cell? (a.add j) = some u := by
      rcases hsrc with h | h
      · omega
      · exact h
    rcases hown.2 with ⟨B, rfl, rfl⟩ | ⟨g, off, cap, cur, rfl, hF, hg, hnc, hcm, hfit, htake⟩
    · obtain rfl : xs = [] := List.eq_nil_of_length_eq_zero (by simpa using hown.1)
      rcases B with _ | b
      · have hr := run_append_nil (P := P) w t ty e i z ht hi hz a m c news hl hcells (by omega) (by omega) (by have hb := hbytes; simp only [Nat.zero_add] at hb; omega)
        have hgr := grown 0 (by omega)
        simp only [Nat.zero_add, List.nil_append, Array.empty_append] at hgr ⊢
        exact ⟨_, _, hr, hgr.1, hgr.2⟩
      · have hr := run_append_grow (P := P) w t ty e i z ht hi hz b 0 0 [] (by simp) (by simp) a m c news hl hcells (by omega) (by omega) (growslice_fits (by omega) hbytes)
        exact ⟨_, _, hr, (grown 0 (by omega)).1, (grown 0 (by omega)).2⟩
    · by_cases hroom : n + m ≤ cap
      · have hmul : n * i.size + news.length ≤ cap * i.size := by rw [hl, ← Nat.add_mul]; exact Nat.mul_le_mul_right _ hroom
        have hr := run_append_room_off (P := P) w t ty e i ht hi g off n cap cur hg a m c news hl hcells h1 hroom (by omega)
        refine ⟨_, _, hr, ⟨hlen, .inr ⟨g, off, cap, _, rfl, grow.old hF, setRow_heap w g cur _ e _ hg, hroom, hcm, ?_, ?_⟩⟩, (Kept.refl _ _).setRow (grow.old ⟨hF, ⟨off, n, cap, rfl, by omega⟩, cur, hg⟩) _⟩
        · simp only [List.size_toArray, List.length_append, List.length_take, List.length_drop, Array.length_toList]
          omega
        · have e1 : (cur.toList.take (off + n * i.size)) = cur.toList.take off ++ xs := by rw [← htake, List.take_add]
          simp only [List.append_assoc]
          rw [e1, List.append_assoc, List.drop_append_of_le_length (by simp; omega), List.drop_of_length_le (by simp; omega), List.nil_append, ← List.append_assoc, ← hlen]
          exact List.take_left
      · have holds : ∀ j u, xs[j]? = some u → w.cell? ((⟨g, off, none⟩ : Addr).add j) = some u := by
          intro j u hu
          rcases Nat.eq_zero_or_pos n with h0 | h0
          · subst h0
            obtain rfl : xs = [] := List.eq_nil_of_length_eq_zero (by simpa using hown.1)
            simp at hu
          · obtain ⟨g', off', cap', hv, _, _, _, _, hr⟩ := hown.cells h0
            injection hv with hv1 hv2 hv3
            injection hv1 with hv1
            injection hv1 with hv4 hv5
            subst hv4; subst hv5
            rw [Addr.add_lit]
            exact hr j u hu
        have hr := run_append_grow (P := P) w t ty e i z ht hi hz ⟨g, off, none⟩ n cap xs hown.1 holds a m c news hl hcells (by omega) (by omega) (growslice_fits (by omega) hbytes)
        exact ⟨_, _, hr, (grown cap (by omega)).1, (grown cap (by omega)).2⟩

/-- At an operation. -/
theorem wp_append_any {o : Oper} {a : Act} {w : World} {K : Act → World → Prop} {Q : Exit → Act → World → Prop} (F : Nat → Prop) (s x : Operand) (t : TypeId)
    (ho : o.op = .call { callee := .builtin .append, args := #[s, x], argTypes := #[t, t] }) (e : TypeId) (size bytes : Nat) (z : Value) (ht : P.underlying t = some (.slice e)) (hi : (P.info? e).map (fun i => (i.zero, i.size, i.bytes)) = some (some z, size, bytes))
    (hzs : z.cells.size = size) (hsz : 0 < size) (v : Value) (n : Nat) (xs : List Value) (hs : a.eval s = v) (hown : Lies w F e size v n xs) (A : Option Addr) (m c : Nat) (news : List Value) (hx : a.eval x = .slice A m c)
    (hl : news.length = m * size) (hsrc : Source w A m news) (h1 : ∀ u ∈ news, u.oneCell' = true) (hbytes : (n + m) * bytes ≤ 140737488355328) (hb0 : 0 < bytes)
    (h : ∀ v' w', Lies w' (grow F w) e size v' (n + m) (xs ++ news) → Kept (fun g => F g ∧ Spare v g ∧ ∃ cur, w.heap[g]? = some (.cells cur e (0, 0))) w w' → K (a.put o.dst v') w') : o.wp P a w K Q := by
  obtain ⟨i, hi, hz, hs1, hb⟩ := info_parts hi
  obtain ⟨v', w', hr, h2, h3⟩ := run_append_any (P := P) w F t o.type e i z size bytes ht hi hz hs1 hb hzs hsz v n xs hown A m c news hl hsrc h1 hbytes hb0
  unfold Oper.wp execOp
  simp only [ho, resolve, invoke, builtin, Sem.run_bind, Sem.run_pure, Result.andThen_ok, List.map_toArray, List.map_cons, List.map_nil, hs, hx, hr]
  exact h v' w' h2 h3

theorem wpList_append_any {ops : Array Oper} {rest : List Oper} {o : Oper} {a : Act} {w : World} {Q : Exit → Act → World → Prop} (hgd : o.guard = none) (F : Nat → Prop) (s x : Operand) (t : TypeId)
    (ho : o.op = .call { callee := .builtin .append, args := #[s, x], argTypes := #[t, t] }) (e : TypeId) (size bytes : Nat) (z : Value) (ht : P.underlying t = some (.slice e)) (hi : (P.info? e).map (fun i => (i.zero, i.size, i.bytes)) = some (some z, size, bytes))
    (hzs : z.cells.size = size) (hsz : 0 < size) (v : Value) (n : Nat) (xs : List Value) (hs : a.eval s = v) (hown : Lies w F e size v n xs) (A : Option Addr) (m c : Nat) (news : List Value) (hx : a.eval x = .slice A m c)
    (hl : news.length = m * size) (hsrc : Source w A m news) (h1 : ∀ u ∈ news, u.oneCell' = true) (hbytes : (n + m) * bytes ≤ 140737488355328) (hb0 : 0 < bytes)
    (h : ∀ v' w', Lies w' (grow F w) e size v' (n + m) (xs ++ news) → Kept (fun g => F g ∧ Spare v g ∧ ∃ cur, w.heap[g]? = some (.cells cur e (0, 0))) w w' → wpList P ops Q rest (a.put o.dst v') w') : wpList P ops Q (o :: rest) a w :=
  wpList_plain hgd fun _ hK => wp_append_any F s x t ho e size bytes z ht hi hzs hsz v n xs hs hown A m c news hx hl hsrc h1 hbytes hb0 fun v' w' h2 h3 => hK _ _ (h v' w' h2 h3)

/-- 's[k:]' as the model has it. -/
def cutFrom (A : Option Addr) (n c k size : Nat) : Value := .slice (if c = k then A else A.map (·.add (k * size))) (n - k) (c - k)
end
end Go.Proofs.YtfdodndagakmmaaGreatDoor
/- Layer 8: pure: what stands next in a JSON text: blanks, signs, words, digits, letters, numbers. A text is told by what is left of it. -/
namespace Go.Proofs.YtfdodndagakmmaaGreatDoor
open Go.RowKit

def isBlank (b : UInt8) : Bool := b == 32 || b == 9 || b == 13 || b == 10
/-- Behind the blanks. -/
def blk (s : List UInt8) : List UInt8 := s.dropWhile isBlank
/-- Is the next byte one of these? -/
def tkB (these s : List UInt8) : Bool := match s with
  | x :: _ => these.contains x
  | [] => false
def tkS (these s : List UInt8) : List UInt8 := if tkB these s then s.drop 1 else s
theorem tkS_le (these s : List UInt8) : (tkS these s).length ≤ s.length := by
  unfold tkS
  split
  · simp
  · exact Nat.le_refl _
theorem dropWhile_len (p : UInt8 → Bool) (l : List UInt8) : (l.dropWhile p).length ≤ l.length := (List.dropWhile_suffix p).length_le
theorem tkB_some {these s : List UInt8} (h : tkB these s = true) : 0 < s.length := by
  cases s with
  | nil => cases h
  | cons x t => simp
/-- A digit, and those behind it. -/
def dgs (s : List UInt8) : Option (List UInt8) := match s with
  | x :: t => if isDig x then some (t.dropWhile isDig) else none
  | [] => none
/-- A number's text: what is left behind it. -/
def numEnd (s : List UInt8) : Option (List UInt8) :=
  let s1 := tkS [45] s
  match (if tkB [48] s1 then some (s1.drop 1) else dgs s1) with
  | none => none
  | some s2 => match (if tkB [46] s2 then dgs (s2.drop 1) else some s2) with
    | none => none
    | some s3 => if tkB [101, 69] s3 then dgs (tkS [43, 45] (s3.drop 1)) else some s3
def hexDigits : List UInt8 := [48, 49, 50, 51, 52, 53, 54, 55, 56, 57, 97, 98, 99, 100, 101, 102, 65, 66, 67, 68, 69, 70]
/-- A digit to the base 16. -/
def hexV (b : UInt8) : Option Nat :=
  if 48 ≤ b.toNat ∧ b.toNat ≤ 57 then some (b.toNat - 48)
  else if 97 ≤ b.toNat ∧ b.toNat ≤ 102 then some (b.toNat - 87)
  else if 65 ≤ b.toNat ∧ b.toNat ≤ 70 then some (b.toNat - 55)
  else none
/-- So many digits to the base 16 behind a number. -/
def hexN : Nat → Nat → List UInt8 → Option (Nat × List UInt8)
  | 0, x, s => some (x, s)
  | k + 1, x, s => match s with
    | [] => none
    | b :: t => match hexV b with
      | none => none
      | some d => hexN k (x * 16 + d) t
def four (s : List UInt8) : Option (Nat × List UInt8) := hexN 4 0 s
theorem hexN_len (k : Nat) : ∀ (x : Nat) (s : List UInt8) (y : Nat) (t : List UInt8), hexN k x s = some (y, t) → t.length + k = s.length := by
  induction k with
  | zero => intro x s y t h; injection h with h; injection h with _ h; rw [h]; rfl
  | succ k ih =>
    intro x s y t h
    cases s with
    | nil => cases h
    | cons b r =>
      unfold hexN at h
      simp only at h
      cases hd : hexV b with
      | none => rw [hd] at h; cases h
      | some d =>
        rw [hd] at h
        have := ih _ _ _ _ h
        simp only [List.length_cons]
        omega
theorem hexN_lt (k : Nat) : ∀ (x : Nat) (s : List UInt8) (y : Nat) (t : List UInt8), hexN k x s = some (y, t) → y < (x + 1) * 16 ^ k := by
  induction k with
  | zero => intro x s y t h; injection h with h; injection h with h _; rw [h]; simp
  | succ k ih =>
    intro x s y t h
    cases s with
    | nil => cases h
    | cons b r =>
      unfold hexN at h
      simp only at h
      cases hd : hexV b with
      | none => rw [hd] at h; cases h
      | some d =>
        rw [hd] at h
        have h1 := ih _ _ _ _ h
        have h2 : d < 16 := by
          unfold hexV at hd
          split at hd
          · injection hd with hd; omega
          · split at hd
            · injection hd with hd; omega
            · split at hd
              · injection hd with hd; omega
              · cases hd
        refine Nat.lt_of_lt_of_le h1 ?_
        rw [Nat.pow_succ, Nat.mul_comm (16 ^ k), ← Nat.mul_assoc]
        exact Nat.mul_le_mul_right _ (by omega)
/-- A letter's bytes (one that is none: those of U+FFFD). -/
def runeL (x : Nat) : List UInt8 :=
  if x < 128 then [UInt8.ofNat x]
  else if x < 2048 then [UInt8.ofNat (192 + x / 64), UInt8.ofNat (128 + x % 64)]
  else if x < 65536 then [UInt8.ofNat (224 + x / 4096), UInt8.ofNat (128 + x / 64 % 64), UInt8.ofNat (128 + x % 64)]
  else [UInt8.ofNat (240 + x / 262144), UInt8.ofNat (128 + x / 4096 % 64), UInt8.ofNat (128 + x / 64 % 64), UInt8.ofNat (128 + x % 64)]
def isHi (x : Nat) : Bool := decide (55296 ≤ x ∧ x < 56320)
def isLo (x : Nat) : Bool := decide (56320 ≤ x ∧ x < 57344)
def pfx (p s : List UInt8) : Bool := p.isPrefixOf s
/-- Behind a \u: the letter, is it alone, what is left. -/
def codedL (s : List UInt8) : Option (Nat × Bool × List UInt8) := match four s with
  | none => none
  | some (x, t) =>
    if isHi x = false ∧ isLo x = false then some (x, false, t)
    else if isHi x = true ∧ pfx [92, 117] t = true then
      match four (t.drop 2) with
      | none => none
      | some (y, r) => if isLo y = true then some (65536 + (x - 55296) * 1024 + (y - 56320), false, r) else some (65533, true, r)
    else some (65533, true, t)
/-- The letter that stands behind a \. -/
def escV (b : UInt8) : Option Nat :=
  if b = 34 then some 34 else if b = 92 then some 92 else if b = 98 then some 8 else if b = 102 then some 12
  else if b = 110 then some 10 else if b = 114 then some 13 else if b = 116 then some 9 else if b = 47 then some 47 else none
def letterL (s : List UInt8) : Option (Nat × Bool × List UInt8) := match s with
  | [] => none
  | b :: t => if b = 117 then codedL t else match escV b with
    | none => none
    | some x => some (x, false, t)
theorem codedL_len {s : List UInt8} {x : Nat} {a : Bool} {t : List UInt8} (h : codedL s = some (x, a, t)) : t.length < s.length := by
  unfold codedL four at h
  split at h
  · cases h
  · rename_i x1 t1 h1
    have l1 := hexN_len _ _ _ _ _ h1
    split at h
    · injection h with h; injection h with _ h; injection h with _ h; subst h; omega
    · split at h
      · split at h
        · cases h
        · rename_i y r h2
          have l2 := hexN_len _ _ _ _ _ h2
          rw [List.length_drop] at l2
          split at h <;> (injection h with h; injection h with _ h; injection h with _ h; subst h; omega)
      · injection h with h; injection h with _ h; injection h with _ h; subst h; omega
theorem letterL_len {s : List UInt8} {x : Nat} {a : Bool} {t : List UInt8} (h : letterL s = some (x, a, t)) : t.length < s.length := by
  cases s with
  | nil => cases h
  | cons b r =>
    unfold letterL at h
    simp only at h
    split at h
    · have := codedL_len h
      simp only [List.length_cons]; omega
    · split at h
      · cases h
      · injection h with h; injection h with _ h; injection h with _ h; subst h; simp
set_option linter.unusedVariables false in
/-- A text behind its first quote: its letters, is one alone, what is left behind its last quote. -/
def letsL (s : List UInt8) : Option (List UInt8 × Bool × List UInt8) := match s with
  | [] => none
  | b :: t =>
    if b = 34 then some ([], false, t)
    else if b = 92 then
      match h : letterL t with
      | none => none
      | some (x, a, r) => match letsL r with
        | none => none
        | some (l, a', q) => some (runeL x ++ l, a || a', q)
    else if b.toNat < 32 then none
    else match letsL t with
      | none => none
      | some (l, a', q) => some (b :: l, a', q)
termination_by s.length
decreasing_by
  · have := letterL_len h; simp only [List.length_cons]; omega
  · simp
end Go.Proofs.YtfdodndagakmmaaGreatDoor
/- Layer 8: pure: a JSON text, passed by states that lead to one another, with a stack. -/
namespace Go.Proofs.YtfdodndagakmmaaGreatDoor
open Go.RowKit

/-- A value. -/
inductive JV where
  | mk (kind : Int) (bool : Bool) (num : Dec) (text : List UInt8) (list : List JV) (names : List (List UInt8))
def JV.null : JV := .mk 0 false Dec.zero [] [] []
/-- A list, or an object, that is open. -/
structure Fr where
  obj : Bool
  list : List JV
  names : List (List UInt8)
def Fr.val (f : Fr) : JV := .mk (if f.obj then 5 else 4) false Dec.zero [] f.list f.names
/-- What is wrong so far. -/
structure Fl where
  deep : Bool
  alone : Bool
  twice : Bool
  far : Bool
def maxDeep : Nat := 64
def isDeepK (K : List Fr) : Bool := decide (maxDeep < K.length)
def enterK (obj : Bool) (K : List Fr) : List Fr := ⟨obj, [], []⟩ :: K
def enterF (K : List Fr) (f : Fl) : Fl := if isDeepK K then { f with deep := true } else f
def nameK (l : List UInt8) (K : List Fr) : List Fr := match K with
  | [] => []
  | t :: r => if isDeepK K then K else { t with names := t.names ++ [l] } :: r
def nameF (l : List UInt8) (K : List Fr) (f : Fl) : Fl := match K with
  | [] => f
  | t :: _ => if isDeepK K then f else { f with twice := f.twice || t.names.contains l }
def putK (v : JV) (K : List Fr) : List Fr := match K with
  | [] => []
  | t :: r => if isDeepK K then K else { t with list := t.list ++ [v] } :: r
def wNull : List UInt8 := [110, 117, 108, 108]
def wTrue : List UInt8 := [116, 114, 117, 101]
def wFalse : List UInt8 := [102, 97, 108, 115, 101]
/-- A value that is neither a list nor an object. -/
def plainL (s : List UInt8) : Option (JV × Bool × Bool × List UInt8) :=
  if tkB [34] s then match letsL (s.drop 1) with
    | none => none
    | some (l, a, r) => some (.mk 3 false Dec.zero l [] [], a, false, r)
  else if pfx wNull s then some (JV.null, false, false, s.drop 4)
  else if pfx wTrue s then some (.mk 1 true Dec.zero [] [] [], false, false, s.drop 4)
  else if pfx wFalse s then some (.mk 1 false Dec.zero [] [] [], false, false, s.drop 5)
  else match numEnd s with
    | none => none
    | some r => let t := s.take (s.length - r.length); some (.mk 2 false (parseD t) [] [] [], false, decide (parseE t ≠ 0), r)
theorem blk_len (s : List UInt8) : (blk s).length ≤ s.length := dropWhile_len _ _
theorem blk_blk (s : List UInt8) : blk (blk s) = blk s := by
  unfold blk
  induction s with
  | nil => rfl
  | cons x t ih =>
    rw [List.dropWhile_cons]
    split
    · exact ih
    · rename_i h
      rw [List.dropWhile_cons, if_neg h]
theorem dgs_len {s t : List UInt8} (h : dgs s = some t) : t.length < s.length := by
  cases s with
  | nil => cases h
  | cons x r =>
    unfold dgs at h
    simp only at h
    split at h
    · injection h with h
      subst h
      have := dropWhile_len isDig r
      simp only [List.length_cons]; omega
    · cases h
theorem numEnd_len {s t : List UInt8} (h : numEnd s = some t) : t.length < s.length := by
  unfold numEnd at h
  simp only at h
  have h1 := tkS_le [45] s
  split at h
  · cases h
  · rename_i s2 h2
    have l2 : s2.length < s.length := by
      split at h2
      · rename_i hb
        injection h2 with h2
        have := tkB_some hb
        subst h2
        rw [List.length_drop]; omega
      · have := dgs_len h2; omega
    split at h
    · cases h
    · rename_i s3 h3
      have l3 : s3.length ≤ s2.length := by
        split at h3
        · have := dgs_len h3
          rw [List.length_drop] at this; omega
        · injection h3 with h3; rw [h3]; exact Nat.le_refl _
      split at h
      · have := dgs_len h
        have := tkS_le [43, 45] (s3.drop 1)
        rw [List.length_drop] at this; omega
      · injection h with h; subst h; omega
theorem letsL_len (s : List UInt8) : ∀ {l : List UInt8} {a : Bool} {t : List UInt8}, letsL s = some (l, a, t) → t.length < s.length := by
  suffices key : ∀ (n : Nat) (s : List UInt8), s.length ≤ n → ∀ {l : List UInt8} {a : Bool} {t : List UInt8}, letsL s = some (l, a, t) → t.length < s.length from fun {l a t} h => key s.length s (Nat.le_refl _) h
  intro n
  induction n with
  | zero =>
    intro s hs l a t h
    cases s with
    | nil => rw [letsL] at h; cases h
    | cons b r => simp at hs
  | succ n ih =>
    intro s hs l a t h
    cases s with
    | nil => rw [letsL] at h; cases h
    | cons b r =>
      rw [letsL] at h
      simp only [List.length_cons] at hs ⊢
      split at h
      · injection h with h; injection h with _ h; injection h with _ h; subst h; omega
      · split at h
        · split at h
          · cases h
          · rename_i x a1 r1 h1
            have l1 := letterL_len h1
            split at h
            · cases h
            · rename_i l2 a2 q h2
              have := ih r1 (by omega) h2
              injection h with h; injection h with _ h; injection h with _ h; subst h; omega
        · split at h
          · cases h
          · split at h
            · cases h
            · rename_i l2 a2 q h2
              have := ih r (by omega) h2
              injection h with h; injection h with _ h; injection h with _ h; subst h; omega
theorem pfx_len {p s : List UInt8} (h : pfx p s = true) : p.length ≤ s.length := (List.isPrefixOf_iff_prefix.1 h).length_le
theorem plainL_len {s : List UInt8} {v : JV} {a f : Bool} {t : List UInt8} (h : plainL s = some (v, a, f, t)) : t.length < s.length := by
  unfold plainL at h
  split at h
  · rename_i hb
    have := tkB_some hb
    split at h
    · cases h
    · rename_i l a1 r h1
      have h2 := letsL_len _ h1
      rw [List.length_drop] at h2
      injection h with h; injection h with _ h; injection h with _ h; injection h with _ h; subst h; omega
  · split at h
    · rename_i hp
      have := pfx_len hp
      injection h with h; injection h with _ h; injection h with _ h; injection h with _ h; subst h
      rw [List.length_drop]; simp only [wNull, List.length_cons, List.length_nil] at this; omega
    · split at h
      · rename_i hp
        have := pfx_len hp
        injection h with h; injection h with _ h; injection h with _ h; injection h with _ h; subst h
        rw [List.length_drop]; simp only [wTrue, List.length_cons, List.length_nil] at this; omega
      · split at h
        · rename_i hp
          have := pfx_len hp
          injection h with h; injection h with _ h; injection h with _ h; injection h with _ h; subst h
          rw [List.length_drop]; simp only [wFalse, List.length_cons, List.length_nil] at this; omega
        · split at h
          · cases h
          · rename_i r h1
            have := numEnd_len h1
            injection h with h; injection h with _ h; injection h with _ h; injection h with _ h; subst h; omega
/-- The labels. -/
inductive Md where
  | value
  | name
  | leave
  | behind (v : JV)
def Md.rank : Md → Nat
  | .leave => 1
  | _ => 0
theorem tk_drop {these s s0 : List UInt8} (h : tkB these s = true) (h2 : s.length ≤ s0.length) : (s.drop 1).length < s0.length := by
  have := tkB_some h
  rw [List.length_drop]; omega
set_option linter.unusedVariables false in
/-- What is read from a label on; none: it is no JSON text. -/
def runJ (m : Md) (K : List Fr) (f : Fl) (s : List UInt8) : Option (JV × Fl) :=
  match m with
  | .value =>
    if h1 : tkB [91] (blk s) = true then
      if h2 : tkB [93] (blk ((blk s).drop 1)) = true then runJ .leave (enterK false K) (enterF (enterK false K) f) ((blk ((blk s).drop 1)).drop 1)
      else runJ .value (enterK false K) (enterF (enterK false K) f) (blk ((blk s).drop 1))
    else if h1' : tkB [123] (blk s) = true then
      if h2 : tkB [125] (blk ((blk s).drop 1)) = true then runJ .leave (enterK true K) (enterF (enterK true K) f) ((blk ((blk s).drop 1)).drop 1)
      else runJ .name (enterK true K) (enterF (enterK true K) f) (blk ((blk s).drop 1))
    else match h3 : plainL (blk s) with
      | none => none
      | some (v, a, g, r) => runJ (.behind v) K { f with alone := f.alone || a, far := f.far || g } r
  | .name =>
    if h1 : tkB [34] (blk s) = true then match h2 : letsL ((blk s).drop 1) with
      | none => none
      | some (l, a, r) =>
        if h3 : tkB [58] (blk r) = true then runJ .value (nameK l K) (nameF l K { f with alone := f.alone || a }) ((blk r).drop 1)
        else none
    else none
  | .leave => match K with
    | [] => none
    | t :: r => runJ (.behind (if isDeepK K then JV.null else t.val)) r f s
  | .behind v => match K with
    | [] => if blk s = [] then some (v, f) else none
    | t :: _ =>
      if h1 : tkB [44] (blk s) = true then runJ (if t.obj then .name else .value) (putK v K) f ((blk s).drop 1)
      else if h2 : tkB [if t.obj then 125 else 93] (blk s) = true then runJ .leave (putK v K) f ((blk s).drop 1)
      else none
termination_by (s.length, m.rank)
decreasing_by
  · have := tk_drop h1 (blk_len s)
    have := tk_drop h2 (blk_len ((blk s).drop 1))
    exact Prod.Lex.left _ _ (by omega)
  · have := tk_drop h1 (blk_len s)
    have := blk_len ((blk s).drop 1)
    exact Prod.Lex.left _ _ (by omega)
  · have := tk_drop h1' (blk_len s)
    have := tk_drop h2 (blk_len ((blk s).drop 1))
    exact Prod.Lex.left _ _ (by omega)
  · have := tk_drop h1' (blk_len s)
    have := blk_len ((blk s).drop 1)
    exact Prod.Lex.left _ _ (by omega)
  · have := plainL_len h3
    have := blk_len s
    exact Prod.Lex.left _ _ (by omega)
  · have := tk_drop h1 (blk_len s)
    have := letsL_len _ h2
    have := tk_drop h3 (blk_len r)
    exact Prod.Lex.left _ _ (by omega)
  · exact Prod.Lex.right _ (by show (0 : Nat) < 1; omega)
  · have := tk_drop h1 (blk_len s)
    exact Prod.Lex.left _ _ (by omega)
  · have := tk_drop h2 (blk_len s)
    exact Prod.Lex.left _ _ (by omega)
end Go.Proofs.YtfdodndagakmmaaGreatDoor
/- Layer 7: what Text tells. -/
namespace Go.Proofs.YtfdodndagakmmaaGreatDoor

/-- What Text tells. -/
def txL (d : Dec) : List UInt8 := if mayB d = true then textL d else []
end Go.Proofs.YtfdodndagakmmaaGreatDoor
/- Layer 8: pure: a value's text, its depth, may it be. -/
namespace Go.Proofs.YtfdodndagakmmaaGreatDoor
open Go.RowKit

def hexD (x : Nat) : UInt8 := if x < 10 then UInt8.ofNat (48 + x) else UInt8.ofNat (87 + x)
/-- How a byte stands in quotes. -/
def escL (b : UInt8) : List UInt8 :=
  if b = 34 then [92, 34] else if b = 92 then [92, 92] else if b = 8 then [92, 98] else if b = 12 then [92, 102]
  else if b = 10 then [92, 110] else if b = 13 then [92, 114] else if b = 9 then [92, 116]
  else if b.toNat < 32 then [92, 117, 48, 48, hexD (b.toNat / 16), hexD (b.toNat % 16)]
  else [b]
def quoteL (s : List UInt8) : List UInt8 := [34] ++ s.flatMap escL ++ [34]
mutual
/-- A value's text, of whatever kind it is. -/
def tellJ : JV → List UInt8
  | .mk k b d t l ns =>
    if k = 0 then wNull else if k = 1 then (if b then wTrue else wFalse) else if k = 2 then txL d else if k = 3 then quoteL t
    else if k = 4 then [91] ++ tellKids 4 0 l [] ++ [93]
    else [123] ++ tellKids k 0 l ns ++ [125]
def tellKids (k : Int) (i : Nat) : List JV → List (List UInt8) → List UInt8
  | [], _ => []
  | x :: l, ns => (if i = 0 then [] else [44]) ++ (if k = 5 then quoteL (ns.headD []) ++ [58] else []) ++ tellJ x ++ tellKids k (i + 1) l ns.tail
end
mutual
def depthJ : JV → Nat
  | .mk k _ _ _ l _ => if k = 4 ∨ k = 5 then depthKids l + 1 else 0
def depthKids : List JV → Nat
  | [] => 0
  | x :: l => max (depthJ x) (depthKids l)
end
end Go.Proofs.YtfdodndagakmmaaGreatDoor
/- Layer 7: strings and decimals as values; the small functions. -/
namespace Go.Proofs.YtfdodndagakmmaaGreatDoor
open Go.RowKit

/-- A text of these bytes. -/
def bs (l : List UInt8) : ByteArray := ⟨l.toArray⟩
theorem bs_size (l : List UInt8) : (bs l).size = l.length := by simp [bs, ByteArray.size]
theorem bs_toList (l : List UInt8) : (bs l).toList = l := ByteArray.toList_mk l
theorem bs_of (s : ByteArray) : s = bs s.data.toList := by cases s; simp [bs]
def decV (d : Dec) : Value := .agg #[.bool d.neg, .string (bs d.digits), .int .i64 d.exp]
def byteAt (l : List UInt8) (k : Nat) : Nat := (l.getD k 0).toNat
theorem run_byte {P : Program} (t : TypeId) (ht : P.underlying t = some .string) (l : List UInt8) (k : Nat) (hk : k < l.length) (w : World) :
    (Instr.index t (.string (bs l)) (.int .i64 (k : Int))).run P w = .ok (.int .u8 (byteAt l k : Int)) w := by
  rw [run_index_string w t _ _ _ ht, dif_pos ⟨by omega, by rw [bs_size]; omega⟩]
  congr 2
  unfold byteAt bs
  have : ((k : Int).toNat) = k := by omega
  simp only [this]
  congr 2
  simp [ByteArray.getElem_eq_getElem_data, List.getD, List.getElem?_eq_getElem hk]

/-- Is this byte one of a digit? -/
theorem isDigit_ok (b : UInt8) (w : World) : Calls Tryz.prog 122 #[.int .u8 (b.toNat : Int)] w fun e w' => e = .returned (.bool (isDig b)) ∧ w = w' := by
  have H : Hid (isDig b = (decide (48 ≤ b.toNat) && decide (b.toNat ≤ 57))) := Lib.hid rfl
  have hb := b.toNat_lt
  generalize isDig b = r at *
  generalize b.toNat = n at *
  have go : ∀ r0 : Bool, r = r0 → ((48 ≤ n ∧ n ≤ 57 ∧ r0 = true) ∨ (48 ≤ n ∧ ¬ n ≤ 57 ∧ r0 = false) ∨ (¬ 48 ≤ n ∧ r0 = false)) := by
    intro r0 h
    rw [H.out] at h
    by_cases h1 : 48 ≤ n <;> by_cases h2 : n ≤ 57 <;> simp [h1, h2] at h ⊢ <;> simp [h]
  have := go r rfl
  clear go H
  rcases this with ⟨h1, h2, rfl⟩ | ⟨h1, h2, rfl⟩ | ⟨h1, rfl⟩
  · go_enter Tryz.func122, Tryz.ntmps122
    go_wp2
    go_ret
    exact ⟨ret_val (congrArg Value.bool (by simp; omega)), rfl⟩
  · go_enter Tryz.func122, Tryz.ntmps122
    go_wp2
    go_ret
    exact ⟨ret_val (congrArg Value.bool (by simp; omega)), rfl⟩
  · go_enter Tryz.func122, Tryz.ntmps122
    go_wp2
    go_ret
    exact ⟨rfl, rfl⟩

theorem isZero_ok (d : Dec) (w : World) : Calls Tryz.prog 125 #[decV d] w fun e w' => e = .returned (.bool (decide (d.digits = []))) ∧ Below w.heap.size w w' := by
  have hb : Below w.heap.size w (w.alloc (.cells #[.bool d.neg, .string (bs d.digits), .int .i64 d.exp] 26)) := (Below.refl _ _).alloc (Nat.le_refl _) _
  have h1 : (w.alloc (.cells #[.bool d.neg, .string (bs d.digits), .int .i64 d.exp] 26)).cell? ⟨w.heap.size, 1, none⟩ = some (.string (bs d.digits)) := (Row.new _ _ _).cell rfl
  have hE : (bs d.digits).toList.isEmpty = decide (d.digits = []) := by rw [bs_toList]; cases d.digits <;> rfl
  have HE := Lib.hid hE
  have HB := Lib.hid hb
  clear hb hE
  unfold decV
  go_enter Tryz.func125, Tryz.ntmps125
  go_wp2
  go_ret
  exact ⟨ret_val (by rw [← HE.out]; rfl), HB.out⟩

theorem place_ok (d : Dec) (w : World) (h1 : d.digits.length ≤ 140737488355328) (h2 : -4611686018427387904 ≤ d.exp) (h3 : d.exp ≤ 4611686018427387904) :
    Calls Tryz.prog 104 #[decV d] w fun e w' => e = .returned (.int .i64 (d.digits.length + d.exp)) ∧ Below w.heap.size w w' := by
  have hb : Below w.heap.size w (w.alloc (.cells #[.bool d.neg, .string (bs d.digits), .int .i64 d.exp] 26)) := (Below.refl _ _).alloc (Nat.le_refl _) _
  have hr : Row (w.alloc (.cells #[.bool d.neg, .string (bs d.digits), .int .i64 d.exp] 26)) w.heap.size 26 #[.bool d.neg, .string (bs d.digits), .int .i64 d.exp] := Row.new _ _ _
  have c1 := hr.cell (i := 1) (v := .string (bs d.digits)) rfl
  have c2 := hr.cell (i := 2) (v := .int .i64 d.exp) rfl
  have hs := bs_size d.digits
  have HB := Lib.hid hb
  clear hb hr
  unfold decV
  generalize bs d.digits = s at *
  generalize d.exp = e at *
  generalize d.digits.length = n at *
  go_enter Tryz.func104, Tryz.ntmps104
  go_wp2
  go_ret
  exact ⟨ret_int (by omega), HB.out⟩
end Go.Proofs.YtfdodndagakmmaaGreatDoor
/- Layer 7: slices of words in memory; their highest words; may a decimal be. -/
namespace Go.Proofs.YtfdodndagakmmaaGreatDoor
open Go.RowKit

def u64s (l : List Nat) : List Value := l.map fun (x : Nat) => Value.int .u64 (x : Int)
theorem u64s_length (l : List Nat) : (u64s l).length = l.length := by simp [u64s]
theorem u64s_get (l : List Nat) {j : Nat} (h : j < l.length) : (u64s l)[j]? = some (.int .u64 (wat l j : Int)) := by
  simp [u64s, wat, List.getElem?_eq_getElem h, List.getD]
theorem u64s_append (a b : List Nat) : u64s (a ++ b) = u64s a ++ u64s b := by simp [u64s]
/-- A slice that holds these words. -/
def Wds (w : World) (v : Value) (l : List Nat) : Prop :=
  (∀ i, wat l i < 18446744073709551616) ∧ ∃ A c, v = .slice A l.length c ∧ l.length ≤ c ∧ c ≤ maxLen ∧ Holds w A l.length 1 (u64s l)
theorem Wds.below {w w' : World} {v : Value} {l : List Nat} (h : Wds w v l) (hb : Below w.heap.size w w') : Wds w' v l := by
  obtain ⟨h0, A, c, h1, h2, h3, h4⟩ := h
  exact ⟨h0, A, c, h1, h2, h3, h4.below hb⟩
theorem Wds.nil (w : World) (A : Option Addr) (c : Nat) (hc : c ≤ maxLen) : Wds w (.slice A 0 c) [] :=
  ⟨fun i => by rw [wat_out (by simp)]; omega, A, c, rfl, by simp, hc, Holds.nil _ _ _⟩
theorem Wds.at_ {w : World} {v : Value} {l : List Nat} (h : Wds w v l) (h0 : 0 < l.length) :
    ∃ b off c, v = .slice (some ⟨b, off, none⟩) l.length c ∧ l.length ≤ c ∧ c ≤ maxLen ∧ b < w.heap.size ∧ ∀ j, j < l.length → w.cell? ⟨b, off + j, none⟩ = some (.int .u64 (wat l j : Int)) := by
  obtain ⟨_, A, c, rfl, h2, h3, _, h4⟩ := h
  obtain ⟨b, off, rfl, hb, hr⟩ := h4 h0
  exact ⟨b, off, c, rfl, h2, h3, hb, fun j hj => hr j _ (u64s_get l hj)⟩
theorem wat_take {l : List Nat} {k j : Nat} (h : j < k) : wat (l.take k) j = wat l j := by
  unfold wat
  simp [List.getD_eq_getElem?_getD, h]
theorem wat_take_le (l : List Nat) (k j : Nat) : wat (l.take k) j ≤ wat l j := by
  by_cases h : j < k
  · rw [wat_take h]; exact Nat.le_refl _
  · rw [wat_out (by rw [List.length_take]; omega)]; omega
/-- A beginning. -/
theorem Wds.take {w : World} {A : Option Addr} {n c : Nat} {l : List Nat} (h : Wds w (.slice A n c) l) {k : Nat} (hk : k ≤ l.length) : Wds w (.slice A k c) (l.take k) := by
  obtain ⟨h0, A', c', e, h2, h3, h4, h5⟩ := h
  injection e with e1 e2 e3
  subst e1 e2 e3
  have hl : (l.take k).length = k := by rw [List.length_take]; omega
  refine ⟨fun i => Nat.lt_of_le_of_lt (wat_take_le l k i) (h0 i), A, c, by rw [hl], by omega, h3, by rw [u64s_length]; omega, fun hp => ?_⟩
  obtain ⟨b, off, e, hb, hr⟩ := h5 (by omega)
  refine ⟨b, off, e, hb, fun j u hu => hr j u ?_⟩
  unfold u64s at hu ⊢
  rw [List.map_take] at hu
  by_cases hj : j < k
  · rwa [List.getElem?_take_of_lt hj] at hu
  · rw [List.getElem?_eq_none (by rw [List.length_take]; omega)] at hu; cases hu

set_option maxHeartbeats 1000000 in
theorem cropped_ok (A : Option Addr) (n c : Nat) (l : List Nat) (w : World) (h : Wds w (.slice A n c) l) :
    Calls Tryz.prog 211 #[.slice A n c] w fun e w' => e = .returned (.slice A (crop l).length c) ∧ w = w' := by
  obtain ⟨hw, A', c', e, h2, h3, h4, h5⟩ := h
  injection e with e1 e2 e3
  subst e1 e2 e3
  unfold maxLen at h3
  go_enter Tryz.func211, Tryz.ntmps211
  go_wp2_with fail
  go_loop [0] (fun v0 => ∃ k : Nat, k ≤ l.length ∧ v0 = .slice A k c ∧ Hid (crop (l.take k) = crop l)) (fun v0 => match v0 with | .slice _ k _ => k | _ => 0)
  case atStart => exact ⟨l.length, Nat.le_refl _, rfl, Lib.hid (by rw [List.take_length])⟩
  case round =>
    obtain ⟨k, hk, rfl, Hc⟩ := hrel
    rcases Nat.eq_zero_or_pos k with hk0 | hk0
    · subst hk0
      have e1 : (crop l).length = 0 := by rw [← Hc.out]; rfl
      go_wp2
      go_ret
      exact ⟨rfl, rfl⟩
    · obtain ⟨b, off, rfl, hb, hr⟩ := h5 (by omega)
      have hck : w.cell? ⟨b, off + (k - 1), none⟩ = some (.int .u64 (wat l (k - 1) : Int)) := hr (k - 1) _ (u64s_get l (by omega))
      have hx := hw (k - 1)
      have hT : l.take k = l.take (k - 1) ++ [wat l (k - 1)] := by
        conv => lhs; rw [show k = k - 1 + 1 by omega]
        rw [List.take_add_one, List.getElem?_eq_getElem (by omega), Option.toList_some]
        congr 2
        simp [wat, List.getD, List.getElem?_eq_getElem (show k - 1 < l.length by omega)]
      by_cases hz : wat l (k - 1) = 0
      · have HC2 : Hid (crop (l.take (k - 1)) = crop l) := Lib.hid (by rw [← Hc.out, hT, hz, crop_snoc_zero])
        rw [hz] at hck
        clear hr hT Hc hx hz
        obtain ⟨m, rfl⟩ : ∃ m, k = m + 1 := ⟨k - 1, by omega⟩
        simp only [Nat.add_sub_cancel] at hck HC2
        go_wp2
        go_round
        case rel => exact ⟨m, by omega, by go_num, HC2⟩
        case measure => simp
      · have e1 : (crop l).length = k := by rw [← Hc.out, hT, crop_snoc hz, List.length_append, List.length_take, List.length_singleton]; omega
        clear hr hT Hc
        generalize wat l (k - 1) = x at *
        obtain ⟨m, rfl⟩ : ∃ m, k = m + 1 := ⟨k - 1, by omega⟩
        simp only [Nat.add_sub_cancel] at hck
        go_wp2
        go_ret
        exact ⟨rfl, rfl⟩
end Go.Proofs.YtfdodndagakmmaaGreatDoor
