/- Layer 2: Pieces, and the iterator that it hands back. -/
import Derived.RangeFuncNested
import Derived.RangeFuncBound
import Derived.RangeFuncCalls
import Derived.RangeFuncLeaves
import Derived.RangeFuncFrom
import Derived.Shelf.Abstract
import Derived.Shelf.RegionOpen
import Derived.OwnWalkIn
import Derived.TacticsInMore
import Derived.LoopNIn
import Derived.LoopIn
import Derived.ControlIn
import Derived.Test.YtljlkmmeedlaiaaDoorPt09
import Derived.Test.YtljlkmmeedlaiaaDoorPt02
import Derived.RegionIn
import Derived.BigQuiet
namespace Go.Proofs.YtljlkmmeedlaiaaDoor
open Go.RowKit Go.Shelf
attribute [local go_sem] Oper.semAt_some

def oneInt (x : Int) : Array Value := #[.int .i64 x]

set_option maxRecDepth 100000 in
set_option maxHeartbeats 2000000 in
theorem values1 (l₁ q n₀ : Nat) (A : Option Addr) (c : Nat) (l : List Int) (hn : l.length ≤ 9223372036854775807) (J Jx : List Int → World → Prop)
    (hY : ∀ pre x W, J pre W → pre.length < l.length → YieldAt Fence.wide 2 Tryd.prog l₁ (oneInt x) W fun e W' =>
      (e = .returned (.bool true) ∧ J (pre ++ [x]) W' ∧ Below n₀ W W') ∨ (e = .returned (.bool false) ∧ Jx (pre ++ [x]) W'))
    (W : World) (hcell : W.cell? ⟨q, 0, none⟩ = some (.slice A l.length c)) (hc : ∀ k, k < l.length → ∃ b off, A = some ⟨b, off, none⟩ ∧ b < n₀ ∧ W.cell? ⟨b, off + k, none⟩ = some (.int .i64 (l.getD k 0))) (h0 : J [] W) :
    CallsIn Fence.wide 3 Tryd.prog 78 #[.func (.yield l₁) #[] #[], .pointer (some ⟨q, 0, none⟩)] W fun e W' => (∃ v, e = .returned v) ∧
      ((∃ ys, ys = l ∧ J ys W') ∨ (∃ pre, (pre <+: l) ∧ Jx pre W')) := by
  refine callsIn_of_wp Tryd.func78 rfl trivial ?_ rfl
  simp only [Tryd.ntmps78, List.size_toArray, List.length_cons, List.length_nil, Nat.reduceAdd, Nat.reduceSub, Array.replicate_succ, Array.replicate_zero, List.push_toArray, List.append_toArray, List.nil_append, List.cons_append]
  gi_wp2
  gi_loopw [7] (fun v7 wr => ∃ k : Nat, k ≤ l.length ∧ v7 = .int .i64 k ∧ J (l.take k) wr ∧ Below n₀ W wr)
    (fun v7 _ => l.length - (intOf v7).toNat)
  case atStart => exact ⟨0, Nat.zero_le _, rfl, h0, Below.refl _ _⟩
  case round =>
    obtain ⟨k, hk, rfl, hJs, hnx⟩ := hrel
    by_cases hlt : k < l.length
    · obtain ⟨b, off, rfl, hb, hck⟩ := hc k hlt
      obtain ⟨fn, tmps, assign, body, hy, hR⟩ := hY (l.take k) (l.getD k 0) wr hJs (by simp; omega)
      have hckw := (hnx.cell (p := ⟨b, off + k, none⟩) hb).trans hck
      have HT := Lib.hid (show l.take k ++ [l.getD k 0] = l.take (k + 1) by rw [List.take_succ_eq_append_getElem hlt]; simp [List.getD_eq_getElem?_getD, hlt])
      rw [HT.out] at hR
      unfold oneInt at hy
      clear hck hc
      generalize l.getD k 0 = x at *
      gi_wp2
      refine hR.mono ?_
      rintro e W3 (⟨rfl, hJ3, hk3⟩ | ⟨rfl, hJx3⟩)
      · have hb3 := hnx.trans hk3
        clear hckw hy hR
        gi_wp2
        go_roundw
        case rel => exact ⟨k + 1, by omega, by go_num, hJ3, hb3⟩
        case measure => simp [intOf]; omega
      · gi_wp2
        refine bodyPost_ret (results_none rfl _ _ _) rfl ?_
        exact ⟨⟨_, rfl⟩, .inr ⟨l.take (k + 1), List.take_prefix _ _, hJx3⟩⟩
    · obtain rfl : k = l.length := by omega
      rw [List.take_length] at hJs
      gi_wp2
      go_end0
      exact ⟨⟨_, rfl⟩, .inl ⟨_, rfl, hJs⟩⟩

/-- Block q holds a slice of these numbers, which lie below n₀. -/
def ListAt (n₀ q : Nat) (l : List Int) (W : World) : Prop :=
  ∃ A c, W.cell? ⟨q, 0, none⟩ = some (.slice A l.length c) ∧ ∀ k, k < l.length → ∃ b off, A = some ⟨b, off, none⟩ ∧ b < n₀ ∧ W.cell? ⟨b, off + k, none⟩ = some (.int .i64 (l.getD k 0))
theorem ListAt.below {n₀ B q : Nat} {l : List Int} {W W' : World} (h : ListAt n₀ q l W) (hb : Below B W W') (hq : q < B) (hB : n₀ ≤ B) : ListAt n₀ q l W' := by
  obtain ⟨A, c, h1, h2⟩ := h
  refine ⟨A, c, (hb.cell (p := ⟨q, 0, none⟩) hq).trans h1, fun k hk => ?_⟩
  obtain ⟨b, off, e, hlt, hc⟩ := h2 k hk
  exact ⟨b, off, e, hlt, (hb.cell (p := ⟨b, off + k, none⟩) (by show b < B; omega)).trans hc⟩
theorem values_stops (q n₀ : Nat) (l : List Int) (hn : l.length ≤ 9223372036854775807) (hq : q < n₀) (w : World) (hw : n₀ ≤ w.heap.size) (h : ListAt n₀ q l w) :
    SeqStopsK Fence.wide 3 Tryd.prog 78 #[.pointer (some ⟨q, 0, none⟩)] oneInt (Below n₀) (fun ys => ys = l) (fun pre => pre <+: l) l.length w := by
  intro l₁ J Jx W hW _ _ hY h0
  obtain ⟨A, c, h1, h2⟩ := h.below hW (by omega) hw
  exact values1 l₁ q n₀ A c l hn J Jx hY W h1 h2 h0

/-- What Pieces hands back. -/
def IterPost (w : World) (l : List Int) (e : Ending) (w' : World) : Prop :=
  ∃ q, e = .returned (.func (.func 78) #[] #[.pointer (some ⟨q, 0, none⟩)]) ∧ w.heap.size ≤ q ∧ q < w'.heap.size ∧ ListAt w'.heap.size q l w' ∧ Below w.heap.size w w'
theorem values_ok (A : Option Addr) (c : Nat) (l : List Int) (w : World) (h : Holds w A l.length 1 (ints l)) :
    Calls Tryd.prog 73 #[.slice A l.length c] w (IterPost w l) := by
  have hb : Below w.heap.size w (w.alloc (.cells #[.slice A l.length c] 57)) := (Below.refl _ _).alloc (Nat.le_refl _) _
  have HL : Hid (ListAt (w.alloc (.cells #[.slice A l.length c] 57)).heap.size w.heap.size l (w.alloc (.cells #[.slice A l.length c] 57))) := Lib.hid ⟨A, c, (Row.new w _ _).cell rfl, fun k hk => by
    obtain ⟨b, off, e, hlt, hc⟩ := ints_at (h.below hb) hk
    exact ⟨b, off, e, hlt, hc⟩⟩
  have HB := Lib.hid hb
  clear h hb
  go_enter Tryd.func73, Tryd.ntmps73
  go_wp2
  go_ret
  exact ⟨w.heap.size, rfl, Nat.le_refl _, by simp, HL.out, HB.out⟩
theorem pieces_no (v : Value) (w : World) (h : NoDisk w v) :
    Calls Tryd.prog 57 #[v] w (IterPost w []) := by
  have H := Lib.hid h
  clear h
  go_enter Tryd.func57, Tryd.ntmps57
  go_wp2_with (first
    | (go_at_call 41; refine (none_no v _ H.out).mono ?_; rintro e w' ⟨rfl, rfl⟩)
    | (go_at_call 73; refine (values_ok none 0 [] _ (Holds.nil _ _ _)).mono ?_; rintro e w' ⟨q, rfl, h1, h2, h3, h4⟩))
  go_ret
  exact ⟨q, rfl, h1, h2, h3, h4⟩
end Go.Proofs.YtljlkmmeedlaiaaDoor
/- Layer 3: slices.Chunk of bytes, and the iterator that it hands back. -/
namespace Go.Proofs.YtljlkmmeedlaiaaDoor
open Go.RowKit Go.Shelf
attribute [local go_sem] Oper.semAt_some

/-- A piece of a slice. -/
def chunkV (g off n k j : Nat) : Value := slc g (off + j * k) (min k (n - j * k)) (min k (n - j * k))
def oneChunk (g off n k : Nat) {N : Nat} (j : Fin N) : Array Value := #[chunkV g off n k j.val]
/-- The first j of N. -/
def frTo (N j : Nat) : List (Fin N) := (List.range j).filterMap fun i => if h : i < N then some ⟨i, h⟩ else none
theorem frTo_succ {N j : Nat} (h : j < N) : frTo N (j + 1) = frTo N j ++ [⟨j, h⟩] := by simp [frTo, List.range_succ, List.filterMap_append, h]
theorem frTo_length {N j : Nat} (h : j ≤ N) : (frTo N j).length = j := by
  induction j with
  | zero => rfl
  | succ j ih => rw [frTo_succ (by omega), List.length_append, ih (by omega)]; rfl
theorem frTo_map {N j : Nat} (h : j ≤ N) : (frTo N j).map Fin.val = List.range j := by
  induction j with
  | zero => rfl
  | succ j ih => rw [frTo_succ (by omega), List.map_append, ih (by omega), List.range_succ]; rfl

set_option maxRecDepth 100000 in
set_option maxHeartbeats 2000000 in
theorem chunk1 (l₁ q q2 g off n c k N : Nat) (hk : 0 < k) (hk9 : k ≤ 1000000) (hnc : n ≤ c) (hn9 : n ≤ 100000000) (hN1 : ∀ j, j < N → j * k < n) (hN2 : n ≤ N * k) (Kp : World → World → Prop)
    (hKc : ∀ W W' v, Kp W W' → (W.cell? ⟨q, 0, none⟩ = some v → W'.cell? ⟨q, 0, none⟩ = some v) ∧ (W.cell? ⟨q2, 0, none⟩ = some v → W'.cell? ⟨q2, 0, none⟩ = some v)) (J Jx : List (Fin N) → World → Prop)
    (hY : ∀ pre x W, J pre W → pre.length < N → YieldAt Fence.wide 2 Tryd.prog l₁ (oneChunk g off n k x) W fun e W' =>
      (e = .returned (.bool true) ∧ J (pre ++ [x]) W' ∧ Kp W W') ∨ (e = .returned (.bool false) ∧ Jx (pre ++ [x]) W'))
    (hJd : ∀ pre W, J pre W → J pre W.drew)
    (W : World) (hq : W.cell? ⟨q, 0, none⟩ = some (slc g off n c)) (hq2 : W.cell? ⟨q2, 0, none⟩ = some (.int .i64 k)) (h0 : J [] W) :
    CallsIn Fence.wide 3 Tryd.prog 74 #[.func (.yield l₁) #[] #[], .pointer (some ⟨q, 0, none⟩), .pointer (some ⟨q2, 0, none⟩)] W fun e W' => (∃ v, e = .returned v) ∧
      ((∃ ys, ys = frTo N N ∧ J ys W') ∨ (∃ pre, (∃ j, j ≤ N ∧ pre = frTo N j) ∧ Jx pre W')) := by
  refine callsIn_of_wp Tryd.func74 rfl trivial ?_ rfl
  simp only [Tryd.ntmps74, List.size_toArray, List.length_cons, List.length_nil, Nat.reduceAdd, Nat.reduceSub, Array.replicate_succ, Array.replicate_zero, List.push_toArray, List.append_toArray, List.nil_append, List.cons_append]
  gi_wp2
  gi_loopw [4] (fun v4 wr => ∃ j : Nat, j ≤ N ∧ v4 = .int .i64 (j * k : Nat) ∧ J (frTo N j) wr ∧ wr.cell? ⟨q, 0, none⟩ = some (slc g off n c) ∧ wr.cell? ⟨q2, 0, none⟩ = some (.int .i64 k))
    (fun v4 _ => N * k - (intOf v4).toNat)
  case atStart => exact ⟨0, Nat.zero_le _, by simp, h0, hq, hq2⟩
  case round =>
    obtain ⟨j, hj, rfl, hJ, c1, c2⟩ := hrel
    by_cases hlt : j < N
    · have hjn := hN1 j hlt
      obtain ⟨m, hm⟩ : ∃ m, m = min k (n - j * k) := ⟨_, rfl⟩
      have hm0 : 0 < m := by omega
      have hmn : j * k + m ≤ n := by omega
      obtain ⟨fn, tmps, assign, body, hy, hR⟩ := hY (frTo N j) ⟨j, hlt⟩ wr.drew (hJd _ _ hJ) (by rw [frTo_length hj]; exact hlt)
      have hjk : (j + 1) * k = j * k + k := by rw [Nat.add_mul, Nat.one_mul]
      have HJ1 : Hid (∀ W', Kp wr.drew W' → W'.cell? ⟨q, 0, none⟩ = some (slc g off n c) ∧ W'.cell? ⟨q2, 0, none⟩ = some (.int .i64 k)) := Lib.hid fun W' hk => ⟨(hKc wr.drew W' _ hk).1 c1, (hKc wr.drew W' _ hk).2 c2⟩
      rw [← frTo_succ hlt] at hR
      unfold oneChunk chunkV at hy
      rw [← hm] at hy
      have HM := Lib.hid hm
      have hmin : (if n - j * k < k then ((n - j * k : Nat) : Int) else (k : Int)) = (m : Int) := by split <;> omega
      have HNK := Lib.hid hN2
      clear hm hY hN1 hN2 hJd hKc
      have hrange : (j + 1) * k ≤ N * k := Nat.mul_le_mul_right _ (by omega)
      have HRG := Lib.hid hrange
      have HJK := Lib.hid hjk
      clear hrange hjk
      generalize j * k = i at *
      gi_wp2
      gi_region
      clear hmin HM hq hq2
      gi_wp2
      refine hR.mono ?_
      rintro e W3 (⟨rfl, hJ3, hk3⟩ | ⟨rfl, hJx3⟩)
      · obtain ⟨c13, c23⟩ := HJ1.out W3 hk3
        clear hR hy hk3 HJ1 hJ
        gi_wp2
        go_roundw
        case rel => exact ⟨j + 1, by omega, by rw [HJK.out]; go_num, hJ3, c13, c23⟩
        case measure => have := HRG.out; have := HJK.out; simp [intOf]; omega
      · gi_wp2
        refine bodyPost_ret (results_none rfl _ _ _) rfl ?_
        exact ⟨⟨_, rfl⟩, .inr ⟨frTo N (j + 1), ⟨j + 1, hlt, rfl⟩, hJx3⟩⟩
    · obtain rfl : j = N := by omega
      have h9 : ¬ ((j * k : Nat) : Int) < (n : Int) := by omega
      generalize j * k = i at *
      gi_wp2
      go_end0
      exact ⟨⟨_, rfl⟩, .inl hJ⟩

/-- The blocks of a chunk's iterator: what is cut, and into how many bytes each. -/
structure ChunkAt (w : World) (q q2 g off n c k : Nat) : Prop where
  s : w.cell? ⟨q, 0, none⟩ = some (slc g off n c)
  k : w.cell? ⟨q2, 0, none⟩ = some (.int .i64 k)
  lq : q < w.heap.size
  lq2 : q2 < w.heap.size
theorem chunk_stops (w : World) (q q2 g off n c k N : Nat) (h : ChunkAt w q q2 g off n c k) (hk : 0 < k) (hk9 : k ≤ 1000000) (hnc : n ≤ c) (hn9 : n ≤ 100000000) (hN1 : ∀ j, j < N → j * k < n) (hN2 : n ≤ N * k) (Kp : World → World → Prop)
    (hKc : ∀ W W' v, Kp W W' → (W.cell? ⟨q, 0, none⟩ = some v → W'.cell? ⟨q, 0, none⟩ = some v) ∧ (W.cell? ⟨q2, 0, none⟩ = some v → W'.cell? ⟨q2, 0, none⟩ = some v)) :
    SeqStopsK Fence.wide 3 Tryd.prog 74 #[.pointer (some ⟨q, 0, none⟩), .pointer (some ⟨q2, 0, none⟩)] (oneChunk g off n k (N := N)) Kp (fun ys => ys = frTo N N) (fun pre => ∃ j, j ≤ N ∧ pre = frTo N j) N w := by
  intro l₁ J Jx W hW hJ _ hY h0
  exact chunk1 l₁ q q2 g off n c k N hk hk9 hnc hn9 hN1 hN2 Kp hKc J Jx hY (fun pre W1 h1 => hJ pre W1 W1.drew none h1 ⟨rfl, rfl, rfl, Nat.le_refl _, fun _ _ _ => rfl⟩ (fun r e => by cases e)) W ((hW.cell (p := ⟨q, 0, none⟩) h.lq).trans h.s) ((hW.cell (p := ⟨q2, 0, none⟩) h.lq2).trans h.k) h0
def ChunkPost (w : World) (g off n c k : Nat) (e : Ending) (w' : World) : Prop :=
  e = .returned (.func (.func 74) #[] #[.pointer (some ⟨w.heap.size, 0, none⟩), .pointer (some ⟨w.heap.size + 1, 0, none⟩)]) ∧ ChunkAt w' w.heap.size (w.heap.size + 1) g off n c k ∧ Below w.heap.size w w' ∧ w'.heap.size = w.heap.size + 2
theorem chunk_ok (g off n c k : Nat) (w : World) (hk : 0 < k) :
    Calls Tryd.prog 60 #[slc g off n c, .int .i64 k] w (ChunkPost w g off n c k) := by
  have hb : Below w.heap.size w ((w.alloc (.cells #[slc g off n c] 41)).alloc (.cells #[.int .i64 k] 3)) := ((Below.refl _ _).alloc (Nat.le_refl _) _).alloc (by simp) _
  have hq : Row ((w.alloc (.cells #[slc g off n c] 41)).alloc (.cells #[.int .i64 k] 3)) w.heap.size 41 #[slc g off n c] := (Row.new _ _ _).alloc _
  have hq2 : Row ((w.alloc (.cells #[slc g off n c] 41)).alloc (.cells #[.int .i64 k] 3)) (w.heap.size + 1) 3 #[.int .i64 k] := by
    have := Row.new (w.alloc (.cells #[slc g off n c] 41)) 3 #[.int .i64 k]
    rwa [show (w.alloc (.cells #[slc g off n c] 41)).heap.size = w.heap.size + 1 by simp] at this
  have HC : Hid (ChunkAt ((w.alloc (.cells #[slc g off n c] 41)).alloc (.cells #[.int .i64 k] 3)) w.heap.size (w.heap.size + 1) g off n c k) := Lib.hid ⟨hq.cell rfl, hq2.cell rfl, hq.lt, hq2.lt⟩
  have HB := Lib.hid hb
  have hk1 : ¬ (k : Int) < 1 := by omega
  have hc2 := hq2.cell (i := 0) (v := .int .i64 k) rfl
  clear hb hq hq2
  go_enter Tryd.func60, Tryd.ntmps60
  go_wp2
  go_ret
  exact ⟨rfl, HC.out, HB.out, by simp⟩
end Go.Proofs.YtljlkmmeedlaiaaDoor
