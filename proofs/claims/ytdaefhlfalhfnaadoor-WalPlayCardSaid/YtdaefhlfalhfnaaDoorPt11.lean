/- Layer 3: slices.Chunk of bytes, and the iterator that it hands back. -/
import Derived.Test.YtdaefhlfalhfnaaDoorPt02
import Derived.Test.YtdaefhlfalhfnaaDoorPt10
import Derived.RegionIn
import Derived.BigQuiet
namespace Go.Proofs.YtdaefhlfalhfnaaDoor
open Go.RowKit Go.Shelf
attribute [local go_sem] Oper.semAt_some

/-- A piece of a slice. -/
def chunkV (g off n k j : Nat) : Value := slc g (off + j * k) (min k (n - j * k)) (min k (n - j * k))
def oneChunk (g off n k : Nat) {N : Nat} (j : Fin N) : Array Value := #[chunkV g off n k j.val]
/-- The first j of N. -/
def frTo (N j : Nat) : List (Fin N) := (List.range j).filterMap fun i => if h : i < N then some ⟨i, h⟩ else none
theorem frTo_succ {N j : Nat} (h : j < N) : frTo N (j + 1) = frTo N j ++ [⟨j, h⟩] := by simp [frTo, List.range_succ, List.filterMap_append, h]
theorem frTo_length {N j : Nat} (h : j ≤ N) : (frTo N j).length = j := by
  induction j with
  | zero => rfl
  | succ j ih => rw [frTo_succ (by omega), List.length_append, ih (by omega)]; rfl
theorem frTo_map {N j : Nat} (h : j ≤ N) : (frTo N j).map Fin.val = List.range j := by
  induction j with
  | zero => rfl
  | succ j ih => rw [frTo_succ (by omega), List.map_append, ih (by omega), List.range_succ]; rfl

set_option maxRecDepth 100000 in
set_option maxHeartbeats 2000000 in
theorem chunk1 (l₁ q q2 g off n c k N : Nat) (hk : 0 < k) (hk9 : k ≤ 1000000) (hnc : n ≤ c) (hn9 : n ≤ 100000000) (hN1 : ∀ j, j < N → j * k < n) (hN2 : n ≤ N * k) (Kp : World → World → Prop)
    (hKc : ∀ W W' v, Kp W W' → (W.cell? ⟨q, 0, none⟩ = some v → W'.cell? ⟨q, 0, none⟩ = some v) ∧ (W.cell? ⟨q2, 0, none⟩ = some v → W'.cell? ⟨q2, 0, none⟩ = some v)) (J Jx : List (Fin N) → World → Prop)
    (hY : ∀ pre x W, J pre W → pre.length < N → YieldAt Fence.wide 2 Tryd.prog l₁ (oneChunk g off n k x) W fun e W' =>
      (e = .returned (.bool true) ∧ J (pre ++ [x]) W' ∧ Kp W W') ∨ (e = .returned (.bool false) ∧ Jx (pre ++ [x]) W'))
    (hJd : ∀ pre W, J pre W → J pre W.drew)
    (W : World) (hq : W.cell? ⟨q, 0, none⟩ = some (slc g off n c)) (hq2 : W.cell? ⟨q2, 0, none⟩ = some (.int .i64 k)) (h0 : J [] W) :
    CallsIn Fence.wide 3 Tryd.prog 74 #[.func (.yield l₁) #[] #[], .pointer (some ⟨q, 0, none⟩), .pointer (some ⟨q2, 0, none⟩)] W fun e W' => (∃ v, e = .returned v) ∧
      ((∃ ys, ys = frTo N N ∧ J ys W') ∨ (∃ pre, (∃ j, j ≤ N ∧ pre = frTo N j) ∧ Jx pre W')) := by
  refine callsIn_of_wp Tryd.func74 rfl trivial ?_ rfl
  simp only [Tryd.ntmps74, List.size_toArray, List.length_cons, List.length_nil, Nat.reduceAdd, Nat.reduceSub, Array.replicate_succ, Array.replicate_zero, List.push_toArray, List.append_toArray, List.nil_append, List.cons_append]
  gi_wp2
  gi_loopw [4] (fun v4 wr => ∃ j : Nat, j ≤ N ∧ v4 = .int .i64 (j * k : Nat) ∧ J (frTo N j) wr ∧ wr.cell? ⟨q, 0, none⟩ = some (slc g off n c) ∧ wr.cell? ⟨q2, 0, none⟩ = some (.int .i64 k))
    (fun v4 _ => N * k - (intOf v4).toNat)
  case atStart => exact ⟨0, Nat.zero_le _, by simp, h0, hq, hq2⟩
  case round =>
    obtain ⟨j, hj, rfl, hJ, c1, c2⟩ := hrel
    by_cases hlt : j < N
    · have hjn := hN1 j hlt
      obtain ⟨m, hm⟩ : ∃ m, m = min k (n - j * k) := ⟨_, rfl⟩
      have hm0 : 0 < m := by omega
      have hmn : j * k + m ≤ n := by omega
      obtain ⟨fn, tmps, assign, body, hy, hR⟩ := hY (frTo N j) ⟨j, hlt⟩ wr.drew (hJd _ _ hJ) (by rw [frTo_length hj]; exact hlt)
      have hjk : (j + 1) * k = j * k + k := by rw [Nat.add_mul, Nat.one_mul]
      have HJ1 : Hid (∀ W', Kp wr.drew W' → W'.cell? ⟨q, 0, none⟩ = some (slc g off n c) ∧ W'.cell? ⟨q2, 0, none⟩ = some (.int .i64 k)) := Lib.hid fun W' hk => ⟨(hKc wr.drew W' _ hk).1 c1, (hKc wr.drew W' _ hk).2 c2⟩
      rw [← frTo_succ hlt] at hR
      unfold oneChunk chunkV at hy
      rw [← hm] at hy
      have HM := Lib.hid hm
      have hmin : (if n - j * k < k then ((n - j * k : Nat) : Int) else (k : Int)) = (m : Int) := by split <;> omega
      have HNK := Lib.hid hN2
      clear hm hY hN1 hN2 hJd hKc
      have hrange : (j + 1) * k ≤ N * k := Nat.mul_le_mul_right _ (by omega)
      have HRG := Lib.hid hrange
      have HJK := Lib.hid hjk
      clear hrange hjk
      generalize j * k = i at *
      gi_wp2
      gi_region
      clear hmin HM hq hq2
      gi_wp2
      refine hR.mono ?_
      rintro e W3 (⟨rfl, hJ3, hk3⟩ | ⟨rfl, hJx3⟩)
      · obtain ⟨c13, c23⟩ := HJ1.out W3 hk3
        clear hR hy hk3 HJ1 hJ
        gi_wp2
        go_roundw
        case rel => exact ⟨j + 1, by omega, by rw [HJK.out]; go_num, hJ3, c13, c23⟩
        case measure => have := HRG.out; have := HJK.out; simp [intOf]; omega
      · gi_wp2
        refine bodyPost_ret (results_none rfl _ _ _) rfl ?_
        exact ⟨⟨_, rfl⟩, .inr ⟨frTo N (j + 1), ⟨j + 1, hlt, rfl⟩, hJx3⟩⟩
    · obtain rfl : j = N := by omega
      have h9 : ¬ ((j * k : Nat) : Int) < (n : Int) := by omega
      generalize j * k = i at *
      gi_wp2
      go_end0
      exact ⟨⟨_, rfl⟩, .inl hJ⟩

/-- The blocks of a chunk's iterator: what is cut, and into how many bytes each. -/
structure ChunkAt (w : World) (q q2 g off n c k : Nat) : Prop where
  s : w.cell? ⟨q, 0, none⟩ = some (slc g off n c)
  k : w.cell? ⟨q2, 0, none⟩ = some (.int .i64 k)
  lq : q < w.heap.size
  lq2 : q2 < w.heap.size
theorem chunk_stops (w : World) (q q2 g off n c k N : Nat) (h : ChunkAt w q q2 g off n c k) (hk : 0 < k) (hk9 : k ≤ 1000000) (hnc : n ≤ c) (hn9 : n ≤ 100000000) (hN1 : ∀ j, j < N → j * k < n) (hN2 : n ≤ N * k) (Kp : World → World → Prop)
    (hKc : ∀ W W' v, Kp W W' → (W.cell? ⟨q, 0, none⟩ = some v → W'.cell? ⟨q, 0, none⟩ = some v) ∧ (W.cell? ⟨q2, 0, none⟩ = some v → W'.cell? ⟨q2, 0, none⟩ = some v)) :
    SeqStopsK Fence.wide 3 Tryd.prog 74 #[.pointer (some ⟨q, 0, none⟩), .pointer (some ⟨q2, 0, none⟩)] (oneChunk g off n k (N := N)) Kp (fun ys => ys = frTo N N) (fun pre => ∃ j, j ≤ N ∧ pre = frTo N j) N w := by
  intro l₁ J Jx W hW hJ _ hY h0
  exact chunk1 l₁ q q2 g off n c k N hk hk9 hnc hn9 hN1 hN2 Kp hKc J Jx hY (fun pre W1 h1 => hJ pre W1 W1.drew none h1 ⟨rfl, rfl, rfl, Nat.le_refl _, fun _ _ _ => rfl⟩ (fun r e => by cases e)) W ((hW.cell (p := ⟨q, 0, none⟩) h.lq).trans h.s) ((hW.cell (p := ⟨q2, 0, none⟩) h.lq2).trans h.k) h0
def ChunkPost (w : World) (g off n c k : Nat) (e : Ending) (w' : World) : Prop :=
  e = .returned (.func (.func 74) #[] #[.pointer (some ⟨w.heap.size, 0, none⟩), .pointer (some ⟨w.heap.size + 1, 0, none⟩)]) ∧ ChunkAt w' w.heap.size (w.heap.size + 1) g off n c k ∧ Below w.heap.size w w' ∧ w'.heap.size = w.heap.size + 2
theorem chunk_ok (g off n c k : Nat) (w : World) (hk : 0 < k) :
    Calls Tryd.prog 60 #[slc g off n c, .int .i64 k] w (ChunkPost w g off n c k) := by
  have hb : Below w.heap.size w ((w.alloc (.cells #[slc g off n c] 41)).alloc (.cells #[.int .i64 k] 3)) := ((Below.refl _ _).alloc (Nat.le_refl _) _).alloc (by simp) _
  have hq : Row ((w.alloc (.cells #[slc g off n c] 41)).alloc (.cells #[.int .i64 k] 3)) w.heap.size 41 #[slc g off n c] := (Row.new _ _ _).alloc _
  have hq2 : Row ((w.alloc (.cells #[slc g off n c] 41)).alloc (.cells #[.int .i64 k] 3)) (w.heap.size + 1) 3 #[.int .i64 k] := by
    have := Row.new (w.alloc (.cells #[slc g off n c] 41)) 3 #[.int .i64 k]
    rwa [show (w.alloc (.cells #[slc g off n c] 41)).heap.size = w.heap.size + 1 by simp] at this
  have HC : Hid (ChunkAt ((w.alloc (.cells #[slc g off n c] 41)).alloc (.cells #[.int .i64 k] 3)) w.heap.size (w.heap.size + 1) g off n c k) := Lib.hid ⟨hq.cell rfl, hq2.cell rfl, hq.lt, hq2.lt⟩
  have HB := Lib.hid hb
  have hk1 : ¬ (k : Int) < 1 := by omega
  have hc2 := hq2.cell (i := 0) (v := .int .i64 k) rfl
  clear hb hq hq2
  go_enter Tryd.func60, Tryd.ntmps60
  go_wp2
  go_ret
  exact ⟨rfl, HC.out, HB.out, by simp⟩
end Go.Proofs.YtdaefhlfalhfnaaDoor
