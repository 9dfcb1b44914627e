/- Layer 2: Pieces, and the iterator that it hands back. -/
import Derived.RangeFuncNested
import Derived.RangeFuncBound
import Derived.RangeFuncCalls
import Derived.RangeFuncLeaves
import Derived.RangeFuncFrom
import Derived.Shelf.Abstract
import Derived.Shelf.RegionOpen
import Derived.OwnWalkIn
import Derived.TacticsInMore
import Derived.LoopNIn
import Derived.LoopIn
import Derived.ControlIn
import Derived.Test.YtdaefhlfalhfnaaDoorPt09
namespace Go.Proofs.YtdaefhlfalhfnaaDoor
open Go.RowKit Go.Shelf
attribute [local go_sem] Oper.semAt_some

def oneInt (x : Int) : Array Value := #[.int .i64 x]

set_option maxRecDepth 100000 in
set_option maxHeartbeats 2000000 in
theorem values1 (l₁ q n₀ : Nat) (A : Option Addr) (c : Nat) (l : List Int) (hn : l.length ≤ 9223372036854775807) (J Jx : List Int → World → Prop)
    (hY : ∀ pre x W, J pre W → pre.length < l.length → YieldAt Fence.wide 2 Tryd.prog l₁ (oneInt x) W fun e W' =>
      (e = .returned (.bool true) ∧ J (pre ++ [x]) W' ∧ Below n₀ W W') ∨ (e = .returned (.bool false) ∧ Jx (pre ++ [x]) W'))
    (W : World) (hcell : W.cell? ⟨q, 0, none⟩ = some (.slice A l.length c)) (hc : ∀ k, k < l.length → ∃ b off, A = some ⟨b, off, none⟩ ∧ b < n₀ ∧ W.cell? ⟨b, off + k, none⟩ = some (.int .i64 (l.getD k 0))) (h0 : J [] W) :
    CallsIn Fence.wide 3 Tryd.prog 78 #[.func (.yield l₁) #[] #[], .pointer (some ⟨q, 0, none⟩)] W fun e W' => (∃ v, e = .returned v) ∧
      ((∃ ys, ys = l ∧ J ys W') ∨ (∃ pre, (pre <+: l) ∧ Jx pre W')) := by
  refine callsIn_of_wp Tryd.func78 rfl trivial ?_ rfl
  simp only [Tryd.ntmps78, List.size_toArray, List.length_cons, List.length_nil, Nat.reduceAdd, Nat.reduceSub, Array.replicate_succ, Array.replicate_zero, List.push_toArray, List.append_toArray, List.nil_append, List.cons_append]
  gi_wp2
  gi_loopw [7] (fun v7 wr => ∃ k : Nat, k ≤ l.length ∧ v7 = .int .i64 k ∧ J (l.take k) wr ∧ Below n₀ W wr)
    (fun v7 _ => l.length - (intOf v7).toNat)
  case atStart => exact ⟨0, Nat.zero_le _, rfl, h0, Below.refl _ _⟩
  case round =>
    obtain ⟨k, hk, rfl, hJs, hnx⟩ := hrel
    by_cases hlt : k < l.length
    · obtain ⟨b, off, rfl, hb, hck⟩ := hc k hlt
      obtain ⟨fn, tmps, assign, body, hy, hR⟩ := hY (l.take k) (l.getD k 0) wr hJs (by simp; omega)
      have hckw := (hnx.cell (p := ⟨b, off + k, none⟩) hb).trans hck
      have HT := Lib.hid (show l.take k ++ [l.getD k 0] = l.take (k + 1) by rw [List.take_succ_eq_append_getElem hlt]; simp [List.getD_eq_getElem?_getD, hlt])
      rw [HT.out] at hR
      unfold oneInt at hy
      clear hck hc
      generalize l.getD k 0 = x at *
      gi_wp2
      refine hR.mono ?_
      rintro e W3 (⟨rfl, hJ3, hk3⟩ | ⟨rfl, hJx3⟩)
      · have hb3 := hnx.trans hk3
        clear hckw hy hR
        gi_wp2
        go_roundw
        case rel => exact ⟨k + 1, by omega, by go_num, hJ3, hb3⟩
        case measure => simp [intOf]; omega
      · gi_wp2
        refine bodyPost_ret (results_none rfl _ _ _) rfl ?_
        exact ⟨⟨_, rfl⟩, .inr ⟨l.take (k + 1), List.take_prefix _ _, hJx3⟩⟩
    · obtain rfl : k = l.length := by omega
      rw [List.take_length] at hJs
      gi_wp2
      go_end0
      exact ⟨⟨_, rfl⟩, .inl ⟨_, rfl, hJs⟩⟩

/-- Block q holds a slice of these numbers, which lie below n₀. -/
def ListAt (n₀ q : Nat) (l : List Int) (W : World) : Prop :=
  ∃ A c, W.cell? ⟨q, 0, none⟩ = some (.slice A l.length c) ∧ ∀ k, k < l.length → ∃ b off, A = some ⟨b, off, none⟩ ∧ b < n₀ ∧ W.cell? ⟨b, off + k, none⟩ = some (.int .i64 (l.getD k 0))
theorem ListAt.below {n₀ B q : Nat} {l : List Int} {W W' : World} (h : ListAt n₀ q l W) (hb : Below B W W') (hq : q < B) (hB : n₀ ≤ B) : ListAt n₀ q l W' := by
  obtain ⟨A, c, h1, h2⟩ := h
  refine ⟨A, c, (hb.cell (p := ⟨q, 0, none⟩) hq).trans h1, fun k hk => ?_⟩
  obtain ⟨b, off, e, hlt, hc⟩ := h2 k hk
  exact ⟨b, off, e, hlt, (hb.cell (p := ⟨b, off + k, none⟩) (by show b < B; omega)).trans hc⟩
theorem values_stops (q n₀ : Nat) (l : List Int) (hn : l.length ≤ 9223372036854775807) (hq : q < n₀) (w : World) (hw : n₀ ≤ w.heap.size) (h : ListAt n₀ q l w) :
    SeqStopsK Fence.wide 3 Tryd.prog 78 #[.pointer (some ⟨q, 0, none⟩)] oneInt (Below n₀) (fun ys => ys = l) (fun pre => pre <+: l) l.length w := by
  intro l₁ J Jx W hW _ _ hY h0
  obtain ⟨A, c, h1, h2⟩ := h.below hW (by omega) hw
  exact values1 l₁ q n₀ A c l hn J Jx hY W h1 h2 h0

/-- What Pieces hands back. -/
def IterPost (w : World) (l : List Int) (e : Ending) (w' : World) : Prop :=
  ∃ q, e = .returned (.func (.func 78) #[] #[.pointer (some ⟨q, 0, none⟩)]) ∧ w.heap.size ≤ q ∧ q < w'.heap.size ∧ ListAt w'.heap.size q l w' ∧ Below w.heap.size w w'
theorem values_ok (A : Option Addr) (c : Nat) (l : List Int) (w : World) (h : Holds w A l.length 1 (ints l)) :
    Calls Tryd.prog 73 #[.slice A l.length c] w (IterPost w l) := by
  have hb : Below w.heap.size w (w.alloc (.cells #[.slice A l.length c] 57)) := (Below.refl _ _).alloc (Nat.le_refl _) _
  have HL : Hid (ListAt (w.alloc (.cells #[.slice A l.length c] 57)).heap.size w.heap.size l (w.alloc (.cells #[.slice A l.length c] 57))) := Lib.hid ⟨A, c, (Row.new w _ _).cell rfl, fun k hk => by
    obtain ⟨b, off, e, hlt, hc⟩ := ints_at (h.below hb) hk
    exact ⟨b, off, e, hlt, hc⟩⟩
  have HB := Lib.hid hb
  clear h hb
  go_enter Tryd.func73, Tryd.ntmps73
  go_wp2
  go_ret
  exact ⟨w.heap.size, rfl, Nat.le_refl _, by simp, HL.out, HB.out⟩
theorem pieces_no (v : Value) (w : World) (h : NoDisk w v) :
    Calls Tryd.prog 57 #[v] w (IterPost w []) := by
  have H := Lib.hid h
  clear h
  go_enter Tryd.func57, Tryd.ntmps57
  go_wp2_with (first
    | (go_at_call 41; refine (none_no v _ H.out).mono ?_; rintro e w' ⟨rfl, rfl⟩)
    | (go_at_call 73; refine (values_ok none 0 [] _ (Holds.nil _ _ _)).mono ?_; rintro e w' ⟨q, rfl, h1, h2, h3, h4⟩))
  go_ret
  exact ⟨q, rfl, h1, h2, h3, h4⟩
end Go.Proofs.YtdaefhlfalhfnaaDoor
