/- Layer 1: 'All': its closure as an iterator, and the call that makes it. -/
import Derived.RangeFuncNested
import Derived.RangeFuncBound
import Derived.RangeFuncCalls
import Derived.RangeFuncLeaves
import Derived.Shelf.Abstract
import Derived.Shelf.RegionOpen
import Derived.WalkKit
import Derived.OwnWalkIn
import Derived.TacticsInMore
import Derived.LoopNIn
import Derived.LoopIn
import Derived.Test.YtmiaaihejapomaaCrcAdd32
import Derived.Test.YtmiaaihejapomaaCrcCopied
namespace Go.Proofs.Ytmiaaihejapomaa
open Go.RowKit Go.Shelf
open Crc
attribute [local go_sem] Oper.semAt_some

/-- What the iterator hands over: a length, and the sum of so many bytes. -/
def pairOf (l : List Nat) (i : Nat) : Array Value := #[.int .i64 i, .int .u32 (sumL (l.take i) : Nat)]

set_option maxRecDepth 100000 in
set_option maxHeartbeats 2000000 in
theorem all1 (l₁ B1 g2 n₀ gc n : Nat) (l : List Nat) (hn : n ≤ 140737488355328) (hgc : gc < n₀) (hg2 : g2 < n₀) (hB1 : B1 < n₀) (hsm : Small l) (hl : l.length = n) (J Jx : List Nat → World → Prop)
    (hY : ∀ pre x W, J pre W → pre.length < n + 1 → YieldAt Fence.wide 2 Try.prog l₁ (pairOf l x) W fun e W' =>
      (e = .returned (.bool true) ∧ J (pre ++ [x]) W' ∧ Below n₀ W W') ∨ (e = .returned (.bool false) ∧ Jx (pre ++ [x]) W'))
    (W : World) (hBs : W.cell? ⟨B1, 0, none⟩ = some (.slice (some ⟨gc, 0, none⟩) n n)) (hrow : Row W gc 5 (cellsOf l).toArray) (htab : Row W g2 44 (tabDone .u32 3988292384)) (h0 : J [] W) :
    CallsIn Fence.wide 3 Try.prog 23 #[.func (.yield l₁) #[] #[], .pointer (some ⟨B1, 0, none⟩), .pointer (some ⟨g2, 0, none⟩)] W fun e W' => (∃ v, e = .returned v) ∧
      ((∃ ys, ys = List.range (n + 1) ∧ J ys W') ∨ (∃ pre, (∃ k, k ≤ n + 1 ∧ pre = List.range k) ∧ Jx pre W')) := by
  refine callsIn_of_wp Try.func23 rfl trivial ?_ rfl
  simp only [Try.ntmps23, List.size_toArray, List.length_cons, List.length_nil, Nat.reduceAdd, Nat.reduceSub, Array.replicate_succ, Array.replicate_zero, List.push_toArray, List.append_toArray, List.nil_append, List.cons_append]
  have hP : U32 3988292384 := by unfold U32; decide
  have hlen := Lib.hid hl
  gi_wp2
  gi_loopw [4, 9] (fun v4 v9 wr => ∃ k r : Nat, k ≤ n ∧ v9 = .int .i64 k ∧ v4 = .int .u32 r ∧ U32 r ∧ Hid (r = run 3988292384 4294967295 (l.take k)) ∧ J (List.range k) wr ∧ Below n₀ W wr)
    (fun _ v9 _ => n - (intOf v9).toNat)
  case atStart => exact ⟨0, 4294967295, Nat.zero_le _, rfl, rfl, by unfold U32; decide, rfl, h0, Below.refl _ _⟩
  case round =>
    obtain ⟨k, r, hk, rfl, rfl, hr, Hr, hJs, hnx⟩ := hrel
    have hs : r ^^^ 4294967295 = sumL (l.take k) := by rw [Hr.out]; unfold sumL moreL; rw [Nat.zero_xor]
    have hxor : bits BinOp.xor IntKind.u32 (r : Int) 4294967295 = ((sumL (l.take k) : Nat) : Int) := by rw [← hs]; exact u32_xor_nat r 4294967295 hr (by decide)
    obtain ⟨fn, tmps, assign, body, hy, hR⟩ := hY (List.range k) k wr hJs (by simp; omega)
    rw [← List.range_succ, Nat.succ_eq_add_one] at hR
    unfold pairOf at hy
    clear hs
    generalize sumL (l.take k) = s at *
    by_cases hlt : k < n
    · have hx : l.getD k 0 < 256 := by
        rw [List.getD_eq_getElem?_getD, List.getElem?_eq_getElem (by rw [hl]; exact hlt)]
        exact hsm _ (List.getElem_mem _)
      have hck : wr.cell? ⟨gc, k, none⟩ = some (.int .u8 (l.getD k 0 : Nat)) := (hrow.below hnx hgc).cell (by rw [List.getElem?_toArray]; exact cellsOf_get _ (by rw [hl]; exact hlt))
      have HS : Hid (run 3988292384 4294967295 (l.take (k + 1)) = dnN 3988292384 8 (r ^^^ l.getD k 0)) := Lib.hid (by rw [take_succ_getD l k (by rw [hl]; exact hlt), run_snoc, Hr.out])
      have hr2 : U32 (dnN 3988292384 8 (r ^^^ l.getD k 0)) := dnN_lt 32 _ 8 _ hP (Nat.xor_lt_two_pow (n := 32) hr (by omega))
      clear Hr hl
      generalize l.getD k 0 = x at *
      gi_wp2
      refine hR.mono ?_
      rintro e W3 (⟨rfl, hJ3, hk3⟩ | ⟨rfl, hJx3⟩)
      · have ht3 := htab.below (hnx.trans hk3) hg2
        have hb3 := hnx.trans hk3
        clear hck hxor hy hR
        gi_wp2_with (refine ⟨trivial, ?_⟩; gi_at_call 24; refine (callsIn_wide.2 (step32 g2 _ r x _ ht3 hP hr hx)).mono ?_; rintro e w' ⟨rfl, rfl⟩)
        go_roundw
        case rel => exact ⟨k + 1, dnN 3988292384 8 (r ^^^ x), by omega, by go_num, rfl, hr2, Lib.hid HS.out.symm, hJ3, hb3⟩
        case measure => simp [intOf]; omega
      · gi_wp2
        refine bodyPost_ret (results_none rfl _ _ _) rfl ?_
        exact ⟨⟨_, rfl⟩, .inr ⟨List.range (k + 1), ⟨k + 1, by omega, rfl⟩, hJx3⟩⟩
    · obtain rfl : k = n := by omega
      have hB2 : wr.cell? ⟨B1, 0, none⟩ = some (.slice (some ⟨gc, 0, none⟩) k k) := (hnx.cell (p := ⟨B1, 0, none⟩) hB1).trans hBs
      clear hl
      gi_wp2
      refine hR.mono ?_
      rintro e W3 (⟨rfl, hJ3, hk3⟩ | ⟨rfl, hJx3⟩)
      · gi_wp2
        go_end0
        exact ⟨⟨_, rfl⟩, .inl ⟨_, rfl, hJ3⟩⟩
      · gi_wp2
        go_end0
        exact ⟨⟨_, rfl⟩, .inr ⟨_, ⟨k + 1, Nat.le_refl _, rfl⟩, hJx3⟩⟩

theorem table32c (t : Nat) (tv : Int) (htv : tv = t) (w : World) (ht : U32 t) :
    Calls Try.prog 22 #[.int .u32 tv] w fun e w' => e = .returned (.agg (tabDone .u32 t)) ∧ Below w.heap.size w w' := by
  subst htv
  exact table32 t w ht

/-- What All answers: the closure over a copy of the bytes, in a box, and over the table. -/
def AllPost (w : World) (l : List Nat) (n : Nat) (e : Ending) (w' : World) : Prop :=
  ∃ B1 g2 gc, e = .returned (.func (.func 23) #[] #[.pointer (some ⟨B1, 0, none⟩), .pointer (some ⟨g2, 0, none⟩)]) ∧ (w.heap.size ≤ B1 ∧ w.heap.size ≤ g2 ∧ w.heap.size ≤ gc ∧ B1 < w'.heap.size) ∧
    Row w' B1 22 #[.slice (some ⟨gc, 0, none⟩) n n] ∧ Row w' gc 5 (cellsOf l).toArray ∧ Row w' g2 44 (tabDone .u32 3988292384) ∧ Below w.heap.size w w'

set_option maxRecDepth 100000 in
set_option maxHeartbeats 1000000 in
theorem all_ (A : Option Addr) (n c : Nat) (l : List Nat) (w : World) (hA : Bytes w A n l) (hn : n ≤ 140737488355328) :
    Calls Try.prog 16 #[.slice A n c] w (AllPost w l n) := by
  have hP : U32 3988292384 := by unfold U32; decide
  have hi2 := Lib.hid (show (Try.prog.info? 44).map (·.size) = some (tabDone .u32 3988292384).size from info32.trans (by rw [tabDone, tabOf_size]))
  have hb0 : Below w.heap.size w (w.alloc (.cells #[.slice A n c] 22)) := (Below.refl _ _).alloc (Nat.le_refl _) _
  have HA := Lib.hid (hA.below hb0)
  have hbox := Row.new w 22 #[.slice A n c]
  clear hA
  go_enter Try.func16, Try.ntmps16
  go_wp2_with fail
  refine (copied A n c 0 _ rfl l _ HA.out hn).mono ?_
  rintro e w1 ⟨gc, rfl, hl1, hg1, hr1, hb1⟩
  have hbox1 := hbox.call hb1
  have hc1 : w1.cell? ⟨w.heap.size, 0, none⟩ = some (.slice A n c) := hbox1.cell rfl
  have hf1 : w1.frozen? ⟨w.heap.size, 0, none⟩ = false := hbox1.free _
  have hbs := hbox1.set_ 0 (.slice (some ⟨gc, 0, none⟩) n n)
  have hB2 : Below w.heap.size w (w1.setCell ⟨w.heap.size, 0, none⟩ (.slice (some ⟨gc, 0, none⟩) n n)) := ((Below.refl _ _).lit hb1).setCell (Nat.le_refl _) _
  have hrc : Row (w1.setCell ⟨w.heap.size, 0, none⟩ (.slice (some ⟨gc, 0, none⟩) n n)) gc 5 (cellsOf l).toArray := by
    have h1 := hr1.far (p := ⟨w.heap.size, 0, none⟩) (by have := hg1; simp at this; simp; omega) (.slice (some ⟨gc, 0, none⟩) n n)
    simpa using h1
  clear hbox hbox1 hr1 hb1 hl1
  go_wp2_with fail
  refine (table32c 3988292384 _ rfl _ hP).mono ?_
  rintro e w2 ⟨rfl, hb2⟩
  have hbs2 := hbs.call hb2
  have hrc2 := hrc.call hb2
  have hB3 := hB2.call hb2
  clear hbs hrc hB2 hb2 hc1 hf1
  go_wp2_with (first
    | (refine wpList_alloc_tab ?_ 44 ?_ _ zero32 ?_
       · with_reducible rfl
       · with_reducible rfl)
    | (refine wpList_store_row ?_ 44 (.tmp 3) (.tmp 6) ?_ w2.heap.size (tabDone .u32 3988292384) ?_ ?_ 44 _ (Row.new _ _ _) hi2.out ?_ ?_ ?_
       · with_reducible rfl
       · with_reducible rfl
       · rfl
       · rfl
       · rw [zeros_size, tabDone, tabOf_size]
       · exact tabOf_one _ _ _))
  have hfar : ∀ k, k < w2.heap.size → ((w2.alloc (.cells (zeros .u32) 44)).setRow w2.heap.size (tabDone .u32 3988292384)).heap[k]? = w2.heap[k]? := fun k hk =>
    (setRow_other _ w2.heap.size k _ (by omega)).trans (Below.heap_alloc w2 _ k hk)
  have hbs3 : Row ((w2.alloc (.cells (zeros .u32) 44)).setRow w2.heap.size (tabDone .u32 3988292384)) w.heap.size 22 #[.slice (some ⟨gc, 0, none⟩) n n] := (hfar _ hbs2.lt).trans hbs2
  have hlt := hbs2.lt
  go_ret
  exact ⟨w.heap.size, w2.heap.size, gc, rfl, ⟨Nat.le_refl _, hB3.size, by have := hg1; simp at this; omega, hbs3.lt⟩, hbs3, (hfar _ hrc2.lt).trans hrc2, setRow_heap _ _ _ _ _ _ (Row.new _ _ _), (hB3.alloc hB3.size _).setRow hB3.size _⟩
end Go.Proofs.Ytmiaaihejapomaa
