/- Layer 7: digits, with noughts behind them, as words. -/
import Derived.Test.YtfdodndagakmmaaGreatDoorPt03
import Derived.RangeFuncNested
import Derived.RangeFuncBound
import Derived.RangeFuncCalls
import Derived.RangeFuncLeaves
import Derived.RangeFuncFrom
import Derived.Shelf.Abstract
import Derived.Shelf.RegionOpen
import Derived.OwnWalkIn
import Derived.TacticsInMore
import Derived.LoopNIn
import Derived.LoopIn
import Derived.ControlIn
namespace Go.Proofs.YtfdodndagakmmaaGreatDoor
open Go.RowKit

theorem bs_append (a b : List UInt8) : bs a ++ bs b = bs (a ++ b) := by
  apply ByteArray.ext
  simp [bs, ByteArray.data_append]
theorem bs_extract (l : List UInt8) (i j : Nat) : (bs l).extract i j = bs ((l.take j).drop i) := by
  apply ByteArray.ext
  simp [bs, ByteArray.data_extract, List.drop_take]
section
variable {P : Program} (W : World)
theorem run_add_bs (a b : List UInt8) (h : a.length + b.length ≤ 9223372036854775807) : (Op.stringOp .add (bs a) (bs b)).run P W = .ok (.string (bs (a ++ b))) W := by
  rw [run_string_add_sum W _ _ (by rw [bs_size, bs_size]; exact h), bs_append]
theorem run_from_bs (t : TypeId) (ht : P.underlying t = some .string) (l : List UInt8) (k : Nat) (hk : k ≤ l.length) :
    (Instr.slice t (.string (bs l)) (some (.int .i64 (k : Int))) none none).run P W = .ok (.string (bs (l.drop k))) W := by
  rw [run_slice_string_l W t (bs l) ht .i64 k (by omega) (by rw [bs_size]; omega), bs_extract, bs_size, List.take_length, Int.toNat_natCast]
theorem run_to_bs (t : TypeId) (ht : P.underlying t = some .string) (l : List UInt8) (k : Nat) (hk : k ≤ l.length) :
    (Instr.slice t (.string (bs l)) none (some (.int .i64 (k : Int))) none).run P W = .ok (.string (bs (l.take k))) W := by
  rw [run_slice_string_h W t (bs l) ht .i64 k (by omega) (by rw [bs_size]; omega), bs_extract, Int.toNat_natCast, List.drop_zero]
end

theorem infoU64 : (Tryz.prog.info? 120).map (fun i => (i.zero, i.size, i.bytes)) = some (some (.int .u64 0), 1, 8) := by kernel_rfl
/-- A slice of words of the call's own. -/
def OwnW (w0 w : World) (v : Value) (l : List Nat) : Prop := Lies w (grow noBlock w0) 120 1 v l.length (u64s l)
theorem OwnW.wds {w0 w : World} {v : Value} {l : List Nat} (h : OwnW w0 w v l) (hl : ∀ i, wat l i < 18446744073709551616) : Wds w v l := by
  obtain ⟨A, c, rfl, h1, h2, h3⟩ := h.holds
  exact ⟨hl, A, c, rfl, h1, h2, h3⟩
section
variable {P : Program} {ops : Array Oper} {rest : List Oper} {o : Oper} {a : Act} {w : World} {Q : Exit → Act → World → Prop}
/-- 'make([]uint64, n)'. -/
theorem wpList_make_u64 (hgd : o.guard = none) (t e : TypeId) (x : Operand) (ho : o.op = .makeSlice t x x) (n : Nat) (hx : a.eval x = .int .i64 n) (ht : P.underlying t = some (.slice e))
    (hi : (P.info? e).map (fun i => (i.zero, i.size, i.bytes)) = some (some (.int .u64 0), 1, 8)) (hn : n ≤ 17592186044416)
    (h : wpList P ops Q rest (a.put o.dst (.slice (some ⟨w.heap.size, 0, none⟩) n n)) (w.alloc (.cells (u64s (List.replicate n 0)).toArray e))) : wpList P ops Q (o :: rest) a w := by
  obtain ⟨i, hi, hz, hs, hb⟩ := info_parts hi
  have hr := run_make (P := P) w t e i _ ht hi hz .i64 .i64 n n (by omega) (Int.le_refl _) (by rw [hb]; omega) (by omega)
  rw [hs, Nat.mul_one] at hr
  have e1 : madeCells (Value.int .u64 0).cells n = (u64s (List.replicate n 0)).toArray := by
    apply Array.toList_inj.1
    have := toList_madeCells_one (.int .u64 0) n
    simp only [u64s, List.map_replicate]
    exact this
  simp only [Int.toNat_natCast] at hr
  rw [e1] at hr
  refine wpList_plain hgd fun K hK => ?_
  unfold Oper.wp
  simp [execOp, ho, hx, hr, Result.andThen]
  exact hK _ _ h
end
theorem OwnW.made (w : World) (n : Nat) (hn : n ≤ maxLen) : OwnW w (w.alloc (.cells (u64s (List.replicate n 0)).toArray 120)) (.slice (some ⟨w.heap.size, 0, none⟩) n n) (List.replicate n 0) := by
  unfold OwnW
  rw [List.length_replicate]
  refine ⟨by simp [u64s_length], .inr ⟨w.heap.size, 0, n, (u64s (List.replicate n 0)).toArray, rfl, .inr (Nat.le_refl _), heap_alloc_new w _, Nat.le_refl _, hn, by simp [u64s_length], ?_⟩⟩
  have : (u64s (List.replicate n 0)).length = n * 1 := by simp [u64s_length]
  simp only [List.drop_zero]
  rw [← this, List.take_length]

/-- What comes back is a number in words. -/
def NumPost (w : World) (n : Nat) (e : Ending) (w' : World) : Prop := ∃ v, e = .returned v ∧ Wds w' v (wds n) ∧ Below w.heap.size w w'

structure LaidAt (w : World) (T : Nat) (ws : List Nat) (p : List UInt8) (v : Value) (wr : World) : Prop where
  own : OwnW w wr v ws
  below : Below w.heap.size w wr
  words : Words ws
  digs : Digs p
  val : wval ws + 1000000000 ^ ws.length * num p = T
  len : ws.length ≤ 2000000
  plen : p.length + ws.length ≤ 2000000

set_option maxHeartbeats 2000000 in
theorem laid_ok (l : List UInt8) (b : Nat) (w : World) (hd : Digs l) (hl : l.length ≤ 900000) (hb : b ≤ 900000) :
    Calls Tryz.prog 181 #[.string (bs l), .int .i64 b] w (NumPost w (num l * 10 ^ b)) := by
  obtain ⟨T, hT⟩ : ∃ T, num l * 10 ^ b = T := ⟨_, rfl⟩
  rw [hT]
  have hq : (b : Int) / 9 = ((b / 9 : Nat) : Int) := by omega
  have hrm : (b : Int) % 9 = ((b % 9 : Nat) : Int) := by omega
  have hA1 : LaidAt w T (List.replicate (b / 9) 0) (l ++ zeros (b % 9)) (.slice (some ⟨w.heap.size, 0, none⟩) (b / 9) (b / 9)) (w.alloc (.cells (u64s (List.replicate (b / 9) 0)).toArray 120)) := by
    refine ⟨OwnW.made w _ (by unfold maxLen; omega), (Below.refl _ _).alloc (Nat.le_refl _) _, Words.zeros _, hd.append (Digs.zeros _), ?_, by simp; omega, by simp [zeros]; omega⟩
    rw [wval_zeros, List.length_replicate, Nat.zero_add, ← hT, ← noughts_words (num l) b]
    unfold zeros
    rw [num_zeros_behind, Nat.mul_comm]
  have hadd : ∀ W, (Op.stringOp .add (bs l) (bs (zeros (b % 9)))).run Tryz.prog W = .ok (.string (bs (l ++ zeros (b % 9)))) W := fun W => run_add_bs W _ _ (by simp [zeros]; omega)
  have HA1 := Lib.hid hA1
  have hqn : b / 9 ≤ 100000 := by omega
  have hrn : b % 9 < 9 := by omega
  clear hA1 hT hd
  generalize b / 9 = q at *
  generalize b % 9 = r at *
  go_enter Tryz.func181, Tryz.ntmps181
  go_wp2_with (refine wpList_make_u64 ?_ 194 120 (.tmp 10) ?_ q ?_ Tryz.underlying194 infoU64 (by omega) ?_
               · with_reducible rfl
               · with_reducible rfl
               · exact congrArg (Value.int .i64) (by omega))
  generalize w.alloc (.cells (u64s (List.replicate q 0)).toArray 120) = w1 at *
  go_wp2_with fail
  refine (noughts_ok r w1 (by omega)).mono ?_
  rintro e w2 ⟨rfl, hb2⟩
  have HA2 : Hid (LaidAt w T (List.replicate q 0) (l ++ zeros r) (.slice (some ⟨w.heap.size, 0, none⟩) q q) w2) := Lib.hid (by
    obtain ⟨h1, h2, h3, h4, h5, h6, h7⟩ := HA1.out
    refine ⟨?_, h2.call hb2, h3, h4, h5, h6, h7⟩
    exact Lies.below h1 hb2)
  clear HA1
  clear hb2
  go_wp2_with fail
  go_loopw [0, 5] (fun v0 v5 wr => ∃ ws p, v0 = .string (bs p) ∧ LaidAt w T ws p v5 wr) (fun v0 _ _ => match v0 with | .string s => s.size | _ => 0)
  case atStart => exact ⟨_, _, rfl, HA2.out⟩
  case round =>
    obtain ⟨ws, p, rfl, hA⟩ := hrel
    have HA := Lib.hid hA
    by_cases hp : p = []
    · subst hp
      have ht0 : (bs []).toList = [] := bs_toList []
      obtain ⟨h1, h2, h3, h4, h5, h6, h7⟩ := hA
      have hws := h1.wds fun i => by have := wat_lt h3 i; omega
      have HT : Hid (crop ws = wds T) := Lib.hid (by rw [← wds_wval h3, ← h5, num_nil, Nat.mul_zero, Nat.add_zero])
      obtain ⟨A, c, rfl, _, _⟩ := h1.form
      have HW := Lib.hid hws
      have HB := Lib.hid h2
      clear h1 h2 h3 h4 h5 h6 h7 hws HA HA2
      go_wp2_with fail
      refine (cropped_ok A ws.length c ws _ HW.out).mono ?_
      rintro e w3 ⟨rfl, rfl⟩
      go_wp2
      go_ret
      refine ⟨_, rfl, ?_, HB.out⟩
      have h9 := HW.out.take (crop_length_le ws)
      rw [← crop_eq_take, HT.out] at h9
      rw [HT.out]
      exact h9
    · have hE : ¬ (bs p).toList = [] := by rw [bs_toList]; exact hp
      have hlp : 0 < p.length := List.length_pos_iff.2 hp
      have hs := bs_size p
      have hpl := hA.plen
      obtain ⟨k, hk, hk9⟩ : ∃ k : Nat, k ≤ p.length ∧ ((9 ≤ p.length ∧ k + 9 = p.length) ∨ (p.length < 9 ∧ k = 0)) := by
        by_cases h9 : 9 ≤ p.length
        · exact ⟨p.length - 9, by omega, .inl ⟨h9, by omega⟩⟩
        · exact ⟨0, by omega, .inr ⟨by omega, rfl⟩⟩
      have hf : ∀ W, (Instr.slice 9 (.string (bs p)) (some (.int .i64 (k : Int))) none none).run Tryz.prog W = .ok (.string (bs (p.drop k))) W := fun W => run_from_bs W _ Tryz.underlying9 p k hk
      have ht : ∀ W, (Instr.slice 9 (.string (bs p)) none (some (.int .i64 (k : Int))) none).run Tryz.prog W = .ok (.string (bs (p.take k))) W := fun W => run_to_bs W _ Tryz.underlying9 p k hk
      have hcl : (p.drop k).length = p.length - k := List.length_drop
      have hcd : Digs (p.drop k) := hA.digs.drop k
      have hcn : p.drop k ≠ [] := by intro h; rw [h] at hcl; simp at hcl; omega
      have hlt := num_lt hcd
      have h10 : 10 ^ (p.drop k).length ≤ 10 ^ 9 := Nat.pow_le_pow_right (by omega) (by omega)
      have hx : num (p.drop k) < 1000000000 := by have := ten9; omega
      have HPU : Hid (∀ W : World, Calls Tryz.prog 210 #[.string (bs (p.drop k)), .int .i64 10, .int .i64 64] W fun e w' => e = .returned (.tuple #[.int .u64 (num (p.drop k) : Nat), .nilIface]) ∧ Below W.heap.size W w') := Lib.hid fun W => by
        refine (Tryz.strconv_ParseUint_10_at64_ok (bs (p.drop k)) (by rw [bs_size]; omega) (num (p.drop k)) (by have := parseUint_small (l := p.drop k) hcd hcn (by omega); exact this) W).mono ?_
        rintro e w' ⟨rfl, h | h⟩
        · subst h; exact ⟨rfl, Below.refl _ _⟩
        · subst h; exact ⟨rfl, Lib.bytesWorld_below _ _ _⟩
      have HS : Hid (∀ v5' wr', OwnW w wr' v5' (ws ++ [num (p.drop k)]) → Below w.heap.size w wr' → LaidAt w T (ws ++ [num (p.drop k)]) (p.take k) v5' wr') := Lib.hid fun v5' wr' g1 g2 => by
        have h5 := hA.val
        have hst := laid_step ws (p.take k) (p.drop k) (by
          rcases hk9 with ⟨_, h⟩ | ⟨_, h⟩
          · left; rw [hcl]; omega
          · right; rw [h]; rfl)
        rw [List.take_append_drop] at hst
        refine ⟨g1, g2, hA.words.append (Words.one hx), hA.digs.take k, by rw [hst, h5], ?_, ?_⟩
        · rw [List.length_append, List.length_singleton]; omega
        · rw [List.length_append, List.length_singleton, List.length_take]; omega
      have hown := hA.own
      obtain ⟨A, c, rfl, _, hcm⟩ := hown.form
      have HO := Lib.hid hown
      have HBW := Lib.hid hA.below
      have hwl : ws.length ≤ 2000000 := hA.len
      have hmax : max (0 : Int) (wrap64 ((p.length : Int) - 9)) = (k : Int) := by
        have : wrap64 ((p.length : Int) - 9) = (p.length : Int) - 9 := by unfold wrap64; omega
        rw [this]; omega
      have hE2 : (bs p).toList.isEmpty = false := by cases h : (bs p).toList with | nil => exact absurd h hE | cons x y => rfl
      clear hA HA HA2 hcl hcd hcn hlt h10 hpl hown
      generalize num (p.drop k) = x at *
      generalize bs (p.drop k) = sx at *
      go_wp2_with fail
      refine (HPU.out _).mono ?_
      rintro e w3 ⟨rfl, hb3⟩
      have HO3 := Lib.hid (Lies.below HO.out hb3)
      have HB3 := Lib.hid (HBW.out.call hb3)
      clear hb3 HO HBW HPU
      have hb5 : Below w3.heap.size w3 (w3.alloc (.cells #[.int .u64 (x : Int)] 120)) := (Below.refl _ _).alloc (Nat.le_refl _) _
      have HL5 := Lib.hid (Lies.below HO3.out hb5)
      have HB5 := Lib.hid (HB3.out.call hb5)
      have hsrc : Hid (Source (w3.alloc (.cells #[.int .u64 (x : Int)] 120)) (some ⟨w3.heap.size, 0, none⟩) 1 [.int .u64 (x : Int)]) := Lib.hid (.inr ⟨_, rfl, World.news_of_block (w := w3.alloc (.cells #[.int .u64 (x : Int)] 120)) (heap_alloc_new w3 _)⟩)
      clear hb5
      go_wp2_with (
           at_builtin
           refine wpList_append_any ?_ (grow noBlock w) (.tmp 30) (.tmp 32) 194 ?_ 120 1 8 (.int .u64 0) Tryz.underlying194 infoU64 rfl (by decide) (.slice A ws.length c) ws.length (u64s ws) ?_ HL5.out _ 1 1 [.int .u64 (x : Int)] ?_ rfl hsrc.out ?_ (by omega) (by decide) ?_
           · with_reducible rfl
           · with_reducible rfl
           · rfl
           · rfl
           · intro u hu; simp at hu; subst hu; rfl
           intro v' w6 hl6 hk6
           have hown : OwnW w w6 v' (ws ++ [x]) := by
             unfold OwnW
             rw [u64s_append, List.length_append, List.length_singleton]
             exact hl6.mono fun y hy => by
               rcases hy with hy | hy
               · exact hy
               · exact .inr (Nat.le_trans HB5.out.size hy)
           have hbw : Below w.heap.size w w6 := HB5.out.trans (hk6.below HB5.out.size fun y hy => by
                 rcases hy.1 with h1 | h1
                 · exact h1.elim
                 · exact h1)
           have hrel := Lib.hid (HS.out v' w6 hown hbw)
           clear hl6 hk6 hown hbw)
      exact ⟨⟨_, _, rfl, hrel.out⟩, by show (bs (p.take k)).size < (bs p).size; rw [bs_size, bs_size, List.length_take]; omega⟩
end Go.Proofs.YtfdodndagakmmaaGreatDoor
/- Layer 7: words gone over from the highest one down (slices.Backward). -/
namespace Go.Proofs.YtfdodndagakmmaaGreatDoor
open Go.RowKit Go.Shelf
attribute [local go_sem] Oper.semAt_some

/-! ### Of no program: appending in a round; what grows -/
section
variable {F₁ : Fence} {n₁ : Nat} {P : Program} {ops : Array Oper} {rest : List Oper} {o : Oper} {a : Act} {w : World} {Q : Exit → Act → World → Prop}
end
theorem KeepsOthers.of_spare {F : Nat → Prop} {w w' : World} {v : Value} {e : TypeId} (h : Kept (fun g => F g ∧ Spare v g ∧ ∃ cur, w.heap[g]? = some (.cells cur e (0, 0))) w w') : KeepsOthers w w' :=
  ⟨h.size, fun k o hk ho => h.heap hk fun ⟨_, _, cur, hc⟩ => by
    rw [hk] at hc
    injection hc with hc
    rw [hc] at ho
    cases ho⟩
theorem KeepsOthers.of_below {w w' : World} (h : Below w.heap.size w w') : KeepsOthers w w' := ⟨h.size, fun k _ hk _ => (h.block k (lt_of_heap hk)).trans hk⟩
theorem kept_turn {X : Nat → Prop} {w : World} (hX : ∀ k, w.heap.size ≤ k → X k) (W : World) (l : Nat) (o₁ o' : Obj) (hl : w.heap.size ≤ l) (_ : W.heap[l]? = some o₁) (_ : o₁.isCells = false) (_ : o₁.isWalk = false) : Kept X W (W.putObj l o') := by
  have hg := grownBy_putObj' W l o'
  exact ⟨hg.os, hg.tape, hg.output, hg.size, fun k hk hn => hg.block k hk fun e => hn (by cases e; exact hX _ hl)⟩
theorem kept_grown {X : Nat → Prop} {a W W' : World} {row : Option Nat} (h : Kept X a W) (hg : W.grownBy W' row) (hr : ∀ r, row = some r → X r) : Kept X a W' :=
  h.trans' ⟨hg.os, hg.tape, hg.output, hg.size, fun k hk hn => hg.block k hk fun e => hn (hr k e.symm)⟩
theorem Kept.cellOf {F : Nat → Prop} {w w' : World} (h : Kept F w w') {p : Addr} {v : Value} (hv : w.cell? p = some v) (hp : ¬ F p.block) : w'.cell? p = some v :=
  (World.cell?_of_block (w := w) (h.block p.block (block_lt_of_cell hv) hp)).trans hv
theorem Row.grown {W W' : World} {row : Option Nat} {k : Nat} {cs : Array Value} {t : TypeId} (hk : Row W k t cs) (hg : W.grownBy W' row) (hr : ∀ r, row = some r → ∃ o : Obj, W.heap[r]? = some o ∧ o.isCells = false) : Row W' k t cs :=
  (grownBy_keeps_cells hg hr (k := k) (o := .cells cs t (0, 0)) hk rfl).trans hk
theorem Lies.grown {W W' : World} {row : Option Nat} {F : Nat → Prop} {e : TypeId} {size n : Nat} {v : Value} {xs : List Value} (h : Lies W F e size v n xs) (hg : W.grownBy W' row) (hr : ∀ r, row = some r → ∃ o : Obj, W.heap[r]? = some o ∧ o.isCells = false) : Lies W' F e size v n xs :=
  h.same fun _ cur _ hh => Row.grown (t := e) (cs := cur) hh hg hr

/-! ### Backward -/
/-- The first j of N, from behind. -/
def frBack (N j : Nat) : List (Fin N) := (List.range j).filterMap fun i => if h : i < N then some ⟨N - 1 - i, by omega⟩ else none
theorem frBack_succ {N j : Nat} (h : j < N) : frBack N (j + 1) = frBack N j ++ [⟨N - 1 - j, by omega⟩] := by simp [frBack, List.range_succ, List.filterMap_append, h]
theorem frBack_length {N j : Nat} (h : j ≤ N) : (frBack N j).length = j := by
  induction j with
  | zero => rfl
  | succ j ih => rw [frBack_succ (by omega), List.length_append, ih (by omega)]; rfl
def oneWord (l : List Nat) {N : Nat} (j : Fin N) : Array Value := #[.int .i64 (j.val : Int), .int .u64 (wat l j.val : Int)]
/-- Block q holds a slice of these words. -/
def BackAt (n₀ q : Nat) (l : List Nat) (W : World) : Prop :=
  ∃ A c, W.cell? ⟨q, 0, none⟩ = some (.slice A l.length c) ∧ l.length ≤ c ∧ c ≤ 9223372036854775807 ∧ ∀ k, k < l.length → ∃ b off, A = some ⟨b, off, none⟩ ∧ b < n₀ ∧ W.cell? ⟨b, off + k, none⟩ = some (.int .u64 (wat l k : Int))

set_option maxRecDepth 100000 in
set_option maxHeartbeats 2000000 in
theorem back1 (l₁ n₀ q : Nat) (l : List Nat) (N : Nat) (hN : N = l.length) (hn : N ≤ 4611686018427387904) (Kp : World → World → Prop) (hKc : ∀ W W', Kp W W' → BackAt n₀ q l W → BackAt n₀ q l W') (J Jx : List (Fin N) → World → Prop)
    (hY : ∀ pre x W, J pre W → pre.length < N → YieldAt Fence.wide 2 Tryz.prog l₁ (oneWord l x) W fun e W' =>
      (e = .returned (.bool true) ∧ J (pre ++ [x]) W' ∧ Kp W W') ∨ (e = .returned (.bool false) ∧ Jx (pre ++ [x]) W'))
    (W : World) (hB : BackAt n₀ q l W) (h0 : J [] W) :
    CallsIn Fence.wide 3 Tryz.prog 225 #[.func (.yield l₁) #[] #[], .pointer (some ⟨q, 0, none⟩)] W fun e W' => (∃ v, e = .returned v) ∧
      ((∃ ys, ys = frBack N N ∧ J ys W') ∨ (∃ pre, (∃ j, j ≤ N ∧ pre = frBack N j) ∧ Jx pre W')) := by
  refine callsIn_of_wp Tryz.func225 rfl trivial ?_ rfl
  simp only [Tryz.ntmps225, List.size_toArray, List.length_cons, List.length_nil, Nat.reduceAdd, Nat.reduceSub, Array.replicate_succ, Array.replicate_zero, List.push_toArray, List.append_toArray, List.nil_append, List.cons_append]
  have hB0 := hB
  obtain ⟨A0, c0, k0, _, k2, _⟩ := hB0
  rw [← hN] at k0
  have HN := Lib.hid hN
  clear hN
  gi_wp2
  clear k0
  gi_loopw [3] (fun v3 wr => ∃ j : Nat, j ≤ N ∧ v3 = .int .i64 ((N : Int) - 1 - j) ∧ J (frBack N j) wr ∧ BackAt n₀ q l wr)
    (fun v3 _ => (intOf v3 + 1).toNat)
  case atStart => exact ⟨0, Nat.zero_le _, by simp, h0, hB⟩
  case round =>
    obtain ⟨j, hj, rfl, hJ, hb⟩ := hrel
    by_cases hlt : j < N
    · obtain ⟨fn, tmps, assign, body, hy, hR⟩ := hY (frBack N j) ⟨N - 1 - j, by omega⟩ wr hJ (by rw [frBack_length hj]; exact hlt)
      rw [← frBack_succ hlt] at hR
      obtain ⟨A, c, c1, h1, h2, h3⟩ := hb
      obtain ⟨b, off, rfl, _, hck⟩ := h3 (N - 1 - j) (by rw [← HN.out]; omega)
      have HK : Hid (∀ W', Kp wr W' → BackAt n₀ q l W') := Lib.hid fun W' hk => hKc wr W' hk ⟨_, c, c1, h1, h2, h3⟩
      unfold oneWord at hy
      obtain ⟨i, hi⟩ : ∃ i, i = N - 1 - j := ⟨_, rfl⟩
      simp only at hy
      rw [← hi] at hy hck
      rw [← HN.out] at c1 h1
      have hii : (N : Int) - 1 - j = (i : Int) := by omega
      rw [hii]
      have hiN : i < N := by omega
      have HI : Hid (i = N - 1 - j) := Lib.hid hi
      clear hY hKc h3 hJ hB h0 hi hii
      generalize wat l i = x at *
      gi_wp2
      refine hR.mono ?_
      rintro e W3 (⟨rfl, hJ3, hk3⟩ | ⟨rfl, hJx3⟩)
      · have hb3 := HK.out W3 hk3
        clear hck hy hR hk3 HK c1
        gi_wp2
        go_roundw
        case rel => exact ⟨j + 1, by omega, by have := HI.out; go_num, hJ3, hb3⟩
        case measure => simp [intOf]
      · gi_wp2
        refine bodyPost_ret (results_none rfl _ _ _) rfl ?_
        exact ⟨⟨_, rfl⟩, .inr ⟨frBack N (j + 1), ⟨j + 1, by omega, rfl⟩, hJx3⟩⟩
    · obtain rfl : j = N := by omega
      have h9 : ¬ (0 : Int) ≤ (j : Int) - 1 - j := by omega
      gi_wp2
      go_end0
      exact ⟨⟨_, rfl⟩, .inl hJ⟩

theorem BackAt.kept {n₀ q : Nat} {l : List Nat} {W W' : World} {F : Nat → Prop} (h : BackAt n₀ q l W) (hb : Kept F W W') (hq : ¬ F q) (hF : ∀ k, k < n₀ → ¬ F k) : BackAt n₀ q l W' := by
  obtain ⟨A, c, h1, h2, h3, h4⟩ := h
  refine ⟨A, c, hb.cellOf h1 hq, h2, h3, fun k hk => ?_⟩
  obtain ⟨b, off, e, hlt, hc⟩ := h4 k hk
  exact ⟨b, off, e, hlt, hb.cellOf hc (hF _ hlt)⟩
theorem BackAt.below {n₀ B q : Nat} {l : List Nat} {W W' : World} (h : BackAt n₀ q l W) (hb : Below B W W') (hq : q < B) (hB : n₀ ≤ B) : BackAt n₀ q l W' := by
  obtain ⟨A, c, h1, h2, h3, h4⟩ := h
  refine ⟨A, c, (hb.cell (p := ⟨q, 0, none⟩) hq).trans h1, h2, h3, fun k hk => ?_⟩
  obtain ⟨b, off, e, hlt, hc⟩ := h4 k hk
  exact ⟨b, off, e, hlt, (hb.cell (p := ⟨b, off + k, none⟩) (by show b < B; omega)).trans hc⟩
theorem back_stops (n₀ q : Nat) (l : List Nat) (N : Nat) (hN : N = l.length) (hn : N ≤ 4611686018427387904) (Kp : World → World → Prop) (hKc : ∀ W W', Kp W W' → BackAt n₀ q l W → BackAt n₀ q l W') (w : World) (hq : q < w.heap.size) (hw : n₀ ≤ w.heap.size) (h : BackAt n₀ q l w) :
    SeqStopsK Fence.wide 3 Tryz.prog 225 #[.pointer (some ⟨q, 0, none⟩)] (oneWord l (N := N)) Kp (fun ys => ys = frBack N N) (fun pre => ∃ j, j ≤ N ∧ pre = frBack N j) N w := by
  intro l₁ J Jx W hW _ _ hY h0
  exact back1 l₁ n₀ q l N hN hn Kp hKc J Jx hY W (h.below hW hq hw) h0
/-- What Backward hands back. -/
def BackPost (n₁ : Nat) (w : World) (l : List Nat) (e : Ending) (w' : World) : Prop :=
  e = .returned (.func (.func 225) #[] #[.pointer (some ⟨w.heap.size, 0, none⟩)]) ∧ BackAt n₁ w.heap.size l w' ∧ Below w.heap.size w w' ∧ w'.heap.size = w.heap.size + 1
theorem back_ok (v : Value) (l : List Nat) (w₁ w : World) (h : Wds w₁ v l) (hbe : Below w₁.heap.size w₁ w) :
    Calls Tryz.prog 222 #[v] w (BackPost w₁.heap.size w l) := by
  obtain ⟨h0, A, c, rfl, h2, h3, _, h4⟩ := h
  have hb : Below w.heap.size w (w.alloc (.cells #[.slice A l.length c] 194)) := (Below.refl _ _).alloc (Nat.le_refl _) _
  have HL : Hid (BackAt w₁.heap.size w.heap.size l (w.alloc (.cells #[.slice A l.length c] 194))) := Lib.hid ⟨A, c, (Row.new w _ _).cell rfl, h2, h3, fun k hk => by
    obtain ⟨b, off, e, hlt, hr⟩ := h4 (by omega)
    exact ⟨b, off, e, hlt, ((hbe.call hb).cell (p := ⟨b, off + k, none⟩) hlt).trans (hr k _ (u64s_get l hk))⟩⟩
  have HB := Lib.hid hb
  clear hb h4 hbe
  go_enter Tryz.func222, Tryz.ntmps222
  go_wp2
  go_ret
  exact ⟨rfl, HL.out, HB.out, by simp⟩
end Go.Proofs.YtfdodndagakmmaaGreatDoor
