/- Layer 7: the walk of DecimalBounds. -/
import Derived.Test.YtkbkappbplocoaaDoorDecLaw1
import Derived.Test.YtkbkappbplocoaaDoorDecRefM
namespace Go.Proofs.YtkbkappbplocoaaDoor
open Go.RowKit

/-! ### What the law's numbers are -/
def N9 : List UInt8 := List.replicate 100 57
def most : Dec := ⟨false, N9, 1000⟩
theorem n9_num : num N9 = 10 ^ 100 - 1 := by kernel_rfl
theorem dec_plain (neg : Bool) {l : List UInt8} (hd : Digs l) (h0 : l ≠ []) (h1 : l.head? ≠ some 48) (h2 : l.getLast? ≠ some 48) (e : Int) : dec neg (num l) e = ⟨neg, l, e⟩ := by
  have hc := core_of hd h0 h2
  have hp : 0 < num l := by
    have := num_last hd h0 h2
    omega
  rw [dec_pos neg hp, hc.1, hc.2, dig_num hd h1]
  simp
theorem mk_no {neg : Bool} {n : Nat} {e : Int} (h : mayB (dec neg n e) = false) : mkD neg n e = Dec.zero ∧ mkE neg n e = 4 := by
  unfold mkD mkE
  rw [h]
  exact ⟨rfl, rfl⟩
theorem n9_digs : Digs N9 := allDig_iff.1 (by kernel_rfl)
theorem most_may : May most := (mayB_iff _).1 (by kernel_rfl)
theorem parse_of {l : List UInt8} {q : Parts} (h : parts l = some q) (hl : ¬ 1000 < l.length) : parseD l = mkD q.neg (num (q.a ++ q.b)) q.exp ∧ parseE l = mkE q.neg (num (q.a ++ q.b)) q.exp := by
  unfold parseD parseE
  rw [if_neg hl, if_neg hl, h]
  exact ⟨rfl, rfl⟩
theorem bn1 : parseD (N9 ++ [101, 49, 48, 48, 48]) = most ∧ parseE (N9 ++ [101, 49, 48, 48, 48]) = 0 := by
  have h := parse_of (l := N9 ++ [101, 49, 48, 48, 48]) (q := ⟨false, N9, [], false, [49, 48, 48, 48]⟩) (by kernel_rfl) (by decide)
  rw [h.1, h.2, List.append_nil]
  have e : Parts.exp ⟨false, N9, [], false, [49, 48, 48, 48]⟩ = 1000 := by kernel_rfl
  rw [e]
  exact ⟨most_may.made, most_may.madeE⟩
theorem bn2 : parseD (N9 ++ [57, 101, 49, 48, 48, 48]) = Dec.zero ∧ parseE (N9 ++ [57, 101, 49, 48, 48, 48]) = 4 := by
  have h := parse_of (l := N9 ++ [57, 101, 49, 48, 48, 48]) (q := ⟨false, N9 ++ [57], [], false, [49, 48, 48, 48]⟩) (by kernel_rfl) (by decide)
  rw [h.1, h.2, List.append_nil]
  exact mk_no (by rw [dec_plain false (allDig_iff.1 (by kernel_rfl)) (by decide) (by decide) (by decide)]; kernel_rfl)
theorem bn3 : parseD (N9 ++ [101, 49, 48, 48, 49]) = Dec.zero ∧ parseE (N9 ++ [101, 49, 48, 48, 49]) = 4 := by
  have h := parse_of (l := N9 ++ [101, 49, 48, 48, 49]) (q := ⟨false, N9, [], false, [49, 48, 48, 49]⟩) (by kernel_rfl) (by decide)
  rw [h.1, h.2, List.append_nil]
  exact mk_no (by rw [dec_plain false n9_digs (by decide) (by decide) (by decide)]; kernel_rfl)
theorem sum_as {L : List Dec} {e : Int} {s : Bool} {n : Nat} (h1 : minE L = e) (h2 : sumS e L = (s, n)) : sumD L = mkD s n e ∧ sumE L = mkE s n e := by
  unfold sumD sumE
  rw [h1, h2]
  exact ⟨rfl, rfl⟩
theorem bn4 : sumD [most, ⟨false, [49], 1000⟩] = Dec.zero ∧ sumE [most, ⟨false, [49], 1000⟩] = 4 := by
  have h := sum_as (L := [most, ⟨false, [49], 1000⟩]) (e := 1000) (s := false) (n := 1 * 10 ^ 100) (by kernel_rfl) (by kernel_rfl)
  rw [h.1, h.2, show (1000 : Int) = 1100 - (100 : Nat) by decide, mk_ten, mkE_ten]
  exact mk_no (by kernel_rfl)
theorem may_big {neg : Bool} {n : Nat} {e : Int} (h : n % 10 ≠ 0) (hb : 10 ^ 100 ≤ n) : mayB (dec neg n e) = false := by
  have hp : 0 < n := Nat.lt_of_lt_of_le (Nat.pow_pos (by omega)) hb
  refine mayB_no fun m => ?_
  rw [dec_pos neg hp] at m
  have hl := m.len
  simp only at hl
  have hc : core n = n := by unfold core; rw [tz_stop h]; simp
  rw [hc] at hl
  have h1 := num_lt (dig_digs n)
  rw [num_dig] at h1
  have h2 : 10 ^ (dig n).length ≤ 10 ^ 100 := Nat.pow_le_pow_right (by omega) hl
  omega
theorem bn5 : sumD [most, most, ⟨true, [49], -1000⟩] = Dec.zero ∧ sumE [most, most, ⟨true, [49], -1000⟩] = 4 := by
  have h := sum_as (L := [most, most, ⟨true, [49], -1000⟩]) (e := -1000) (s := false) (n := 2 * (10 ^ 100 - 1) * 10 ^ 2000 - 1) (by kernel_rfl) (by kernel_rfl)
  rw [h.1, h.2]
  exact mk_no (may_big (by decide +kernel) (by decide +kernel))
theorem bn6 : sumD [most, ⟨false, [49], 0⟩, ⟨true, N9, 1000⟩] = ⟨false, [49], 0⟩ ∧ sumE [most, ⟨false, [49], 0⟩, ⟨true, N9, 1000⟩] = 0 := by
  have h := sum_as (L := [most, ⟨false, [49], 0⟩, ⟨true, N9, 1000⟩]) (e := 0) (s := false) (n := 1) (by kernel_rfl) (by kernel_rfl)
  rw [h.1, h.2]
  exact ⟨by kernel_rfl, by kernel_rfl⟩
theorem zset (n : Nat) : (zeros (n + 2)).set 1 46 = 48 :: 46 :: zeros n := by
  unfold zeros
  rw [List.replicate_succ, List.replicate_succ]
  rfl
theorem zlen (n : Nat) : (zeros n).length = n := by unfold zeros; exact List.length_replicate
theorem zparts (n : Nat) (hn : 0 < n) : parts (48 :: 46 :: zeros n) = some ⟨false, [], zeros n, false, []⟩ := by
  have hs := spanT_append (a := zeros n) (r := []) (Digs.zeros n) (by simp)
  rw [List.append_nil] at hs
  have h1 : signed (48 :: 46 :: zeros n) = (false, 48 :: 46 :: zeros n) := by unfold signed; rw [if_neg (by simp)]
  have h2 : ahead (48 :: 46 :: zeros n) = some ([], 46 :: zeros n) := by unfold ahead; rw [if_pos (show (48 :: 46 :: zeros n).head? = some 48 from rfl)]; rfl
  have h3 : behind (46 :: zeros n) = some (zeros n, []) := by
    unfold behind
    rw [if_pos (show (46 :: zeros n).head? = some 46 from rfl)]
    show (if spanT (zeros n) = [] then none else some (spanT (zeros n), spanD (zeros n))) = _
    rw [hs.1, hs.2, if_neg (by intro e; have := congrArg List.length e; rw [zlen] at this; simp at this; omega)]
  have h4 : power [] = some (false, [], []) := rfl
  unfold parts
  rw [h1]
  simp only [h2, h3, h4, if_true]
theorem bn7 : parseD ((zeros 1000).set 1 46) = Dec.zero ∧ parseE ((zeros 1000).set 1 46) = 0 := by
  have h := parse_of (zparts 998 (by omega)) (by rw [List.length_cons, List.length_cons, zlen]; omega)
  rw [zset 998, h.1, h.2]
  have e : num ([] ++ zeros 998) = 0 := num_zeros 998
  simp only
  rw [e, mk_zero, mkE_zero]
  exact ⟨rfl, rfl⟩
theorem bn8 : parseD ((zeros 1000).set 1 46 ++ [48]) = Dec.zero ∧ parseE ((zeros 1000).set 1 46 ++ [48]) = 3 := by
  have : 1000 < ((zeros 1000).set 1 46 ++ [48]).length := by rw [List.length_append, List.length_set, zlen]; decide
  unfold parseD parseE
  rw [if_pos this, if_pos this]
  exact ⟨rfl, rfl⟩
theorem bn9 : mulD most ⟨false, [49], 1⟩ = Dec.zero ∧ mulE most ⟨false, [49], 1⟩ = 4 := by
  have h : mayB (dec false (num N9) 1001) = false := by rw [dec_plain false n9_digs (by decide) (by decide) (by decide)]; kernel_rfl
  have e : num N9 * num [49] = num N9 := by rw [show num [49] = 1 by rfl, Nat.mul_one]
  unfold mulD mulE most
  simp only
  rw [e]
  exact mk_no h
/-- Sum of three, as a call lays them side by side. -/
theorem sum3 {a b c : Dec} (ha : May a) (hb : May b) (hc : May c) : ∀ W : World, PowTab W → Calls Tryd.prog 23 #[.slice (some ⟨W.heap.size, 0, none⟩) 3 3] (W.alloc (.cells #[.bool a.neg, .string (bs a.digits), .int .i64 a.exp, .bool b.neg, .string (bs b.digits), .int .i64 b.exp, .bool c.neg, .string (bs c.digits), .int .i64 c.exp] 23)) fun e w' =>
    e = .returned (.tuple #[decV (sumD [a, b, c]), .int .i64 (sumE [a, b, c] : Nat)]) ∧ Below W.heap.size W w' := fun W h => by
  have hm : ∀ d ∈ [a, b, c], May d := fun d hd => by
    simp only [List.mem_cons, List.not_mem_nil, or_false] at hd
    rcases hd with rfl | rfl | rfl <;> assumption
  have hr := Row.new W 23 #[.bool a.neg, .string (bs a.digits), .int .i64 a.exp, .bool b.neg, .string (bs b.digits), .int .i64 b.exp, .bool c.neg, .string (bs c.digits), .int .i64 c.exp]
  have hh := sum_ok (some ⟨W.heap.size, 0, none⟩) 3 3 [a, b, c] _ rfl (by decide) ⟨rfl, fun _ => ⟨W.heap.size, 0, rfl, hr.lt, fun j v hv => by have := hr.cell (i := j) (v := v) (by simpa [dcs] using hv); simpa using this⟩⟩ hm (h.alloc _)
  refine hh.mono ?_
  rintro e w' ⟨rfl, hb9⟩
  exact ⟨rfl, ((Below.refl _ _).alloc (Nat.le_refl _) _).call hb9⟩
theorem sum2 {a b : Dec} (ha : May a) (hb : May b) : ∀ W : World, PowTab W → Calls Tryd.prog 23 #[.slice (some ⟨W.heap.size, 0, none⟩) 2 2] (W.alloc (.cells #[.bool a.neg, .string (bs a.digits), .int .i64 a.exp, .bool b.neg, .string (bs b.digits), .int .i64 b.exp] 23)) fun e w' =>
    e = .returned (.tuple #[decV (sumD [a, b]), .int .i64 (sumE [a, b] : Nat)]) ∧ Below W.heap.size W w' := fun W h => by
  have hm : ∀ d ∈ [a, b], May d := fun d hd => by
    simp only [List.mem_cons, List.not_mem_nil, or_false] at hd
    rcases hd with rfl | rfl <;> assumption
  have hr := Row.new W 23 #[.bool a.neg, .string (bs a.digits), .int .i64 a.exp, .bool b.neg, .string (bs b.digits), .int .i64 b.exp]
  have hh := sum_ok (some ⟨W.heap.size, 0, none⟩) 2 2 [a, b] _ rfl (by decide) ⟨rfl, fun _ => ⟨W.heap.size, 0, rfl, hr.lt, fun j v hv => by have := hr.cell (i := j) (v := v) (by simpa [dcs] using hv); simpa using this⟩⟩ hm (h.alloc _)
  refine hh.mono ?_
  rintro e w' ⟨rfl, hb9⟩
  exact ⟨rfl, ((Below.refl _ _).alloc (Nat.le_refl _) _).call hb9⟩
theorem Decs.lt {w W : World} {L : List (Nat × Dec)} (h : Decs w W L) : ∀ q ∈ L, q.1 ≠ W.heap.size := fun q hq => by
  obtain ⟨i, hi⟩ := List.getElem?_of_mem hq
  exact Nat.ne_of_lt (h.at_ i q.1 q.2 hi).lt
end Go.Proofs.YtkbkappbplocoaaDoor
