/- Layer 3, pure: sectors and heads as bytes, and what is read off them; a batch is read as it was cut. -/
import Derived.Test.YtljlkmmeedlaiaaDoorPt23
import Derived.Test.YtljlkmmeedlaiaaDoorPt24
import Derived.Test.YtljlkmmeedlaiaaDoorPt27
import Derived.Test.YtljlkmmeedlaiaaDoorPt17
namespace Go.Proofs.YtljlkmmeedlaiaaDoor

theorem zrep (k : Nat) : le (List.replicate k 0) = 0 := by
  induction k with
  | zero => rfl
  | succ k ih => show 0 + 256 * le (List.replicate k 0) = 0; rw [ih]
/-- A sector of the body, written out. -/
theorem secL_eq (r j : Nat) {part : List Nat} (h : part.length ≤ 488) : secL r j part = (leB 8 r ++ leB 4 j) ++ ((part ++ List.replicate (488 - part.length) 0) ++ (leB 8 r ++ leB 4 j)) := by
  obtain ⟨M, hM⟩ : ∃ M, M = leB 8 r ++ leB 4 j := ⟨_, rfl⟩
  have hl : M.length = 12 := by rw [hM]; simp [leB_length]
  have e1 : over zsec 0 M = M ++ List.replicate 500 0 := by
    unfold over zsec
    rw [hl, List.take_zero, List.nil_append, List.drop_replicate]
  have e2 : over (M ++ List.replicate 500 0) 12 part = M ++ (part ++ List.replicate (500 - part.length) 0) := by
    unfold over
    rw [List.take_left' hl, List.drop_append, hl, List.drop_of_length_le (by omega), List.nil_append, List.drop_replicate]
    congr 3
    omega
  have e3 : over (M ++ (part ++ List.replicate (500 - part.length) 0)) 500 M = (M ++ (part ++ List.replicate (488 - part.length) 0)) ++ M := by
    unfold over
    have h1 : (M ++ (part ++ List.replicate (500 - part.length) 0)) = (M ++ (part ++ List.replicate (488 - part.length) 0)) ++ List.replicate 12 0 := by
      rw [List.append_assoc, List.append_assoc, List.replicate_append_replicate]
      congr 3
      omega
    rw [h1, List.take_left' (by simp [hl]; omega), List.drop_of_length_le (by simp [hl]; omega), List.append_nil]
  unfold secL
  rw [← hM, e1, e2, e3, List.append_assoc]
theorem runL_app {r j : Nat} (hr : r < 18446744073709551616) (rest : List Nat) : runL ((leB 8 r ++ leB 4 j) ++ rest) = r := by
  unfold runL
  rw [List.append_assoc, List.take_left' (leB_length 8 r), le_leB, Nat.mod_eq_of_lt hr]
theorem plL_app {r j : Nat} (hj : j < 4294967296) (rest : List Nat) : plL ((leB 8 r ++ leB 4 j) ++ rest) = j := by
  unfold plL
  rw [List.append_assoc, List.drop_left' (leB_length 8 r), List.take_left' (leB_length 4 j), le_leB, Nat.mod_eq_of_lt hj]
theorem secL_drop (r j : Nat) {part : List Nat} (h : part.length ≤ 488) : (secL r j part).drop 500 = (leB 8 r ++ leB 4 j) ++ [] := by
  rw [secL_eq r j h, ← List.append_assoc, List.drop_left' (by simp [leB_length]; omega), List.append_nil]
theorem secL_run {r j : Nat} {part : List Nat} (h : part.length ≤ 488) (hr : r < 18446744073709551616) : runL (secL r j part) = r ∧ runL ((secL r j part).drop 500) = r := by
  rw [secL_drop r j h, secL_eq r j h]
  exact ⟨runL_app hr _, runL_app hr _⟩
theorem secL_pl {r j : Nat} {part : List Nat} (h : part.length ≤ 488) (hj : j < 4294967296) : plL (secL r j part) = j ∧ plL ((secL r j part).drop 500) = j := by
  rw [secL_drop r j h, secL_eq r j h]
  exact ⟨plL_app hj _, plL_app hj _⟩
theorem secL_part {r j k : Nat} {part : List Nat} (h : part.length ≤ 488) (hk : k ≤ part.length) : ((secL r j part).drop 12).take k = part.take k := by
  rw [secL_eq r j h, List.drop_left' (by simp [leB_length]), List.append_assoc, List.take_append_of_le_length hk]
theorem secL_counts {r j base : Nat} {part : List Nat} (h : part.length ≤ 488) (hr : r < 18446744073709551616) (hj : j < 4294967296) (hb : base ≤ r) : countsB base (secL r j part) j = true := by
  unfold countsB
  rw [(secL_run h hr).1, (secL_run h hr).2, (secL_pl h hj).1, (secL_pl h hj).2]
  simp [hb]
/-- A head's sector, written out. -/
theorem headL_eq (r b : Nat) : headL r b = (leB 8 r ++ leB 8 b) ++ (List.replicate 488 0 ++ leB 8 r) := by
  obtain ⟨M, hM⟩ : ∃ M, M = leB 8 r ++ leB 8 b := ⟨_, rfl⟩
  have hl : M.length = 16 := by rw [hM]; simp [leB_length]
  have e1 : over zsec 0 M = M ++ List.replicate 496 0 := by
    unfold over zsec
    rw [hl, List.take_zero, List.nil_append, List.drop_replicate]
  have e2 : over (M ++ List.replicate 496 0) 504 (leB 8 r) = M ++ (List.replicate 488 0 ++ leB 8 r) := by
    unfold over
    have h1 : M ++ List.replicate 496 0 = (M ++ List.replicate 488 0) ++ List.replicate 8 0 := by rw [List.append_assoc, List.replicate_append_replicate]
    have hq : (M ++ List.replicate 488 0).length = 504 := by rw [List.length_append, hl, List.length_replicate]
    rw [h1, List.take_left' hq, List.drop_of_length_le (Nat.le_of_eq (by rw [List.length_append, hq, List.length_replicate, leB_length])), List.append_nil, List.append_assoc]
  unfold headL
  rw [← hM, e1, e2]
theorem headL_val {r b i : Nat} (hr : r < 4611686018427387904) (hb : b ≤ r) (hi : r % 2 = i) : headVal (headL r b) i = (r, b) := by
  have h1 : runL (headL r b) = r := by
    rw [headL_eq]; unfold runL
    rw [List.append_assoc, List.take_left' (leB_length 8 r), le_leB, Nat.mod_eq_of_lt (by omega)]
  have h2 : runL ((headL r b).drop 8) = b := by
    rw [headL_eq]; unfold runL
    rw [List.append_assoc, List.drop_left' (leB_length 8 r), List.take_left' (leB_length 8 b), le_leB, Nat.mod_eq_of_lt (by omega)]
  have h3 : runL ((headL r b).drop 504) = r := by
    rw [headL_eq]; unfold runL
    have hq : ((leB 8 r ++ leB 8 b) ++ List.replicate 488 0).length = 504 := by rw [List.length_append, List.length_append, leB_length, leB_length, List.length_replicate]
    rw [← List.append_assoc, List.drop_left' hq, List.take_of_length_le (by rw [leB_length]; omega), le_leB, Nat.mod_eq_of_lt (by omega)]
  unfold headVal
  rw [h1, h2, h3, if_neg (by omega)]
theorem runL_zero (k : Nat) : runL (zsec.drop k) = 0 := by
  unfold runL zsec
  rw [List.drop_replicate, List.take_replicate, zrep]
theorem headVal_zero (i : Nat) : headVal zsec i = (0, 0) := by
  have h0 := runL_zero 0
  rw [List.drop_zero] at h0
  unfold headVal
  rw [h0, runL_zero, runL_zero]
  split <;> rfl

/-- The sectors of a batch, one by one. -/
def cutS (r j0 : Nat) (b : List Nat) (i : Nat) : List Nat := secL r (j0 + i) (partL (batchL b) i)
theorem batchL_len (b : List Nat) : (batchL b).length = b.length + 4 := by simp [batchL, leB_length]; omega
theorem partL_le (x : List Nat) (i : Nat) : (partL x i).length ≤ 488 := by rw [partL_len]; omega
/-- How the reading stands behind i sectors of a batch. -/
def midSc (c : Sc) (r j0 : Nat) (b : List Nat) (i : Nat) : Sc := ⟨j0 + i, c.used, r, (batchL b).length - i * 488, (batchL b).take (i * 488), c.bs⟩
def endSc (c : Sc) (r j0 : Nat) (b : List Nat) : Sc := ⟨j0 + costN b.length, j0 + costN b.length, r, 0, batchL b, c.bs ++ [b]⟩
theorem take_part (x : List Nat) (i : Nat) : x.take (i * 488) ++ partL x i = x.take ((i + 1) * 488) := by
  unfold partL
  rw [Nat.add_mul, Nat.one_mul, List.take_add]
theorem part_step {c : Sc} {r j0 : Nat} {b : List Nat} {i : Nat} (hi : i < costN b.length) (h0 : c.left = (batchL b).length - i * 488) (hp : c.place = j0 + i) (hr : c.run = r) (hb : c.batch = (batchL b).take (i * 488)) :
    partS c (cutS r j0 b i) = if i + 1 = costN b.length then { endSc c r j0 b with bs := c.bs ++ [b] } else { midSc c r j0 b (i + 1) with used := c.used } := by
  have hbl := batchL_len b
  have hk : min c.left 488 = (partL (batchL b) i).length := by rw [partL_len, h0]; omega
  have hpt : ((cutS r j0 b i).drop 12).take (min c.left 488) = partL (batchL b) i := by
    unfold cutS
    rw [hk, secL_part (partL_le _ _) (Nat.le_refl _), List.take_length]
  unfold partS
  simp only []
  rw [hpt, hb, take_part, hp]
  unfold costN at hi ⊢
  by_cases hl : i + 1 = (b.length + 4 + 487) / 488
  · rw [if_pos (by rw [hk, partL_len, h0]; omega), if_pos hl]
    have ht : (batchL b).take ((i + 1) * 488) = batchL b := List.take_of_length_le (by omega)
    have hd : (batchL b).drop 4 = b := by unfold batchL; rw [List.drop_left' (leB_length 4 _)]
    rw [ht, hd, hr]
    unfold endSc costN
    rw [← hl]
    simp [Nat.add_assoc]
  · rw [if_neg (by rw [hk, partL_len, h0]; omega), if_neg hl]
    unfold midSc
    rw [hk, partL_len, h0, hr]
    have : (batchL b).length - i * 488 - min 488 ((batchL b).length - i * 488) = (batchL b).length - (i + 1) * 488 := by omega
    rw [this, Nat.add_assoc]
/-- The reading goes through the sectors of a batch that are still to come. -/
theorem scan_mid {base r j0 : Nat} {b : List Nat} {rest : List (List Nat)} (hr : r < 18446744073709551616) (hj : j0 + costN b.length < 4294967296) (hbase : base ≤ r) :
    ∀ (k i : Nat) (c : Sc), i + k = costN b.length → 0 < i → 0 < k → c = midSc c r j0 b i → scan base c ((List.range' i k).map (cutS r j0 b) ++ rest) = scan base { endSc c r j0 b with bs := c.bs ++ [b] } rest := by
  intro k
  induction k with
  | zero => intro i c _ _ h; omega
  | succ k ih =>
    intro i c hik hi _ hc
    have hbl := batchL_len b
    have hleft : c.left = (batchL b).length - i * 488 := by rw [hc]; rfl
    have hplace : c.place = j0 + i := by rw [hc]; rfl
    have hrun : c.run = r := by rw [hc]; rfl
    have hbat : c.batch = (batchL b).take (i * 488) := by rw [hc]; rfl
    have hl0 : 0 < c.left := by rw [hleft]; unfold costN at hik; omega
    have hst : stopsB base c (cutS r j0 b i) = false := by
      unfold stopsB cutS
      rw [hplace, secL_counts (partL_le _ _) hr (by omega) hbase, (secL_run (partL_le _ _) hr).1, hrun]
      simp
    have hbeg : beginS c (cutS r j0 b i) = c := by unfold beginS; rw [if_neg (by omega)]
    rw [List.range'_succ, List.map_cons, List.cons_append]
    show (if stopsB base c _ then c else scan base (partS (beginS c _) _) _) = _
    rw [hst, if_neg (by simp), hbeg, part_step (by omega) hleft hplace hrun hbat]
    by_cases hlast : i + 1 = costN b.length
    · obtain rfl : k = 0 := by omega
      rw [if_pos hlast]
      rfl
    · rw [if_neg hlast]
      have h9 := ih (i + 1) { midSc c r j0 b (i + 1) with used := c.used } (by omega) (by omega) (by omega) rfl
      exact h9
/-- A batch is read as it was cut. -/
theorem scan_batch {base r j0 : Nat} {b : List Nat} {rest : List (List Nat)} (hr : r < 18446744073709551616) (hj : j0 + costN b.length < 4294967296) (hbase : base ≤ r) (hb : b.length < 4294967296) {c : Sc} (h0 : c.left = 0) (hp : c.place = j0) (hc : c.run ≤ r) :
    scan base c ((List.range (costN b.length)).map (cutS r j0 b) ++ rest) = scan base { endSc c r j0 b with bs := c.bs ++ [b] } rest := by
  have hbl := batchL_len b
  have hm : 0 < costN b.length := by unfold costN; omega
  obtain ⟨k, hk⟩ : ∃ k, costN b.length = k + 1 := ⟨costN b.length - 1, by omega⟩
  have hst : stopsB base c (cutS r j0 b 0) = false := by
    unfold stopsB cutS
    rw [hp, Nat.add_zero, secL_counts (partL_le _ _) hr (by omega) hbase, (secL_run (partL_le _ _) hr).1, h0]
    simp
    omega
  have hlen4 : le (((cutS r j0 b 0).drop 12).take 4) = b.length := by
    unfold cutS
    rw [secL_part (partL_le _ _) (by rw [partL_len]; omega)]
    have h1 : (partL (batchL b) 0).take 4 = leB 4 b.length := by
      unfold partL
      rw [Nat.zero_mul, List.drop_zero, List.take_take, show min 4 488 = 4 from rfl]
      unfold batchL
      exact List.take_left' (leB_length 4 _)
    rw [h1, le_leB, Nat.mod_eq_of_lt hb]
  have hbeg : beginS c (cutS r j0 b 0) = ⟨c.place, c.used, r, 4 + b.length, [], c.bs⟩ := by
    unfold beginS
    rw [if_pos h0, hlen4]
    unfold cutS
    rw [(secL_run (partL_le _ _) hr).1]
  rw [List.range_eq_range', hk, List.range'_succ, List.map_cons, List.cons_append]
  show (if stopsB base c _ then c else scan base (partS (beginS c _) _) _) = _
  rw [hst, if_neg (by simp), hbeg, part_step (r := r) (j0 := j0) (by omega) (by show 4 + b.length = _; omega) (by show c.place = _; omega) rfl (by simp)]
  by_cases hlast : 0 + 1 = costN b.length
  · obtain rfl : k = 0 := by omega
    rw [if_pos hlast]
    rfl
  · rw [if_neg hlast]
    exact scan_mid hr hj hbase k 1 { midSc ⟨c.place, c.used, r, 4 + b.length, [], c.bs⟩ r j0 b (0 + 1) with used := c.used } (by omega) (by omega) (by omega) rfl
end Go.Proofs.YtljlkmmeedlaiaaDoor
/- Layer 3, pure: how batches lie in a log's body, and what is read of them. -/
namespace Go.Proofs.YtljlkmmeedlaiaaDoor

/-- Batches, each with its run, lie in the body from place o on, up to used; last is the last one's run. -/
def LaidOut (f : Int → List Nat) (a : Int) (B R : Nat) : Nat → Nat → List (Nat × List Nat) → Nat → Nat → Prop
  | o, p, [], used, last => used = o ∧ last = p
  | o, p, (r, b) :: xs, used, last => p ≤ r ∧ B ≤ r ∧ r ≤ R ∧ b.length < 4294967296 ∧ (∀ i, i < costN b.length → f (a + ((o + i : Nat) : Int)) = cutS r o b i) ∧ LaidOut f a B R (o + costN b.length) r xs used last
theorem LaidOut.le {f : Int → List Nat} {a : Int} {B R : Nat} : ∀ {xs : List (Nat × List Nat)} {o p used last : Nat}, LaidOut f a B R o p xs used last → o ≤ used
  | [], _, _, _, _, h => Nat.le_of_eq h.1.symm
  | (_, _) :: _, _, _, _, _, h => Nat.le_trans (Nat.le_add_right _ _) h.2.2.2.2.2.le
/-- What lies from used on may turn, and the bounds may grow. -/
theorem LaidOut.keep {f g : Int → List Nat} {a : Int} {B R R' : Nat} (hR : R ≤ R') : ∀ {xs : List (Nat × List Nat)} {o p used last : Nat}, LaidOut f a B R o p xs used last → (∀ j, o ≤ j → j < used → g (a + (j : Int)) = f (a + (j : Int))) → LaidOut g a B R' o p xs used last
  | [], _, _, _, _, h, _ => h
  | (r, b) :: xs, o, p, used, last, h, hg => by
    have hle := h.2.2.2.2.2.le
    refine ⟨h.1, h.2.1, Nat.le_trans h.2.2.1 hR, h.2.2.2.1, fun i hi => ?_, LaidOut.keep hR h.2.2.2.2.2 fun j h1 h2 => hg j (by omega) h2⟩
    rw [hg (o + i) (by omega) (by omega)]
    exact h.2.2.2.2.1 i hi
/-- A batch more. -/
theorem LaidOut.snoc {f : Int → List Nat} {a : Int} {B R : Nat} {r : Nat} {b : List Nat} (hB : B ≤ r) (hr : r ≤ R) (hb : b.length < 4294967296) : ∀ {xs : List (Nat × List Nat)} {o p used last : Nat}, LaidOut f a B R o p xs used last → last ≤ r →
    (∀ i, i < costN b.length → f (a + ((used + i : Nat) : Int)) = cutS r used b i) → LaidOut f a B R o p (xs ++ [(r, b)]) (used + costN b.length) r
  | [], o, p, used, last, h, hl, hc => by
    obtain ⟨rfl, rfl⟩ := h
    exact ⟨hl, hB, hr, hb, hc, rfl, rfl⟩
  | (r', b') :: xs, o, p, used, last, h, hl, hc => ⟨h.1, h.2.1, h.2.2.1, h.2.2.2.1, h.2.2.2.2.1, LaidOut.snoc hB hr hb h.2.2.2.2.2 hl hc⟩
theorem LaidOut.last_le {f : Int → List Nat} {a : Int} {B R : Nat} : ∀ {xs : List (Nat × List Nat)} {o p used last : Nat}, LaidOut f a B R o p xs used last → p ≤ R → last ≤ R
  | [], _, _, _, _, h, hp => by rw [h.2]; exact hp
  | (_, _) :: _, _, _, _, _, h, _ => h.2.2.2.2.2.last_le h.2.2.1

/-- The sectors of a body from a place on. -/
def bodyFrom (f : Int → List Nat) (a : Int) (N o : Nat) : List (List Nat) := (List.range' o (N - o)).map fun (j : Nat) => f (a + (j : Int))
theorem bodyFrom_split (f : Int → List Nat) (a : Int) {N o k : Nat} (h : o + k ≤ N) : bodyFrom f a N o = (List.range k).map (fun i => f (a + ((o + i : Nat) : Int))) ++ bodyFrom f a N (o + k) := by
  unfold bodyFrom
  have h1 : N - o = k + (N - (o + k)) := by omega
  rw [h1, ← List.range'_append_1, List.map_append]
  congr 1
  rw [List.range'_eq_map_range, List.map_map]
  rfl
/-- The reading goes through batches that lie there. -/
theorem scan_laid {f : Int → List Nat} {a : Int} {B R N : Nat} (hR : R < 18446744073709551616) (hN : N < 4000000000) : ∀ {xs : List (Nat × List Nat)} {o p used last : Nat} {c : Sc}, LaidOut f a B R o p xs used last → used ≤ N → c.left = 0 → c.place = o → c.run = p → c.used = o →
    ∃ c', scan B c (bodyFrom f a N o) = scan B c' (bodyFrom f a N used) ∧ c'.left = 0 ∧ c'.place = used ∧ c'.run = last ∧ c'.used = used ∧ c'.bs = c.bs ++ xs.map (·.2)
  | [], o, p, used, last, c, h, hu, h1, h2, h3, h4 => by
    obtain ⟨rfl, rfl⟩ := h
    exact ⟨c, rfl, h1, h2, h3, h4, by simp⟩
  | (r, b) :: xs, o, p, used, last, c, h, hu, h1, h2, h3, h4 => by
    obtain ⟨hp, hB, hr, hb, hc, hrest⟩ := h
    have hle := hrest.le
    have hsec : (List.range (costN b.length)).map (fun i => f (a + ((o + i : Nat) : Int))) = (List.range (costN b.length)).map (cutS r o b) := List.map_congr_left fun i hi => hc i (List.mem_range.1 hi)
    rw [bodyFrom_split f a (show o + costN b.length ≤ N by omega), hsec, scan_batch (by omega) (by omega) hB hb h1 h2 (by omega)]
    obtain ⟨c', e1, e2, e3, e4, e5, e6⟩ := scan_laid hR hN (c := { endSc c r o b with bs := c.bs ++ [b] }) hrest hu rfl rfl rfl rfl
    refine ⟨c', e1, e2, e3, e4, e5, ?_⟩
    rw [e6]
    simp
/-- Where nothing counts, nothing is read. -/
theorem scan_dead {f : Int → List Nat} {a : Int} {B N used : Nat} {c : Sc} (hp : c.place = used) (h : used < N → countsB B (f (a + (used : Int))) used = false) : scan B c (bodyFrom f a N used) = c := by
  unfold bodyFrom
  rcases Nat.lt_or_ge used N with h1 | h1
  · obtain ⟨k, hk⟩ : ∃ k, N - used = k + 1 := ⟨N - used - 1, by omega⟩
    rw [hk, List.range'_succ, List.map_cons]
    show (if stopsB B c _ then c else _) = c
    rw [if_pos]
    unfold stopsB
    rw [hp, h h1]
    rfl
  · rw [show N - used = 0 by omega]
    rfl
end Go.Proofs.YtljlkmmeedlaiaaDoor
/- Layer 3: slices.Clone of bytes, and of batches. -/
namespace Go.Proofs.YtljlkmmeedlaiaaDoor
open Go.RowKit

/-- The Clone's value: bytes of its own. -/
def ByteClone (w : World) (l : List Nat) (en : Ending) (w' : World) : Prop :=
  ∃ A c, en = .returned (.slice A l.length c) ∧ Lies w' (grow noBlock w) 5 1 (.slice A l.length c) l.length (cellsOf l) ∧ Below w.heap.size w w'
theorem lies_bytes {w : World} {F : Nat → Prop} {v : Value} {n : Nat} {l : List Nat} (h : Lies w F 5 1 v n (cellsOf l)) (hs : Small l) : ∃ A c, v = .slice A n c ∧ Bytes w A n l ∧ n ≤ c ∧ c ≤ maxLen ∧ ∀ a, 0 < n → A = some a → F a.block := by
  obtain ⟨A, c, rfl, h1, h2, hh⟩ := h.holds
  refine ⟨A, c, rfl, Bytes.of_holds hh hs, h1, h2, fun a h0 e => ?_⟩
  obtain ⟨g, off, cap, hv, hg, _⟩ := h.cells h0
  injection hv with hv _ _
  rw [e] at hv
  injection hv with hv
  subst hv
  exact hg
theorem cloneBytes (A : Option Addr) (c : Nat) (l : List Nat) (w : World) (h : Bytes w A l.length l) (hn : l.length ≤ 140737488355328) :
    Calls Tryd.prog 40 #[.slice A l.length c] w (ByteClone w l) := by
  have hq := fun (w : World) (a : Option Addr) (n c : Nat) => Lib.run_eql_slice_nil (P := Tryd.prog) w 41 5 a n c 0 0 Tryd.underlying41
  rcases A with _ | a
  · have hl : Hid (l.length = 0) := Lib.hid (by
      rcases Nat.eq_zero_or_pos l.length with h0 | h0
      · exact h0
      · obtain ⟨_, _, h1, _⟩ := h.2.2 h0; cases h1)
    clear h
    go_enter Tryd.func40, Tryd.ntmps40
    go_wp2
    go_ret
    obtain rfl : l = [] := List.eq_nil_of_length_eq_zero hl.out
    exact ⟨none, 0, rfl, Lies.empty _ _ _ _ _, Below.refl _ _⟩
  · have hsrc : Hid (Source (w.alloc (.cells #[] 5)) (some a) l.length (cellsOf l)) := Lib.hid (h.below ((Below.refl _ _).alloc (Nat.le_refl _) _)).source
    have hcl : (cellsOf l).length = l.length * 1 := by rw [cellsOf_length, Nat.mul_one]
    clear h
    go_enter Tryd.func40, Tryd.ntmps40
    go_wp2_with (first
      | (at_builtin
         refine wpList_append_any ?_ (grow noBlock w) (.tmp 5) (.tmp 6) 41 ?_ 5 1 1 (.int .u8 0) Tryd.underlying41 infoU8s rfl (by decide) _ 0 [] ?_ (Lies.empty _ _ _ _ (some ⟨w.heap.size, 0, none⟩)) (some a) l.length c (cellsOf l) ?_ hcl hsrc.out (cellsOf_one l) (by omega) (by decide) ?_
         · with_reducible rfl
         · with_reducible rfl
         · rfl
         · rfl
         intro v' w' hl' hk'))
    go_ret
    have hl2 : Lies w' (grow noBlock w) 5 1 v' l.length (cellsOf l) := by
      simpa using hl'.mono fun k hk => by
        rcases hk with hk | hk
        · exact hk
        · exact .inr (by simp at hk; omega)
    obtain ⟨A', c', rfl, _, _⟩ := hl2.form
    exact ⟨A', c', rfl, hl2, ((Below.refl _ _).alloc (Nat.le_refl _) _).trans (hk'.below (by simp) fun k hk => by
        rcases hk.1 with h1 | h1
        · exact h1.elim
        · exact h1)⟩
theorem infoBats : (Tryd.prog.info? 41).map (fun i => (i.zero, i.size, i.bytes)) = some (some (.slice none 0 0), 1, 24) := by kernel_rfl
theorem cloneBats (A : Option Addr) (c : Nat) (xs : List Bat) (w : World) (h : Holds w A xs.length 1 (bvs xs)) (hn : xs.length ≤ 1000000) :
    Calls Tryd.prog 58 #[.slice A xs.length c] w (CloneOf w 41 1 xs.length (bvs xs)) := by
  have hq := fun (w : World) (a : Option Addr) (n c : Nat) => Lib.run_eql_slice_nil (P := Tryd.prog) w 36 41 a n c 0 0 Tryd.underlying36
  rcases A with _ | a
  · have hl : Hid (xs.length = 0) := Lib.hid (by
      rcases Nat.eq_zero_or_pos xs.length with h0 | h0
      · exact h0
      · obtain ⟨_, _, h1, _⟩ := h.2 h0; cases h1)
    clear h
    go_enter Tryd.func58, Tryd.ntmps58
    go_wp2
    go_ret
    obtain rfl : xs = [] := List.eq_nil_of_length_eq_zero hl.out
    exact ⟨_, rfl, Lies.empty _ _ _ _ _, Below.refl _ _⟩
  · have hsrc : Hid (Source (w.alloc (.cells #[] 41)) (some a) xs.length (bvs xs)) := Lib.hid (h.below ((Below.refl _ _).alloc (Nat.le_refl _) _)).source
    have hcl : (bvs xs).length = xs.length * 1 := by simp [bvs]
    clear h
    go_enter Tryd.func58, Tryd.ntmps58
    go_wp2_with (first
      | (at_builtin
         refine wpList_append_any ?_ (grow noBlock w) (.tmp 5) (.tmp 6) 36 ?_ 41 1 24 (.slice none 0 0) Tryd.underlying36 infoBats rfl (by decide) _ 0 [] ?_ (Lies.empty _ _ _ _ (some ⟨w.heap.size, 0, none⟩)) (some a) xs.length c (bvs xs) ?_ hcl hsrc.out (bvs_one xs) (by omega) (by decide) ?_
         · with_reducible rfl
         · with_reducible rfl
         · rfl
         · rfl
         intro v' w' hl' hk'))
    go_ret
    refine ⟨v', rfl, ?_, ?_⟩
    · simpa using hl'.mono fun k hk => by
        rcases hk with hk | hk
        · exact hk
        · exact .inr (by simp at hk; omega)
    · exact ((Below.refl _ _).alloc (Nat.le_refl _) _).trans (hk'.below (by simp) fun k hk => by
        rcases hk.1 with h1 | h1
        · exact h1.elim
        · exact h1)
end Go.Proofs.YtljlkmmeedlaiaaDoor
