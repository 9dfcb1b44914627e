/- Layer 2's law: what a crash leaves, as functions. -/
import Derived.Test.YtielinebhbhegaaDskPlay
namespace Go.Proofs.Ytielinebhbhegaa
open Go.RowKit

theorem tear_one {s old : List Nat} (hs : Sec s) (ho : Sec old) : tear s old 1 = s := by
  unfold tear
  rw [show keptN 1 = 512 from rfl, List.take_of_length_le (by rw [hs.1]; omega), List.drop_of_length_le (by rw [ho.1]; omega), List.append_nil]
theorem tear_none (s old : List Nat) : tear s old 0 = old := by
  unfold tear
  rw [show keptN 0 = 0 from rfl, List.take_zero, List.drop_zero, List.nil_append]
theorem upd_same (f : Int → List Nat) (k : Int) : upd f k (f k) = f := by
  funext j
  unfold upd
  split
  · next h => rw [h]
  · rfl
theorem upd_sec {f : Int → List Nat} (hf : ∀ k, Sec (f k)) (k : Int) {l : List Nat} (hl : Sec l) (j : Int) : Sec (upd f k l j) := by
  unfold upd
  split
  · exact hl
  · exact hf j
theorem getD_sec {ps : List (Int × List Nat)} (hs : ∀ q ∈ ps, Sec q.2) (k : Nat) : Sec (ps.getD k (0, zsec)).2 := by
  rcases Nat.lt_or_ge k ps.length with h | h
  · rw [List.getD_eq_getElem?_getD, List.getElem?_eq_getElem h]; exact hs _ (List.getElem_mem h)
  · rw [List.getD_eq_getElem?_getD, List.getElem?_eq_none h]; exact Sec.zero
theorem crashTo_sec {f : Int → List Nat} {ps : List (Int × List Nat)} (hf : ∀ k, Sec (f k)) (hs : ∀ q ∈ ps, Sec q.2) (picks : List Int) (k : Nat) : ∀ j, Sec (crashTo f ps picks k j) := by
  induction k with
  | zero => exact hf
  | succ k ih => exact upd_sec ih _ (tear_sec (getD_sec hs k) (ih _) _)
theorem crashTo_ones {f : Int → List Nat} {ps : List (Int × List Nat)} (hf : ∀ k, Sec (f k)) (hs : ∀ q ∈ ps, Sec q.2) (k : Nat) (hk : k ≤ ps.length) : crashTo f ps (List.replicate ps.length 1) k = applyP f (ps.take k) := by
  induction k with
  | zero => rfl
  | succ k ih =>
    have e : (List.replicate ps.length (1 : Int)).getD k 0 = 1 := by simp [List.getD_eq_getElem?_getD, show k < ps.length by omega]
    show upd (crashTo f ps _ k) _ (tear _ _ _) = _
    rw [e, tear_one (getD_sec hs k) (crashTo_sec hf hs _ k _), ih (by omega), List.take_succ_eq_append_getElem (by omega), applyP_append]
    simp [applyP, List.getD_eq_getElem?_getD, show k < ps.length by omega]
theorem crashTo_nil (f : Int → List Nat) (ps : List (Int × List Nat)) (k : Nat) : crashTo f ps [] k = f := by
  induction k with
  | zero => rfl
  | succ k ih =>
    show upd (crashTo f ps [] k) _ (tear _ _ _) = _
    rw [show ([] : List Int).getD k 0 = 0 by simp, tear_none, upd_same, ih]
theorem crashTo_out (f : Int → List Nat) (ps : List (Int × List Nat)) (picks : List Int) (j : Int) (hj : j ∉ ps.map (·.1)) (k : Nat) (hk : k ≤ ps.length) : crashTo f ps picks k j = f j := by
  induction k with
  | zero => rfl
  | succ k ih =>
    show upd (crashTo f ps picks k) _ _ j = _
    unfold upd
    rw [if_neg, ih (by omega)]
    intro h
    apply hj
    rw [h]
    refine List.mem_map.2 ⟨ps.getD k (0, zsec), ?_, rfl⟩
    rw [List.getD_eq_getElem?_getD, List.getElem?_eq_getElem (by omega)]
    exact List.getElem_mem _
theorem applyP_out (f : Int → List Nat) (ps : List (Int × List Nat)) (j : Int) (hj : j ∉ ps.map (·.1)) : applyP f ps j = f j := by
  induction ps generalizing f with
  | nil => rfl
  | cons p r ih =>
    show applyP (upd f p.1 p.2) r j = _
    rw [ih _ (fun h => hj (by simp at h ⊢; exact .inr h))]
    unfold upd
    rw [if_neg]
    intro h
    exact hj (by simp [h])
theorem readL_get {f : Int → List Nat} (h : ∀ k, Sec (f k)) (n i : Nat) (hi : i < n * 512) : (readL f 0 n)[i]? = (f ((i / 512 : Nat) : Int))[i % 512]? := by
  induction n with
  | zero => omega
  | succ n ih =>
    rw [readL_succ]
    have hl := readL_length h 0 n
    rcases Nat.lt_or_ge i (n * 512) with h1 | h1
    · rw [List.getElem?_append_left (by omega), ih h1]
    · rw [List.getElem?_append_right (by omega), hl]
      have e1 : i / 512 = n := by omega
      have e2 : i % 512 = i - n * 512 := by omega
      rw [e1, e2, Int.zero_add]
theorem readL_same {f g : Int → List Nat} (hf : ∀ k, Sec (f k)) (hg : ∀ k, Sec (g k)) (n i : Nat) (hi : i < n * 512) (h : f ((i / 512 : Nat) : Int) = g ((i / 512 : Nat) : Int)) : (readL f 0 n)[i]? = (readL g 0 n)[i]? := by
  rw [readL_get hf n i hi, readL_get hg n i hi, h]
theorem secOf_readL {f : Int → List Nat} (h : ∀ k, Sec (f k)) (n i : Nat) (hi : i < n) : secOf (readL f 0 n) i = f (i : Int) := by
  apply List.ext_getElem?
  intro j
  unfold secOf
  rw [List.getElem?_take]
  split
  · next hj =>
    rw [List.getElem?_drop, readL_get h n _ (by omega)]
    have e1 : (i * 512 + j) / 512 = i := by omega
    have e2 : (i * 512 + j) % 512 = j := by omega
    rw [e1, e2]
  · next hj => rw [List.getElem?_eq_none (by rw [(h _).1]; omega)]
theorem readW_in (f : Int → List Nat) (l : List Nat) (m k : Nat) (hk : k < m) : readW f 0 l m (k : Int) = secOf l k := by
  induction m with
  | zero => omega
  | succ m ih =>
    show upd (readW f 0 l m) (0 + (m : Int)) (secOf l m) (k : Int) = _
    unfold upd
    split
    · next h => rw [show k = m by omega]
    · next h => exact ih (by omega)
/-- All of a disk, written whole onto an empty one. -/
theorem readW_all {f : Int → List Nat} (h : ∀ k, Sec (f k)) (n : Nat) (ho : ∀ k : Int, (k < 0 ∨ (n : Int) ≤ k) → f k = zsec) : readW (fun _ => zsec) 0 (readL f 0 n) n = f := by
  funext k
  by_cases hk : k < 0 ∨ (n : Int) ≤ k
  · rw [readW_out _ _ _ _ _ (by omega), ho k hk]
  · obtain ⟨i, rfl⟩ : ∃ i : Nat, k = (i : Int) := ⟨k.toNat, by omega⟩
    rw [readW_in _ _ _ _ (by omega), secOf_readL h n i (by omega)]
end Go.Proofs.Ytielinebhbhegaa
