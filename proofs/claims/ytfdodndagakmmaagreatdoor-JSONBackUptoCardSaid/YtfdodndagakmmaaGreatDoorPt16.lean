/- Layer 8: depth. -/
import Derived.Test.YtfdodndagakmmaaGreatDoorPt15
namespace Go.Proofs.YtfdodndagakmmaaGreatDoor
open Go.RowKit

theorem depthKids_take (l : List JV) : ∀ i, i < l.length → depthKids (l.take (i + 1)) = max (depthKids (l.take i)) (depthJ (l.getD i JV.null)) := by
  induction l with
  | nil => intro i hi; simp at hi
  | cons x l ih =>
    intro i hi
    cases i with
    | zero =>
      simp only [List.take_succ_cons, List.take_zero, List.getD_cons_zero]
      have e0 : depthKids [] = 0 := by rw [depthKids]
      rw [e0, depthKids, e0]
      omega
    | succ i =>
      rw [List.take_succ_cons, List.take_succ_cons, depthKids, depthKids, ih i (by simpa using hi)]
      simp only [List.getD_cons_succ]
      omega
theorem depthKids_le (l : List JV) (i : Nat) : depthKids (l.take i) ≤ depthKids l := by
  induction l generalizing i with
  | nil => simp
  | cons x l ih =>
    cases i with
    | zero => rw [List.take_zero, depthKids]; exact Nat.zero_le _
    | succ i =>
      rw [List.take_succ_cons, depthKids, depthKids]
      have := ih i
      omega
set_option maxRecDepth 100000 in
set_option maxHeartbeats 4000000 in
theorem jdepth_ok : ∀ (n : Nat) (v : JV), SizeOf.sizeOf v ≤ n → depthJ v ≤ 1000000 → ∀ (F : Nat → Prop) (g off : Nat) (w : World), JAtP w F g off v →
    Calls Tryz.prog 51 #[.pointer (some ⟨g, off, none⟩)] w fun e w' => e = .returned (.int .i64 (depthJ v : Nat)) ∧ Below w.heap.size w w' := by
  intro n
  induction n with
  | zero => intro v hv; cases v; simp at hv
  | succ n ih =>
    intro v hv hd F g off w h
    obtain ⟨k, b, d, t, l, ns⟩ := v
    have hsz : ∀ x ∈ l, SizeOf.sizeOf x ≤ n := fun x hx => by
      have := List.sizeOf_lt_of_mem hx
      simp only [JV.mk.sizeOf_spec] at hv
      omega
    obtain ⟨A, c, A', c', q0, _, _, _, _, _, q6, _, h1, h2, _, _, _, h8⟩ := h.open_
    by_cases hk : k = 4 ∨ k = 5
    · have hde : depthJ (.mk k b d t l ns) = depthKids l + 1 := by rw [depthJ, if_pos hk]
      rw [hde] at hd ⊢
      have IH : Hid (∀ i, i < l.length → ∀ V, Below w.heap.size w V → ∃ g2 off2, A = some ⟨g2, off2, none⟩ ∧ Calls Tryz.prog 51 #[.pointer (some ⟨g2, off2 + i * 8, none⟩)] V fun e w' => e = .returned (.int .i64 (depthJ (l.getD i JV.null) : Nat)) ∧ Below V.heap.size V w') := Lib.hid fun i hi V hb => by
        obtain ⟨g2, off2, hA, hj⟩ := h8 i hi
        have hm : l.getD i JV.null ∈ l := by rw [List.getD_eq_getElem?_getD, List.getElem?_eq_getElem hi]; exact List.getElem_mem _
        exact ⟨g2, off2, hA, ih _ (hsz _ hm) (by have := depthKids_mem _ hm; omega) F g2 (off2 + i * 8) V (hj.below hb)⟩
      have HT := Lib.hid (depthKids_take l)
      have HLE := Lib.hid (depthKids_le l)
      have hgl := h.1
      have HC := Lib.hid (fun (V : World) (hb : Below w.heap.size w V) => (hb.cell (p := ⟨g, off + 6, none⟩) hgl).trans q6)
      clear hsz h8 h hv hde ih
      generalize hm : l.length = m at *
      have HM := Lib.hid hm
      clear hm
      unfold maxLen at h2
      have fork : ∀ (_ : (k == 4) = true ∨ ((k == 4) = false ∧ (k == 5) = true)), Calls Tryz.prog 51 #[.pointer (some ⟨g, off, none⟩)] w fun e w' => e = .returned (.int .i64 ((depthKids l + 1 : Nat) : Int)) ∧ Below w.heap.size w w' := by
        intro hkk
        go_enter Tryz.func51, Tryz.ntmps51
        rcases hkk with e4 | ⟨e4, e5⟩
        · go_wp2_with fail
          go_loopw [3, 4, 17] (fun v3 v4 v17 wr => ∃ (i y : Nat), i ≤ m ∧ v17 = .int .i64 (i : Int) ∧ v3 = .int .i64 (y : Int) ∧ y ≤ 1000000 ∧ Hid (y = depthKids (l.take i)) ∧ Hid (Below w.heap.size w wr)) (fun _ _ v17 _ => m - (intOf v17).toNat)
          case atStart => exact ⟨0, 0, Nat.zero_le _, rfl, rfl, by omega, Lib.hid (by rw [List.take_zero, depthKids]), Lib.hid (Below.refl _ _)⟩
          case round =>
            obtain ⟨i, y, hi, rfl, rfl, hy, HY, HB⟩ := hrel
            by_cases hlt : i < m
            · have q9 := HC.out wr HB.out
              obtain ⟨g2, off2, rfl, hcall⟩ := IH.out i hlt wr HB.out
              have HK := Lib.hid hcall
              have HT2 := Lib.hid (HT.out i hlt)
              have HL2 := HLE.out (i + 1)
              have HT3 : Hid (depthKids (l.take (i + 1)) = max y (depthJ (l.getD i JV.null))) := Lib.hid (by rw [HT2.out, ← HY.out])
              rw [HT3.out] at HL2
              clear HT2
              clear hcall
              generalize depthJ (l.getD i JV.null) = z at *
              have hz : max y z ≤ 1000000 := by omega
              go_wp2_with fail
              refine HK.out.mono ?_
              rintro e w2 ⟨rfl, hb⟩
              have HB2 := Lib.hid (HB.out.call hb)
              clear hb
              go_wp2_with fail
              have hmx : max (y : Int) (z : Int) = ((max y z : Nat) : Int) := by omega
              exact ⟨⟨i + 1, max y z, by omega, by go_num, by first | rfl | (rw [← hmx]) | (simp only [Value.int.injEq, true_and]; omega), hz, Lib.hid HT3.out.symm, HB2⟩, by simp [intOf]; omega⟩
            · obtain rfl : i = m := by omega
              have HYF : Hid (y = depthKids l) := Lib.hid (by rw [HY.out, List.take_of_length_le (by rw [HM.out]; exact Nat.le_refl _)])
              go_wp2_with fail
              go_ret
              exact ⟨by rw [← HYF.out]; rfl, HB.out⟩
        · go_wp2_with fail
          go_loopw [3, 4, 17] (fun v3 v4 v17 wr => ∃ (i y : Nat), i ≤ m ∧ v17 = .int .i64 (i : Int) ∧ v3 = .int .i64 (y : Int) ∧ y ≤ 1000000 ∧ Hid (y = depthKids (l.take i)) ∧ Hid (Below w.heap.size w wr)) (fun _ _ v17 _ => m - (intOf v17).toNat)
          case atStart => exact ⟨0, 0, Nat.zero_le _, rfl, rfl, by omega, Lib.hid (by rw [List.take_zero, depthKids]), Lib.hid (Below.refl _ _)⟩
          case round =>
            obtain ⟨i, y, hi, rfl, rfl, hy, HY, HB⟩ := hrel
            by_cases hlt : i < m
            · have q9 := HC.out wr HB.out
              obtain ⟨g2, off2, rfl, hcall⟩ := IH.out i hlt wr HB.out
              have HK := Lib.hid hcall
              have HT2 := Lib.hid (HT.out i hlt)
              have HL2 := HLE.out (i + 1)
              have HT3 : Hid (depthKids (l.take (i + 1)) = max y (depthJ (l.getD i JV.null))) := Lib.hid (by rw [HT2.out, ← HY.out])
              rw [HT3.out] at HL2
              clear HT2
              clear hcall
              generalize depthJ (l.getD i JV.null) = z at *
              have hz : max y z ≤ 1000000 := by omega
              go_wp2_with fail
              refine HK.out.mono ?_
              rintro e w2 ⟨rfl, hb⟩
              have HB2 := Lib.hid (HB.out.call hb)
              clear hb
              go_wp2_with fail
              have hmx : max (y : Int) (z : Int) = ((max y z : Nat) : Int) := by omega
              exact ⟨⟨i + 1, max y z, by omega, by go_num, by first | rfl | (rw [← hmx]) | (simp only [Value.int.injEq, true_and]; omega), hz, Lib.hid HT3.out.symm, HB2⟩, by simp [intOf]; omega⟩
            · obtain rfl : i = m := by omega
              have HYF : Hid (y = depthKids l) := Lib.hid (by rw [HY.out, List.take_of_length_le (by rw [HM.out]; exact Nat.le_refl _)])
              go_wp2_with fail
              go_ret
              exact ⟨by rw [← HYF.out]; rfl, HB.out⟩
      refine fork ?_
      rcases hk with rfl | rfl
      · exact .inl rfl
      · exact .inr ⟨rfl, rfl⟩
    · have hde : depthJ (.mk k b d t l ns) = 0 := by rw [depthJ, if_neg hk]
      rw [hde]
      have e4 : (k == 4) = false := by rw [beq_eq_false_iff_ne]; exact fun e => hk (.inl e)
      have e5 : (k == 5) = false := by rw [beq_eq_false_iff_ne]; exact fun e => hk (.inr e)
      clear hsz h8 h hv hde ih hd hk
      go_enter Tryz.func51, Tryz.ntmps51
      go_wp2
      go_ret
      exact ⟨rfl, Below.refl _ _⟩
end Go.Proofs.YtfdodndagakmmaaGreatDoor
/- Layer 8: isZero. -/
namespace Go.Proofs.YtfdodndagakmmaaGreatDoor
open Go.RowKit

/-- Does a value name nothing (whatever its kind is)? -/
def zB (b : Bool) (d : Dec) (t : List UInt8) (n m : Nat) : Bool := !b && (!d.neg && d.digits.isEmpty && decide (d.exp = 0)) && t.isEmpty && decide (n = 0) && decide (m = 0)
theorem bs_no {l : List UInt8} (h : l ≠ []) : (bs l).toList.isEmpty = false ∧ ¬ (bs l).toList = [] := by
  rw [bs_toList]
  exact ⟨by cases hh : l with | nil => exact absurd hh h | cons x r => rfl, h⟩
set_option maxRecDepth 100000 in
set_option maxHeartbeats 4000000 in
theorem jisZero_ok (g off : Nat) (b : Bool) (d : Dec) (t : List UInt8) (A A' : Option Addr) (n c m c' : Nat) (w : World)
    (q1 : w.cell? ⟨g, off + 1, none⟩ = some (.bool b)) (q2 : w.cell? ⟨g, off + 2, none⟩ = some (.bool d.neg)) (q3 : w.cell? ⟨g, off + 3, none⟩ = some (.string (bs d.digits))) (q4 : w.cell? ⟨g, off + 4, none⟩ = some (.int .i64 d.exp))
    (q5 : w.cell? ⟨g, off + 5, none⟩ = some (.string (bs t))) (q6 : w.cell? ⟨g, off + 6, none⟩ = some (.slice A n c)) (q7 : w.cell? ⟨g, off + 7, none⟩ = some (.slice A' m c')) :
    Calls Tryz.prog 96 #[.pointer (some ⟨g, off, none⟩)] w fun e w' => e = .returned (.bool (zB b d t n m)) ∧ w = w' := by
  obtain ⟨dn, dl, dx⟩ := d
  simp only at q2 q3 q4
  have ht0 : (bs []).toList = [] := bs_toList []
  have fin : ∀ r, zB b ⟨dn, dl, dx⟩ t n m = r → (Calls Tryz.prog 96 #[.pointer (some ⟨g, off, none⟩)] w fun e w' => e = .returned (.bool r) ∧ w = w') → Calls Tryz.prog 96 #[.pointer (some ⟨g, off, none⟩)] w fun e w' => e = .returned (.bool (zB b ⟨dn, dl, dx⟩ t n m)) ∧ w = w' := fun r e h => by rw [e]; exact h
  cases b with
  | true =>
    refine fin false (by simp [zB]) ?_
    clear fin
    go_enter Tryz.func96, Tryz.ntmps96
    go_wp2
    go_ret
    exact ⟨rfl, rfl⟩
  | false =>
    cases dn with
    | true =>
      refine fin false (by simp [zB]) ?_
      clear fin
      go_enter Tryz.func96, Tryz.ntmps96
      go_wp2
      go_ret
      exact ⟨rfl, rfl⟩
    | false =>
      by_cases h1 : dl = []
      · subst h1
        by_cases h2 : dx = 0
        · subst h2
          by_cases h3 : t = []
          · subst h3
            by_cases h4 : n = 0
            · subst h4
              by_cases h5 : m = 0
              · subst h5
                refine fin true (by simp [zB]) ?_
                clear fin
                go_enter Tryz.func96, Tryz.ntmps96
                go_wp2
                go_ret
                exact ⟨rfl, rfl⟩
              · refine fin false (by simp [zB, h5]) ?_
                have e5 : ((m : Int) == 0) = false := by rw [beq_eq_false_iff_ne]; omega
                clear fin
                go_enter Tryz.func96, Tryz.ntmps96
                go_wp2
                go_ret
                exact ⟨rfl, rfl⟩
            · refine fin false (by simp [zB, h4]) ?_
              have e4 : ((n : Int) == 0) = false := by rw [beq_eq_false_iff_ne]; omega
              clear fin
              go_enter Tryz.func96, Tryz.ntmps96
              go_wp2
              go_ret
              exact ⟨rfl, rfl⟩
          · refine fin false (by simp [zB, h3]) ?_
            obtain ⟨e1, e2⟩ := bs_no h3
            clear fin h3
            go_enter Tryz.func96, Tryz.ntmps96
            go_wp2
            go_ret
            exact ⟨rfl, rfl⟩
        · refine fin false (by simp [zB, h2]) ?_
          have e2 : (dx == 0) = false := by rw [beq_eq_false_iff_ne]; exact h2
          clear fin
          go_enter Tryz.func96, Tryz.ntmps96
          go_wp2
          go_ret
          exact ⟨rfl, rfl⟩
      · refine fin false (by simp [zB, h1]) ?_
        obtain ⟨e1, e2⟩ := bs_no h1
        clear fin h1
        go_enter Tryz.func96, Tryz.ntmps96
        go_wp2
        go_ret
        exact ⟨rfl, rfl⟩
end Go.Proofs.YtfdodndagakmmaaGreatDoor
