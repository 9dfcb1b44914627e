/- Layer 7: the document's Mul, walked. -/
import Derived.Test.YthgjelpmdndceaaGreatDoorPt37
import Derived.StillTailTactics
import Derived.Test.YthgjelpmdndceaaGreatDoorPt29
namespace Go.Proofs.YthgjelpmdndceaaGreatDoor
open Go.RowKit

theorem infoI64 : (Tryz.prog.info? 3).map (fun i => (i.zero, i.size, i.bytes)) = some (some (.int .i64 0), 1, 8) := by kernel_rfl
section
variable {P : Program} {ops : Array Oper} {rest : List Oper} {o : Oper} {a : Act} {w : World} {Q : Exit → Act → World → Prop}
/-- 'make([]int, n)'. -/
theorem wpList_make_i64 (hgd : o.guard = none) (t e : TypeId) (x : Operand) (ho : o.op = .makeSlice t x x) (n : Nat) (hx : a.eval x = .int .i64 n) (ht : P.underlying t = some (.slice e))
    (hi : (P.info? e).map (fun i => (i.zero, i.size, i.bytes)) = some (some (.int .i64 0), 1, 8)) (hn : n ≤ 17592186044416)
    (h : wpList P ops Q rest (a.put o.dst (.slice (some ⟨w.heap.size, 0, none⟩) n n)) (w.alloc (.cells (i64s (List.replicate n 0)).toArray e))) : wpList P ops Q (o :: rest) a w := by
  obtain ⟨i, hi, hz, hs, hb⟩ := info_parts hi
  have hr := run_make (P := P) w t e i _ ht hi hz .i64 .i64 n n (by omega) (Int.le_refl _) (by rw [hb]; omega) (by omega)
  rw [hs, Nat.mul_one] at hr
  have e1 : madeCells (Value.int .i64 0).cells n = (i64s (List.replicate n 0)).toArray := by
    apply Array.toList_inj.1
    have := toList_madeCells_one (.int .i64 0) n
    simp only [i64s, List.map_replicate]
    exact this
  simp only [Int.toNat_natCast] at hr
  rw [e1] at hr
  refine wpList_plain hgd fun K hK => ?_
  unfold Oper.wp
  simp [execOp, ho, hx, hr, Result.andThen]
  exact hK _ _ h
end
set_option maxHeartbeats 4000000 in
set_option maxRecDepth 100000 in
theorem rmul_ok (a b : List UInt8) (w : World) (ha : Digs a) (hb : Digs b) (hl : a.length ≤ 1000000) (hlb : b.length ≤ 1000000) :
    Calls Tryz.prog 36 #[.string (bs a), .string (bs b)] w fun e w' => e = .returned (.string (bs (dig (num a * num b)))) ∧ Below w.heap.size w w' := by
  have hsa := bs_size a
  have hsb := bs_size b
  obtain ⟨m, hm⟩ : ∃ m, m = a.length := ⟨_, rfl⟩
  obtain ⟨n, hn⟩ : ∃ n, n = b.length := ⟨_, rfl⟩
  have HM := Lib.hid hm
  have HN := Lib.hid hn
  rw [← hm] at hsa hl
  rw [← hn] at hsb hlb
  have HA := Lib.hid ha
  have HB := Lib.hid hb
  have HDA : Hid (∀ k, k < m → ∀ W, Calls Tryz.prog 58 #[.string (bs a), .int .i64 (k : Int)] W fun e w' => e = .returned (.int .i64 (dAt a k : Nat)) ∧ W = w') := Lib.hid fun k hk W => rdigit_ok a k W ha (by rw [← hm]; omega) (by omega)
  have HDB : Hid (∀ k, k < n → ∀ W, Calls Tryz.prog 58 #[.string (bs b), .int .i64 (k : Int)] W fun e w' => e = .returned (.int .i64 (dAt b k : Nat)) ∧ W = w') := Lib.hid fun k hk W => rdigit_ok b k W hb (by rw [← hn]; omega) (by omega)
  clear hm hn ha hb
  obtain ⟨N, hNN⟩ : ∃ N, N = m + n := ⟨_, rfl⟩
  have hN2 : (m : Int) + (n : Int) = (N : Int) := by omega
  have hNl : N ≤ 2000000 := by omega
  have HNN := Lib.hid hNN
  clear hNN
  obtain ⟨w1, hw1⟩ : ∃ w1, w1 = w.alloc (.cells (i64s (List.replicate N 0)).toArray 3) := ⟨_, rfl⟩
  have HR1 : Hid (Row w1 w.heap.size 3 (i64s (List.replicate N 0)).toArray) := Lib.hid (by subst hw1; exact Row.new _ _ _)
  have HB1 : Hid (Below w.heap.size w w1) := Lib.hid (by subst hw1; exact (Below.refl _ _).alloc (Nat.le_refl _) _)
  have HS : Hid (MulT a b 0 0 (List.replicate N 0)) := Lib.hid (by rw [HNN.out, HM.out, HN.out]; exact MulT.start a b)
  go_enter Tryz.func36, Tryz.ntmps36
  generalize bs a = sa at *
  generalize bs b = sb at *
  go_upto_region 2 with (
      skip
      refine wpList_make_i64 ?_ 86 3 (.tmp 16) ?_ N ?_ Tryz.underlying86 infoI64 (by omega) ?_
      · with_reducible rfl
      · with_reducible rfl
      · exact congrArg (Value.int .i64) (by omega))
  rw [← hw1]
  clear hw1
  go_wp2_with fail
  go_loopw [6] (fun v6 wr => ∃ (i : Nat) (out : List Nat), i ≤ m ∧ v6 = .int .i64 i ∧ Hid (Row wr w.heap.size 3 (i64s out).toArray ∧ Below w.heap.size w wr) ∧ Hid (MulT a b i 0 out)) (fun v6 _ => m - (intOf v6).toNat)
  case atStart => exact ⟨0, _, Nat.zero_le _, rfl, Lib.hid ⟨HR1.out, HB1.out⟩, HS⟩
  case round =>
    obtain ⟨i, out, hi, rfl, HR, HO⟩ := hrel
    by_cases hlt : i < m
    · have HDA2 := Lib.hid (HDA.out i hlt)
      go_wp2_with fail
      go_loopw [7] (fun v7 wq => ∃ (k : Nat) (out2 : List Nat), k ≤ n ∧ v7 = .int .i64 k ∧ Hid (Row wq w.heap.size 3 (i64s out2).toArray ∧ Below w.heap.size w wq) ∧ Hid (MulT a b i k out2)) (fun v7 _ => n - (intOf v7).toNat)
      case atStart => exact ⟨0, out, Nat.zero_le _, rfl, HR, HO⟩
      case round =>
        obtain ⟨k, out2, hk, rfl, HR2, HO2⟩ := hrel
        by_cases hkt : k < n
        · have HDB2 := Lib.hid (HDB.out k hkt)
          have hlen := HO2.out.len
          rw [← HM.out, ← HN.out] at hlen
          obtain ⟨p, hp⟩ : ∃ p, p = i + k := ⟨_, rfl⟩
          have hpi : (i : Int) + (k : Int) = (p : Int) := by omega
          have hpN : p < N := by have := HNN.out; omega
          have kc := HR2.out.1.cell (i := p) (v := .int .i64 (wat out2 p : Int)) (by rw [List.getElem?_toArray]; exact i64s_get _ (by omega))
          have fc := HR2.out.1.free p
          have HST := Lib.hid (HO2.out.step (by rw [← HM.out]; exact hlt) (by rw [← HN.out]; exact hkt))
          have hlow := HO2.out.low p (by omega)
          have hda := dAt_lt a i
          have hdb := dAt_lt b k
          rw [← hp] at HST
          clear hp hlen
          generalize dAt a i = da at *
          generalize dAt b k = db at *
          obtain ⟨M, hM⟩ : ∃ M, M = da * db := ⟨_, rfl⟩
          have hM2 : M ≤ 81 := by rw [hM]; exact Nat.mul_le_mul (show da ≤ 9 by omega) (show db ≤ 9 by omega)
          have hm1 : (da : Int) * (db : Int) = (M : Int) := by rw [hM]; exact (Int.natCast_mul da db).symm
          rw [← hM] at HST
          clear hM
          obtain ⟨u, hu⟩ : ∃ u, u = wat out2 p := ⟨_, rfl⟩
          rw [← hu] at HST kc hlow
          clear hu
          obtain ⟨s, hs⟩ : ∃ s, s = u + M := ⟨_, rfl⟩
          have hs1 : (u : Int) + (M : Int) = (s : Int) := by omega
          rw [← hs] at HST
          have hsl : s ≤ 100000000 := by omega
          have hwr : IntKind.i64.wrap (s : Int) = (s : Int) := IntWalk.i64_in _ (by omega)
          have hwp : IntKind.i64.wrap (p : Int) = (p : Int) := IntWalk.i64_in _ (by omega)
          have hwM : IntKind.i64.wrap (M : Int) = (M : Int) := IntWalk.i64_in _ (by omega)
          clear hs
          have HROW := Lib.hid (HR2.out.1.set_ p (.int .i64 (s : Int)))
          rw [i64s_set] at HROW
          have HBL := Lib.hid (HR2.out.2.setCell (p := ⟨w.heap.size, p, none⟩) (Nat.le_refl _) (.int .i64 (s : Int)))
          have hpN2 : (p : Int) < (N : Int) := by omega
          have HBQ := Lib.hid (HR2.out.2.drew)
          have HBD := Lib.hid (HR2.out.2.drew.setCell (p := ⟨w.heap.size, p, none⟩) (Nat.le_refl _) (.int .i64 (s : Int)))
          have hrd := HR2.out.1.drew.set_ p (.int .i64 (s : Int))
          rw [i64s_set] at hrd
          have HROWD := Lib.hid hrd
          clear hrd HROW HBL
          go_wp2_with fail
          refine wp_region_held_drew (S := (fun W => Below w.heap.size w W)) (by kernel_rfl) (HBQ.out) (fun hHeld => ?_)
          refine wpAnyH_take (i := 0) (oi := ?_) (v := ?_) ?_ (by kernel_rfl) (by kernel_rfl) (by kernel_rfl) ?_ ?_ (by assumption) ?_
          rotate_left 2
          · simp only [List.getElem?_toArray, List.getElem?_cons_zero]; with_reducible rfl
          · exact fun _ _ _ h => h
          · refine Or.inl ⟨by rfl, ?_⟩; intro W hSw; go_simp; try with_reducible rfl
          try simp only [Act.put, List.setIfInBounds_toArray, List.set_cons_zero, List.set_cons_succ]
          refine wpAnyH_take (i := 1) (oi := ?_) (v := ?_) ?_ (by kernel_rfl) (by kernel_rfl) (by kernel_rfl) ?_ ?_ (by assumption) ?_
          rotate_left 2
          · simp only [List.getElem?_toArray, List.getElem?_cons_succ, List.getElem?_cons_zero]; with_reducible rfl
          · exact fun _ _ _ h => h
          · refine Or.inl ⟨by rfl, ?_⟩; intro W hSw; go_simp; try with_reducible rfl
          try simp only [Act.put, List.setIfInBounds_toArray, List.set_cons_zero, List.set_cons_succ]
          refine wpAnyH_take (i := 2) (oi := ?_) (v := ?_) ?_ (by kernel_rfl) (by kernel_rfl) (by kernel_rfl) ?_ ?_ (by assumption) ?_
          rotate_left 2
          · simp only [List.getElem?_toArray, List.getElem?_cons_succ, List.getElem?_cons_zero]; with_reducible rfl
          · exact fun _ _ _ h => h
          · refine Or.inl ⟨by rfl, ?_⟩; intro W hSw; go_simp; try with_reducible rfl
          try simp only [Act.put, List.setIfInBounds_toArray, List.set_cons_zero, List.set_cons_succ]
          refine wpAnyH_take (i := 3) (oi := ?_) (v := ?_) ?_ (by kernel_rfl) (by kernel_rfl) (by kernel_rfl) ?_ ?_ (by assumption) ?_
          rotate_left 2
          · simp only [List.getElem?_toArray, List.getElem?_cons_succ, List.getElem?_cons_zero]; with_reducible rfl
          · exact fun _ _ _ h => h
          · refine Or.inl ⟨by rfl, ?_⟩; intro W hSw; go_simp; try with_reducible rfl
          try simp only [Act.put, List.setIfInBounds_toArray, List.set_cons_zero, List.set_cons_succ]
          refine wpAnyH_take (i := 4) (oi := ?_) (v := ?_) ?_ (by kernel_rfl) (by kernel_rfl) (by kernel_rfl) ?_ ?_ (by assumption) ?_
          rotate_left 2
          · simp only [List.getElem?_toArray, List.getElem?_cons_succ, List.getElem?_cons_zero]; with_reducible rfl
          · exact fun _ _ _ h => h
          · refine Or.inl ⟨by rfl, ?_⟩; intro W hSw; go_simp; try with_reducible rfl
          try simp only [Act.put, List.setIfInBounds_toArray, List.set_cons_zero, List.set_cons_succ]
          refine wpAnyH_take (i := 5) (oi := ?_) (v := ?_) ?_ (by kernel_rfl) (by kernel_rfl) (by kernel_rfl) ?_ ?_ (by assumption) ?_
          rotate_left 2
          · simp only [List.getElem?_toArray, List.getElem?_cons_succ, List.getElem?_cons_zero]; with_reducible rfl
          · exact fun _ _ _ h => h
          · refine Or.inl ⟨by rfl, ?_⟩; intro W hSw; go_simp; try with_reducible rfl
          try simp only [Act.put, List.setIfInBounds_toArray, List.set_cons_zero, List.set_cons_succ]
          refine wpAnyH_take (i := 6) (oi := ?_) (v := ?_) ?_ (by kernel_rfl) (by kernel_rfl) (by kernel_rfl) ?_ ?_ (by assumption) ?_
          rotate_left 2
          · simp only [List.getElem?_toArray, List.getElem?_cons_succ, List.getElem?_cons_zero]; with_reducible rfl
          · exact fun _ _ _ h => h
          · refine Or.inl ⟨by rfl, ?_⟩; intro W hSw; go_simp; try with_reducible rfl
          try simp only [Act.put, List.setIfInBounds_toArray, List.set_cons_zero, List.set_cons_succ]
          refine wpAnyH_take (i := 7) (oi := ?_) (v := ?_) ?_ (by kernel_rfl) (by kernel_rfl) (by kernel_rfl) ?_ ?_ (by assumption) ?_
          rotate_left 2
          · simp only [List.getElem?_toArray, List.getElem?_cons_succ, List.getElem?_cons_zero]; with_reducible rfl
          · exact fun _ _ _ h => h
          · refine Or.inl ⟨by rfl, ?_⟩; intro W hSw; go_simp; try with_reducible rfl
          try simp only [Act.put, List.setIfInBounds_toArray, List.set_cons_zero, List.set_cons_succ]
          refine wpAnyH_take (i := 8) (oi := ?_) (v := ?_) ?_ (by kernel_rfl) (by kernel_rfl) (by kernel_rfl) ?_ ?_ (by assumption) ?_
          rotate_left 2
          · simp only [List.getElem?_toArray, List.getElem?_cons_succ, List.getElem?_cons_zero]; with_reducible rfl
          · exact fun _ _ _ h => h
          · refine Or.inl ⟨by rfl, ?_⟩; intro W hSw; go_simp; try with_reducible rfl
          try simp only [Act.put, List.setIfInBounds_toArray, List.set_cons_zero, List.set_cons_succ]
          refine wpAnyH_take (i := 10) (oi := ?_) (v := ?_) ?_ (by kernel_rfl) (by kernel_rfl) (by kernel_rfl) ?_ ?_ (by assumption) ?_
          rotate_left 2
          · simp only [List.getElem?_toArray, List.getElem?_cons_succ, List.getElem?_cons_zero]; with_reducible rfl
          · exact fun _ _ _ h => h
          · refine Or.inl ⟨by rfl, ?_⟩; intro W hSw; go_simp; try with_reducible rfl
          try simp only [Act.put, List.setIfInBounds_toArray, List.set_cons_zero, List.set_cons_succ]
          refine wpAnyH_take (i := 11) (oi := ?_) (v := ?_) ?_ (by kernel_rfl) (by kernel_rfl) (by kernel_rfl) ?_ ?_ (by assumption) ?_
          rotate_left 2
          · simp only [List.getElem?_toArray, List.getElem?_cons_succ, List.getElem?_cons_zero]; with_reducible rfl
          · exact fun _ _ _ h => h
          · refine Or.inl ⟨by rfl, ?_⟩; intro W hSw; go_simp; try with_reducible rfl
          try simp only [Act.put, List.setIfInBounds_toArray, List.set_cons_zero, List.set_cons_succ]
          refine wpAnyH_take (i := 13) (oi := ?_) (v := ?_) ?_ (by kernel_rfl) (by kernel_rfl) (by kernel_rfl) ?_ ?_ (by assumption) ?_
          rotate_left 2
          · simp only [List.getElem?_toArray, List.getElem?_cons_succ, List.getElem?_cons_zero]; with_reducible rfl
          · exact fun _ _ _ h => h
          · refine Or.inl ⟨by rfl, ?_⟩; intro W hSw; go_simp; try with_reducible rfl
          try simp only [Act.put, List.setIfInBounds_toArray, List.set_cons_zero, List.set_cons_succ]
          refine wpAnyH_take (i := 14) (oi := ?_) (v := ?_) ?_ (by kernel_rfl) (by kernel_rfl) (by kernel_rfl) ?_ ?_ (by assumption) ?_
          rotate_left 2
          · simp only [List.getElem?_toArray, List.getElem?_cons_succ, List.getElem?_cons_zero]; with_reducible rfl
          · exact fun _ _ _ h => h
          · refine Or.inl ⟨by rfl, ?_⟩; intro W hSw; go_simp; try with_reducible rfl
          try simp only [Act.put, List.setIfInBounds_toArray, List.set_cons_zero, List.set_cons_succ]
          refine wpAnyH_ready (rs := [9, 12]) (by kernel_rfl) (by simp) ?_
          refine AllReadyH.cons (o := ?_) ?_ (fun K1 hK1 => ?_) ?_
          rotate_left 1
          · simp only [List.getElem?_toArray, List.getElem?_cons_succ, List.getElem?_cons_zero]; with_reducible rfl
          · rw [if_pos (by rfl)]
            go_simp
            skip
            go_wp2_with fail
            refine hK1.out _ _ HBQ.out (fun hHeld => ?_)
            clear hK1 K1
            try simp only [Act.put, List.setIfInBounds_toArray, List.set_cons_zero, List.set_cons_succ]
            refine wpAnyH_ready (rs := [12]) (by kernel_rfl) (by simp) ?_
            refine AllReadyH.cons (o := ?_) ?_ (fun K2 hK2 => ?_) ?_
            rotate_left 1
            · simp only [List.getElem?_toArray, List.getElem?_cons_succ, List.getElem?_cons_zero]; with_reducible rfl
            · rw [if_pos (by rfl)]
              go_simp
              refine (HDA2.out _).mono ?_
              rintro e5 w5 ⟨rfl, rfl⟩
              go_wp2_with fail
              refine hK2.out _ _ HBQ.out (fun hHeld => ?_)
              clear hK2 K2
              try simp only [Act.put, List.setIfInBounds_toArray, List.set_cons_zero, List.set_cons_succ]
              refine wpAnyH_ready (rs := [15]) (by kernel_rfl) (by simp) ?_
              refine AllReadyH.cons (o := ?_) ?_ (fun K3 hK3 => ?_) ?_
              rotate_left 1
              · simp only [List.getElem?_toArray, List.getElem?_cons_succ, List.getElem?_cons_zero]; with_reducible rfl
              · rw [if_pos (by rfl)]
                go_simp
                refine (HDB2.out _).mono ?_
                rintro e6 w6 ⟨rfl, rfl⟩
                go_wp2_with fail
                refine hK3.out _ _ HBQ.out (fun hHeld => ?_)
                clear hK3 K3
                try simp only [Act.put, List.setIfInBounds_toArray, List.set_cons_zero, List.set_cons_succ]
                refine wpAnyH_take (i := 16) (oi := ?_) (v := ?_) ?_ (by kernel_rfl) (by kernel_rfl) (by kernel_rfl) ?_ ?_ (by assumption) ?_
                rotate_left 2
                · simp only [List.getElem?_toArray, List.getElem?_cons_succ, List.getElem?_cons_zero]; with_reducible rfl
                · exact fun _ _ _ h => h
                · refine Or.inl ⟨by rfl, ?_⟩; intro W hSw; go_simp; try with_reducible rfl
                try simp only [Act.put, List.setIfInBounds_toArray, List.set_cons_zero, List.set_cons_succ]
                refine wpAnyH_take (i := 17) (oi := ?_) (v := ?_) ?_ (by kernel_rfl) (by kernel_rfl) (by kernel_rfl) ?_ ?_ (by assumption) ?_
                rotate_left 2
                · simp only [List.getElem?_toArray, List.getElem?_cons_succ, List.getElem?_cons_zero]; with_reducible rfl
                · exact fun _ _ _ h => h
                · refine Or.inl ⟨by rfl, ?_⟩; intro W hSw; go_simp; try with_reducible rfl
                try simp only [Act.put, List.setIfInBounds_toArray, List.set_cons_zero, List.set_cons_succ]
                refine wpAnyH_take (i := 18) (oi := ?_) (v := ?_) ?_ (by kernel_rfl) (by kernel_rfl) (by kernel_rfl) ?_ ?_ (by assumption) ?_
                rotate_left 2
                · simp only [List.getElem?_toArray, List.getElem?_cons_succ, List.getElem?_cons_zero]; with_reducible rfl
                · exact fun _ _ _ h => h
                · refine Or.inl ⟨by rfl, ?_⟩; intro W hSw; go_simp; try with_reducible rfl
                try simp only [Act.put, List.setIfInBounds_toArray, List.set_cons_zero, List.set_cons_succ]
                refine wpAnyH_ready (rs := [19]) (by kernel_rfl) (by simp) ?_
                refine AllReadyH.cons (o := ?_) ?_ (fun K4 hK4 => ?_) AllReadyH.nil
                rotate_left 1
                · simp only [List.getElem?_toArray, List.getElem?_cons_succ, List.getElem?_cons_zero]; with_reducible rfl
                rw [if_pos (by rfl)]
                go_simp
                go_wp2_with fail
                refine hK4.out _ _ HBD.out (fun hHeld => ?_)
                clear hK4 K4
                try simp only [Act.put, List.setIfInBounds_toArray, List.set_cons_zero, List.set_cons_succ]
                refine wpAnyH_done (by kernel_rfl) ?_ _
                go_wp2_with fail
                exact ⟨⟨k + 1, _, by omega, by go_num, Lib.hid ⟨HROWD.out, HBD.out⟩, HST⟩, by simp [intOf]; omega⟩
              exact AllReadyH.nil
            exact AllReadyH.nil
          refine AllReadyH.cons (o := ?_) ?_ (fun K5 hK5 => ?_) ?_
          rotate_left 1
          · simp only [List.getElem?_toArray, List.getElem?_cons_succ, List.getElem?_cons_zero]; with_reducible rfl
          · rw [if_pos (by rfl)]
            go_simp
            refine (HDA2.out _).mono ?_
            rintro e5 w5 ⟨rfl, rfl⟩
            go_wp2_with fail
            refine hK5.out _ _ HBQ.out (fun hHeld => ?_)
            clear hK5 K5
            try simp only [Act.put, List.setIfInBounds_toArray, List.set_cons_zero, List.set_cons_succ]
            refine wpAnyH_ready (rs := [9, 15]) (by kernel_rfl) (by simp) ?_
            refine AllReadyH.cons (o := ?_) ?_ (fun K6 hK6 => ?_) ?_
            rotate_left 1
            · simp only [List.getElem?_toArray, List.getElem?_cons_succ, List.getElem?_cons_zero]; with_reducible rfl
            · rw [if_pos (by rfl)]
              go_simp
              skip
              go_wp2_with fail
              refine hK6.out _ _ HBQ.out (fun hHeld => ?_)
              clear hK6 K6
              try simp only [Act.put, List.setIfInBounds_toArray, List.set_cons_zero, List.set_cons_succ]
              refine wpAnyH_ready (rs := [15]) (by kernel_rfl) (by simp) ?_
              refine AllReadyH.cons (o := ?_) ?_ (fun K7 hK7 => ?_) ?_
              rotate_left 1
              · simp only [List.getElem?_toArray, List.getElem?_cons_succ, List.getElem?_cons_zero]; with_reducible rfl
              · rw [if_pos (by rfl)]
                go_simp
                refine (HDB2.out _).mono ?_
                rintro e6 w6 ⟨rfl, rfl⟩
                go_wp2_with fail
                refine hK7.out _ _ HBQ.out (fun hHeld => ?_)
                clear hK7 K7
                try simp only [Act.put, List.setIfInBounds_toArray, List.set_cons_zero, List.set_cons_succ]
                refine wpAnyH_take (i := 16) (oi := ?_) (v := ?_) ?_ (by kernel_rfl) (by kernel_rfl) (by kernel_rfl) ?_ ?_ (by assumption) ?_
                rotate_left 2
                · simp only [List.getElem?_toArray, List.getElem?_cons_succ, List.getElem?_cons_zero]; with_reducible rfl
                · exact fun _ _ _ h => h
                · refine Or.inl ⟨by rfl, ?_⟩; intro W hSw; go_simp; try with_reducible rfl
                try simp only [Act.put, List.setIfInBounds_toArray, List.set_cons_zero, List.set_cons_succ]
                refine wpAnyH_take (i := 17) (oi := ?_) (v := ?_) ?_ (by kernel_rfl) (by kernel_rfl) (by kernel_rfl) ?_ ?_ (by assumption) ?_
                rotate_left 2
                · simp only [List.getElem?_toArray, List.getElem?_cons_succ, List.getElem?_cons_zero]; with_reducible rfl
                · exact fun _ _ _ h => h
                · refine Or.inl ⟨by rfl, ?_⟩; intro W hSw; go_simp; try with_reducible rfl
                try simp only [Act.put, List.setIfInBounds_toArray, List.set_cons_zero, List.set_cons_succ]
                refine wpAnyH_take (i := 18) (oi := ?_) (v := ?_) ?_ (by kernel_rfl) (by kernel_rfl) (by kernel_rfl) ?_ ?_ (by assumption) ?_
                rotate_left 2
                · simp only [List.getElem?_toArray, List.getElem?_cons_succ, List.getElem?_cons_zero]; with_reducible rfl
                · exact fun _ _ _ h => h
                · refine Or.inl ⟨by rfl, ?_⟩; intro W hSw; go_simp; try with_reducible rfl
                try simp only [Act.put, List.setIfInBounds_toArray, List.set_cons_zero, List.set_cons_succ]
                refine wpAnyH_ready (rs := [19]) (by kernel_rfl) (by simp) ?_
                refine AllReadyH.cons (o := ?_) ?_ (fun K8 hK8 => ?_) AllReadyH.nil
                rotate_left 1
                · simp only [List.getElem?_toArray, List.getElem?_cons_succ, List.getElem?_cons_zero]; with_reducible rfl
                rw [if_pos (by rfl)]
                go_simp
                go_wp2_with fail
                refine hK8.out _ _ HBD.out (fun hHeld => ?_)
                clear hK8 K8
                try simp only [Act.put, List.setIfInBounds_toArray, List.set_cons_zero, List.set_cons_succ]
                refine wpAnyH_done (by kernel_rfl) ?_ _
                go_wp2_with fail
                exact ⟨⟨k + 1, _, by omega, by go_num, Lib.hid ⟨HROWD.out, HBD.out⟩, HST⟩, by simp [intOf]; omega⟩
              exact AllReadyH.nil
            refine AllReadyH.cons (o := ?_) ?_ (fun K9 hK9 => ?_) ?_
            rotate_left 1
            · simp only [List.getElem?_toArray, List.getElem?_cons_succ, List.getElem?_cons_zero]; with_reducible rfl
            · rw [if_pos (by rfl)]
              go_simp
              refine (HDB2.out _).mono ?_
              rintro e6 w6 ⟨rfl, rfl⟩
              go_wp2_with fail
              refine hK9.out _ _ HBQ.out (fun hHeld => ?_)
              clear hK9 K9
              try simp only [Act.put, List.setIfInBounds_toArray, List.set_cons_zero, List.set_cons_succ]
              refine wpAnyH_take (i := 16) (oi := ?_) (v := ?_) ?_ (by kernel_rfl) (by kernel_rfl) (by kernel_rfl) ?_ ?_ (by assumption) ?_
              rotate_left 2
              · simp only [List.getElem?_toArray, List.getElem?_cons_succ, List.getElem?_cons_zero]; with_reducible rfl
              · exact fun _ _ _ h => h
              · refine Or.inl ⟨by rfl, ?_⟩; intro W hSw; go_simp; try with_reducible rfl
              try simp only [Act.put, List.setIfInBounds_toArray, List.set_cons_zero, List.set_cons_succ]
              refine wpAnyH_ready (rs := [9]) (by kernel_rfl) (by simp) ?_
              refine AllReadyH.cons (o := ?_) ?_ (fun K10 hK10 => ?_) ?_
              rotate_left 1
              · simp only [List.getElem?_toArray, List.getElem?_cons_succ, List.getElem?_cons_zero]; with_reducible rfl
              · rw [if_pos (by rfl)]
                go_simp
                skip
                go_wp2_with fail
                refine hK10.out _ _ HBQ.out (fun hHeld => ?_)
                clear hK10 K10
                try simp only [Act.put, List.setIfInBounds_toArray, List.set_cons_zero, List.set_cons_succ]
                refine wpAnyH_take (i := 17) (oi := ?_) (v := ?_) ?_ (by kernel_rfl) (by kernel_rfl) (by kernel_rfl) ?_ ?_ (by assumption) ?_
                rotate_left 2
                · simp only [List.getElem?_toArray, List.getElem?_cons_succ, List.getElem?_cons_zero]; with_reducible rfl
                · exact fun _ _ _ h => h
                · refine Or.inl ⟨by rfl, ?_⟩; intro W hSw; go_simp; try with_reducible rfl
                try simp only [Act.put, List.setIfInBounds_toArray, List.set_cons_zero, List.set_cons_succ]
                refine wpAnyH_take (i := 18) (oi := ?_) (v := ?_) ?_ (by kernel_rfl) (by kernel_rfl) (by kernel_rfl) ?_ ?_ (by assumption) ?_
                rotate_left 2
                · simp only [List.getElem?_toArray, List.getElem?_cons_succ, List.getElem?_cons_zero]; with_reducible rfl
                · exact fun _ _ _ h => h
                · refine Or.inl ⟨by rfl, ?_⟩; intro W hSw; go_simp; try with_reducible rfl
                try simp only [Act.put, List.setIfInBounds_toArray, List.set_cons_zero, List.set_cons_succ]
                refine wpAnyH_ready (rs := [19]) (by kernel_rfl) (by simp) ?_
                refine AllReadyH.cons (o := ?_) ?_ (fun K11 hK11 => ?_) AllReadyH.nil
                rotate_left 1
                · simp only [List.getElem?_toArray, List.getElem?_cons_succ, List.getElem?_cons_zero]; with_reducible rfl
                rw [if_pos (by rfl)]
                go_simp
                go_wp2_with fail
                refine hK11.out _ _ HBD.out (fun hHeld => ?_)
                clear hK11 K11
                try simp only [Act.put, List.setIfInBounds_toArray, List.set_cons_zero, List.set_cons_succ]
                refine wpAnyH_done (by kernel_rfl) ?_ _
                go_wp2_with fail
                exact ⟨⟨k + 1, _, by omega, by go_num, Lib.hid ⟨HROWD.out, HBD.out⟩, HST⟩, by simp [intOf]; omega⟩
              exact AllReadyH.nil
            exact AllReadyH.nil
          exact AllReadyH.nil
        · obtain rfl : k = n := by omega
          have HNX : Hid (MulT a b (i + 1) 0 out2) := Lib.hid (by
            have h2 := HO2.out
            rw [HN.out] at h2
            exact h2.next HB.out)
          go_wp2_with fail
          exact ⟨⟨i + 1, out2, by omega, by go_num, HR2, HNX⟩, by simp [intOf]; omega⟩
    · obtain rfl : i = m := by omega
      have HTV : Hid (tval out = num a * num b) := Lib.hid (by
        have h2 := HO.out
        rw [HM.out] at h2
        exact h2.done HA.out)
      have hol := HO.out.len
      rw [← HM.out, ← HN.out, ← HNN.out] at hol
      have HOL := Lib.hid hol
      have HOH := Lib.hid HO.out.hi
      obtain ⟨w2, hw2⟩ : ∃ w2, w2 = wr.alloc (.cells (u8s (List.replicate N 0)).toArray 5) := ⟨_, rfl⟩
      have HR2 : Hid (Row w2 wr.heap.size 5 (u8s (List.replicate N 0)).toArray) := Lib.hid (by subst hw2; exact Row.new _ _ _)
      have HB2 : Hid (Below w.heap.size w w2) := Lib.hid (by subst hw2; exact HR.out.2.alloc HR.out.2.size _)
      have HRO : Hid (Row w2 w.heap.size 3 (i64s out).toArray) := Lib.hid (by subst hw2; exact HR.out.1.alloc _)
      have HLT : Hid (w.heap.size < wr.heap.size) := Lib.hid HR.out.1.lt
      clear hol
      go_upto_region 10 with (
          skip
          refine wpList_make_u8 ?_ 68 5 (.tmp 50) ?_ N ?_ Tryz.underlying68 infoU8 (by omega) ?_
          · with_reducible rfl
          · with_reducible rfl
          · exact congrArg (Value.int .i64) (by omega))
      rw [← hw2]
      clear hw2
      have hN1 := HNN.out
      generalize hG : wr.heap.size = G at *
      clear hG hN1
      go_wp2_with fail
      go_loopw [9, 10] (fun v9 v10 wq => ∃ (k c : Nat) (txt : List UInt8) (S : Nat), k ≤ N ∧ v10 = .int .i64 k ∧ v9 = .int .i64 c ∧ c ≤ 1000000000 ∧ Hid (Row wq G 5 (u8s txt).toArray ∧ Below w.heap.size w wq ∧ Row wq w.heap.size 3 (i64s out).toArray) ∧ Hid (OutAt N k txt S) ∧ Hid (S + 10 ^ k * c = tval (out.take k))) (fun _ v10 _ => N - (intOf v10).toNat)
      case atStart => exact ⟨0, 0, _, 0, Nat.zero_le _, rfl, rfl, by omega, Lib.hid ⟨HR2.out, HB2.out, HRO.out⟩, Lib.hid (OutAt.start N), Lib.hid (by simp [tval])⟩
      case round =>
        obtain ⟨k, c, txt, S, hk, rfl, rfl, hc, HR3, HO3, HE3⟩ := hrel
        by_cases hkt : k < N
        · have hlen := HO3.out.len
          obtain ⟨p, hp⟩ : ∃ p, p = N - 1 - k := ⟨_, rfl⟩
          have k0 := HR3.out.2.2.cell (i := k) (v := .int .i64 (wat out k : Int)) (by rw [List.getElem?_toArray]; exact i64s_get _ (by rw [HOL.out]; exact hkt))
          have kc := HR3.out.1.cell (i := p) (v := .int .u8 ((txt.getD p 0).toNat : Int)) (by rw [List.getElem?_toArray]; exact u8s_get _ (by omega))
          have fc := HR3.out.1.free p
          have hpi : (N : Int) - 1 - (k : Int) = (p : Int) := by omega
          have hpn : p < N := by omega
          have hu := HOH.out k
          have hTK := tval_take out k (by rw [HOL.out]; exact hkt)
          obtain ⟨u, huu⟩ : ∃ u, u = wat out k := ⟨_, rfl⟩
          rw [← huu] at k0 hu hTK
          obtain ⟨y, hy⟩ : ∃ y, y = u + c := ⟨_, rfl⟩
          have hy1 : (u : Int) + (c : Int) = (y : Int) := by omega
          have hyl : y ≤ 1200000000 := by omega
          obtain ⟨d, hd⟩ : ∃ d, d = y % 10 := ⟨_, rfl⟩
          obtain ⟨c2, hc2⟩ : ∃ c2, c2 = y / 10 := ⟨_, rfl⟩
          have hd10 : d < 10 := by omega
          have hc2l : c2 ≤ 1000000000 := by omega
          have hdi : (y : Int).tmod 10 = (d : Int) := by rw [Int.tmod_eq_emod_of_nonneg (by omega)]; omega
          have hdi2 : (y : Int) % 10 = (d : Int) := by omega
          have hci : (y : Int).tdiv 10 = (c2 : Int) := by rw [Int.tdiv_eq_ediv_of_nonneg (by omega)]; omega
          have hci2 : (y : Int) / 10 = (c2 : Int) := by omega
          have hwy : IntKind.i64.wrap (y : Int) = (y : Int) := IntWalk.i64_in _ (by omega)
          have HS := HO3.out.step hkt hd10
          have HROW := HR3.out.1.set_ p (.int .u8 ((UInt8.ofNat (48 + d)).toNat : Int))
          rw [u8s_set] at HROW
          rw [← hp] at HS
          have hGp : w.heap.size ≤ G := by have := HLT.out; omega
          have HBL := HR3.out.2.1.setCell (p := ⟨G, p, none⟩) hGp (.int .u8 ((UInt8.ofNat (48 + d)).toNat : Int))
          have HRF := HR3.out.2.2.far (p := ⟨G, p, none⟩) (by have := HLT.out; simp only; omega) (.int .u8 ((UInt8.ofNat (48 + d)).toNat : Int))
          rw [ofNat_val hd10, show ((48 + d : Nat) : Int) = 48 + (d : Int) by omega] at HROW HBL HRF
          have HALL := Lib.hid (And.intro HROW (And.intro HBL HRF))
          have HS' := Lib.hid HS
          have HE' : Hid (S + 10 ^ k * d + 10 ^ (k + 1) * c2 = tval (out.take (k + 1))) := Lib.hid (by
            rw [hTK, hd, hc2, hy, Nat.pow_succ]; exact carry_step HE3.out)
          have hw8 : IntKind.u8.wrap (48 + (d : Int)) = 48 + (d : Int) := by simp [IntKind.wrap, IntKind.bits, IntKind.signed]; omega
          have hn1 : IntKind.i64.wrap ((N : Int) - 1) = (N : Int) - 1 := IntWalk.i64_in _ (by omega)
          clear HS HROW HBL HRF hp hlen hd hc2 hy huu hTK hu hGp
          go_wp2_with fail
          exact ⟨⟨k + 1, c2, _, _, by omega, by go_num, rfl, hc2l, HALL, HS', HE'⟩, by simp [intOf]; omega⟩
        · obtain rfl : k = N := by omega
          have hd := HO3.out.done
          have hlen := HO3.out.len
          have hSe : S = num a * num b := by
            have h1 := HE3.out
            rw [List.take_of_length_le (by rw [HOL.out]; exact Nat.le_refl _), HTV.out] at h1
            have h2 := num_lt HA.out
            have h3 := num_lt HB.out
            rw [← HM.out] at h2
            rw [← HN.out] at h3
            have h4 : num a * num b < 10 ^ k := by
              rw [HNN.out, Nat.pow_add]
              exact Nat.mul_lt_mul_of_lt_of_le h2 (Nat.le_of_lt h3) (Nat.pow_pos (by omega))
            rcases Nat.eq_zero_or_pos c with e | e
            · rw [e] at h1; omega
            · have : 10 ^ k * 1 ≤ 10 ^ k * c := Nat.mul_le_mul_left _ e
              omega
          have HPL := Lib.hid hd.1
          rw [hSe] at HPL
          have hrow := HR3.out.1
          have hh : Holds wr (some ⟨G, 0, none⟩) txt.length 1 (u8s txt) := ⟨by rw [u8s_length, Nat.mul_one], fun _ => ⟨G, 0, rfl, hrow.lt, fun i v hv => by rw [Nat.zero_add]; exact hrow.cell (by rw [List.getElem?_toArray]; exact hv)⟩⟩
          have hcv := run_text_bs hh 68 9 5 k Tryz.underlying68 Tryz.underlying5 Tryz.underlying9
          rw [hlen] at hcv
          have HPN := Lib.hid (fun W => plain_ok txt W (by rw [hlen]; omega))
          rw [HPL.out] at HPN
          clear hrow hh hlen hSe hd
          go_wp2_with fail
          refine (HPN.out _).mono ?_
          rintro e w9 ⟨rfl, rfl⟩
          clear hcv
          go_wp2
          go_ret
          exact ⟨rfl, HR3.out.2.1⟩
end Go.Proofs.YthgjelpmdndceaaGreatDoor
/- Of no program: how many times one number goes into another one, word by word. -/
namespace Go.Proofs.YthgjelpmdndceaaGreatDoor

theorem wat_wds (n i : Nat) : wat (wds n) i = n / 1000000000 ^ i % 1000000000 := by
  induction i generalizing n with
  | zero =>
    rcases Nat.eq_zero_or_pos n with e | e
    · rw [e, wds_zero]; rfl
    · rw [wds_pos e, wat_cons_zero]; simp
  | succ i ih =>
    rcases Nat.eq_zero_or_pos n with e | e
    · rw [e, wds_zero, Nat.zero_div]; rfl
    · rw [wds_pos e, wat_cons_succ, ih, Nat.pow_succ, Nat.mul_comm (1000000000 ^ i), Nat.div_div_eq_div_mul]
theorem words_of_wat {l : List Nat} (h : ∀ i, i < l.length → wat l i < 1000000000) : Words l := fun x hx => by
  obtain ⟨i, hi, rfl⟩ := List.mem_iff_getElem.1 hx
  have := h i hi
  simpa [wat, List.getD_eq_getElem?_getD, List.getElem?_eq_getElem hi] using this
theorem wval_crop (l : List Nat) : wval (crop l) = wval l := by
  induction l with
  | nil => rfl
  | cons x r ih =>
    unfold crop
    cases hc : crop r with
    | nil =>
      rw [hc] at ih
      have e : wval r = 0 := ih.symm
      simp only
      split
      · rename_i h; show (0 : Nat) = x + 1000000000 * wval r; omega
      · show x + 1000000000 * 0 = x + 1000000000 * wval r; omega
    | cons y c =>
      rw [hc] at ih
      show x + 1000000000 * wval (y :: c) = x + 1000000000 * wval r
      rw [ih]
/-- A number times one word, behind i words of it (and, where j is 1, the next one, but for what is kept). -/
structure MulQ (a : List Nat) (q i j kept : Nat) (n : List Nat) : Prop where
  len : n.length = a.length + 1
  lo : ∀ p, p < i + j → wat n p < 1000000000
  hi : ∀ p, wat n p ≤ 1000000000
  small : kept ≤ 1000000000
  zero : ∀ p, i + 1 ≤ p → wat n p = 0
  val : wval n + kept * 1000000000 ^ (i + j) = wtk a i * q + wat a i * (q * j) * 1000000000 ^ i
theorem wat_zeros (k p : Nat) : wat (List.replicate k 0) p = 0 := by
  simp [wat, List.getD_eq_getElem?_getD, List.getElem?_replicate]; split <;> rfl
theorem MulQ.start (a : List Nat) (q : Nat) : MulQ a q 0 0 0 (List.replicate (a.length + 1) 0) :=
  ⟨by simp, fun p h => by omega, fun p => by rw [wat_zeros]; omega, by omega, fun p _ => wat_zeros _ _, by rw [wval_zeros, wtk_zero]; simp⟩
theorem MulQ.bound {a n : List Nat} {q i : Nat} (h : MulQ a q i 0 0 n) (ha : Words a) (hq : q ≤ 1000000001) : wat a i * q ≤ 999999999999999999 ∧ 0 + (wat n (i + 0) + wat a i * q) ≤ 1000000000999999999 := by
  have h1 := wat_lt ha i
  have h3 := h.hi (i + 0)
  have h5 : wat a i * q ≤ 999999999 * 1000000001 := Nat.mul_le_mul (by omega) (by omega)
  omega
theorem MulQ.step {a n : List Nat} {q i : Nat} (h : MulQ a q i 0 0 n) (ha : Words a) (hq : q ≤ 1000000001) (hi : i < a.length) :
    MulQ a q i 1 ((0 + (wat n (i + 0) + wat a i * q)) / 1000000000) (n.set (i + 0) ((0 + (wat n (i + 0) + wat a i * q)) % 1000000000)) := by
  have hbd := (h.bound ha hq).2
  have hp : i + 0 < n.length := by rw [h.len]; omega
  have hs := wval_set n (i + 0) ((0 + (wat n (i + 0) + wat a i * q)) % 1000000000) hp
  refine ⟨by rw [List.length_set]; exact h.len, fun p hpp => ?_, fun p => ?_, by omega, fun p hpp => ?_, ?_⟩
  · rw [wat_set _ _ _ _ hp]; split
    · omega
    · exact h.lo p (by omega)
  · rw [wat_set _ _ _ _ hp]; split
    · omega
    · exact h.hi p
  · rw [wat_set _ _ _ _ hp, if_neg (by omega)]; exact h.zero p hpp
  · have hv := h.val
    simp only [Nat.zero_mul, Nat.add_zero, Nat.mul_zero, Nat.mul_one, Nat.zero_add] at hv hs ⊢
    obtain ⟨K, hK⟩ : ∃ K, K = wat n i + wat a i * q := ⟨_, rfl⟩
    rw [← hK] at hs ⊢
    rw [Nat.pow_succ]
    generalize hPP : (1000000000 : Nat) ^ i = P at *
    generalize wat a i * q = m at *
    generalize wtk a i * q = R0 at *
    generalize wat n i = u at *
    have hqr : K % 1000000000 + 1000000000 * (K / 1000000000) = K := Nat.mod_add_div K 1000000000
    generalize K % 1000000000 = r at *
    generalize K / 1000000000 = s at *
    have e1 : (r + 1000000000 * s) * P = (u + m) * P := by rw [hqr, hK]
    have e2 : s * (P * 1000000000) = 1000000000 * s * P := by rw [Nat.mul_comm P, ← Nat.mul_assoc, Nat.mul_comm s]
    rw [e2]
    simp only [Nat.add_mul] at e1
    omega
theorem MulQ.next {a n : List Nat} {q i kept : Nat} (h : MulQ a q i 1 kept n) (hi : i < a.length) :
    MulQ a q (i + 1) 0 0 (n.set (i + 1) kept) := by
  have hp : i + 1 < n.length := by rw [h.len]; omega
  have hs := wval_set n (i + 1) kept hp
  have hz := h.zero (i + 1) (Nat.le_refl _)
  refine ⟨by rw [List.length_set]; exact h.len, fun p hpp => ?_, fun p => ?_, by omega, fun p hpp => ?_, ?_⟩
  · rw [wat_set _ _ _ _ hp, if_neg (by omega)]; exact h.lo p (by omega)
  · rw [wat_set _ _ _ _ hp]; split
    · exact h.small
    · exact h.hi p
  · rw [wat_set _ _ _ _ hp, if_neg (by omega)]; exact h.zero p (by omega)
  · have hv := h.val
    rw [hz, Nat.zero_mul, Nat.add_zero] at hs
    rw [hs, hv, wtk_succ]
    simp only [Nat.zero_mul, Nat.mul_zero, Nat.add_zero, Nat.mul_one]
    rw [Nat.add_mul]
    congr 1
    rw [Nat.mul_comm (1000000000 ^ i), Nat.mul_assoc, Nat.mul_assoc, Nat.mul_comm q]
/-- What is taken away: a number of k words times q; its highest word may be the base itself. -/
structure Took (P q k : Nat) (T : List Nat) : Prop where
  val : wval T = P * q
  form : T = wds (P * q) ∨ (T.length = k + 1 ∧ (∀ i, i < k → wat T i < 1000000000) ∧ wat T k = 1000000000)
theorem MulQ.done {a n : List Nat} {q : Nat} (h : MulQ a q a.length 0 0 n) : Took (wval a) q a.length (crop n) := by
  have hv := h.val
  rw [wtk_all a (Nat.le_refl _), wat_out (Nat.le_refl _)] at hv
  simp only [Nat.zero_mul, Nat.add_zero] at hv
  refine ⟨by rw [wval_crop, hv], ?_⟩
  have hlo := h.lo
  simp only [Nat.add_zero] at hlo
  rcases Nat.lt_or_ge (wat n a.length) 1000000000 with e | e
  · left
    have hw : Words n := words_of_wat fun i hi => by
      rcases Nat.lt_or_ge i a.length with e2 | e2
      · exact hlo i e2
      · have : i = a.length := by rw [h.len] at hi; omega
        rw [this]; exact e
    rw [← wds_wval hw, hv]
  · right
    have e2 : wat n a.length = 1000000000 := by have := h.hi a.length; omega
    have hn : n ≠ [] := by intro e3; have := h.len; rw [e3] at this; simp at this
    have e4 : n = n.dropLast ++ [n.getLast hn] := (List.dropLast_concat_getLast hn).symm
    have e5 : n.getLast hn = 1000000000 := by
      rw [← e2, List.getLast_eq_getElem]
      have : n.length - 1 = a.length := by rw [h.len]; omega
      simp only [wat, List.getD_eq_getElem?_getD, this, List.getElem?_eq_getElem (show a.length < n.length by rw [h.len]; omega), Option.getD_some]
    have e6 : crop n = n := by
      conv => lhs; rw [e4]
      rw [crop_snoc (by rw [e5]; decide), ← e4]
    rw [e6]
    exact ⟨h.len, hlo, e2⟩
theorem wtk_le_lt {l : List Nat} {k : Nat} (h : ∀ i, i < k → wat l i < 1000000000) : ∀ i, i ≤ k → wtk l i < 1000000000 ^ i
  | 0, _ => by rw [wtk_zero]; simp
  | i + 1, hi => by
    have := wtk_le_lt h i (by omega)
    have h2 := h i (by omega)
    rw [wtk_succ, Nat.pow_succ]
    have : 1000000000 ^ i * wat l i ≤ 1000000000 ^ i * 999999999 := Nat.mul_le_mul_left _ (by omega)
    omega
theorem Took.big {P q k : Nat} {T : List Nat} (h : Took P q k T) (h2 : T.length = k + 1 ∧ (∀ i, i < k → wat T i < 1000000000) ∧ wat T k = 1000000000) : 1000000000 ^ (k + 1) ≤ P * q := by
  rw [← h.val, ← wtk_all T (i := k + 1) (by omega), wtk_succ, h2.2.2, Nat.pow_succ]
  omega
/-- Is what is left less than what is to be taken away? -/
theorem Took.less {P q k R : Nat} {T : List Nat} (h : Took P q k T) (hP : P < 1000000000 ^ k) (hR : R < P * 1000000000) : lessL (wds R) T = decide (R < P * q) := by
  rcases h.form with e | e
  · rw [e]; exact lessL_wds _ _
  · have hb := h.big e
    have hk : P * 1000000000 < 1000000000 ^ (k + 1) := by rw [Nat.pow_succ]; omega
    rw [decide_eq_true (by omega)]
    have hl : (wds R).length ≤ k + 1 := wds_length_le (by omega)
    unfold lessL
    rcases Nat.lt_or_ge (wds R).length (k + 1) with e2 | e2
    · rw [if_pos (by omega), decide_eq_true (by omega)]
    · have e3 : (wds R).length = k + 1 := by omega
      rw [if_neg (by omega), e3]
      unfold lessAt
      have := wat_lt (wds_words R) k
      rw [if_pos (by omega), decide_eq_true (by omega)]
theorem Took.over {P q k : Nat} {T : List Nat} (h : Took P q k T) (h2 : T.length = k + 1 ∧ (∀ i, i < k → wat T i < 1000000000) ∧ wat T k = 1000000000) (hP : P < 1000000000 ^ k) (hk : (wds P).length = k) (hq : 1 ≤ q) (hq2 : q ≤ 1000000001) :
    Over T (wds P) ∧ lessL T (wds P) = false := by
  have hin : ∀ i, wat T i ≤ 1000000000 := fun i => by
    rcases Nat.lt_or_ge i k with e | e
    · exact Nat.le_of_lt (h2.2.1 i e)
    · rcases Nat.eq_or_lt_of_le e with e2 | e2
      · rw [← e2, h2.2.2]; omega
      · rw [wat_out (by omega)]; omega
  refine ⟨⟨hin, fun i e => ?_, wds_words P, by omega, ?_, ?_⟩, ?_⟩
  · rw [h2.1]
    rcases Nat.lt_or_ge i k with e2 | e2
    · have := h2.2.1 i e2; omega
    · rcases Nat.eq_or_lt_of_le e2 with e3 | e3
      · omega
      · rw [wat_out (by omega)] at e; omega
  · rw [wval_wds, h.val]
    have : P * 1 ≤ P * q := Nat.mul_le_mul_left _ hq
    omega
  · rw [wval_wds, h.val, h2.1, Nat.pow_succ]
    have e1 : P * q ≤ P * 1000000001 := Nat.mul_le_mul_left _ hq2
    omega
  · unfold lessL
    rw [if_pos (by omega), decide_eq_false (by omega)]

/-! ### The guess -/
theorem div_guess_ge {R P B : Nat} (hB : 0 < P / B) : R / P ≤ (R / B) / (P / B) := by
  rw [Nat.le_div_iff_mul_le hB]
  have hB0 : 0 < B := by
    rcases Nat.eq_zero_or_pos B with e | e
    · rw [e, Nat.div_zero] at hB; omega
    · exact e
  rw [Nat.le_div_iff_mul_le hB0, Nat.mul_assoc]
  exact Nat.le_trans (Nat.mul_le_mul_left _ (Nat.div_mul_le_self P B)) (Nat.div_mul_le_self R P)
theorem div_guess_le {R P B : Nat} (hR : R < P * 1000000000) (hB : 500000000 ≤ P / B) : (R / B) / (P / B) ≤ 1000000001 := by
  have hB0 : 0 < B := by
    rcases Nat.eq_zero_or_pos B with e | e
    · rw [e, Nat.div_zero] at hB; omega
    · exact e
  have h1 : P < (P / B + 1) * B := by rw [Nat.mul_comm]; exact Nat.lt_mul_div_succ P hB0
  have h2 : R / B < (P / B + 1) * 1000000000 := by
    rw [Nat.div_lt_iff_lt_mul hB0]
    have : P * 1000000000 < (P / B + 1) * B * 1000000000 := Nat.mul_lt_mul_of_pos_right h1 (by omega)
    have e : (P / B + 1) * B * 1000000000 = (P / B + 1) * 1000000000 * B := by rw [Nat.mul_assoc, Nat.mul_comm B, ← Nat.mul_assoc]
    omega
  generalize P / B = t at *
  have : (R / B) / t < 1000000002 := by
    rw [Nat.div_lt_iff_lt_mul (by omega)]
    omega
  omega
/-- Two numbers grow alike. -/
theorem norm_top {t : Nat} (h : 1 ≤ t) (h2 : t < 1000000000) : 1 ≤ 1000000000 / (t + 1) ∧ 1000000000 / (t + 1) ≤ 500000000 ∧ 500000000 ≤ t * (1000000000 / (t + 1)) ∧ (t + 1) * (1000000000 / (t + 1)) ≤ 1000000000 := by
  have h3 : (t + 1) * (1000000000 / (t + 1)) ≤ 1000000000 := Nat.mul_div_le _ _
  have h4 : 1000000000 < (t + 1) * (1000000000 / (t + 1) + 1) := Nat.lt_mul_div_succ _ (by omega)
  have h5 : 1 ≤ 1000000000 / (t + 1) := by rw [Nat.le_div_iff_mul_le (by omega)]; omega
  have h6 : 1000000000 / (t + 1) ≤ 500000000 := by
    have : 1000000000 / (t + 1) ≤ 1000000000 / 2 := Nat.div_le_div_left (by omega) (by omega)
    omega
  refine ⟨h5, h6, ?_, h3⟩
  generalize 1000000000 / (t + 1) = g at *
  rcases Nat.lt_or_ge t 500000000 with e | e
  · rcases Nat.eq_or_lt_of_le h with e1 | e1
    · subst e1; omega
    · -- 2 ≤ t: either g ≤ t or t < g, both are at least 2
      have e5 : 2 ≤ g := by
        rcases Nat.lt_or_ge g 2 with e6 | e6
        · have : g = 1 := by omega
          subst this; omega
        · exact e6
      have e6 : t * g + t + g + 1 = (t + 1) * (g + 1) := by rw [Nat.add_mul, Nat.mul_add]; omega
      have e7 : t + g + 1 ≤ t * g + 1 := by
        obtain ⟨x, rfl⟩ : ∃ x, t = x + 2 := ⟨t - 2, by omega⟩
        obtain ⟨y, rfl⟩ : ∃ y, g = y + 2 := ⟨g - 2, by omega⟩
        have : (x + 2) * (y + 2) = x * y + 2 * x + 2 * y + 4 := by rw [Nat.add_mul, Nat.mul_add]; omega
        omega
      omega
  · have : t * 1 ≤ t * g := Nat.mul_le_mul_left _ h5
    omega

/-! ### Word by word -/
/-- The quotient behind the words from i on: those of n from i on, and what is left. -/
structure QuoAt (G P i R : Nat) (n : List Nat) : Prop where
  len : n.length = (wds G).length
  le : i ≤ n.length
  rest : R = G / 1000000000 ^ i % P
  words : ∀ p, i ≤ p → wat n p < 1000000000
  val : wval (n.drop i) = G / 1000000000 ^ i / P
theorem QuoAt.start (G P : Nat) : QuoAt G P (wds G).length 0 (List.replicate (wds G).length 0) := by
  have h : G / 1000000000 ^ (wds G).length = 0 := Nat.div_eq_of_lt (by have := wval_lt (wds_words G); rwa [wval_wds] at this)
  refine ⟨by simp, by simp, by rw [h]; simp, fun p _ => by rw [wat_zeros]; omega, ?_⟩
  rw [h, List.drop_of_length_le (by simp)]; simp [wval]
theorem QuoAt.rest_lt {G P i R : Nat} {n : List Nat} (h : QuoAt G P i R n) (hP : 0 < P) (x : Nat) (hx : x < 1000000000) : x + 1000000000 * R < P * 1000000000 := by
  have : R < P := by rw [h.rest]; exact Nat.mod_lt _ hP
  have : R + 1 ≤ P := this
  have : 1000000000 * (R + 1) ≤ 1000000000 * P := Nat.mul_le_mul_left _ this
  omega
theorem QuoAt.step {G P i R : Nat} {n : List Nat} (h : QuoAt G P (i + 1) R n) (hP : 0 < P) (q : Nat) (hq : q = (wat (wds G) i + 1000000000 * R) / P) :
    QuoAt G P i ((wat (wds G) i + 1000000000 * R) % P) (n.set i q) ∧ q < 1000000000 := by
  have hx := wat_lt (wds_words G) i
  have hr := h.rest_lt hP _ hx
  have hq1 : q < 1000000000 := by rw [hq, Nat.div_lt_iff_lt_mul hP]; omega
  have hin : i < n.length := h.le
  have hG : G / 1000000000 ^ i = wat (wds G) i + 1000000000 * (G / 1000000000 ^ (i + 1)) := by
    rw [wat_wds, Nat.pow_succ, ← Nat.div_div_eq_div_mul]
    exact (Nat.mod_add_div _ _).symm
  obtain ⟨Q, hQ⟩ : ∃ Q, Q = G / 1000000000 ^ (i + 1) := ⟨_, rfl⟩
  have hval := h.val
  have hrest := h.rest
  rw [← hQ] at hG hval hrest
  have hQP : P * (Q / P) + R = Q := by rw [hrest]; exact Nat.div_add_mod Q P
  have hG2 : G / 1000000000 ^ i = (wat (wds G) i + 1000000000 * R) + P * (1000000000 * (Q / P)) := by
    rw [hG]
    have : 1000000000 * Q = 1000000000 * R + P * (1000000000 * (Q / P)) := by
      conv => lhs; rw [← hQP]
      rw [Nat.mul_add, ← Nat.mul_assoc, Nat.mul_comm 1000000000 P, Nat.mul_assoc]
      omega
    omega
  refine ⟨⟨by rw [List.length_set]; exact h.len, by rw [List.length_set]; omega, ?_, fun p hp => ?_, ?_⟩, hq1⟩
  · rw [hG2, Nat.add_mul_mod_self_left]
  · rw [wat_set _ _ _ _ hin]
    split
    · exact hq1
    · exact h.words p (by omega)
  · rw [hG2, Nat.add_mul_div_left _ _ hP, ← hq]
    rw [show (n.set i q).drop i = q :: n.drop (i + 1) by
      rw [List.drop_eq_getElem_cons (by rw [List.length_set]; exact hin), List.getElem_set_self, List.drop_set_of_lt (by omega)]]
    show q + 1000000000 * wval (n.drop (i + 1)) = _
    rw [hval]
theorem QuoAt.done {G P R : Nat} {n : List Nat} (h : QuoAt G P 0 R n) : crop n = wds (G / P) := by
  have hw : Words n := words_of_wat fun i _ => h.words i (by omega)
  have hv := h.val
  rw [List.drop_zero, Nat.pow_zero, Nat.div_one] at hv
  rw [← wds_wval hw, hv]
/-- One word more: what is left, with the next word below it. -/
theorem crop_cons (x R : Nat) (hx : x < 1000000000) : crop (x :: wds R) = wds (x + 1000000000 * R) := by
  have hw : Words (x :: wds R) := fun y hy => by
    rcases List.mem_cons.1 hy with e | e
    · rw [e]; exact hx
    · exact wds_words R y e
  rw [← wds_wval hw]
  show wds (x + 1000000000 * wval (wds R)) = _
  rw [wval_wds]
theorem wds_len_pos {n : Nat} (h : 0 < n) : 0 < (wds n).length := by rw [wds_pos h]; simp
theorem wds_len_of {n k : Nat} (h1 : 1000000000 ^ k ≤ n) (h2 : n < 1000000000 ^ (k + 1)) : (wds n).length = k + 1 := by
  have h3 := wds_length_le h2
  have h4 := wval_lt (wds_words n)
  rw [wval_wds] at h4
  rcases Nat.lt_or_ge (wds n).length (k + 1) with e | e
  · have : 1000000000 ^ (wds n).length ≤ 1000000000 ^ k := Nat.pow_le_pow_right (by omega) (by omega)
    omega
  · omega
/-- The highest word. -/
theorem wds_top {n : Nat} (h : 0 < n) : wat (wds n) ((wds n).length - 1) = n / 1000000000 ^ ((wds n).length - 1) ∧ 1 ≤ wat (wds n) ((wds n).length - 1) ∧ n < 1000000000 ^ (wds n).length ∧ 1000000000 ^ ((wds n).length - 1) ≤ n := by
  have hp := wds_len_pos h
  have h4 := wval_lt (wds_words n)
  rw [wval_wds] at h4
  have hge : 1000000000 ^ ((wds n).length - 1) ≤ n := by
    rcases Nat.lt_or_ge n (1000000000 ^ ((wds n).length - 1)) with e | e
    · have := wds_length_le e; omega
    · exact e
  obtain ⟨k, hk⟩ : ∃ k, (wds n).length = k + 1 := ⟨(wds n).length - 1, by omega⟩
  rw [hk, Nat.add_sub_cancel] at hge ⊢
  rw [hk] at h4
  have hlt : n / 1000000000 ^ k < 1000000000 := by
    rw [Nat.div_lt_iff_lt_mul (Nat.pow_pos (by omega)), Nat.mul_comm, ← Nat.pow_succ]; exact h4
  refine ⟨by rw [wat_wds, Nat.mod_eq_of_lt hlt], ?_, h4, hge⟩
  rw [wat_wds, Nat.mod_eq_of_lt hlt, Nat.le_div_iff_mul_le (Nat.pow_pos (by omega)), Nat.one_mul]
  exact hge
/-- What a number grows to: as many words, and its highest one is half of the base at least. -/
theorem norm_part {B t k : Nat} (ht : t = B / 1000000000 ^ k) (h1 : 1 ≤ t) (h2 : B < 1000000000 ^ (k + 1)) :
    B * (1000000000 / (t + 1)) < 1000000000 ^ (k + 1) ∧ 500000000 ≤ B * (1000000000 / (t + 1)) / 1000000000 ^ k := by
  have hp : 0 < 1000000000 ^ k := Nat.pow_pos (by omega)
  have ht2 : t < 1000000000 := by rw [ht, Nat.div_lt_iff_lt_mul hp, Nat.mul_comm, ← Nat.pow_succ]; exact h2
  obtain ⟨n1, _, n3, n4⟩ := norm_top h1 ht2
  have hlo : t * 1000000000 ^ k ≤ B := by rw [ht]; exact Nat.div_mul_le_self _ _
  have hhi : B < (t + 1) * 1000000000 ^ k := by rw [ht, Nat.mul_comm]; exact Nat.lt_mul_div_succ _ hp
  generalize 1000000000 / (t + 1) = g at *
  rw [Nat.pow_succ]
  generalize 1000000000 ^ k = K at *
  constructor
  · have e1 : B * g < (t + 1) * K * g := Nat.mul_lt_mul_of_pos_right hhi (by omega)
    have e2 : (t + 1) * K * g = (t + 1) * g * K := by rw [Nat.mul_assoc, Nat.mul_comm K, ← Nat.mul_assoc]
    have e3 : (t + 1) * g * K ≤ 1000000000 * K := Nat.mul_le_mul_right _ n4
    omega
  · rw [Nat.le_div_iff_mul_le hp]
    have e1 : t * K * g ≤ B * g := Nat.mul_le_mul_right _ hlo
    have e2 : t * K * g = t * g * K := by rw [Nat.mul_assoc, Nat.mul_comm K, ← Nat.mul_assoc]
    have e3 : 500000000 * K ≤ t * g * K := Nat.mul_le_mul_right _ n3
    omega
theorem pow_room {P R k : Nat} (hP : P < 1000000000 ^ k) (hR : R < P * 1000000000) : R < 1000000000 ^ (k + 1) := by
  rw [Nat.pow_succ]
  exact Nat.lt_of_lt_of_le hR (Nat.mul_le_mul_right _ (Nat.le_of_lt hP))
theorem pow_room2 {P q k : Nat} (hP : P < 1000000000 ^ k) (hq : q ≤ 1000000001) : P * q < 1000000000 ^ (k + 2) := by
  rw [Nat.pow_add]
  have h1 : P * q ≤ P * 1000000000 ^ 2 := Nat.mul_le_mul_left _ (Nat.le_trans hq (by decide))
  exact Nat.lt_of_le_of_lt h1 (Nat.mul_lt_mul_of_pos_right hP (by decide))
theorem guess_words {R P : Nat} (hP : 0 < P) (hR : R < P * 1000000000) :
    wat (wds R) (wds P).length * 1000000000 + wat (wds R) ((wds P).length - 1) = R / 1000000000 ^ ((wds P).length - 1) ∧ wat (wds P) ((wds P).length - 1) = P / 1000000000 ^ ((wds P).length - 1) := by
  obtain ⟨h1, _, h3, _⟩ := wds_top hP
  refine ⟨?_, h1⟩
  have hp := wds_len_pos hP
  obtain ⟨k, hk⟩ : ∃ k, (wds P).length = k + 1 := ⟨(wds P).length - 1, by omega⟩
  rw [hk] at h3 ⊢
  rw [Nat.add_sub_cancel, wat_wds, wat_wds]
  have hlt : R / 1000000000 ^ (k + 1) < 1000000000 := by
    rw [Nat.div_lt_iff_lt_mul (Nat.pow_pos (by omega)), Nat.mul_comm, ← Nat.pow_succ]
    exact pow_room h3 hR
  rw [Nat.mod_eq_of_lt hlt, Nat.pow_succ, ← Nat.div_div_eq_div_mul]
  have := Nat.div_add_mod (R / 1000000000 ^ k) 1000000000
  omega
end Go.Proofs.YthgjelpmdndceaaGreatDoor
