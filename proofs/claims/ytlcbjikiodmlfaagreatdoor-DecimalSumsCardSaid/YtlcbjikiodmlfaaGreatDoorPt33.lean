/- Layer 7: the document's Mul, walked. -/
import Derived.Test.YtlcbjikiodmlfaaGreatDoorPt32
import Derived.StillTailTactics
namespace Go.Proofs.YtlcbjikiodmlfaaGreatDoor
open Go.RowKit

theorem infoI64 : (Tryz.prog.info? 3).map (fun i => (i.zero, i.size, i.bytes)) = some (some (.int .i64 0), 1, 8) := by kernel_rfl
section
variable {P : Program} {ops : Array Oper} {rest : List Oper} {o : Oper} {a : Act} {w : World} {Q : Exit → Act → World → Prop}
/-- 'make([]int, n)'. -/
theorem wpList_make_i64 (hgd : o.guard = none) (t e : TypeId) (x : Operand) (ho : o.op = .makeSlice t x x) (n : Nat) (hx : a.eval x = .int .i64 n) (ht : P.underlying t = some (.slice e))
    (hi : (P.info? e).map (fun i => (i.zero, i.size, i.bytes)) = some (some (.int .i64 0), 1, 8)) (hn : n ≤ 17592186044416)
    (h : wpList P ops Q rest (a.put o.dst (.slice (some ⟨w.heap.size, 0, none⟩) n n)) (w.alloc (.cells (i64s (List.replicate n 0)).toArray e))) : wpList P ops Q (o :: rest) a w := by
  obtain ⟨i, hi, hz, hs, hb⟩ := info_parts hi
  have hr := run_make (P := P) w t e i _ ht hi hz .i64 .i64 n n (by omega) (Int.le_refl _) (by rw [hb]; omega) (by omega)
  rw [hs, Nat.mul_one] at hr
  have e1 : madeCells (Value.int .i64 0).cells n = (i64s (List.replicate n 0)).toArray := by
    apply Array.toList_inj.1
    have := toList_madeCells_one (.int .i64 0) n
    simp only [i64s, List.map_replicate]
    exact this
  simp only [Int.toNat_natCast] at hr
  rw [e1] at hr
  refine wpList_plain hgd fun K hK => ?_
  unfold Oper.wp
  simp [execOp, ho, hx, hr, Result.andThen]
  exact hK _ _ h
end
set_option maxHeartbeats 4000000 in
set_option maxRecDepth 100000 in
theorem rmul_ok (a b : List UInt8) (w : World) (ha : Digs a) (hb : Digs b) (hl : a.length ≤ 1000000) (hlb : b.length ≤ 1000000) :
    Calls Tryz.prog 31 #[.string (bs a), .string (bs b)] w fun e w' => e = .returned (.string (bs (dig (num a * num b)))) ∧ Below w.heap.size w w' := by
  have hsa := bs_size a
  have hsb := bs_size b
  obtain ⟨m, hm⟩ : ∃ m, m = a.length := ⟨_, rfl⟩
  obtain ⟨n, hn⟩ : ∃ n, n = b.length := ⟨_, rfl⟩
  have HM := Lib.hid hm
  have HN := Lib.hid hn
  rw [← hm] at hsa hl
  rw [← hn] at hsb hlb
  have HA := Lib.hid ha
  have HB := Lib.hid hb
  have HDA : Hid (∀ k, k < m → ∀ W, Calls Tryz.prog 48 #[.string (bs a), .int .i64 (k : Int)] W fun e w' => e = .returned (.int .i64 (dAt a k : Nat)) ∧ W = w') := Lib.hid fun k hk W => rdigit_ok a k W ha (by rw [← hm]; omega) (by omega)
  have HDB : Hid (∀ k, k < n → ∀ W, Calls Tryz.prog 48 #[.string (bs b), .int .i64 (k : Int)] W fun e w' => e = .returned (.int .i64 (dAt b k : Nat)) ∧ W = w') := Lib.hid fun k hk W => rdigit_ok b k W hb (by rw [← hn]; omega) (by omega)
  clear hm hn ha hb
  obtain ⟨N, hNN⟩ : ∃ N, N = m + n := ⟨_, rfl⟩
  have hN2 : (m : Int) + (n : Int) = (N : Int) := by omega
  have hNl : N ≤ 2000000 := by omega
  have HNN := Lib.hid hNN
  clear hNN
  obtain ⟨w1, hw1⟩ : ∃ w1, w1 = w.alloc (.cells (i64s (List.replicate N 0)).toArray 3) := ⟨_, rfl⟩
  have HR1 : Hid (Row w1 w.heap.size 3 (i64s (List.replicate N 0)).toArray) := Lib.hid (by subst hw1; exact Row.new _ _ _)
  have HB1 : Hid (Below w.heap.size w w1) := Lib.hid (by subst hw1; exact (Below.refl _ _).alloc (Nat.le_refl _) _)
  have HS : Hid (MulT a b 0 0 (List.replicate N 0)) := Lib.hid (by rw [HNN.out, HM.out, HN.out]; exact MulT.start a b)
  go_enter Tryz.func31, Tryz.ntmps31
  generalize bs a = sa at *
  generalize bs b = sb at *
  go_upto_region 2 with (
      skip
      refine wpList_make_i64 ?_ 79 3 (.tmp 16) ?_ N ?_ Tryz.underlying79 infoI64 (by omega) ?_
      · with_reducible rfl
      · with_reducible rfl
      · exact congrArg (Value.int .i64) (by omega))
  rw [← hw1]
  clear hw1
  go_wp2_with fail
  go_loopw [6] (fun v6 wr => ∃ (i : Nat) (out : List Nat), i ≤ m ∧ v6 = .int .i64 i ∧ Hid (Row wr w.heap.size 3 (i64s out).toArray ∧ Below w.heap.size w wr) ∧ Hid (MulT a b i 0 out)) (fun v6 _ => m - (intOf v6).toNat)
  case atStart => exact ⟨0, _, Nat.zero_le _, rfl, Lib.hid ⟨HR1.out, HB1.out⟩, HS⟩
  case round =>
    obtain ⟨i, out, hi, rfl, HR, HO⟩ := hrel
    by_cases hlt : i < m
    · have HDA2 := Lib.hid (HDA.out i hlt)
      go_wp2_with fail
      go_loopw [7] (fun v7 wq => ∃ (k : Nat) (out2 : List Nat), k ≤ n ∧ v7 = .int .i64 k ∧ Hid (Row wq w.heap.size 3 (i64s out2).toArray ∧ Below w.heap.size w wq) ∧ Hid (MulT a b i k out2)) (fun v7 _ => n - (intOf v7).toNat)
      case atStart => exact ⟨0, out, Nat.zero_le _, rfl, HR, HO⟩
      case round =>
        obtain ⟨k, out2, hk, rfl, HR2, HO2⟩ := hrel
        by_cases hkt : k < n
        · have HDB2 := Lib.hid (HDB.out k hkt)
          have hlen := HO2.out.len
          rw [← HM.out, ← HN.out] at hlen
          obtain ⟨p, hp⟩ : ∃ p, p = i + k := ⟨_, rfl⟩
          have hpi : (i : Int) + (k : Int) = (p : Int) := by omega
          have hpN : p < N := by have := HNN.out; omega
          have kc := HR2.out.1.cell (i := p) (v := .int .i64 (wat out2 p : Int)) (by rw [List.getElem?_toArray]; exact i64s_get _ (by omega))
          have fc := HR2.out.1.free p
          have HST := Lib.hid (HO2.out.step (by rw [← HM.out]; exact hlt) (by rw [← HN.out]; exact hkt))
          have hlow := HO2.out.low p (by omega)
          have hda := dAt_lt a i
          have hdb := dAt_lt b k
          rw [← hp] at HST
          clear hp hlen
          generalize dAt a i = da at *
          generalize dAt b k = db at *
          obtain ⟨M, hM⟩ : ∃ M, M = da * db := ⟨_, rfl⟩
          have hM2 : M ≤ 81 := by rw [hM]; exact Nat.mul_le_mul (show da ≤ 9 by omega) (show db ≤ 9 by omega)
          have hm1 : (da : Int) * (db : Int) = (M : Int) := by rw [hM]; exact (Int.natCast_mul da db).symm
          rw [← hM] at HST
          clear hM
          obtain ⟨u, hu⟩ : ∃ u, u = wat out2 p := ⟨_, rfl⟩
          rw [← hu] at HST kc hlow
          clear hu
          obtain ⟨s, hs⟩ : ∃ s, s = u + M := ⟨_, rfl⟩
          have hs1 : (u : Int) + (M : Int) = (s : Int) := by omega
          rw [← hs] at HST
          have hsl : s ≤ 100000000 := by omega
          have hwr : IntKind.i64.wrap (s : Int) = (s : Int) := IntWalk.i64_in _ (by omega)
          have hwp : IntKind.i64.wrap (p : Int) = (p : Int) := IntWalk.i64_in _ (by omega)
          have hwM : IntKind.i64.wrap (M : Int) = (M : Int) := IntWalk.i64_in _ (by omega)
          clear hs
          have HROW := Lib.hid (HR2.out.1.set_ p (.int .i64 (s : Int)))
          rw [i64s_set] at HROW
          have HBL := Lib.hid (HR2.out.2.setCell (p := ⟨w.heap.size, p, none⟩) (Nat.le_refl _) (.int .i64 (s : Int)))
          have hpN2 : (p : Int) < (N : Int) := by omega
          have HBQ := Lib.hid (HR2.out.2.drew)
          have HBD := Lib.hid (HR2.out.2.drew.setCell (p := ⟨w.heap.size, p, none⟩) (Nat.le_refl _) (.int .i64 (s : Int)))
          have hrd := HR2.out.1.drew.set_ p (.int .i64 (s : Int))
          rw [i64s_set] at hrd
          have HROWD := Lib.hid hrd
          clear hrd HROW HBL
          go_wp2_with fail
          refine wp_region_held_drew (S := (fun W => Below w.heap.size w W)) (by kernel_rfl) (HBQ.out) (fun hHeld => ?_)
          refine wpAnyH_take (i := 0) (oi := ?_) (v := ?_) ?_ (by kernel_rfl) (by kernel_rfl) (by kernel_rfl) ?_ ?_ (by assumption) ?_
          rotate_left 2
          · simp only [List.getElem?_toArray, List.getElem?_cons_zero]; with_reducible rfl
          · exact fun _ _ _ h => h
          · refine Or.inl ⟨by rfl, ?_⟩; intro W hSw; go_simp; try with_reducible rfl
          try simp only [Act.put, List.setIfInBounds_toArray, List.set_cons_zero, List.set_cons_succ]
          refine wpAnyH_take (i := 1) (oi := ?_) (v := ?_) ?_ (by kernel_rfl) (by kernel_rfl) (by kernel_rfl) ?_ ?_ (by assumption) ?_
          rotate_left 2
          · simp only [List.getElem?_toArray, List.getElem?_cons_succ, List.getElem?_cons_zero]; with_reducible rfl
          · exact fun _ _ _ h => h
          · refine Or.inl ⟨by rfl, ?_⟩; intro W hSw; go_simp; try with_reducible rfl
          try simp only [Act.put, List.setIfInBounds_toArray, List.set_cons_zero, List.set_cons_succ]
          refine wpAnyH_take (i := 2) (oi := ?_) (v := ?_) ?_ (by kernel_rfl) (by kernel_rfl) (by kernel_rfl) ?_ ?_ (by assumption) ?_
          rotate_left 2
          · simp only [List.getElem?_toArray, List.getElem?_cons_succ, List.getElem?_cons_zero]; with_reducible rfl
          · exact fun _ _ _ h => h
          · refine Or.inl ⟨by rfl, ?_⟩; intro W hSw; go_simp; try with_reducible rfl
          try simp only [Act.put, List.setIfInBounds_toArray, List.set_cons_zero, List.set_cons_succ]
          refine wpAnyH_take (i := 3) (oi := ?_) (v := ?_) ?_ (by kernel_rfl) (by kernel_rfl) (by kernel_rfl) ?_ ?_ (by assumption) ?_
          rotate_left 2
          · simp only [List.getElem?_toArray, List.getElem?_cons_succ, List.getElem?_cons_zero]; with_reducible rfl
          · exact fun _ _ _ h => h
          · refine Or.inl ⟨by rfl, ?_⟩; intro W hSw; go_simp; try with_reducible rfl
          try simp only [Act.put, List.setIfInBounds_toArray, List.set_cons_zero, List.set_cons_succ]
          refine wpAnyH_take (i := 4) (oi := ?_) (v := ?_) ?_ (by kernel_rfl) (by kernel_rfl) (by kernel_rfl) ?_ ?_ (by assumption) ?_
          rotate_left 2
          · simp only [List.getElem?_toArray, List.getElem?_cons_succ, List.getElem?_cons_zero]; with_reducible rfl
          · exact fun _ _ _ h => h
          · refine Or.inl ⟨by rfl, ?_⟩; intro W hSw; go_simp; try with_reducible rfl
          try simp only [Act.put, List.setIfInBounds_toArray, List.set_cons_zero, List.set_cons_succ]
          refine wpAnyH_take (i := 5) (oi := ?_) (v := ?_) ?_ (by kernel_rfl) (by kernel_rfl) (by kernel_rfl) ?_ ?_ (by assumption) ?_
          rotate_left 2
          · simp only [List.getElem?_toArray, List.getElem?_cons_succ, List.getElem?_cons_zero]; with_reducible rfl
          · exact fun _ _ _ h => h
          · refine Or.inl ⟨by rfl, ?_⟩; intro W hSw; go_simp; try with_reducible rfl
          try simp only [Act.put, List.setIfInBounds_toArray, List.set_cons_zero, List.set_cons_succ]
          refine wpAnyH_take (i := 6) (oi := ?_) (v := ?_) ?_ (by kernel_rfl) (by kernel_rfl) (by kernel_rfl) ?_ ?_ (by assumption) ?_
          rotate_left 2
          · simp only [List.getElem?_toArray, List.getElem?_cons_succ, List.getElem?_cons_zero]; with_reducible rfl
          · exact fun _ _ _ h => h
          · refine Or.inl ⟨by rfl, ?_⟩; intro W hSw; go_simp; try with_reducible rfl
          try simp only [Act.put, List.setIfInBounds_toArray, List.set_cons_zero, List.set_cons_succ]
          refine wpAnyH_take (i := 7) (oi := ?_) (v := ?_) ?_ (by kernel_rfl) (by kernel_rfl) (by kernel_rfl) ?_ ?_ (by assumption) ?_
          rotate_left 2
          · simp only [List.getElem?_toArray, List.getElem?_cons_succ, List.getElem?_cons_zero]; with_reducible rfl
          · exact fun _ _ _ h => h
          · refine Or.inl ⟨by rfl, ?_⟩; intro W hSw; go_simp; try with_reducible rfl
          try simp only [Act.put, List.setIfInBounds_toArray, List.set_cons_zero, List.set_cons_succ]
          refine wpAnyH_take (i := 8) (oi := ?_) (v := ?_) ?_ (by kernel_rfl) (by kernel_rfl) (by kernel_rfl) ?_ ?_ (by assumption) ?_
          rotate_left 2
          · simp only [List.getElem?_toArray, List.getElem?_cons_succ, List.getElem?_cons_zero]; with_reducible rfl
          · exact fun _ _ _ h => h
          · refine Or.inl ⟨by rfl, ?_⟩; intro W hSw; go_simp; try with_reducible rfl
          try simp only [Act.put, List.setIfInBounds_toArray, List.set_cons_zero, List.set_cons_succ]
          refine wpAnyH_take (i := 10) (oi := ?_) (v := ?_) ?_ (by kernel_rfl) (by kernel_rfl) (by kernel_rfl) ?_ ?_ (by assumption) ?_
          rotate_left 2
          · simp only [List.getElem?_toArray, List.getElem?_cons_succ, List.getElem?_cons_zero]; with_reducible rfl
          · exact fun _ _ _ h => h
          · refine Or.inl ⟨by rfl, ?_⟩; intro W hSw; go_simp; try with_reducible rfl
          try simp only [Act.put, List.setIfInBounds_toArray, List.set_cons_zero, List.set_cons_succ]
          refine wpAnyH_take (i := 11) (oi := ?_) (v := ?_) ?_ (by kernel_rfl) (by kernel_rfl) (by kernel_rfl) ?_ ?_ (by assumption) ?_
          rotate_left 2
          · simp only [List.getElem?_toArray, List.getElem?_cons_succ, List.getElem?_cons_zero]; with_reducible rfl
          · exact fun _ _ _ h => h
          · refine Or.inl ⟨by rfl, ?_⟩; intro W hSw; go_simp; try with_reducible rfl
          try simp only [Act.put, List.setIfInBounds_toArray, List.set_cons_zero, List.set_cons_succ]
          refine wpAnyH_take (i := 13) (oi := ?_) (v := ?_) ?_ (by kernel_rfl) (by kernel_rfl) (by kernel_rfl) ?_ ?_ (by assumption) ?_
          rotate_left 2
          · simp only [List.getElem?_toArray, List.getElem?_cons_succ, List.getElem?_cons_zero]; with_reducible rfl
          · exact fun _ _ _ h => h
          · refine Or.inl ⟨by rfl, ?_⟩; intro W hSw; go_simp; try with_reducible rfl
          try simp only [Act.put, List.setIfInBounds_toArray, List.set_cons_zero, List.set_cons_succ]
          refine wpAnyH_take (i := 14) (oi := ?_) (v := ?_) ?_ (by kernel_rfl) (by kernel_rfl) (by kernel_rfl) ?_ ?_ (by assumption) ?_
          rotate_left 2
          · simp only [List.getElem?_toArray, List.getElem?_cons_succ, List.getElem?_cons_zero]; with_reducible rfl
          · exact fun _ _ _ h => h
          · refine Or.inl ⟨by rfl, ?_⟩; intro W hSw; go_simp; try with_reducible rfl
          try simp only [Act.put, List.setIfInBounds_toArray, List.set_cons_zero, List.set_cons_succ]
          refine wpAnyH_ready (rs := [9, 12]) (by kernel_rfl) (by simp) ?_
          refine AllReadyH.cons (o := ?_) ?_ (fun K1 hK1 => ?_) ?_
          rotate_left 1
          · simp only [List.getElem?_toArray, List.getElem?_cons_succ, List.getElem?_cons_zero]; with_reducible rfl
          · rw [if_pos (by rfl)]
            go_simp
            skip
            go_wp2_with fail
            refine hK1.out _ _ HBQ.out (fun hHeld => ?_)
            clear hK1 K1
            try simp only [Act.put, List.setIfInBounds_toArray, List.set_cons_zero, List.set_cons_succ]
            refine wpAnyH_ready (rs := [12]) (by kernel_rfl) (by simp) ?_
            refine AllReadyH.cons (o := ?_) ?_ (fun K2 hK2 => ?_) ?_
            rotate_left 1
            · simp only [List.getElem?_toArray, List.getElem?_cons_succ, List.getElem?_cons_zero]; with_reducible rfl
            · rw [if_pos (by rfl)]
              go_simp
              refine (HDA2.out _).mono ?_
              rintro e5 w5 ⟨rfl, rfl⟩
              go_wp2_with fail
              refine hK2.out _ _ HBQ.out (fun hHeld => ?_)
              clear hK2 K2
              try simp only [Act.put, List.setIfInBounds_toArray, List.set_cons_zero, List.set_cons_succ]
              refine wpAnyH_ready (rs := [15]) (by kernel_rfl) (by simp) ?_
              refine AllReadyH.cons (o := ?_) ?_ (fun K3 hK3 => ?_) ?_
              rotate_left 1
              · simp only [List.getElem?_toArray, List.getElem?_cons_succ, List.getElem?_cons_zero]; with_reducible rfl
              · rw [if_pos (by rfl)]
                go_simp
                refine (HDB2.out _).mono ?_
                rintro e6 w6 ⟨rfl, rfl⟩
                go_wp2_with fail
                refine hK3.out _ _ HBQ.out (fun hHeld => ?_)
                clear hK3 K3
                try simp only [Act.put, List.setIfInBounds_toArray, List.set_cons_zero, List.set_cons_succ]
                refine wpAnyH_take (i := 16) (oi := ?_) (v := ?_) ?_ (by kernel_rfl) (by kernel_rfl) (by kernel_rfl) ?_ ?_ (by assumption) ?_
                rotate_left 2
                · simp only [List.getElem?_toArray, List.getElem?_cons_succ, List.getElem?_cons_zero]; with_reducible rfl
                · exact fun _ _ _ h => h
                · refine Or.inl ⟨by rfl, ?_⟩; intro W hSw; go_simp; try with_reducible rfl
                try simp only [Act.put, List.setIfInBounds_toArray, List.set_cons_zero, List.set_cons_succ]
                refine wpAnyH_take (i := 17) (oi := ?_) (v := ?_) ?_ (by kernel_rfl) (by kernel_rfl) (by kernel_rfl) ?_ ?_ (by assumption) ?_
                rotate_left 2
                · simp only [List.getElem?_toArray, List.getElem?_cons_succ, List.getElem?_cons_zero]; with_reducible rfl
                · exact fun _ _ _ h => h
                · refine Or.inl ⟨by rfl, ?_⟩; intro W hSw; go_simp; try with_reducible rfl
                try simp only [Act.put, List.setIfInBounds_toArray, List.set_cons_zero, List.set_cons_succ]
                refine wpAnyH_take (i := 18) (oi := ?_) (v := ?_) ?_ (by kernel_rfl) (by kernel_rfl) (by kernel_rfl) ?_ ?_ (by assumption) ?_
                rotate_left 2
                · simp only [List.getElem?_toArray, List.getElem?_cons_succ, List.getElem?_cons_zero]; with_reducible rfl
                · exact fun _ _ _ h => h
                · refine Or.inl ⟨by rfl, ?_⟩; intro W hSw; go_simp; try with_reducible rfl
                try simp only [Act.put, List.setIfInBounds_toArray, List.set_cons_zero, List.set_cons_succ]
                refine wpAnyH_ready (rs := [19]) (by kernel_rfl) (by simp) ?_
                refine AllReadyH.cons (o := ?_) ?_ (fun K4 hK4 => ?_) AllReadyH.nil
                rotate_left 1
                · simp only [List.getElem?_toArray, List.getElem?_cons_succ, List.getElem?_cons_zero]; with_reducible rfl
                rw [if_pos (by rfl)]
                go_simp
                go_wp2_with fail
                refine hK4.out _ _ HBD.out (fun hHeld => ?_)
                clear hK4 K4
                try simp only [Act.put, List.setIfInBounds_toArray, List.set_cons_zero, List.set_cons_succ]
                refine wpAnyH_done (by kernel_rfl) ?_ _
                go_wp2_with fail
                exact ⟨⟨k + 1, _, by omega, by go_num, Lib.hid ⟨HROWD.out, HBD.out⟩, HST⟩, by simp [intOf]; omega⟩
              exact AllReadyH.nil
            exact AllReadyH.nil
          refine AllReadyH.cons (o := ?_) ?_ (fun K5 hK5 => ?_) ?_
          rotate_left 1
          · simp only [List.getElem?_toArray, List.getElem?_cons_succ, List.getElem?_cons_zero]; with_reducible rfl
          · rw [if_pos (by rfl)]
            go_simp
            refine (HDA2.out _).mono ?_
            rintro e5 w5 ⟨rfl, rfl⟩
            go_wp2_with fail
            refine hK5.out _ _ HBQ.out (fun hHeld => ?_)
            clear hK5 K5
            try simp only [Act.put, List.setIfInBounds_toArray, List.set_cons_zero, List.set_cons_succ]
            refine wpAnyH_ready (rs := [9, 15]) (by kernel_rfl) (by simp) ?_
            refine AllReadyH.cons (o := ?_) ?_ (fun K6 hK6 => ?_) ?_
            rotate_left 1
            · simp only [List.getElem?_toArray, List.getElem?_cons_succ, List.getElem?_cons_zero]; with_reducible rfl
            · rw [if_pos (by rfl)]
              go_simp
              skip
              go_wp2_with fail
              refine hK6.out _ _ HBQ.out (fun hHeld => ?_)
              clear hK6 K6
              try simp only [Act.put, List.setIfInBounds_toArray, List.set_cons_zero, List.set_cons_succ]
              refine wpAnyH_ready (rs := [15]) (by kernel_rfl) (by simp) ?_
              refine AllReadyH.cons (o := ?_) ?_ (fun K7 hK7 => ?_) ?_
              rotate_left 1
              · simp only [List.getElem?_toArray, List.getElem?_cons_succ, List.getElem?_cons_zero]; with_reducible rfl
              · rw [if_pos (by rfl)]
                go_simp
                refine (HDB2.out _).mono ?_
                rintro e6 w6 ⟨rfl, rfl⟩
                go_wp2_with fail
                refine hK7.out _ _ HBQ.out (fun hHeld => ?_)
                clear hK7 K7
                try simp only [Act.put, List.setIfInBounds_toArray, List.set_cons_zero, List.set_cons_succ]
                refine wpAnyH_take (i := 16) (oi := ?_) (v := ?_) ?_ (by kernel_rfl) (by kernel_rfl) (by kernel_rfl) ?_ ?_ (by assumption) ?_
                rotate_left 2
                · simp only [List.getElem?_toArray, List.getElem?_cons_succ, List.getElem?_cons_zero]; with_reducible rfl
                · exact fun _ _ _ h => h
                · refine Or.inl ⟨by rfl, ?_⟩; intro W hSw; go_simp; try with_reducible rfl
                try simp only [Act.put, List.setIfInBounds_toArray, List.set_cons_zero, List.set_cons_succ]
                refine wpAnyH_take (i := 17) (oi := ?_) (v := ?_) ?_ (by kernel_rfl) (by kernel_rfl) (by kernel_rfl) ?_ ?_ (by assumption) ?_
                rotate_left 2
                · simp only [List.getElem?_toArray, List.getElem?_cons_succ, List.getElem?_cons_zero]; with_reducible rfl
                · exact fun _ _ _ h => h
                · refine Or.inl ⟨by rfl, ?_⟩; intro W hSw; go_simp; try with_reducible rfl
                try simp only [Act.put, List.setIfInBounds_toArray, List.set_cons_zero, List.set_cons_succ]
                refine wpAnyH_take (i := 18) (oi := ?_) (v := ?_) ?_ (by kernel_rfl) (by kernel_rfl) (by kernel_rfl) ?_ ?_ (by assumption) ?_
                rotate_left 2
                · simp only [List.getElem?_toArray, List.getElem?_cons_succ, List.getElem?_cons_zero]; with_reducible rfl
                · exact fun _ _ _ h => h
                · refine Or.inl ⟨by rfl, ?_⟩; intro W hSw; go_simp; try with_reducible rfl
                try simp only [Act.put, List.setIfInBounds_toArray, List.set_cons_zero, List.set_cons_succ]
                refine wpAnyH_ready (rs := [19]) (by kernel_rfl) (by simp) ?_
                refine AllReadyH.cons (o := ?_) ?_ (fun K8 hK8 => ?_) AllReadyH.nil
                rotate_left 1
                · simp only [List.getElem?_toArray, List.getElem?_cons_succ, List.getElem?_cons_zero]; with_reducible rfl
                rw [if_pos (by rfl)]
                go_simp
                go_wp2_with fail
                refine hK8.out _ _ HBD.out (fun hHeld => ?_)
                clear hK8 K8
                try simp only [Act.put, List.setIfInBounds_toArray, List.set_cons_zero, List.set_cons_succ]
                refine wpAnyH_done (by kernel_rfl) ?_ _
                go_wp2_with fail
                exact ⟨⟨k + 1, _, by omega, by go_num, Lib.hid ⟨HROWD.out, HBD.out⟩, HST⟩, by simp [intOf]; omega⟩
              exact AllReadyH.nil
            refine AllReadyH.cons (o := ?_) ?_ (fun K9 hK9 => ?_) ?_
            rotate_left 1
            · simp only [List.getElem?_toArray, List.getElem?_cons_succ, List.getElem?_cons_zero]; with_reducible rfl
            · rw [if_pos (by rfl)]
              go_simp
              refine (HDB2.out _).mono ?_
              rintro e6 w6 ⟨rfl, rfl⟩
              go_wp2_with fail
              refine hK9.out _ _ HBQ.out (fun hHeld => ?_)
              clear hK9 K9
              try simp only [Act.put, List.setIfInBounds_toArray, List.set_cons_zero, List.set_cons_succ]
              refine wpAnyH_take (i := 16) (oi := ?_) (v := ?_) ?_ (by kernel_rfl) (by kernel_rfl) (by kernel_rfl) ?_ ?_ (by assumption) ?_
              rotate_left 2
              · simp only [List.getElem?_toArray, List.getElem?_cons_succ, List.getElem?_cons_zero]; with_reducible rfl
              · exact fun _ _ _ h => h
              · refine Or.inl ⟨by rfl, ?_⟩; intro W hSw; go_simp; try with_reducible rfl
              try simp only [Act.put, List.setIfInBounds_toArray, List.set_cons_zero, List.set_cons_succ]
              refine wpAnyH_ready (rs := [9]) (by kernel_rfl) (by simp) ?_
              refine AllReadyH.cons (o := ?_) ?_ (fun K10 hK10 => ?_) ?_
              rotate_left 1
              · simp only [List.getElem?_toArray, List.getElem?_cons_succ, List.getElem?_cons_zero]; with_reducible rfl
              · rw [if_pos (by rfl)]
                go_simp
                skip
                go_wp2_with fail
                refine hK10.out _ _ HBQ.out (fun hHeld => ?_)
                clear hK10 K10
                try simp only [Act.put, List.setIfInBounds_toArray, List.set_cons_zero, List.set_cons_succ]
                refine wpAnyH_take (i := 17) (oi := ?_) (v := ?_) ?_ (by kernel_rfl) (by kernel_rfl) (by kernel_rfl) ?_ ?_ (by assumption) ?_
                rotate_left 2
                · simp only [List.getElem?_toArray, List.getElem?_cons_succ, List.getElem?_cons_zero]; with_reducible rfl
                · exact fun _ _ _ h => h
                · refine Or.inl ⟨by rfl, ?_⟩; intro W hSw; go_simp; try with_reducible rfl
                try simp only [Act.put, List.setIfInBounds_toArray, List.set_cons_zero, List.set_cons_succ]
                refine wpAnyH_take (i := 18) (oi := ?_) (v := ?_) ?_ (by kernel_rfl) (by kernel_rfl) (by kernel_rfl) ?_ ?_ (by assumption) ?_
                rotate_left 2
                · simp only [List.getElem?_toArray, List.getElem?_cons_succ, List.getElem?_cons_zero]; with_reducible rfl
                · exact fun _ _ _ h => h
                · refine Or.inl ⟨by rfl, ?_⟩; intro W hSw; go_simp; try with_reducible rfl
                try simp only [Act.put, List.setIfInBounds_toArray, List.set_cons_zero, List.set_cons_succ]
                refine wpAnyH_ready (rs := [19]) (by kernel_rfl) (by simp) ?_
                refine AllReadyH.cons (o := ?_) ?_ (fun K11 hK11 => ?_) AllReadyH.nil
                rotate_left 1
                · simp only [List.getElem?_toArray, List.getElem?_cons_succ, List.getElem?_cons_zero]; with_reducible rfl
                rw [if_pos (by rfl)]
                go_simp
                go_wp2_with fail
                refine hK11.out _ _ HBD.out (fun hHeld => ?_)
                clear hK11 K11
                try simp only [Act.put, List.setIfInBounds_toArray, List.set_cons_zero, List.set_cons_succ]
                refine wpAnyH_done (by kernel_rfl) ?_ _
                go_wp2_with fail
                exact ⟨⟨k + 1, _, by omega, by go_num, Lib.hid ⟨HROWD.out, HBD.out⟩, HST⟩, by simp [intOf]; omega⟩
              exact AllReadyH.nil
            exact AllReadyH.nil
          exact AllReadyH.nil
        · obtain rfl : k = n := by omega
          have HNX : Hid (MulT a b (i + 1) 0 out2) := Lib.hid (by
            have h2 := HO2.out
            rw [HN.out] at h2
            exact h2.next HB.out)
          go_wp2_with fail
          exact ⟨⟨i + 1, out2, by omega, by go_num, HR2, HNX⟩, by simp [intOf]; omega⟩
    · obtain rfl : i = m := by omega
      have HTV : Hid (tval out = num a * num b) := Lib.hid (by
        have h2 := HO.out
        rw [HM.out] at h2
        exact h2.done HA.out)
      have hol := HO.out.len
      rw [← HM.out, ← HN.out, ← HNN.out] at hol
      have HOL := Lib.hid hol
      have HOH := Lib.hid HO.out.hi
      obtain ⟨w2, hw2⟩ : ∃ w2, w2 = wr.alloc (.cells (u8s (List.replicate N 0)).toArray 5) := ⟨_, rfl⟩
      have HR2 : Hid (Row w2 wr.heap.size 5 (u8s (List.replicate N 0)).toArray) := Lib.hid (by subst hw2; exact Row.new _ _ _)
      have HB2 : Hid (Below w.heap.size w w2) := Lib.hid (by subst hw2; exact HR.out.2.alloc HR.out.2.size _)
      have HRO : Hid (Row w2 w.heap.size 3 (i64s out).toArray) := Lib.hid (by subst hw2; exact HR.out.1.alloc _)
      have HLT : Hid (w.heap.size < wr.heap.size) := Lib.hid HR.out.1.lt
      clear hol
      go_upto_region 10 with (
          skip
          refine wpList_make_u8 ?_ 61 5 (.tmp 50) ?_ N ?_ Tryz.underlying61 infoU8 (by omega) ?_
          · with_reducible rfl
          · with_reducible rfl
          · exact congrArg (Value.int .i64) (by omega))
      rw [← hw2]
      clear hw2
      have hN1 := HNN.out
      generalize hG : wr.heap.size = G at *
      clear hG hN1
      go_wp2_with fail
      go_loopw [9, 10] (fun v9 v10 wq => ∃ (k c : Nat) (txt : List UInt8) (S : Nat), k ≤ N ∧ v10 = .int .i64 k ∧ v9 = .int .i64 c ∧ c ≤ 1000000000 ∧ Hid (Row wq G 5 (u8s txt).toArray ∧ Below w.heap.size w wq ∧ Row wq w.heap.size 3 (i64s out).toArray) ∧ Hid (OutAt N k txt S) ∧ Hid (S + 10 ^ k * c = tval (out.take k))) (fun _ v10 _ => N - (intOf v10).toNat)
      case atStart => exact ⟨0, 0, _, 0, Nat.zero_le _, rfl, rfl, by omega, Lib.hid ⟨HR2.out, HB2.out, HRO.out⟩, Lib.hid (OutAt.start N), Lib.hid (by simp [tval])⟩
      case round =>
        obtain ⟨k, c, txt, S, hk, rfl, rfl, hc, HR3, HO3, HE3⟩ := hrel
        by_cases hkt : k < N
        · have hlen := HO3.out.len
          obtain ⟨p, hp⟩ : ∃ p, p = N - 1 - k := ⟨_, rfl⟩
          have k0 := HR3.out.2.2.cell (i := k) (v := .int .i64 (wat out k : Int)) (by rw [List.getElem?_toArray]; exact i64s_get _ (by rw [HOL.out]; exact hkt))
          have kc := HR3.out.1.cell (i := p) (v := .int .u8 ((txt.getD p 0).toNat : Int)) (by rw [List.getElem?_toArray]; exact u8s_get _ (by omega))
          have fc := HR3.out.1.free p
          have hpi : (N : Int) - 1 - (k : Int) = (p : Int) := by omega
          have hpn : p < N := by omega
          have hu := HOH.out k
          have hTK := tval_take out k (by rw [HOL.out]; exact hkt)
          obtain ⟨u, huu⟩ : ∃ u, u = wat out k := ⟨_, rfl⟩
          rw [← huu] at k0 hu hTK
          obtain ⟨y, hy⟩ : ∃ y, y = u + c := ⟨_, rfl⟩
          have hy1 : (u : Int) + (c : Int) = (y : Int) := by omega
          have hyl : y ≤ 1200000000 := by omega
          obtain ⟨d, hd⟩ : ∃ d, d = y % 10 := ⟨_, rfl⟩
          obtain ⟨c2, hc2⟩ : ∃ c2, c2 = y / 10 := ⟨_, rfl⟩
          have hd10 : d < 10 := by omega
          have hc2l : c2 ≤ 1000000000 := by omega
          have hdi : (y : Int).tmod 10 = (d : Int) := by rw [Int.tmod_eq_emod_of_nonneg (by omega)]; omega
          have hdi2 : (y : Int) % 10 = (d : Int) := by omega
          have hci : (y : Int).tdiv 10 = (c2 : Int) := by rw [Int.tdiv_eq_ediv_of_nonneg (by omega)]; omega
          have hci2 : (y : Int) / 10 = (c2 : Int) := by omega
          have hwy : IntKind.i64.wrap (y : Int) = (y : Int) := IntWalk.i64_in _ (by omega)
          have HS := HO3.out.step hkt hd10
          have HROW := HR3.out.1.set_ p (.int .u8 ((UInt8.ofNat (48 + d)).toNat : Int))
          rw [u8s_set] at HROW
          rw [← hp] at HS
          have hGp : w.heap.size ≤ G := by have := HLT.out; omega
          have HBL := HR3.out.2.1.setCell (p := ⟨G, p, none⟩) hGp (.int .u8 ((UInt8.ofNat (48 + d)).toNat : Int))
          have HRF := HR3.out.2.2.far (p := ⟨G, p, none⟩) (by have := HLT.out; simp only; omega) (.int .u8 ((UInt8.ofNat (48 + d)).toNat : Int))
          rw [ofNat_val hd10, show ((48 + d : Nat) : Int) = 48 + (d : Int) by omega] at HROW HBL HRF
          have HALL := Lib.hid (And.intro HROW (And.intro HBL HRF))
          have HS' := Lib.hid HS
          have HE' : Hid (S + 10 ^ k * d + 10 ^ (k + 1) * c2 = tval (out.take (k + 1))) := Lib.hid (by
            rw [hTK, hd, hc2, hy, Nat.pow_succ]; exact carry_step HE3.out)
          have hw8 : IntKind.u8.wrap (48 + (d : Int)) = 48 + (d : Int) := by simp [IntKind.wrap, IntKind.bits, IntKind.signed]; omega
          have hn1 : IntKind.i64.wrap ((N : Int) - 1) = (N : Int) - 1 := IntWalk.i64_in _ (by omega)
          clear HS HROW HBL HRF hp hlen hd hc2 hy huu hTK hu hGp
          go_wp2_with fail
          exact ⟨⟨k + 1, c2, _, _, by omega, by go_num, rfl, hc2l, HALL, HS', HE'⟩, by simp [intOf]; omega⟩
        · obtain rfl : k = N := by omega
          have hd := HO3.out.done
          have hlen := HO3.out.len
          have hSe : S = num a * num b := by
            have h1 := HE3.out
            rw [List.take_of_length_le (by rw [HOL.out]; exact Nat.le_refl _), HTV.out] at h1
            have h2 := num_lt HA.out
            have h3 := num_lt HB.out
            rw [← HM.out] at h2
            rw [← HN.out] at h3
            have h4 : num a * num b < 10 ^ k := by
              rw [HNN.out, Nat.pow_add]
              exact Nat.mul_lt_mul_of_lt_of_le h2 (Nat.le_of_lt h3) (Nat.pow_pos (by omega))
            rcases Nat.eq_zero_or_pos c with e | e
            · rw [e] at h1; omega
            · have : 10 ^ k * 1 ≤ 10 ^ k * c := Nat.mul_le_mul_left _ e
              omega
          have HPL := Lib.hid hd.1
          rw [hSe] at HPL
          have hrow := HR3.out.1
          have hh : Holds wr (some ⟨G, 0, none⟩) txt.length 1 (u8s txt) := ⟨by rw [u8s_length, Nat.mul_one], fun _ => ⟨G, 0, rfl, hrow.lt, fun i v hv => by rw [Nat.zero_add]; exact hrow.cell (by rw [List.getElem?_toArray]; exact hv)⟩⟩
          have hcv := run_text_bs hh 61 9 5 k Tryz.underlying61 Tryz.underlying5 Tryz.underlying9
          rw [hlen] at hcv
          have HPN := Lib.hid (fun W => plain_ok txt W (by rw [hlen]; omega))
          rw [HPL.out] at HPN
          clear hrow hh hlen hSe hd
          go_wp2_with fail
          refine (HPN.out _).mono ?_
          rintro e w9 ⟨rfl, rfl⟩
          clear hcv
          go_wp2
          go_ret
          exact ⟨rfl, HR3.out.2.1⟩
end Go.Proofs.YtlcbjikiodmlfaaGreatDoor
