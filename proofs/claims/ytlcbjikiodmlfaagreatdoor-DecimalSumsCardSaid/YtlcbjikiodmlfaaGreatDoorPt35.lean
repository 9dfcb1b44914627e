/- Layer 7: the product of two numbers in words. -/
import Derived.Test.YtlcbjikiodmlfaaGreatDoorPt34
import Derived.Test.YtlcbjikiodmlfaaGreatDoorPt08
namespace Go.Proofs.YtlcbjikiodmlfaaGreatDoor
open Go.RowKit

theorem u64s_set (l : List Nat) (p v : Nat) : (u64s l).toArray.setIfInBounds p (.int .u64 (v : Int)) = (u64s (l.set p v)).toArray := by
  simp [u64s, List.map_set]
theorem row_word {w : World} {g : Nat} {t : TypeId} {l : List Nat} (h : Row w g t (u64s l).toArray) {p : Nat} (hp : p < l.length) : w.cell? ⟨g, p, none⟩ = some (.int .u64 (wat l p : Int)) :=
  h.cell (by rw [List.getElem?_toArray]; exact u64s_get l hp)
theorem row_wds {w : World} {g : Nat} {t : TypeId} {l : List Nat} (h : Row w g t (u64s l).toArray) (hl : Words l) (c : Nat) (hc : l.length ≤ c) (hm : c ≤ maxLen) : Wds w (.slice (some ⟨g, 0, none⟩) l.length c) l :=
  ⟨fun i => by have := wat_lt hl i; omega, _, c, rfl, hc, hm, by rw [u64s_length, Nat.mul_one], fun _ => ⟨g, 0, rfl, h.lt, fun j v hv => by
    rw [Nat.zero_add]
    exact h.cell (by rw [List.getElem?_toArray]; exact hv)⟩⟩
set_option maxHeartbeats 4000000 in
theorem product_ok (va vb : Value) (a b : List Nat) (w : World) (ha : Wds w va a) (hb : Wds w vb b) (wa : Words a) (wb : Words b) (la : a.length ≤ 1000000) (lb : b.length ≤ 1000000) :
    Calls Tryz.prog 28 #[va, vb] w (NumPost w (wval a * wval b)) := by
  obtain ⟨_, A, c, rfl, hc1, hc2, hA⟩ := id ha
  obtain ⟨_, B, d, rfl, hd1, hd2, hB⟩ := id hb
  have HA := Lib.hid hA
  have HB := Lib.hid hB
  have HWA := Lib.hid wa
  have HWB := Lib.hid wb
  clear hA hB wa wb ha hb
  unfold maxLen at hc2 hd2
  obtain ⟨m, hm⟩ : ∃ m, m = a.length := ⟨_, rfl⟩
  obtain ⟨k, hk⟩ : ∃ k, k = b.length := ⟨_, rfl⟩
  have HM := Lib.hid hm
  have HK := Lib.hid hk
  rw [← hm] at HA la hc1 ⊢
  rw [← hk] at HB lb hd1 ⊢
  clear hm hk
  obtain ⟨N, hN⟩ : ∃ N, N = m + k := ⟨_, rfl⟩
  have hN2 : (m : Int) + (k : Int) = (N : Int) := by omega
  have hN3 : N ≤ 2000000 := by omega
  obtain ⟨w1, hw1⟩ : ∃ w1, w1 = w.alloc (.cells (u64s (List.replicate N 0)).toArray 67) := ⟨_, rfl⟩
  have HR1 : Hid (Row w1 w.heap.size 67 (u64s (List.replicate N 0)).toArray) := Lib.hid (by subst hw1; exact Row.new _ _ _)
  have HB1 : Hid (Below w.heap.size w w1) := Lib.hid (by subst hw1; exact (Below.refl _ _).alloc (Nat.le_refl _) _)
  have HI1 : Hid (MulI a b 0 0 0 (List.replicate N 0)) := Lib.hid (by rw [hN, HM.out, HK.out]; exact MulI.start a b)
  have HNN := Lib.hid hN
  clear hN
  go_enter Tryz.func28, Tryz.ntmps28
  go_upto_region 2 with (
      skip
      refine wpList_make_u64 ?_ 46 67 (.tmp 15) ?_ N ?_ Tryz.underlying46 infoU64 (by omega) ?_
      · with_reducible rfl
      · with_reducible rfl
      · exact congrArg (Value.int .i64) (by omega))
  rw [← hw1]
  clear hw1
  go_wp2_with fail
  go_loopw [19] (fun v19 wr => ∃ (i : Nat) (n : List Nat), i ≤ m ∧ v19 = .int .i64 i ∧ Hid (Row wr w.heap.size 67 (u64s n).toArray ∧ Below w.heap.size w wr ∧ MulI a b i 0 0 n)) (fun v19 _ => m - (intOf v19).toNat)
  case atStart => exact ⟨0, _, Nat.zero_le _, rfl, Lib.hid ⟨HR1.out, HB1.out, HI1.out⟩⟩
  case round =>
    obtain ⟨i, n, hi, rfl, HR⟩ := hrel
    by_cases hlt : i < m
    · obtain ⟨ga, oa, rfl, hga, hra⟩ := HA.out.2 (by omega)
      have ka := (HR.out.2.1.cell (p := ⟨ga, oa + i, none⟩) hga).trans (hra i _ (u64s_get a (by rw [← HM.out]; exact hlt)))
      have hx := wat_lt HWA.out i
      obtain ⟨x, hxx⟩ : ∃ x, x = wat a i := ⟨_, rfl⟩
      rw [← hxx] at ka hx
      have HX := Lib.hid hxx
      clear hxx hra
      go_wp2_with fail
      go_loopw [8, 26] (fun v8 v26 wq => ∃ (j kept : Nat) (n2 : List Nat), j ≤ k ∧ v26 = .int .i64 j ∧ v8 = .int .u64 kept ∧ Hid (Row wq w.heap.size 67 (u64s n2).toArray ∧ Below w.heap.size w wq ∧ MulI a b i j kept n2)) (fun _ v26 _ => k - (intOf v26).toNat)
      case atStart => exact ⟨0, 0, n, Nat.zero_le _, rfl, rfl, HR⟩
      case round =>
        obtain ⟨j, kept, n2, hj, rfl, rfl, HQ⟩ := hrel
        have hkept := HQ.out.2.2.small
        by_cases hjt : j < k
        · obtain ⟨gb, ob, rfl, hgb, hrb⟩ := HB.out.2 (by omega)
          have kb := (HQ.out.2.1.cell (p := ⟨gb, ob + j, none⟩) hgb).trans (hrb j _ (u64s_get b (by rw [← HK.out]; exact hjt)))
          have hbd := HQ.out.2.2.bound HWA.out HWB.out
          have hlen := HQ.out.2.2.len
          rw [← HM.out, ← HK.out] at hlen
          have HST := Lib.hid (HQ.out.2.2.step HWA.out HWB.out (by rw [← HM.out]; exact hlt) (by rw [← HK.out]; exact hjt))
          obtain ⟨p, hp⟩ : ∃ p, p = i + j := ⟨_, rfl⟩
          rw [← hp] at hbd HST
          have kn := row_word HQ.out.1 (p := p) (by omega)
          have fn := HQ.out.1.free p
          have hij : (i : Int) + (j : Int) = (p : Int) := by omega
          have hpN : p < N := by have := HNN.out; omega
          rw [← HX.out] at hbd HST
          obtain ⟨y, hy⟩ : ∃ y, y = wat b j := ⟨_, rfl⟩
          have hyb := wat_lt HWB.out j
          rw [← hy] at hbd HST kb hyb
          obtain ⟨u, hu⟩ : ∃ u, u = wat n2 p := ⟨_, rfl⟩
          have hub := wat_lt HQ.out.2.2.words p
          rw [← hu] at hbd HST kn hub
          obtain ⟨M, hM⟩ : ∃ M, M = x * y := ⟨_, rfl⟩
          rw [← hM] at hbd HST
          have hm1 : (x : Int) * (y : Int) = (M : Int) := by rw [hM]; exact (Int.natCast_mul x y).symm
          obtain ⟨S, hS⟩ : ∃ S, S = u + M := ⟨_, rfl⟩
          rw [← hS] at hbd HST
          have hs1 : (u : Int) + (M : Int) = (S : Int) := by omega
          obtain ⟨K, hK⟩ : ∃ K, K = kept + S := ⟨_, rfl⟩
          rw [← hK] at hbd HST
          have hs2 : (kept : Int) + (S : Int) = (K : Int) := by omega
          obtain ⟨q, hq⟩ : ∃ q, q = K / 1000000000 := ⟨_, rfl⟩
          obtain ⟨r, hr⟩ : ∃ r, r = K % 1000000000 := ⟨_, rfl⟩
          have h2 : (K : Int) / 1000000000 = (q : Int) := by omega
          have h3 : (K : Int) % 1000000000 = (r : Int) := by omega
          rw [← hq, ← hr] at HST
          obtain ⟨hM1, hK1⟩ := hbd
          have hS1 : S ≤ 999999999999999999 := by omega
          clear hq hr hK hS hM hu hy hp hrb hlen hkept
          have HROW := Lib.hid (HQ.out.1.set_ p (.int .u64 (r : Int)))
          rw [u64s_set] at HROW
          have HBL := Lib.hid (HQ.out.2.1.setCell (p := ⟨w.heap.size, p, none⟩) (Nat.le_refl _) (.int .u64 (r : Int)))
          go_wp2
          exact ⟨⟨j + 1, q, n2.set p r, by omega, by go_num, rfl, Lib.hid ⟨HROW.out, HBL.out, HST.out⟩⟩, by simp [intOf]; omega⟩
        · obtain rfl : j = k := by omega
          have hlen := HQ.out.2.2.len
          rw [← HM.out, ← HK.out] at hlen
          have HI2 := HQ.out.2.2
          rw [HK.out] at HI2
          have HNX := Lib.hid (HI2.next (by rw [← HM.out]; exact hlt))
          rw [← HK.out] at HNX
          obtain ⟨p, hp⟩ : ∃ p, p = i + j := ⟨_, rfl⟩
          rw [← hp] at HNX
          have kn := row_word HQ.out.1 (p := p) (by omega)
          have fn := HQ.out.1.free p
          have hij : (i : Int) + (j : Int) = (p : Int) := by omega
          have hpN : p < N := by have := HNN.out; omega
          clear hp hlen HI2
          have HROW := Lib.hid (HQ.out.1.set_ p (.int .u64 (kept : Int)))
          rw [u64s_set] at HROW
          have HBL := Lib.hid (HQ.out.2.1.setCell (p := ⟨w.heap.size, p, none⟩) (Nat.le_refl _) (.int .u64 (kept : Int)))
          go_wp2
          exact ⟨⟨i + 1, n2.set p kept, by omega, by go_num, Lib.hid ⟨HROW.out, HBL.out, HNX.out⟩⟩, by simp [intOf]; omega⟩
    · obtain rfl : i = m := by omega
      have hlen := HR.out.2.2.len
      rw [← HM.out, ← HK.out, ← HNN.out] at hlen
      have HD := HR.out.2.2
      rw [HM.out] at HD
      have HDD := Lib.hid HD.done
      have hWD : Hid (Wds wr (.slice (some ⟨w.heap.size, 0, none⟩) N N) n) := Lib.hid (by
        have := row_wds HR.out.1 HR.out.2.2.words N (by omega) (by unfold maxLen; omega)
        rwa [hlen] at this)
      clear HD hlen
      go_wp2_with fail
      refine (cropped_ok _ _ _ n _ hWD.out).mono ?_
      rintro e w9 ⟨rfl, rfl⟩
      have HT := Lib.hid (hWD.out.take (crop_length_le n))
      rw [← crop_eq_take, HDD.out] at HT
      rw [HDD.out]
      go_wp2
      go_ret
      exact ⟨_, rfl, HT.out, HR.out.2.1⟩
end Go.Proofs.YtlcbjikiodmlfaaGreatDoor
