/- Layer 7: a number times one word, that may be the base or one more. -/
import Derived.Test.YthgjelpmdndceaaGreatDoorPt30
import Derived.Test.YthgjelpmdndceaaGreatDoorPt38
namespace Go.Proofs.YthgjelpmdndceaaGreatDoor
open Go.RowKit

/-- What comes out: words, the highest one of which may be the base. -/
def TookPost (w : World) (P q k : Nat) (e : Ending) (w' : World) : Prop := ∃ v T, e = .returned v ∧ Wds w' v T ∧ Took P q k T ∧ Below w.heap.size w w' ∧ ∃ n c, v = .slice (some ⟨w.heap.size, 0, none⟩) n c
theorem row_wdsq {w : World} {g : Nat} {t : TypeId} {l : List Nat} (h : Row w g t (u64s l).toArray) (hl : ∀ i, wat l i ≤ 1000000000) (c : Nat) (hc : l.length ≤ c) (hm : c ≤ maxLen) : Wds w (.slice (some ⟨g, 0, none⟩) l.length c) l :=
  ⟨fun i => by have := hl i; omega, _, c, rfl, hc, hm, by rw [u64s_length, Nat.mul_one], fun _ => ⟨g, 0, rfl, h.lt, fun j v hv => by
    rw [Nat.zero_add]
    exact h.cell (by rw [List.getElem?_toArray]; exact hv)⟩⟩
set_option maxHeartbeats 4000000 in
theorem productq_ok (va vb : Value) (a b : List Nat) (q : Nat) (w : World) (ha : Wds w va a) (hb : Wds w vb b) (wa : Words a) (hbq : b = [q]) (hq : q ≤ 1000000001) (la : a.length ≤ 1000000) :
    Calls Tryz.prog 33 #[va, vb] w (TookPost w (wval a) q a.length) := by
  obtain ⟨_, A, c, rfl, hc1, hc2, hA⟩ := id ha
  obtain ⟨_, B, d, rfl, hd1, hd2, hB⟩ := id hb
  have HA := Lib.hid hA
  have HB := Lib.hid hB
  have HWA := Lib.hid wa
  have lb : b.length = 1 := by rw [hbq]; rfl
  have HBQ := Lib.hid hbq
  have HQ1 := Lib.hid hq
  clear hA hB wa hbq hq ha hb
  unfold maxLen at hc2 hd2
  obtain ⟨m, hm⟩ : ∃ m, m = a.length := ⟨_, rfl⟩
  obtain ⟨k, hk⟩ : ∃ k, k = b.length := ⟨_, rfl⟩
  have HM := Lib.hid hm
  have HK := Lib.hid hk
  rw [← hm] at HA la hc1 ⊢
  rw [← hk] at HB lb hd1 ⊢
  have HLB := Lib.hid lb
  replace lb : k ≤ 1 := by omega
  clear hm hk
  obtain ⟨N, hN⟩ : ∃ N, N = m + k := ⟨_, rfl⟩
  have hN2 : (m : Int) + (k : Int) = (N : Int) := by omega
  have hN3 : N ≤ 2000000 := by omega
  obtain ⟨w1, hw1⟩ : ∃ w1, w1 = w.alloc (.cells (u64s (List.replicate N 0)).toArray 74) := ⟨_, rfl⟩
  have HR1 : Hid (Row w1 w.heap.size 74 (u64s (List.replicate N 0)).toArray) := Lib.hid (by subst hw1; exact Row.new _ _ _)
  have HB1 : Hid (Below w.heap.size w w1) := Lib.hid (by subst hw1; exact (Below.refl _ _).alloc (Nat.le_refl _) _)
  have HI1 : Hid (MulQ a q 0 0 0 (List.replicate N 0)) := Lib.hid (by rw [hN, HLB.out, HM.out]; exact MulQ.start a q)
  have HNN := Lib.hid hN
  clear hN
  go_enter Tryz.func33, Tryz.ntmps33
  go_upto_region 2 with (
      skip
      refine wpList_make_u64 ?_ 49 74 (.tmp 15) ?_ N ?_ Tryz.underlying49 infoU64 (by omega) ?_
      · with_reducible rfl
      · with_reducible rfl
      · exact congrArg (Value.int .i64) (by omega))
  rw [← hw1]
  clear hw1
  go_wp2_with fail
  go_loopw [19] (fun v19 wr => ∃ (i : Nat) (n : List Nat), i ≤ m ∧ v19 = .int .i64 i ∧ Hid (Row wr w.heap.size 74 (u64s n).toArray ∧ Below w.heap.size w wr ∧ MulQ a q i 0 0 n)) (fun v19 _ => m - (intOf v19).toNat)
  case atStart => exact ⟨0, _, Nat.zero_le _, rfl, Lib.hid ⟨HR1.out, HB1.out, HI1.out⟩⟩
  case round =>
    obtain ⟨i, n, hi, rfl, HR⟩ := hrel
    by_cases hlt : i < m
    · obtain ⟨ga, oa, rfl, hga, hra⟩ := HA.out.2 (by omega)
      have ka := (HR.out.2.1.cell (p := ⟨ga, oa + i, none⟩) hga).trans (hra i _ (u64s_get a (by rw [← HM.out]; exact hlt)))
      have hx := wat_lt HWA.out i
      obtain ⟨x, hxx⟩ : ∃ x, x = wat a i := ⟨_, rfl⟩
      rw [← hxx] at ka hx
      have HX := Lib.hid hxx
      clear hxx hra
      go_wp2_with fail
      go_loopw [8, 26] (fun v8 v26 wq => ∃ (j kept : Nat) (n2 : List Nat), j ≤ k ∧ v26 = .int .i64 j ∧ v8 = .int .u64 kept ∧ Hid (j = 0 → kept = 0) ∧ Hid (Row wq w.heap.size 74 (u64s n2).toArray ∧ Below w.heap.size w wq ∧ MulQ a q i j kept n2)) (fun _ v26 _ => k - (intOf v26).toNat)
      case atStart => exact ⟨0, 0, n, Nat.zero_le _, rfl, rfl, Lib.hid (fun _ => rfl), HR⟩
      case round =>
        obtain ⟨j, kept, n2, hj, rfl, rfl, HJK, HQ⟩ := hrel
        have hkept := HQ.out.2.2.small
        by_cases hjt : j < k
        · obtain ⟨gb, ob, rfl, hgb, hrb⟩ := HB.out.2 (by omega)
          have kb := (HQ.out.2.1.cell (p := ⟨gb, ob + j, none⟩) hgb).trans (hrb j _ (u64s_get b (by rw [← HK.out]; exact hjt)))
          have HJ0 : Hid (j = 0) := Lib.hid (by have := HLB.out; omega)
          have HK0 : Hid (kept = 0) := Lib.hid (HJK.out HJ0.out)
          have hyq : wat b j = q := by rw [HJ0.out, HBQ.out]; rfl
          have hbd : wat a i * q ≤ 999999999999999999 ∧ kept + (wat n2 (i + j) + wat a i * q) ≤ 1000000000999999999 := by
            have h2 := HQ.out.2.2
            rw [HJ0.out, HK0.out] at h2 ⊢
            exact h2.bound HWA.out HQ1.out
          have hlen := HQ.out.2.2.len
          rw [← HM.out, ← HLB.out] at hlen
          have HST : Hid (MulQ a q i (j + 1) ((kept + (wat n2 (i + j) + wat a i * q)) / 1000000000) (n2.set (i + j) ((kept + (wat n2 (i + j) + wat a i * q)) % 1000000000))) := Lib.hid (by
            have h2 := HQ.out.2.2
            rw [HJ0.out, HK0.out] at h2 ⊢
            exact h2.step HWA.out HQ1.out (by rw [← HM.out]; exact hlt))
          obtain ⟨p, hp⟩ : ∃ p, p = i + j := ⟨_, rfl⟩
          rw [← hp] at hbd HST
          have kn := row_word HQ.out.1 (p := p) (by omega)
          have fn := HQ.out.1.free p
          have hij : (i : Int) + (j : Int) = (p : Int) := by omega
          have hpN : p < N := by have := HNN.out; omega
          rw [← HX.out] at hbd HST
          rw [hyq] at kb
          have hqq := HQ1.out
          clear hyq
          obtain ⟨u, hu⟩ : ∃ u, u = wat n2 p := ⟨_, rfl⟩
          have hub := HQ.out.2.2.hi p
          rw [← hu] at hbd HST kn hub
          obtain ⟨M, hM⟩ : ∃ M, M = x * q := ⟨_, rfl⟩
          rw [← hM] at hbd HST
          have hm1 : (x : Int) * (q : Int) = (M : Int) := by rw [hM]; exact (Int.natCast_mul x q).symm
          obtain ⟨S, hS⟩ : ∃ S, S = u + M := ⟨_, rfl⟩
          rw [← hS] at hbd HST
          have hs1 : (u : Int) + (M : Int) = (S : Int) := by omega
          obtain ⟨K, hK⟩ : ∃ K, K = kept + S := ⟨_, rfl⟩
          rw [← hK] at hbd HST
          have hs2 : (kept : Int) + (S : Int) = (K : Int) := by omega
          obtain ⟨t, ht⟩ : ∃ t, t = K / 1000000000 := ⟨_, rfl⟩
          obtain ⟨r, hr⟩ : ∃ r, r = K % 1000000000 := ⟨_, rfl⟩
          have h2 : (K : Int) / 1000000000 = (t : Int) := by omega
          have h3 : (K : Int) % 1000000000 = (r : Int) := by omega
          rw [← ht, ← hr] at HST
          obtain ⟨hM1, hK1⟩ := hbd
          have hS1 : S ≤ 1000000000999999999 := by omega
          clear ht hr hK hS hM hu hp hrb hlen hkept
          have HROW := Lib.hid (HQ.out.1.set_ p (.int .u64 (r : Int)))
          rw [u64s_set] at HROW
          have HBL := Lib.hid (HQ.out.2.1.setCell (p := ⟨w.heap.size, p, none⟩) (Nat.le_refl _) (.int .u64 (r : Int)))
          go_wp2
          exact ⟨⟨j + 1, t, n2.set p r, by omega, by go_num, rfl, Lib.hid (fun e => by omega), Lib.hid ⟨HROW.out, HBL.out, HST.out⟩⟩, by simp [intOf]; omega⟩
        · obtain rfl : j = k := by omega
          have hlen := HQ.out.2.2.len
          rw [← HM.out, ← HLB.out] at hlen
          have HNX : Hid (MulQ a q (i + 1) 0 0 (n2.set (i + j) kept)) := Lib.hid (by
            have h2 := HQ.out.2.2
            rw [HLB.out] at h2 ⊢
            exact h2.next (by rw [← HM.out]; exact hlt))
          obtain ⟨p, hp⟩ : ∃ p, p = i + j := ⟨_, rfl⟩
          rw [← hp] at HNX
          have kn := row_word HQ.out.1 (p := p) (by omega)
          have fn := HQ.out.1.free p
          have hij : (i : Int) + (j : Int) = (p : Int) := by omega
          have hpN : p < N := by have := HNN.out; omega
          clear hp hlen
          have HROW := Lib.hid (HQ.out.1.set_ p (.int .u64 (kept : Int)))
          rw [u64s_set] at HROW
          have HBL := Lib.hid (HQ.out.2.1.setCell (p := ⟨w.heap.size, p, none⟩) (Nat.le_refl _) (.int .u64 (kept : Int)))
          go_wp2
          exact ⟨⟨i + 1, n2.set p kept, by omega, by go_num, Lib.hid ⟨HROW.out, HBL.out, HNX.out⟩⟩, by simp [intOf]; omega⟩
    · obtain rfl : i = m := by omega
      have hlen := HR.out.2.2.len
      rw [← HM.out, ← HLB.out, ← HNN.out] at hlen
      have HD := HR.out.2.2
      rw [HM.out] at HD
      have HDD := Lib.hid HD.done
      have hWD : Hid (Wds wr (.slice (some ⟨w.heap.size, 0, none⟩) N N) n) := Lib.hid (by
        have := row_wdsq HR.out.1 HR.out.2.2.hi N (by omega) (by unfold maxLen; omega)
        rwa [hlen] at this)
      clear HD hlen
      go_wp2_with fail
      refine (cropped_ok _ _ _ n _ hWD.out).mono ?_
      rintro e w9 ⟨rfl, rfl⟩
      have HT := Lib.hid (hWD.out.take (crop_length_le n))
      rw [← crop_eq_take] at HT
      have HDD2 := HDD.out
      rw [← HM.out] at HDD2
      have HDK := Lib.hid HDD2
      clear HDD2
      go_wp2
      go_ret
      exact ⟨_, _, rfl, HT.out, HDK.out, HR.out.2.1, _, _, rfl⟩
end Go.Proofs.YthgjelpmdndceaaGreatDoor
