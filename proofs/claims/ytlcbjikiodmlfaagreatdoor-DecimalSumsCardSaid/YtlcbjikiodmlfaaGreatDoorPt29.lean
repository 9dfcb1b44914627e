/- Layer 7: the document's noughts and Made. -/
import Derived.Test.YtlcbjikiodmlfaaGreatDoorPt28
import Derived.Test.YtlcbjikiodmlfaaGreatDoorPt10
namespace Go.Proofs.YtlcbjikiodmlfaaGreatDoor
open Go.RowKit

section
variable {P : Program} {ops : Array Oper} {rest : List Oper} {o : Oper} {a : Act} {w : World} {Q : Exit → Act → World → Prop}
/-- 'make([]byte, n)'. -/
theorem wpList_make_u8 (hgd : o.guard = none) (t e : TypeId) (x : Operand) (ho : o.op = .makeSlice t x x) (n : Nat) (hx : a.eval x = .int .i64 n) (ht : P.underlying t = some (.slice e))
    (hi : (P.info? e).map (fun i => (i.zero, i.size, i.bytes)) = some (some (.int .u8 0), 1, 1)) (hn : n ≤ 17592186044416)
    (h : wpList P ops Q rest (a.put o.dst (.slice (some ⟨w.heap.size, 0, none⟩) n n)) (w.alloc (.cells (u8s (List.replicate n 0)).toArray e))) : wpList P ops Q (o :: rest) a w := by
  obtain ⟨i, hi, hz, hs, hb⟩ := info_parts hi
  have hr := run_make (P := P) w t e i _ ht hi hz .i64 .i64 n n (by omega) (Int.le_refl _) (by rw [hb]; omega) (by omega)
  rw [hs, Nat.mul_one] at hr
  have e1 : madeCells (Value.int .u8 0).cells n = (u8s (List.replicate n 0)).toArray := by
    apply Array.toList_inj.1
    have := toList_madeCells_one (.int .u8 0) n
    simp only [u8s, List.map_replicate]
    exact this
  simp only [Int.toNat_natCast] at hr
  rw [e1] at hr
  refine wpList_plain hgd fun K hK => ?_
  unfold Oper.wp
  simp [execOp, ho, hx, hr, Result.andThen]
  exact hK _ _ h
end
theorem u8s_get (l : List UInt8) {j : Nat} (h : j < l.length) : (u8s l)[j]? = some (.int .u8 ((l.getD j 0).toNat : Int)) := by
  simp [u8s, List.getD, List.getElem?_eq_getElem h]
theorem u8s_set (l : List UInt8) (p : Nat) (v : UInt8) : (u8s l).toArray.setIfInBounds p (.int .u8 (v.toNat : Int)) = (u8s (l.set p v)).toArray := by
  simp [u8s, List.map_set]
theorem zeros_step (k j : Nat) (h : j < k) : (zeros j ++ List.replicate (k - j) 0).set j 48 = zeros (j + 1) ++ List.replicate (k - (j + 1)) 0 := by
  rw [show k - j = (k - (j + 1)) + 1 by omega, List.replicate_succ]
  unfold zeros
  rw [List.set_append_right _ _ (by simp)]
  simp only [List.length_replicate, Nat.sub_self, List.set_cons_zero]
  rw [show List.replicate (j + 1) (48 : UInt8) = List.replicate j 48 ++ [48] by rw [List.replicate_succ'], List.append_assoc]
  rfl
set_option maxHeartbeats 1000000 in
theorem rnoughts_ok (n : Int) (w : World) (hn : n ≤ 1000000000) :
    Calls Tryz.prog 50 #[.int .i64 n] w fun e w' => e = .returned (.string (bs (zeros n.toNat))) ∧ Below w.heap.size w w' := by
  obtain ⟨k, hk⟩ : ∃ k : Nat, k = n.toNat := ⟨_, rfl⟩
  have hmax : max (0 : Int) n = (k : Int) := by omega
  have hk2 : k ≤ 1000000000 := by omega
  rw [← hk]
  clear hk
  obtain ⟨w1, hw1⟩ : ∃ w1, w1 = w.alloc (.cells (u8s (List.replicate k 0)).toArray 5) := ⟨_, rfl⟩
  have HR1 : Hid (Row w1 w.heap.size 5 (u8s (zeros 0 ++ List.replicate (k - 0) 0)).toArray) := Lib.hid (by subst hw1; exact Row.new _ _ _)
  have HB1 : Hid (Below w.heap.size w w1) := Lib.hid (by subst hw1; exact (Below.refl _ _).alloc (Nat.le_refl _) _)
  go_enter Tryz.func50, Tryz.ntmps50
  go_upto_region 2 with (
      skip
      refine wpList_make_u8 ?_ 61 5 (.tmp 6) ?_ k ?_ Tryz.underlying61 infoU8 (by omega) ?_
      · with_reducible rfl
      · with_reducible rfl
      · exact congrArg (Value.int .i64) (by omega))
  rw [← hw1]
  clear hw1
  go_wp2_with fail
  go_loopw [4] (fun v4 wr => ∃ j : Nat, j ≤ k ∧ v4 = .int .i64 j ∧ Hid (Row wr w.heap.size 5 (u8s (zeros j ++ List.replicate (k - j) 0)).toArray ∧ Below w.heap.size w wr)) (fun v4 _ => k - (intOf v4).toNat)
  case atStart => exact ⟨0, Nat.zero_le _, rfl, Lib.hid ⟨HR1.out, HB1.out⟩⟩
  case round =>
    obtain ⟨j, hj, rfl, HR⟩ := hrel
    have hlen : (zeros j ++ List.replicate (k - j) (0 : UInt8)).length = k := by simp [zeros]; omega
    by_cases hlt : j < k
    · have kc := HR.out.1.cell (i := j) (v := .int .u8 (((zeros j ++ List.replicate (k - j) (0 : UInt8)).getD j 0).toNat : Int)) (by rw [List.getElem?_toArray]; exact u8s_get _ (by rw [hlen]; exact hlt))
      have fc := HR.out.1.free j
      have HROW := Lib.hid (HR.out.1.set_ j (.int .u8 ((48 : UInt8).toNat : Int)))
      rw [u8s_set, zeros_step k j hlt] at HROW
      have HBL := Lib.hid (HR.out.2.setCell (p := ⟨w.heap.size, j, none⟩) (Nat.le_refl _) (.int .u8 ((48 : UInt8).toNat : Int)))
      clear hlen
      generalize ((zeros j ++ List.replicate (k - j) (0 : UInt8)).getD j 0).toNat = z at *
      go_wp2
      exact ⟨⟨j + 1, by omega, by go_num, Lib.hid ⟨HROW.out, HBL.out⟩⟩, by simp [intOf]; omega⟩
    · obtain rfl : j = k := by omega
      have hlz : (zeros j).length = j := by simp [zeros]
      have hrow : Row wr w.heap.size 5 (u8s (zeros j)).toArray := by have := HR.out.1; rwa [Nat.sub_self, List.replicate_zero, List.append_nil] at this
      have hh : Holds wr (some ⟨w.heap.size, 0, none⟩) (zeros j).length 1 (u8s (zeros j)) := ⟨by rw [u8s_length, Nat.mul_one], fun _ => ⟨w.heap.size, 0, rfl, hrow.lt, fun i v hv => by rw [Nat.zero_add]; exact hrow.cell (by rw [List.getElem?_toArray]; exact hv)⟩⟩
      have hcv := run_text_bs hh 61 9 5 j Tryz.underlying61 Tryz.underlying5 Tryz.underlying9
      rw [hlz] at hcv
      clear hrow hh hlen hlz
      go_wp2
      go_ret
      exact ⟨rfl, HR.out.2⟩
end Go.Proofs.YtlcbjikiodmlfaaGreatDoor
