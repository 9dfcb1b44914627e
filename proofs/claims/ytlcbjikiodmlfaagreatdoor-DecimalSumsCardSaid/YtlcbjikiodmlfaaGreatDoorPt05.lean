/- Layer 7: slices of words in memory; their highest words; may a decimal be. -/
import Derived.Test.YtlcbjikiodmlfaaGreatDoorPt03
import Derived.Test.YtlcbjikiodmlfaaGreatDoorPt04
namespace Go.Proofs.YtlcbjikiodmlfaaGreatDoor
open Go.RowKit

def u64s (l : List Nat) : List Value := l.map fun (x : Nat) => Value.int .u64 (x : Int)
theorem u64s_length (l : List Nat) : (u64s l).length = l.length := by simp [u64s]
theorem u64s_get (l : List Nat) {j : Nat} (h : j < l.length) : (u64s l)[j]? = some (.int .u64 (wat l j : Int)) := by
  simp [u64s, wat, List.getElem?_eq_getElem h, List.getD]
theorem u64s_append (a b : List Nat) : u64s (a ++ b) = u64s a ++ u64s b := by simp [u64s]
theorem u64s_one (l : List Nat) : ∀ v ∈ u64s l, v.oneCell' = true := by
  intro v hv
  simp only [u64s, List.mem_map] at hv
  obtain ⟨x, _, rfl⟩ := hv
  rfl
/-- A slice that holds these words. -/
def Wds (w : World) (v : Value) (l : List Nat) : Prop :=
  (∀ i, wat l i < 18446744073709551616) ∧ ∃ A c, v = .slice A l.length c ∧ l.length ≤ c ∧ c ≤ maxLen ∧ Holds w A l.length 1 (u64s l)
theorem Wds.below {w w' : World} {v : Value} {l : List Nat} (h : Wds w v l) (hb : Below w.heap.size w w') : Wds w' v l := by
  obtain ⟨h0, A, c, h1, h2, h3, h4⟩ := h
  exact ⟨h0, A, c, h1, h2, h3, h4.below hb⟩
theorem Wds.nil (w : World) (A : Option Addr) (c : Nat) (hc : c ≤ maxLen) : Wds w (.slice A 0 c) [] :=
  ⟨fun i => by rw [wat_out (by simp)]; omega, A, c, rfl, by simp, hc, Holds.nil _ _ _⟩
theorem Wds.at_ {w : World} {v : Value} {l : List Nat} (h : Wds w v l) (h0 : 0 < l.length) :
    ∃ b off c, v = .slice (some ⟨b, off, none⟩) l.length c ∧ l.length ≤ c ∧ c ≤ maxLen ∧ b < w.heap.size ∧ ∀ j, j < l.length → w.cell? ⟨b, off + j, none⟩ = some (.int .u64 (wat l j : Int)) := by
  obtain ⟨_, A, c, rfl, h2, h3, _, h4⟩ := h
  obtain ⟨b, off, rfl, hb, hr⟩ := h4 h0
  exact ⟨b, off, c, rfl, h2, h3, hb, fun j hj => hr j _ (u64s_get l hj)⟩
theorem wat_take {l : List Nat} {k j : Nat} (h : j < k) : wat (l.take k) j = wat l j := by
  unfold wat
  simp [List.getD_eq_getElem?_getD, h]
theorem wat_take_le (l : List Nat) (k j : Nat) : wat (l.take k) j ≤ wat l j := by
  by_cases h : j < k
  · rw [wat_take h]; exact Nat.le_refl _
  · rw [wat_out (by rw [List.length_take]; omega)]; omega
/-- A beginning. -/
theorem Wds.take {w : World} {A : Option Addr} {n c : Nat} {l : List Nat} (h : Wds w (.slice A n c) l) {k : Nat} (hk : k ≤ l.length) : Wds w (.slice A k c) (l.take k) := by
  obtain ⟨h0, A', c', e, h2, h3, h4, h5⟩ := h
  injection e with e1 e2 e3
  subst e1 e2 e3
  have hl : (l.take k).length = k := by rw [List.length_take]; omega
  refine ⟨fun i => Nat.lt_of_le_of_lt (wat_take_le l k i) (h0 i), A, c, by rw [hl], by omega, h3, by rw [u64s_length]; omega, fun hp => ?_⟩
  obtain ⟨b, off, e, hb, hr⟩ := h5 (by omega)
  refine ⟨b, off, e, hb, fun j u hu => hr j u ?_⟩
  unfold u64s at hu ⊢
  rw [List.map_take] at hu
  by_cases hj : j < k
  · rwa [List.getElem?_take_of_lt hj] at hu
  · rw [List.getElem?_eq_none (by rw [List.length_take]; omega)] at hu; cases hu

theorem wordAt_ok (v : Value) (l : List Nat) (i : Nat) (w : World) (h : Wds w v l) (hi : i ≤ 9223372036854775807) :
    Calls Tryz.prog 44 #[v, .int .i64 i] w fun e w' => e = .returned (.int .u64 (wat l i)) ∧ w = w' := by
  by_cases hlt : i < l.length
  · obtain ⟨b, off, c, rfl, h2, h3, hb, hc⟩ := h.at_ (by omega)
    have hck := hc i hlt
    clear hc h
    unfold maxLen at h3
    generalize wat l i = x at *
    generalize l.length = n at *
    go_enter Tryz.func44, Tryz.ntmps44
    go_wp2
    go_ret
    exact ⟨rfl, rfl⟩
  · obtain ⟨_, A, c, rfl, h2, h3, _, _⟩ := h
    rw [wat_out (by omega)]
    unfold maxLen at h3
    generalize l.length = n at *
    go_enter Tryz.func44, Tryz.ntmps44
    go_wp2
    go_ret
    exact ⟨rfl, rfl⟩

set_option maxHeartbeats 1000000 in
theorem cropped_ok (A : Option Addr) (n c : Nat) (l : List Nat) (w : World) (h : Wds w (.slice A n c) l) :
    Calls Tryz.prog 45 #[.slice A n c] w fun e w' => e = .returned (.slice A (crop l).length c) ∧ w = w' := by
  obtain ⟨hw, A', c', e, h2, h3, h4, h5⟩ := h
  injection e with e1 e2 e3
  subst e1 e2 e3
  unfold maxLen at h3
  go_enter Tryz.func45, Tryz.ntmps45
  go_wp2_with fail
  go_loop [0] (fun v0 => ∃ k : Nat, k ≤ l.length ∧ v0 = .slice A k c ∧ Hid (crop (l.take k) = crop l)) (fun v0 => match v0 with | .slice _ k _ => k | _ => 0)
  case atStart => exact ⟨l.length, Nat.le_refl _, rfl, Lib.hid (by rw [List.take_length])⟩
  case round =>
    obtain ⟨k, hk, rfl, Hc⟩ := hrel
    rcases Nat.eq_zero_or_pos k with hk0 | hk0
    · subst hk0
      have e1 : (crop l).length = 0 := by rw [← Hc.out]; rfl
      go_wp2
      go_ret
      exact ⟨rfl, rfl⟩
    · obtain ⟨b, off, rfl, hb, hr⟩ := h5 (by omega)
      have hck : w.cell? ⟨b, off + (k - 1), none⟩ = some (.int .u64 (wat l (k - 1) : Int)) := hr (k - 1) _ (u64s_get l (by omega))
      have hx := hw (k - 1)
      have hT : l.take k = l.take (k - 1) ++ [wat l (k - 1)] := by
        conv => lhs; rw [show k = k - 1 + 1 by omega]
        rw [List.take_add_one, List.getElem?_eq_getElem (by omega), Option.toList_some]
        congr 2
        simp [wat, List.getD, List.getElem?_eq_getElem (show k - 1 < l.length by omega)]
      by_cases hz : wat l (k - 1) = 0
      · have HC2 : Hid (crop (l.take (k - 1)) = crop l) := Lib.hid (by rw [← Hc.out, hT, hz, crop_snoc_zero])
        rw [hz] at hck
        clear hr hT Hc hx hz
        obtain ⟨m, rfl⟩ : ∃ m, k = m + 1 := ⟨k - 1, by omega⟩
        simp only [Nat.add_sub_cancel] at hck HC2
        go_wp2
        go_round
        case rel => exact ⟨m, by omega, by go_num, HC2⟩
        case measure => simp
      · have e1 : (crop l).length = k := by rw [← Hc.out, hT, crop_snoc hz, List.length_append, List.length_take, List.length_singleton]; omega
        clear hr hT Hc
        generalize wat l (k - 1) = x at *
        obtain ⟨m, rfl⟩ : ∃ m, k = m + 1 := ⟨k - 1, by omega⟩
        simp only [Nat.add_sub_cancel] at hck
        go_wp2
        go_ret
        exact ⟨rfl, rfl⟩
end Go.Proofs.YtlcbjikiodmlfaaGreatDoor
