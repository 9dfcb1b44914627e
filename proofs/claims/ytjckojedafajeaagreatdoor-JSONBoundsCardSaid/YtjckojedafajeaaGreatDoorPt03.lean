/- Layer 7: what Text tells. -/
import Derived.Test.YtjckojedafajeaaGreatDoorPt01
import Derived.Test.YtjckojedafajeaaGreatDoorPt02
import Derived.Test.YtjckojedafajeaaGreatDoorRows
import Derived.WalkKit
import Derived.WalkSpells
import Derived.WalkLawsBesides
import Derived.Lib.Hide
import Derived.Laws.StructEq
import Derived.Deep.DeepCutAuto
import Derived.Deep.RegionHeld3
import Derived.Deep.RegionLaw
import Derived.OrdersHeld
import Derived.BigQuiet
namespace Go.Proofs.YtjckojedafajeaaGreatDoor

/-- What Text tells. -/
def txL (d : Dec) : List UInt8 := if mayB d = true then textL d else []
end Go.Proofs.YtjckojedafajeaaGreatDoor
/- Layer 8: pure: a value's text, its depth, may it be. -/
namespace Go.Proofs.YtjckojedafajeaaGreatDoor
open Go.RowKit

def hexD (x : Nat) : UInt8 := if x < 10 then UInt8.ofNat (48 + x) else UInt8.ofNat (87 + x)
/-- How a byte stands in quotes. -/
def escL (b : UInt8) : List UInt8 :=
  if b = 34 then [92, 34] else if b = 92 then [92, 92] else if b = 8 then [92, 98] else if b = 12 then [92, 102]
  else if b = 10 then [92, 110] else if b = 13 then [92, 114] else if b = 9 then [92, 116]
  else if b.toNat < 32 then [92, 117, 48, 48, hexD (b.toNat / 16), hexD (b.toNat % 16)]
  else [b]
def quoteL (s : List UInt8) : List UInt8 := [34] ++ s.flatMap escL ++ [34]
mutual
/-- A value's text, of whatever kind it is. -/
def tellJ : JV → List UInt8
  | .mk k b d t l ns =>
    if k = 0 then wNull else if k = 1 then (if b then wTrue else wFalse) else if k = 2 then txL d else if k = 3 then quoteL t
    else if k = 4 then [91] ++ tellKids 4 0 l [] ++ [93]
    else [123] ++ tellKids k 0 l ns ++ [125]
def tellKids (k : Int) (i : Nat) : List JV → List (List UInt8) → List UInt8
  | [], _ => []
  | x :: l, ns => (if i = 0 then [] else [44]) ++ (if k = 5 then quoteL (ns.headD []) ++ [58] else []) ++ tellJ x ++ tellKids k (i + 1) l ns.tail
end
mutual
def depthJ : JV → Nat
  | .mk k _ _ _ l _ => if k = 4 ∨ k = 5 then depthKids l + 1 else 0
def depthKids : List JV → Nat
  | [] => 0
  | x :: l => max (depthJ x) (depthKids l)
end
end Go.Proofs.YtjckojedafajeaaGreatDoor
/- Layer 7: strings and decimals as values; the small functions. -/
namespace Go.Proofs.YtjckojedafajeaaGreatDoor
open Go.RowKit

/-- A text of these bytes. -/
def bs (l : List UInt8) : ByteArray := ⟨l.toArray⟩
theorem bs_size (l : List UInt8) : (bs l).size = l.length := by simp [bs, ByteArray.size]
theorem bs_toList (l : List UInt8) : (bs l).toList = l := ByteArray.toList_mk l
theorem bs_of (s : ByteArray) : s = bs s.data.toList := by cases s; simp [bs]
theorem bs_inj {a b : List UInt8} (h : bs a = bs b) : a = b := by rw [← bs_toList a, h, bs_toList]
def decV (d : Dec) : Value := .agg #[.bool d.neg, .string (bs d.digits), .int .i64 d.exp]
def byteAt (l : List UInt8) (k : Nat) : Nat := (l.getD k 0).toNat
theorem run_byte {P : Program} (t : TypeId) (ht : P.underlying t = some .string) (l : List UInt8) (k : Nat) (hk : k < l.length) (w : World) :
    (Instr.index t (.string (bs l)) (.int .i64 (k : Int))).run P w = .ok (.int .u8 (byteAt l k : Int)) w := by
  rw [run_index_string w t _ _ _ ht, dif_pos ⟨by omega, by rw [bs_size]; omega⟩]
  congr 2
  unfold byteAt bs
  have : ((k : Int).toNat) = k := by omega
  simp only [this]
  congr 2
  simp [ByteArray.getElem_eq_getElem_data, List.getD, List.getElem?_eq_getElem hk]

/-- Is this byte one of a digit? -/
theorem isDigit_ok (b : UInt8) (w : World) : Calls Tryz.prog 99 #[.int .u8 (b.toNat : Int)] w fun e w' => e = .returned (.bool (isDig b)) ∧ w = w' := by
  have H : Hid (isDig b = (decide (48 ≤ b.toNat) && decide (b.toNat ≤ 57))) := Lib.hid rfl
  have hb := b.toNat_lt
  generalize isDig b = r at *
  generalize b.toNat = n at *
  have go : ∀ r0 : Bool, r = r0 → ((48 ≤ n ∧ n ≤ 57 ∧ r0 = true) ∨ (48 ≤ n ∧ ¬ n ≤ 57 ∧ r0 = false) ∨ (¬ 48 ≤ n ∧ r0 = false)) := by
    intro r0 h
    rw [H.out] at h
    by_cases h1 : 48 ≤ n <;> by_cases h2 : n ≤ 57 <;> simp [h1, h2] at h ⊢ <;> simp [h]
  have := go r rfl
  clear go H
  rcases this with ⟨h1, h2, rfl⟩ | ⟨h1, h2, rfl⟩ | ⟨h1, rfl⟩
  · go_enter Tryz.func99, Tryz.ntmps99
    go_wp2
    go_ret
    exact ⟨ret_val (congrArg Value.bool (by simp; omega)), rfl⟩
  · go_enter Tryz.func99, Tryz.ntmps99
    go_wp2
    go_ret
    exact ⟨ret_val (congrArg Value.bool (by simp; omega)), rfl⟩
  · go_enter Tryz.func99, Tryz.ntmps99
    go_wp2
    go_ret
    exact ⟨rfl, rfl⟩

theorem isZero_ok (d : Dec) (w : World) : Calls Tryz.prog 101 #[decV d] w fun e w' => e = .returned (.bool (decide (d.digits = []))) ∧ Below w.heap.size w w' := by
  have hb : Below w.heap.size w (w.alloc (.cells #[.bool d.neg, .string (bs d.digits), .int .i64 d.exp] 26)) := (Below.refl _ _).alloc (Nat.le_refl _) _
  have h1 : (w.alloc (.cells #[.bool d.neg, .string (bs d.digits), .int .i64 d.exp] 26)).cell? ⟨w.heap.size, 1, none⟩ = some (.string (bs d.digits)) := (Row.new _ _ _).cell rfl
  have hE : (bs d.digits).toList.isEmpty = decide (d.digits = []) := by rw [bs_toList]; cases d.digits <;> rfl
  have HE := Lib.hid hE
  have HB := Lib.hid hb
  clear hb hE
  unfold decV
  go_enter Tryz.func101, Tryz.ntmps101
  go_wp2
  go_ret
  exact ⟨ret_val (by rw [← HE.out]; rfl), HB.out⟩

theorem place_ok (d : Dec) (w : World) (h1 : d.digits.length ≤ 140737488355328) (h2 : -4611686018427387904 ≤ d.exp) (h3 : d.exp ≤ 4611686018427387904) :
    Calls Tryz.prog 102 #[decV d] w fun e w' => e = .returned (.int .i64 (d.digits.length + d.exp)) ∧ Below w.heap.size w w' := by
  have hb : Below w.heap.size w (w.alloc (.cells #[.bool d.neg, .string (bs d.digits), .int .i64 d.exp] 26)) := (Below.refl _ _).alloc (Nat.le_refl _) _
  have hr : Row (w.alloc (.cells #[.bool d.neg, .string (bs d.digits), .int .i64 d.exp] 26)) w.heap.size 26 #[.bool d.neg, .string (bs d.digits), .int .i64 d.exp] := Row.new _ _ _
  have c1 := hr.cell (i := 1) (v := .string (bs d.digits)) rfl
  have c2 := hr.cell (i := 2) (v := .int .i64 d.exp) rfl
  have hs := bs_size d.digits
  have HB := Lib.hid hb
  clear hb hr
  unfold decV
  generalize bs d.digits = s at *
  generalize d.exp = e at *
  generalize d.digits.length = n at *
  go_enter Tryz.func102, Tryz.ntmps102
  go_wp2
  go_ret
  exact ⟨ret_int (by omega), HB.out⟩
end Go.Proofs.YtjckojedafajeaaGreatDoor
/- Layer 7: slices of words in memory; their highest words; may a decimal be. -/
namespace Go.Proofs.YtjckojedafajeaaGreatDoor
open Go.RowKit

def u64s (l : List Nat) : List Value := l.map fun (x : Nat) => Value.int .u64 (x : Int)
theorem u64s_length (l : List Nat) : (u64s l).length = l.length := by simp [u64s]
theorem u64s_get (l : List Nat) {j : Nat} (h : j < l.length) : (u64s l)[j]? = some (.int .u64 (wat l j : Int)) := by
  simp [u64s, wat, List.getElem?_eq_getElem h, List.getD]
theorem u64s_append (a b : List Nat) : u64s (a ++ b) = u64s a ++ u64s b := by simp [u64s]
theorem u64s_one (l : List Nat) : ∀ v ∈ u64s l, v.oneCell' = true := by
  intro v hv
  simp only [u64s, List.mem_map] at hv
  obtain ⟨x, _, rfl⟩ := hv
  rfl
/-- A slice that holds these words. -/
def Wds (w : World) (v : Value) (l : List Nat) : Prop :=
  (∀ i, wat l i < 18446744073709551616) ∧ ∃ A c, v = .slice A l.length c ∧ l.length ≤ c ∧ c ≤ maxLen ∧ Holds w A l.length 1 (u64s l)
theorem Wds.below {w w' : World} {v : Value} {l : List Nat} (h : Wds w v l) (hb : Below w.heap.size w w') : Wds w' v l := by
  obtain ⟨h0, A, c, h1, h2, h3, h4⟩ := h
  exact ⟨h0, A, c, h1, h2, h3, h4.below hb⟩
theorem Wds.nil (w : World) (A : Option Addr) (c : Nat) (hc : c ≤ maxLen) : Wds w (.slice A 0 c) [] :=
  ⟨fun i => by rw [wat_out (by simp)]; omega, A, c, rfl, by simp, hc, Holds.nil _ _ _⟩
theorem Wds.at_ {w : World} {v : Value} {l : List Nat} (h : Wds w v l) (h0 : 0 < l.length) :
    ∃ b off c, v = .slice (some ⟨b, off, none⟩) l.length c ∧ l.length ≤ c ∧ c ≤ maxLen ∧ b < w.heap.size ∧ ∀ j, j < l.length → w.cell? ⟨b, off + j, none⟩ = some (.int .u64 (wat l j : Int)) := by
  obtain ⟨_, A, c, rfl, h2, h3, _, h4⟩ := h
  obtain ⟨b, off, rfl, hb, hr⟩ := h4 h0
  exact ⟨b, off, c, rfl, h2, h3, hb, fun j hj => hr j _ (u64s_get l hj)⟩
theorem wat_take {l : List Nat} {k j : Nat} (h : j < k) : wat (l.take k) j = wat l j := by
  unfold wat
  simp [List.getD_eq_getElem?_getD, h]
theorem wat_take_le (l : List Nat) (k j : Nat) : wat (l.take k) j ≤ wat l j := by
  by_cases h : j < k
  · rw [wat_take h]; exact Nat.le_refl _
  · rw [wat_out (by rw [List.length_take]; omega)]; omega
/-- A beginning. -/
theorem Wds.take {w : World} {A : Option Addr} {n c : Nat} {l : List Nat} (h : Wds w (.slice A n c) l) {k : Nat} (hk : k ≤ l.length) : Wds w (.slice A k c) (l.take k) := by
  obtain ⟨h0, A', c', e, h2, h3, h4, h5⟩ := h
  injection e with e1 e2 e3
  subst e1 e2 e3
  have hl : (l.take k).length = k := by rw [List.length_take]; omega
  refine ⟨fun i => Nat.lt_of_le_of_lt (wat_take_le l k i) (h0 i), A, c, by rw [hl], by omega, h3, by rw [u64s_length]; omega, fun hp => ?_⟩
  obtain ⟨b, off, e, hb, hr⟩ := h5 (by omega)
  refine ⟨b, off, e, hb, fun j u hu => hr j u ?_⟩
  unfold u64s at hu ⊢
  rw [List.map_take] at hu
  by_cases hj : j < k
  · rwa [List.getElem?_take_of_lt hj] at hu
  · rw [List.getElem?_eq_none (by rw [List.length_take]; omega)] at hu; cases hu

set_option maxHeartbeats 1000000 in
theorem cropped_ok (A : Option Addr) (n c : Nat) (l : List Nat) (w : World) (h : Wds w (.slice A n c) l) :
    Calls Tryz.prog 185 #[.slice A n c] w fun e w' => e = .returned (.slice A (crop l).length c) ∧ w = w' := by
  obtain ⟨hw, A', c', e, h2, h3, h4, h5⟩ := h
  injection e with e1 e2 e3
  subst e1 e2 e3
  unfold maxLen at h3
  go_enter Tryz.func185, Tryz.ntmps185
  go_wp2_with fail
  go_loop [0] (fun v0 => ∃ k : Nat, k ≤ l.length ∧ v0 = .slice A k c ∧ Hid (crop (l.take k) = crop l)) (fun v0 => match v0 with | .slice _ k _ => k | _ => 0)
  case atStart => exact ⟨l.length, Nat.le_refl _, rfl, Lib.hid (by rw [List.take_length])⟩
  case round =>
    obtain ⟨k, hk, rfl, Hc⟩ := hrel
    rcases Nat.eq_zero_or_pos k with hk0 | hk0
    · subst hk0
      have e1 : (crop l).length = 0 := by rw [← Hc.out]; rfl
      go_wp2
      go_ret
      exact ⟨rfl, rfl⟩
    · obtain ⟨b, off, rfl, hb, hr⟩ := h5 (by omega)
      have hck : w.cell? ⟨b, off + (k - 1), none⟩ = some (.int .u64 (wat l (k - 1) : Int)) := hr (k - 1) _ (u64s_get l (by omega))
      have hx := hw (k - 1)
      have hT : l.take k = l.take (k - 1) ++ [wat l (k - 1)] := by
        conv => lhs; rw [show k = k - 1 + 1 by omega]
        rw [List.take_add_one, List.getElem?_eq_getElem (by omega), Option.toList_some]
        congr 2
        simp [wat, List.getD, List.getElem?_eq_getElem (show k - 1 < l.length by omega)]
      by_cases hz : wat l (k - 1) = 0
      · have HC2 : Hid (crop (l.take (k - 1)) = crop l) := Lib.hid (by rw [← Hc.out, hT, hz, crop_snoc_zero])
        rw [hz] at hck
        clear hr hT Hc hx hz
        obtain ⟨m, rfl⟩ : ∃ m, k = m + 1 := ⟨k - 1, by omega⟩
        simp only [Nat.add_sub_cancel] at hck HC2
        go_wp2
        go_round
        case rel => exact ⟨m, by omega, by go_num, HC2⟩
        case measure => simp
      · have e1 : (crop l).length = k := by rw [← Hc.out, hT, crop_snoc hz, List.length_append, List.length_take, List.length_singleton]; omega
        clear hr hT Hc
        generalize wat l (k - 1) = x at *
        obtain ⟨m, rfl⟩ : ∃ m, k = m + 1 := ⟨k - 1, by omega⟩
        simp only [Nat.add_sub_cancel] at hck
        go_wp2
        go_ret
        exact ⟨rfl, rfl⟩
end Go.Proofs.YtjckojedafajeaaGreatDoor
