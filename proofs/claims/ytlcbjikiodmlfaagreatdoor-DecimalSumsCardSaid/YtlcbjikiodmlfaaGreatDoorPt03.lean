/- Layer 7: strings and decimals as values; the small functions. -/
import Derived.Test.YtlcbjikiodmlfaaGreatDoorPt02
import Derived.Test.YtlcbjikiodmlfaaGreatDoorRows
import Derived.WalkKit
import Derived.WalkSpells
import Derived.WalkLawsBesides
import Derived.Lib.Hide
import Derived.Laws.StructEq
import Derived.Deep.DeepCutAuto
import Derived.Deep.RegionHeld3
import Derived.Deep.RegionLaw
import Derived.OrdersHeld
import Derived.BigQuiet
namespace Go.Proofs.YtlcbjikiodmlfaaGreatDoor
open Go.RowKit

/-- A text of these bytes. -/
def bs (l : List UInt8) : ByteArray := ⟨l.toArray⟩
theorem bs_size (l : List UInt8) : (bs l).size = l.length := by simp [bs, ByteArray.size]
theorem bs_toList (l : List UInt8) : (bs l).toList = l := ByteArray.toList_mk l
theorem bs_of (s : ByteArray) : s = bs s.data.toList := by cases s; simp [bs]
theorem bs_inj {a b : List UInt8} (h : bs a = bs b) : a = b := by rw [← bs_toList a, h, bs_toList]
def decV (d : Dec) : Value := .agg #[.bool d.neg, .string (bs d.digits), .int .i64 d.exp]
def byteAt (l : List UInt8) (k : Nat) : Nat := (l.getD k 0).toNat
theorem run_byte {P : Program} (t : TypeId) (ht : P.underlying t = some .string) (l : List UInt8) (k : Nat) (hk : k < l.length) (w : World) :
    (Instr.index t (.string (bs l)) (.int .i64 (k : Int))).run P w = .ok (.int .u8 (byteAt l k : Int)) w := by
  rw [run_index_string w t _ _ _ ht, dif_pos ⟨by omega, by rw [bs_size]; omega⟩]
  congr 2
  unfold byteAt bs
  have : ((k : Int).toNat) = k := by omega
  simp only [this]
  congr 2
  simp [ByteArray.getElem_eq_getElem_data, List.getD, List.getElem?_eq_getElem hk]

/-- Is this byte one of a digit? -/
theorem isDigit_ok (b : UInt8) (w : World) : Calls Tryz.prog 40 #[.int .u8 (b.toNat : Int)] w fun e w' => e = .returned (.bool (isDig b)) ∧ w = w' := by
  have H : Hid (isDig b = (decide (48 ≤ b.toNat) && decide (b.toNat ≤ 57))) := Lib.hid rfl
  have hb := b.toNat_lt
  generalize isDig b = r at *
  generalize b.toNat = n at *
  have go : ∀ r0 : Bool, r = r0 → ((48 ≤ n ∧ n ≤ 57 ∧ r0 = true) ∨ (48 ≤ n ∧ ¬ n ≤ 57 ∧ r0 = false) ∨ (¬ 48 ≤ n ∧ r0 = false)) := by
    intro r0 h
    rw [H.out] at h
    by_cases h1 : 48 ≤ n <;> by_cases h2 : n ≤ 57 <;> simp [h1, h2] at h ⊢ <;> simp [h]
  have := go r rfl
  clear go H
  rcases this with ⟨h1, h2, rfl⟩ | ⟨h1, h2, rfl⟩ | ⟨h1, rfl⟩
  · go_enter Tryz.func40, Tryz.ntmps40
    go_wp2
    go_ret
    exact ⟨ret_val (congrArg Value.bool (by simp; omega)), rfl⟩
  · go_enter Tryz.func40, Tryz.ntmps40
    go_wp2
    go_ret
    exact ⟨ret_val (congrArg Value.bool (by simp; omega)), rfl⟩
  · go_enter Tryz.func40, Tryz.ntmps40
    go_wp2
    go_ret
    exact ⟨rfl, rfl⟩

theorem isZero_ok (d : Dec) (w : World) : Calls Tryz.prog 29 #[decV d] w fun e w' => e = .returned (.bool (decide (d.digits = []))) ∧ Below w.heap.size w w' := by
  have hb : Below w.heap.size w (w.alloc (.cells #[.bool d.neg, .string (bs d.digits), .int .i64 d.exp] 24)) := (Below.refl _ _).alloc (Nat.le_refl _) _
  have h1 : (w.alloc (.cells #[.bool d.neg, .string (bs d.digits), .int .i64 d.exp] 24)).cell? ⟨w.heap.size, 1, none⟩ = some (.string (bs d.digits)) := (Row.new _ _ _).cell rfl
  have hE : (bs d.digits).toList.isEmpty = decide (d.digits = []) := by rw [bs_toList]; cases d.digits <;> rfl
  have HE := Lib.hid hE
  have HB := Lib.hid hb
  clear hb hE
  unfold decV
  go_enter Tryz.func29, Tryz.ntmps29
  go_wp2
  go_ret
  exact ⟨ret_val (by rw [← HE.out]; rfl), HB.out⟩

theorem place_ok (d : Dec) (w : World) (h1 : d.digits.length ≤ 140737488355328) (h2 : -4611686018427387904 ≤ d.exp) (h3 : d.exp ≤ 4611686018427387904) :
    Calls Tryz.prog 36 #[decV d] w fun e w' => e = .returned (.int .i64 (d.digits.length + d.exp)) ∧ Below w.heap.size w w' := by
  have hb : Below w.heap.size w (w.alloc (.cells #[.bool d.neg, .string (bs d.digits), .int .i64 d.exp] 24)) := (Below.refl _ _).alloc (Nat.le_refl _) _
  have hr : Row (w.alloc (.cells #[.bool d.neg, .string (bs d.digits), .int .i64 d.exp] 24)) w.heap.size 24 #[.bool d.neg, .string (bs d.digits), .int .i64 d.exp] := Row.new _ _ _
  have c1 := hr.cell (i := 1) (v := .string (bs d.digits)) rfl
  have c2 := hr.cell (i := 2) (v := .int .i64 d.exp) rfl
  have hs := bs_size d.digits
  have HB := Lib.hid hb
  clear hb hr
  unfold decV
  generalize bs d.digits = s at *
  generalize d.exp = e at *
  generalize d.digits.length = n at *
  go_enter Tryz.func36, Tryz.ntmps36
  go_wp2
  go_ret
  exact ⟨ret_int (by omega), HB.out⟩
end Go.Proofs.YtlcbjikiodmlfaaGreatDoor
