/- Layer 7: DecimalOrder's first question (region 7), alone. -/
import Derived.Test.YtkbkappbplocoaaDoorDecLaw1
import Derived.Test.YtkbkappbplocoaaDoorDecGoto
namespace Go.Proofs.YtkbkappbplocoaaDoor
open Go.RowKit

def regionOf (i : Nat) : Code → Option Code
  | .region j ops b => if i = j then some (.region j ops b) else none
  | .seq a b => match regionOf i a with
    | some c => some c
    | none => regionOf i b
  | .cond _ a b => match regionOf i a with
    | some c => some c
    | none => regionOf i b
  | .block _ c => regionOf i c
  | .loop c => regionOf i c
  | .scope c => regionOf i c
  | _ => none
noncomputable def ord7 : Code := (Tryd.f7.body.bind (regionOf 7)).getD .skip
def frO (h : Nat → Value) (p3 p4 p5 : Value) (x z v : Int) : List Value := [h 0, h 1, h 2, p3, p4, p5, .bool false, .int .i64 x, .int .i64 0, .int .i64 (-x), .int .i64 0, .int .i64 z, .int .i64 0, .int .i64 v, .int .i64 0, h 15, h 16, h 17, h 18, h 19, h 20, h 21, h 22, h 23, h 24, h 25, h 26, h 27, h 28, h 29, h 30, h 31, h 32, h 33, h 34, h 35, h 36, h 37, h 38, h 39, h 40, h 41, h 42, h 43, h 44, h 45, h 46, h 47, h 48, h 49, h 50, h 51, h 52, h 53, h 54, h 55, h 56, h 57, h 58, h 59, h 60, h 61, h 62, h 63, h 64, h 65, h 66, h 67, h 68, h 69, h 70, h 71, h 72, h 73, h 74, h 75, h 76, h 77, h 78, h 79, h 80, h 81, h 82, h 83, h 84, h 85, h 86, h 87, h 88, h 89, h 90, h 91, h 92, h 93, h 94, h 95, h 96, h 97, h 98, h 99, h 100, h 101, h 102, h 103, h 104, h 105, h 106, h 107, h 108, h 109, h 110, h 111, h 112, h 113, h 114, h 115, h 116, h 117, h 118, h 119, h 120, h 121, h 122, h 123, h 124, h 125, h 126, h 127, h 128, h 129, h 130, h 131, h 132, h 133, h 134, h 135, h 136, h 137, h 138, h 139, h 140, h 141, h 142, h 143, h 144, h 145, h 146, h 147, h 148, h 149, h 150, h 151, h 152, h 153, h 154, h 155, h 156, h 157, h 158, h 159, h 160, h 161, h 162, h 163, h 164, h 165, h 166, h 167, h 168, h 169, h 170, h 171, h 172, h 173, h 174, h 175, h 176, h 177, h 178, h 179, h 180, h 181, h 182, h 183, h 184, h 185, h 186, h 187, h 188, h 189, h 190, h 191, h 192, h 193, h 194, h 195, h 196, h 197, h 198, h 199, h 200, h 201, h 202, h 203, h 204, h 205, h 206, h 207, h 208]
def frO2 (h : Nat → Value) (p3 p4 p5 : Value) (x : Int) : List Value := [h 0, h 1, h 2, p3, p4, p5, .bool false, .int .i64 x, h 8, .int .i64 (-x), h 10, h 11, h 12, h 13, h 14, h 15, h 16, h 17, h 18, h 19, h 20, h 21, h 22, h 23, h 24, h 25, h 26, h 27, h 28, h 29, h 30, h 31, h 32, h 33, h 34, h 35, h 36, h 37, h 38, h 39, h 40, h 41, h 42, h 43, h 44, h 45, h 46, h 47, h 48, h 49, h 50, h 51, h 52, h 53, h 54, h 55, h 56, h 57, h 58, h 59, h 60, h 61, h 62, h 63, h 64, h 65, h 66, h 67, h 68, h 69, h 70, h 71, h 72, h 73, h 74, h 75, h 76, h 77, h 78, h 79, h 80, h 81, h 82, h 83, h 84, h 85, h 86, h 87, h 88, h 89, h 90, h 91, h 92, h 93, h 94, h 95, h 96, h 97, h 98, h 99, h 100, h 101, h 102, h 103, h 104, h 105, h 106, h 107, h 108, h 109, h 110, h 111, h 112, h 113, h 114, h 115, h 116, h 117, h 118, h 119, .bool false, h 121, h 122, h 123, h 124, h 125, h 126, h 127, h 128, h 129, h 130, h 131, h 132, h 133, h 134, h 135, h 136, h 137, h 138, h 139, h 140, h 141, h 142, h 143, h 144, h 145, h 146, h 147, h 148, h 149, h 150, h 151, h 152, h 153, h 154, h 155, h 156, h 157, h 158, h 159, h 160, h 161, h 162, h 163, h 164, h 165, h 166, h 167, h 168, h 169, h 170, h 171, h 172, h 173, h 174, h 175, h 176, h 177, h 178, h 179, h 180, h 181, h 182, h 183, h 184, h 185, h 186, h 187, h 188, h 189, h 190, h 191, h 192, h 193, h 194, h 195, h 196, h 197, h 198, h 199, h 200, h 201, h 202, h 203, h 204, h 205, h 206, h 207, h 208]
set_option maxRecDepth 1000000 in
theorem frO2_end {K : Act → World → Prop} {a' : Act} {W' : World} (p3 p4 p5 : Value) (x : Int) (e : a' = ⟨(frO2 (fun k => a'.tmps.getD k undef) p3 p4 p5 x).toArray, []⟩) (h : K ⟨(frO2 (fun k => a'.tmps.getD k undef) p3 p4 p5 x).toArray, []⟩ W') : K a' W' := by
  rw [← e] at h
  exact h
/-- What the walk asks of the numbers. -/
structure OrdI (e : Bool) (x z v : Int) : Prop where
  eq : e = true ↔ x = 0
  lo : -1 ≤ x ∧ x ≤ 1
  lo2 : -1 ≤ z ∧ z ≤ 1
  lo3 : -1 ≤ v ∧ v ≤ 1
  tr : x ≤ 0 → z ≤ 0 → v < 0 ∨ (v = 0 ∧ x = 0 ∧ z = 0)
set_option maxRecDepth 1000000 in
set_option maxHeartbeats 40000000 in
theorem ord7_ok (w W : World) (an bn cn : Bool) (al bl cl : List UInt8) (ax bx cx x z v : Int) (HD : Hid (Decs w W [(w.heap.size + 1 + 1, ⟨cn, cl, cx⟩), (w.heap.size + 1, ⟨bn, bl, bx⟩), (w.heap.size, ⟨an, al, ax⟩)]))
    (hI : OrdI (decide (an = bn ∧ al = bl ∧ ax = bx)) x z v) (h : Nat → Value) (K : Act → World → Prop) (Q : Exit → Act → World → Prop)
    (hK : ∀ g, K ⟨(frO2 g (.pointer (some ⟨w.heap.size, 0, none⟩)) (.pointer (some ⟨w.heap.size + 1, 0, none⟩)) (.pointer (some ⟨w.heap.size + 1 + 1, 0, none⟩)) x).toArray, []⟩ W) :
    Code.wp Tryd.prog ord7 (Exit.then K Q) ⟨(frO h (.pointer (some ⟨w.heap.size, 0, none⟩)) (.pointer (some ⟨w.heap.size + 1, 0, none⟩)) (.pointer (some ⟨w.heap.size + 1 + 1, 0, none⟩)) x z v).toArray, []⟩ W := by
  have HK := Lib.hid hK
  clear hK
  obtain ⟨hie, ⟨hx1, hx2⟩, ⟨hz1, hz2⟩, ⟨hv1, hv2⟩, htr⟩ := hI
  have hwx : IntKind.i64.wrap x = x := by simp [IntKind.wrap, IntKind.bits, IntKind.signed]; omega
  conv => arg 2; whnf
  dsimp only [frO]
  have f101 : W.cell? ⟨w.heap.size, 0, none⟩ = some (.bool an) := HD.out.c0 (i := 2) (b := w.heap.size) (d := ⟨an, al, ax⟩) rfl
  have f102 : W.cell? ⟨w.heap.size, 1, none⟩ = some (.string (bs al)) := HD.out.c1 (i := 2) (b := w.heap.size) (d := ⟨an, al, ax⟩) rfl
  have f103 : W.cell? ⟨w.heap.size, 2, none⟩ = some (.int .i64 ax) := HD.out.c2 (i := 2) (b := w.heap.size) (d := ⟨an, al, ax⟩) rfl
  have f104 : W.cell? ⟨w.heap.size + 1, 0, none⟩ = some (.bool bn) := HD.out.c0 (i := 1) (b := w.heap.size + 1) (d := ⟨bn, bl, bx⟩) rfl
  have f105 : W.cell? ⟨w.heap.size + 1, 1, none⟩ = some (.string (bs bl)) := HD.out.c1 (i := 1) (b := w.heap.size + 1) (d := ⟨bn, bl, bx⟩) rfl
  have f106 : W.cell? ⟨w.heap.size + 1, 2, none⟩ = some (.int .i64 bx) := HD.out.c2 (i := 1) (b := w.heap.size + 1) (d := ⟨bn, bl, bx⟩) rfl
  by_cases n1 : an = bn
  rotate_left 1
  · have hxne : ¬ x = 0 := fun h => n1 (by have := hie.2 h; simp at this; exact this.1)
    have hn : (an == bn) = false := by rw [beq_eq_false_iff_ne]; exact n1
    have hx0 : (x == 0) = false := by rw [beq_eq_false_iff_ne]; exact hxne
    by_cases p1 : 0 < x
    · skip
      have d1 : decide (x ≤ 0) = false := by simp; omega
      clear htr hie
      go_wp2_with (refine (num_ok _ _).mono ?_; rintro e9 w9 ⟨rfl, rfl⟩)
      refine frO2_end (K := K) (.pointer (some ⟨w.heap.size, 0, none⟩)) (.pointer (some ⟨w.heap.size + 1, 0, none⟩)) (.pointer (some ⟨w.heap.size + 1 + 1, 0, none⟩)) x ?_ ?_
      · kernel_rfl
      · exact HK.out _
    have d1 : decide (x ≤ 0) = true := by simp; omega
    by_cases p2 : 0 < z
    · skip
      have d2 : decide (z ≤ 0) = false := by simp; omega
      clear htr hie
      go_wp2_with (refine (num_ok _ _).mono ?_; rintro e9 w9 ⟨rfl, rfl⟩)
      refine frO2_end (K := K) (.pointer (some ⟨w.heap.size, 0, none⟩)) (.pointer (some ⟨w.heap.size + 1, 0, none⟩)) (.pointer (some ⟨w.heap.size + 1 + 1, 0, none⟩)) x ?_ ?_
      · kernel_rfl
      · exact HK.out _
    have d2 : decide (z ≤ 0) = true := by simp; omega
    have p3 : v < 0 := by have := htr (by omega) (by omega); omega
    have hv0 : (v == 0) = false := by rw [beq_eq_false_iff_ne]; omega
    have d3 : decide (0 < v) = false := by simp; omega
    clear htr hie
    go_wp2_with (refine (num_ok _ _).mono ?_; rintro e9 w9 ⟨rfl, rfl⟩)
    refine frO2_end (K := K) (.pointer (some ⟨w.heap.size, 0, none⟩)) (.pointer (some ⟨w.heap.size + 1, 0, none⟩)) (.pointer (some ⟨w.heap.size + 1 + 1, 0, none⟩)) x ?_ ?_
    · kernel_rfl
    · exact HK.out _
  have hn : (an == bn) = true := by rw [n1]; simp
  by_cases n2 : al = bl
  rotate_left 1
  · have hxne : ¬ x = 0 := fun h => n2 (by have := hie.2 h; simp at this; exact this.2.1)
    have hl : ((bs al).toList == (bs bl).toList) = false := by rw [bs_toList, bs_toList, beq_eq_false_iff_ne]; exact n2
    clear n1
    have hx0 : (x == 0) = false := by rw [beq_eq_false_iff_ne]; exact hxne
    by_cases p1 : 0 < x
    · skip
      have d1 : decide (x ≤ 0) = false := by simp; omega
      clear htr hie
      go_wp2_with (refine (num_ok _ _).mono ?_; rintro e9 w9 ⟨rfl, rfl⟩)
      refine frO2_end (K := K) (.pointer (some ⟨w.heap.size, 0, none⟩)) (.pointer (some ⟨w.heap.size + 1, 0, none⟩)) (.pointer (some ⟨w.heap.size + 1 + 1, 0, none⟩)) x ?_ ?_
      · kernel_rfl
      · exact HK.out _
    have d1 : decide (x ≤ 0) = true := by simp; omega
    by_cases p2 : 0 < z
    · skip
      have d2 : decide (z ≤ 0) = false := by simp; omega
      clear htr hie
      go_wp2_with (refine (num_ok _ _).mono ?_; rintro e9 w9 ⟨rfl, rfl⟩)
      refine frO2_end (K := K) (.pointer (some ⟨w.heap.size, 0, none⟩)) (.pointer (some ⟨w.heap.size + 1, 0, none⟩)) (.pointer (some ⟨w.heap.size + 1 + 1, 0, none⟩)) x ?_ ?_
      · kernel_rfl
      · exact HK.out _
    have d2 : decide (z ≤ 0) = true := by simp; omega
    have p3 : v < 0 := by have := htr (by omega) (by omega); omega
    have hv0 : (v == 0) = false := by rw [beq_eq_false_iff_ne]; omega
    have d3 : decide (0 < v) = false := by simp; omega
    clear htr hie
    go_wp2_with (refine (num_ok _ _).mono ?_; rintro e9 w9 ⟨rfl, rfl⟩)
    refine frO2_end (K := K) (.pointer (some ⟨w.heap.size, 0, none⟩)) (.pointer (some ⟨w.heap.size + 1, 0, none⟩)) (.pointer (some ⟨w.heap.size + 1 + 1, 0, none⟩)) x ?_ ?_
    · kernel_rfl
    · exact HK.out _
  have hl : ((bs al).toList == (bs bl).toList) = true := by rw [n2]; simp
  by_cases n3 : ax = bx
  rotate_left 1
  · have hxne : ¬ x = 0 := fun h => n3 (by have := hie.2 h; simp at this; exact this.2.2)
    have hxx : (ax == bx) = false := by rw [beq_eq_false_iff_ne]; exact n3
    clear n1 n2
    have hx0 : (x == 0) = false := by rw [beq_eq_false_iff_ne]; exact hxne
    by_cases p1 : 0 < x
    · skip
      have d1 : decide (x ≤ 0) = false := by simp; omega
      clear htr hie
      go_wp2_with (refine (num_ok _ _).mono ?_; rintro e9 w9 ⟨rfl, rfl⟩)
      refine frO2_end (K := K) (.pointer (some ⟨w.heap.size, 0, none⟩)) (.pointer (some ⟨w.heap.size + 1, 0, none⟩)) (.pointer (some ⟨w.heap.size + 1 + 1, 0, none⟩)) x ?_ ?_
      · kernel_rfl
      · exact HK.out _
    have d1 : decide (x ≤ 0) = true := by simp; omega
    by_cases p2 : 0 < z
    · skip
      have d2 : decide (z ≤ 0) = false := by simp; omega
      clear htr hie
      go_wp2_with (refine (num_ok _ _).mono ?_; rintro e9 w9 ⟨rfl, rfl⟩)
      refine frO2_end (K := K) (.pointer (some ⟨w.heap.size, 0, none⟩)) (.pointer (some ⟨w.heap.size + 1, 0, none⟩)) (.pointer (some ⟨w.heap.size + 1 + 1, 0, none⟩)) x ?_ ?_
      · kernel_rfl
      · exact HK.out _
    have d2 : decide (z ≤ 0) = true := by simp; omega
    have p3 : v < 0 := by have := htr (by omega) (by omega); omega
    have hv0 : (v == 0) = false := by rw [beq_eq_false_iff_ne]; omega
    have d3 : decide (0 < v) = false := by simp; omega
    clear htr hie
    go_wp2_with (refine (num_ok _ _).mono ?_; rintro e9 w9 ⟨rfl, rfl⟩)
    refine frO2_end (K := K) (.pointer (some ⟨w.heap.size, 0, none⟩)) (.pointer (some ⟨w.heap.size + 1, 0, none⟩)) (.pointer (some ⟨w.heap.size + 1 + 1, 0, none⟩)) x ?_ ?_
    · kernel_rfl
    · exact HK.out _
  · have hx0 : x = 0 := hie.1 (by simp [n1, n2, n3])
    have hxx : (ax == bx) = true := by rw [n3]; simp
    clear n1 n2 n3
    subst hx0
    by_cases p2 : 0 < z
    · skip
      have d2 : decide (z ≤ 0) = false := by simp; omega
      clear htr hie
      go_wp2_with (refine (num_ok _ _).mono ?_; rintro e9 w9 ⟨rfl, rfl⟩)
      refine frO2_end (K := K) (.pointer (some ⟨w.heap.size, 0, none⟩)) (.pointer (some ⟨w.heap.size + 1, 0, none⟩)) (.pointer (some ⟨w.heap.size + 1 + 1, 0, none⟩)) 0 ?_ ?_
      · kernel_rfl
      · exact HK.out _
    · have d2 : decide (z ≤ 0) = true := by simp; omega
      rcases htr (by omega) (by omega) with p3 | ⟨p3, p4, p5⟩
      · have hv0 : (v == 0) = false := by rw [beq_eq_false_iff_ne]; omega
        have d3 : decide (0 < v) = false := by simp; omega
        clear htr hie
        go_wp2_with (refine (num_ok _ _).mono ?_; rintro e9 w9 ⟨rfl, rfl⟩)
        refine frO2_end (K := K) (.pointer (some ⟨w.heap.size, 0, none⟩)) (.pointer (some ⟨w.heap.size + 1, 0, none⟩)) (.pointer (some ⟨w.heap.size + 1 + 1, 0, none⟩)) 0 ?_ ?_
        · kernel_rfl
        · exact HK.out _
      · subst p3 p5
        clear htr hie p4 d2
        go_wp2_with (refine (num_ok _ _).mono ?_; rintro e9 w9 ⟨rfl, rfl⟩)
        refine frO2_end (K := K) (.pointer (some ⟨w.heap.size, 0, none⟩)) (.pointer (some ⟨w.heap.size + 1, 0, none⟩)) (.pointer (some ⟨w.heap.size + 1 + 1, 0, none⟩)) 0 ?_ ?_
        · kernel_rfl
        · exact HK.out _
end Go.Proofs.YtkbkappbplocoaaDoor
