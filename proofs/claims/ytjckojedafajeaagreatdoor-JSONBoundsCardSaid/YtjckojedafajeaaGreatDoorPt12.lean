/- Layer 8: sign, must, digits. -/
import Derived.Test.YtjckojedafajeaaGreatDoorPt11
import Derived.WalkLawsBesides
namespace Go.Proofs.YtjckojedafajeaaGreatDoor
open Go.RowKit

/-- It gives up by an error. -/
def panicOf (k : Int) : List PanicEntry := [{ v := .iface 31 (.int .i64 k), recovered := false }]
def sgB (these s : List UInt8) : Bool := tkB these (blk s)
def sgS (these s : List UInt8) : List UInt8 := tkS these (blk s)
set_option maxRecDepth 100000 in
set_option maxHeartbeats 2000000 in
theorem jsign_ok (p : Nat) (X : Txt) (these s : List UInt8) (E O : Value) (f : Fl) (w : World) (h : JAt w p X s E O f) :
    Calls Tryz.prog 57 #[.pointer (some ⟨p, 0, none⟩), .string (bs these)] w fun e w' => e = .returned (.bool (sgB these s)) ∧ JTo p X (sgS these s) E O f w w' := by
  have HB := Lib.hid (jblanks_ok p X s E O f w h)
  clear h
  go_enter Tryz.func57, Tryz.ntmps57
  go_wp2_with fail
  refine HB.out.mono ?_
  rintro e w1 ⟨rfl, hj, hk⟩
  have HT := Lib.hid (jtake_ok p X these (blk s) E O f w1 hj)
  have HK := Lib.hid hk
  clear hj hk
  go_wp2_with fail
  refine HT.out.mono ?_
  rintro e w2 ⟨rfl, hj, hk⟩
  have HJ := Lib.hid hj
  have HK2 := Lib.hid (HK.out.trans' hk)
  clear hj hk
  go_wp2
  go_ret
  exact ⟨rfl, HJ.out, HK2.out⟩
def mustL (these s : List UInt8) : Option (List UInt8) := if sgB these s then some (sgS these s) else none
/-- What a call ends with that gives up by ErrJSON, or goes on. -/
def JEnd (p : Nat) (X : Txt) (E O : Value) (f : Fl) (w : World) (v : Value) : Option (List UInt8) → Ending → World → Prop
  | some s, e, w' => e = .returned v ∧ JTo p X s E O f w w'
  | none, e, w' => e = .panicked (panicOf 180) ∧ Kept (· = p) w w'
set_option maxRecDepth 100000 in
set_option maxHeartbeats 2000000 in
theorem jmust_ok (p : Nat) (X : Txt) (these s : List UInt8) (E O : Value) (f : Fl) (w : World) (h : JAt w p X s E O f) :
    Calls Tryz.prog 61 #[.pointer (some ⟨p, 0, none⟩), .string (bs these)] w (JEnd p X E O f w (.tuple #[]) (mustL these s)) := by
  have HB := Lib.hid (jsign_ok p X these s E O f w h)
  have HM : Hid (mustL these s = if sgB these s then some (sgS these s) else none) := Lib.hid rfl
  clear h
  generalize mustL these s = m at *
  generalize sgB these s = b at *
  generalize sgS these s = r at *
  go_enter Tryz.func61, Tryz.ntmps61
  go_wp2_with fail
  refine HB.out.mono ?_
  rintro e w1 ⟨rfl, hj, hk⟩
  have HJ := Lib.hid hj
  have HK := Lib.hid hk
  clear hj hk HB
  cases b with
  | true =>
    obtain rfl : m = some r := HM.out
    go_wp2_with fail
    go_end0
    exact ⟨rfl, HJ.out, HK.out⟩
  | false =>
    obtain rfl : m = none := HM.out
    go_wp2_with fail
    exact ⟨rfl, rfl, HK.out⟩
end Go.Proofs.YtjckojedafajeaaGreatDoor
/- Layer 8: next, four digits. -/
namespace Go.Proofs.YtjckojedafajeaaGreatDoor
open Go.RowKit

/-- What next ends with. -/
def JNext (p : Nat) (X : Txt) (E O : Value) (f : Fl) (w : World) : List UInt8 → Ending → World → Prop
  | b :: t, e, w' => e = .returned (.int .u8 (b.toNat : Int)) ∧ JTo p X t E O f w w'
  | [], e, w' => e = .panicked (panicOf 180) ∧ Kept (· = p) w w'
theorem dropJ_cons {l : List UInt8} {k : Nat} (h : k < l.length) : l.drop k = l.getD k 0 :: l.drop (k + 1) := by
  rw [List.drop_eq_getElem_cons h]
  congr 1
  simp [List.getD, List.getElem?_eq_getElem h]
set_option maxRecDepth 100000 in
set_option maxHeartbeats 2000000 in
theorem jnext_ok (p : Nat) (X : Txt) (s : List UInt8) (E O : Value) (f : Fl) (w : World) (h : JAt w p X s E O f) :
    Calls Tryz.prog 113 #[.pointer (some ⟨p, 0, none⟩)] w (JNext p X E O f w s) := by
  obtain ⟨hl9, k, h, rfl, hk⟩ := h
  have HL9 := Lib.hid hl9
  have hl := hl9.1
  clear hl9
  have c0 := h.row.cell (i := 0) (v := .slice X.A X.l.length X.c) rfl
  have c1 := h.row.cell (i := 1) (v := .int .i64 (k : Int)) rfl
  have f1 := h.row.free 1
  have H := Lib.hid h
  by_cases hlt : k < X.l.length
  · obtain ⟨g, off, hA, hg, hgl, hc⟩ := h.txt k hlt
    have HD := Lib.hid (dropJ_cons hlt)
    have HB : Hid (byteAt X.l k = (X.l.getD k 0).toNat) := Lib.hid rfl
    have HTX := Lib.hid h.txt
    rw [hA] at c0
    have he : ((k : Int) == (X.l.length : Int)) = false := by rw [beq_eq_false_iff_ne]; omega
    have HPK : Hid (JNext p X E O f w (X.l.drop k) = JNext p X E O f w (X.l.getD k 0 :: X.l.drop (k + 1))) := Lib.hid (by rw [HD.out])
    rw [HPK.out]
    clear h
    generalize hn : X.l.length = n at *
    have HN := Lib.hid hn
    have HA := Lib.hid hA
    clear hn hA HPK hk
    go_enter Tryz.func113, Tryz.ntmps113
    go_wp2_with fail
    go_quiet (fail)
    go_upto_region 4 with fail
    obtain ⟨w1, hw1⟩ : ∃ w1, w1 = (w.drewN nq).setCell ⟨p, 1, none⟩ (.int .i64 ((k : Int) + 1)) := ⟨_, rfl⟩
    rw [← hw1]
    have hkk : Kept (· = p) w w1 := by subst hw1; exact (Kept.refl _ _).drewN _ |>.trans' (Kept.cell _ _ _ _)
    have hj1 : JRd w1 p X (k + 1) E O f := H.out.step hkk (by subst hw1; simpa [rdCells] using (H.out.row.drewN nq).set_ 1 (.int .i64 ((k + 1 : Nat) : Int)))
    have HJ := Lib.hid hj1
    have HK := Lib.hid hkk
    have d0 := hj1.row.cell (i := 0) (v := .slice X.A X.l.length X.c) rfl
    rw [HA.out, HN.out] at d0
    have d1 := hj1.row.cell (i := 1) (v := .int .i64 ((k : Int) + 1)) rfl
    have dc := (World.cell?_of_block (a := ⟨g, off + k, none⟩) (hkk.block g hgl hg)).trans hc
    rw [HB.out] at dc
    have hkn : (k : Int) + 1 - 1 = (k : Int) := by omega
    clear hj1 hkk hw1 hc c0 c1 f1 he
    generalize X.l.getD k 0 = b at *
    obtain ⟨y, hy⟩ : ∃ y, b.toNat = y := ⟨_, rfl⟩
    have HY := Lib.hid hy
    rw [hy] at dc
    clear hy
    go_quiet (fail)
    go_wp2
    go_ret
    refine ⟨by rw [HY.out]; rfl, ⟨by rw [HN.out]; exact HL9.out, k + 1, HJ.out.drewN _, rfl, ?_⟩, HK.out.drewN _⟩
    rw [HN.out]
    omega
  · have HD : Hid (X.l.drop k = []) := Lib.hid (List.drop_of_length_le (by omega))
    rw [HD.out]
    have he : ((k : Int) == (X.l.length : Int)) = true := by rw [beq_iff_eq]; omega
    clear h
    generalize hn : X.l.length = n at *
    go_enter Tryz.func113, Tryz.ntmps113
    go_wp2_with fail
    go_quiet (fail)
    go_wp2
    exact ⟨rfl, rfl, (Kept.refl _ _).drewN _⟩
end Go.Proofs.YtjckojedafajeaaGreatDoor
