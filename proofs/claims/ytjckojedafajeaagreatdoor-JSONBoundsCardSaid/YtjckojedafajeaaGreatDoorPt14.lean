/- Layer 8: digits. -/
import Derived.Test.YtjckojedafajeaaGreatDoorPt13
import Derived.Test.YtjckojedafajeaaGreatDoorPt08
namespace Go.Proofs.YtjckojedafajeaaGreatDoor
open Go.RowKit

def tenDigits : List UInt8 := [48, 49, 50, 51, 52, 53, 54, 55, 56, 57]
def tenOk (b : UInt8) : Bool := tenDigits.contains b == isDig b
theorem tenOk_all : ∀ b : Fin 256, tenOk (UInt8.ofNat b.val) = true := by decide +kernel
theorem ten_is (b : UInt8) : tenDigits.contains b = isDig b := by
  have := tenOk_all ⟨b.toNat, b.toNat_lt⟩
  simp only [UInt8.ofNat_toNat] at this
  unfold tenOk at this
  exact beq_iff_eq.1 this
theorem span_yes {r : List UInt8} (h : tkB tenDigits r = true) : (tkS tenDigits r).dropWhile isDig = r.dropWhile isDig := by
  rw [tkS_yes h]
  cases r with
  | nil => rfl
  | cons x t =>
    rw [tkB_cons, ten_is] at h
    rw [List.dropWhile_cons, if_pos h]
    rfl
theorem span_no {r : List UInt8} (h : tkB tenDigits r = false) : r.dropWhile isDig = r := by
  cases r with
  | nil => rfl
  | cons x t =>
    rw [tkB_cons, ten_is] at h
    rw [List.dropWhile_cons, if_neg (by rw [h]; simp)]
theorem dgs_yes {r : List UInt8} (h : tkB tenDigits r = true) : dgs r = some ((tkS tenDigits r).dropWhile isDig) := by
  rw [tkS_yes h]
  cases r with
  | nil => cases h
  | cons x t =>
    rw [tkB_cons, ten_is] at h
    unfold dgs
    simp only [h, if_true]
    rfl
theorem dgs_no {r : List UInt8} (h : tkB tenDigits r = false) : dgs r = none := by
  cases r with
  | nil => rfl
  | cons x t =>
    rw [tkB_cons, ten_is] at h
    unfold dgs
    simp [h]
def dgsR (f : Fl) (s : List UInt8) : Option (Value × Fl × List UInt8) := (dgs s).map fun q => (.tuple #[], f, q)
set_option maxRecDepth 100000 in
set_option maxHeartbeats 4000000 in
theorem jdigits_ok (p : Nat) (X : Txt) (s : List UInt8) (E O : Value) (f : Fl) (w : World) (h : JAt w p X s E O f) :
    Calls Tryz.prog 117 #[.pointer (some ⟨p, 0, none⟩)] w (JRes p X E O w (dgsR f s)) := by
  have HT := Lib.hid (jtake_ok p X tenDigits s E O f w h)
  have HF : Hid (dgsR f s = (dgs s).map fun q => (.tuple #[], f, q)) := Lib.hid rfl
  clear h
  generalize dgsR f s = R at *
  go_enter Tryz.func117, Tryz.ntmps117
  cases hb : tkB tenDigits s with
  | false =>
    obtain rfl : R = none := by rw [HF.out, dgs_no hb]; rfl
    rw [hb] at HT
    clear hb HF
    go_wp2_with fail
    refine HT.out.mono ?_
    rintro e w1 ⟨rfl, hj, hk⟩
    have HK := Lib.hid hk
    clear hj hk HT
    go_wp2_with fail
    exact ⟨rfl, rfl, HK.out⟩
  | true =>
    have HR : Hid (R = some (.tuple #[], f, (tkS tenDigits s).dropWhile isDig)) := Lib.hid (by rw [HF.out, dgs_yes hb]; rfl)
    rw [hb] at HT
    clear hb HF
    generalize tkS tenDigits s = s1 at *
    go_wp2_with fail
    refine HT.out.mono ?_
    rintro e w1 ⟨rfl, hj, hk⟩
    have HJ := Lib.hid hj
    have HK := Lib.hid hk
    clear hj hk HT
    go_wp2_with fail
    go_loopw [6] (fun _ wr => ∃ r, Hid (JTo p X r E O f w wr) ∧ Hid (r.dropWhile isDig = s1.dropWhile isDig)) (fun _ wr => leftOf X p wr)
    case atStart => exact ⟨s1, Lib.hid ⟨HJ.out, HK.out⟩, Lib.hid rfl⟩
    case round =>
      obtain ⟨r, HX, HB⟩ := hrel
      have HT := Lib.hid (jtake_ok p X tenDigits r E O f _ HX.out.1)
      have HL := Lib.hid HX.out.1.left
      cases hb : tkB tenDigits r with
      | true =>
        have HY1 := Lib.hid (span_yes hb)
        have HY := Lib.hid (tkS_lt hb)
        rw [hb] at HT
        clear hb
        go_wp2_with fail
        refine HT.out.mono ?_
        rintro e w2 ⟨rfl, hj, hkp⟩
        have HJ2 := Lib.hid hj
        have HK2 := Lib.hid (HX.out.2.trans' hkp)
        clear hj hkp
        go_wp2_with fail
        exact ⟨⟨_, Lib.hid ⟨HJ2.out, HK2.out⟩, Lib.hid (HY1.out.trans HB.out)⟩, by rw [HJ2.out.left, HL.out]; exact HY.out⟩
      | false =>
        have HY1 := Lib.hid (span_no hb)
        have HY := Lib.hid (tkS_no hb)
        rw [hb] at HT
        clear hb
        go_wp2_with fail
        refine HT.out.mono ?_
        rintro e w2 ⟨rfl, hj, hkp⟩
        rw [HY.out] at hj
        have HJ2 := Lib.hid hj
        have HK2 := Lib.hid (HX.out.2.trans' hkp)
        clear hj hkp
        go_wp2_with fail
        go_end0
        rw [HR.out]
        refine ⟨rfl, ?_, HK2.out⟩
        rw [← HB.out, HY1.out]
        exact HJ2.out
end Go.Proofs.YtjckojedafajeaaGreatDoor
/- Layer 8: words. -/
namespace Go.Proofs.YtjckojedafajeaaGreatDoor
open Go.RowKit

set_option maxRecDepth 100000 in
set_option maxHeartbeats 2000000 in
theorem bequal_ok (A B : Option Addr) (c d n m : Nat) (l q : List UInt8) (hn : l.length = n) (hm : q.length = m) (w : World) (hA : Holds w A l.length 1 (u8s l)) (hB : Holds w B q.length 1 (u8s q)) :
    Calls Tryz.prog 153 #[.slice A n c, .slice B m d] w fun e w' => e = .returned (.bool (l == q)) ∧ w = w' := by
  have h1 : ∀ W : World, Below w.heap.size w W → (convert 22 9 (.slice A n c)).run Tryz.prog W = .ok (.string (bs l)) W := fun W hb => by
    rw [← hn]
    exact run_text_bs (hA.below hb) 22 9 5 c Tryz.underlying22 Tryz.underlying5 Tryz.underlying9
  have h2 : ∀ W : World, Below w.heap.size w W → (convert 22 9 (.slice B m d)).run Tryz.prog W = .ok (.string (bs q)) W := fun W hb => by
    rw [← hm]
    exact run_text_bs (hB.below hb) 22 9 5 d Tryz.underlying22 Tryz.underlying5 Tryz.underlying9
  have e1 := h1 w (Below.refl _ _)
  have e2 := h2 w (Below.refl _ _)
  have hl : (bs l).toList = l := bs_toList l
  have hq : (bs q).toList = q := bs_toList q
  clear h1 h2 hA hB hn hm
  go_enter Tryz.func153, Tryz.ntmps153
  go_wp2_with fail
  go_ret
  exact ⟨rfl, rfl⟩
theorem pfx_take (q l : List UInt8) : pfx q l = (decide (q.length ≤ l.length) && (l.take q.length == q)) := by
  unfold pfx
  rw [Bool.eq_iff_iff, List.isPrefixOf_iff_prefix, Bool.and_eq_true, decide_eq_true_eq, beq_iff_eq]
  constructor
  · rintro ⟨t, rfl⟩
    exact ⟨by simp, by simp⟩
  · rintro ⟨_, h⟩
    exact ⟨l.drop q.length, by have h9 := List.take_append_drop q.length l; rw [h] at h9; exact h9⟩
theorem Holds.take1 {w : World} {A : Option Addr} {l : List UInt8} (h : Holds w A l.length 1 (u8s l)) (m : Nat) : Holds w A (l.take m).length 1 (u8s (l.take m)) := by
  refine ⟨by rw [u8s_length, Nat.mul_one], fun h0 => ?_⟩
  have hl : 0 < l.length := by rw [List.length_take] at h0; omega
  obtain ⟨b, off, e, hb, hr⟩ := h.2 hl
  refine ⟨b, off, e, hb, fun j v hv => hr j v ?_⟩
  have e2 : u8s (l.take m) = (u8s l).take m := by unfold u8s; rw [List.map_take]
  rw [e2] at hv
  by_cases hj : j < m
  · rwa [List.getElem?_take_of_lt hj] at hv
  · rw [List.getElem?_eq_none (by rw [List.length_take]; omega)] at hv; cases hv
set_option maxRecDepth 100000 in
set_option maxHeartbeats 2000000 in
theorem bprefix_ok (A B : Option Addr) (c d n m : Nat) (l q : List UInt8) (hn : l.length = n) (hm : q.length = m) (h0 : 0 < m) (hc : n ≤ c) (w : World) (hA : Holds w A l.length 1 (u8s l)) (hB : Holds w B q.length 1 (u8s q)) :
    Calls Tryz.prog 116 #[.slice A n c, .slice B m d] w fun e w' => e = .returned (.bool (pfx q l)) ∧ w = w' := by
  rw [pfx_take, hm, hn]
  by_cases hle : m ≤ n
  · obtain ⟨g, off, rfl, _, _⟩ := hA.2 (by omega)
    have HE := Lib.hid (bequal_ok (some ⟨g, off, none⟩) B c d m m (l.take m) q (by rw [List.length_take]; omega) hm w (hA.take1 m) hB)
    rw [decide_eq_true hle, Bool.true_and]
    have hd : decide ((m : Int) ≤ (n : Int)) = true := by simp; omega
    clear hA hB hn hm
    generalize (l.take m == q) = b at *
    go_enter Tryz.func116, Tryz.ntmps116
    go_wp2_with fail
    refine HE.out.mono ?_
    rintro e w2 ⟨rfl, rfl⟩
    go_wp2
    go_ret
    exact ⟨rfl, rfl⟩
  · rw [decide_eq_false hle, Bool.false_and]
    have hd : decide ((m : Int) ≤ (n : Int)) = false := by simp; omega
    clear hA hB hn hm
    go_enter Tryz.func116, Tryz.ntmps116
    go_wp2
    go_ret
    exact ⟨rfl, rfl⟩
end Go.Proofs.YtjckojedafajeaaGreatDoor
