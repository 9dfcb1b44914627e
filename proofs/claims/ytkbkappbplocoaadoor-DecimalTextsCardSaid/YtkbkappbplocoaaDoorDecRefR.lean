/- Layer 7: the document's Parse: its ways put together. -/
import Derived.Test.YtkbkappbplocoaaDoorDecRefQ
namespace Go.Proofs.YtkbkappbplocoaaDoor
open Go.RowKit

set_option maxRecDepth 1000000 in
set_option maxHeartbeats 4000000 in
theorem suf37 (w W : World) (l all : List UInt8) (k : Nat) (neg : Bool) (x : Int) (R : Dec × Nat) (hS : RpS w W) (hk : k ≤ l.length) (hd : Digs all) (ha : all.length ≤ 1000) (h1 : -100000000 ≤ x) (h2 : x ≤ 100000000) (hR : R = fin neg all x (l.drop k)) (h : Nat → Value) :
    Code.wp Tryd.prog (rpSuf 37) (bodyPost Tryd.prog Tryd.f12 (Told w R.1 R.2)) ⟨(frP h (bs l) (.pointer (some ⟨w.heap.size, 0, none⟩)) k neg (.string (bs all)) (.int .i64 x)).toArray, []⟩ W := by
  conv => arg 2; whnf
  dsimp only [frP]
  go_upto_region 37 with fail
  refine wp_code (rpR 37) (by kernel_rfl) ?_
  refine frP_end (K := fun a w => Code.wp Tryd.prog (rpR 37) _ a w) (bs l) (.pointer (some ⟨w.heap.size, 0, none⟩)) k neg (.string (bs all)) (.int .i64 x) ?_ ?_
  · kernel_rfl
  · refine rp37 w W l all k neg x R hS hk hd ha h1 h2 hR _ (c := ?cc1) (rest := ?rr1) (hc := ?ca1) (hr := ?cb1) (hK := ?ka1) (hK2 := ?kb1)
    case ka1 => assumption
    case kb1 => assumption
    case ca1 => kernel_rfl
    case cb1 => kernel_rfl
set_option maxRecDepth 1000000 in
set_option maxHeartbeats 4000000 in
theorem suf20 (w W : World) (l all : List UInt8) (k b : Nat) (neg : Bool) (R : Dec × Nat) (hS : RpS w W) (hk : k ≤ l.length) (hl : l.length ≤ 1000) (hd : Digs all) (ha : all.length ≤ 1000) (hb : b ≤ 1000) (hR : R = stepP neg all b (l.drop k)) (h : Nat → Value) :
    Code.wp Tryd.prog (rpSuf 20) (bodyPost Tryd.prog Tryd.f12 (Told w R.1 R.2)) ⟨(frP h (bs l) (.pointer (some ⟨w.heap.size, 0, none⟩)) k neg (.string (bs all)) (.int .i64 (-(b : Int)))).toArray, []⟩ W := by
  have hs := bs_size l
  conv => arg 2; whnf
  dsimp only [frP]
  by_cases hlt : k < l.length
  rotate_left 1
  · have hn : ¬ ((l.drop k).head? = some 101 ∨ (l.drop k).head? = some 69) := by rw [List.drop_of_length_le (by omega)]; simp
    rw [stepP_no hn] at hR
    go_upto_region 37 with fail
    refine wp_code (rpR 37) (by kernel_rfl) ?_
    refine frP_end (K := fun a w => Code.wp Tryd.prog (rpR 37) _ a w) (bs l) (.pointer (some ⟨w.heap.size, 0, none⟩)) k neg (.string (bs all)) (.int .i64 (-(b : Int))) ?_ ?_
    · kernel_rfl
    · refine rp37 w W l all k neg (-(b : Int)) R hS hk hd ha (by omega) (by omega) hR _ (c := ?cc2) (rest := ?rr2) (hc := ?ca2) (hr := ?cb2) (hK := ?ka2) (hK2 := ?kb2)
      case ka2 => assumption
      case kb2 => assumption
      case ca2 => kernel_rfl
      case cb2 => kernel_rfl
  have hidx : ∀ W, (Instr.index 9 (.string (bs l)) (.int .i64 (k : Int))).run Tryd.prog W = .ok (.int .u8 (byteAt l k : Int)) W := fun W => run_byte _ Tryd.underlying9 l k hlt W
  by_cases hy : byteAt l k = 101 ∨ byteAt l k = 69
  rotate_left 1
  · have hn : ¬ ((l.drop k).head? = some 101 ∨ (l.drop k).head? = some 69) := by
      rw [drop_head hlt]
      simp only [Option.some.injEq, byte_is]
      exact hy
    rw [stepP_no hn] at hR
    have e1 : ((byteAt l k : Int) == 101) = false := by rw [beq_eq_false_iff_ne]; omega
    have e2 : ((byteAt l k : Int) == 69) = false := by rw [beq_eq_false_iff_ne]; omega
    generalize byteAt l k = y at *
    go_upto_region 37 with fail
    refine wp_code (rpR 37) (by kernel_rfl) ?_
    refine frP_end (K := fun a w => Code.wp Tryd.prog (rpR 37) _ a w) (bs l) (.pointer (some ⟨w.heap.size, 0, none⟩)) k neg (.string (bs all)) (.int .i64 (-(b : Int))) ?_ ?_
    · kernel_rfl
    · refine rp37 w W l all k neg (-(b : Int)) R hS hk hd ha (by omega) (by omega) hR _ (c := ?cc3) (rest := ?rr3) (hc := ?ca3) (hr := ?cb3) (hK := ?ka3) (hK2 := ?kb3)
      case ka3 => assumption
      case kb3 => assumption
      case ca3 => kernel_rfl
      case cb3 => kernel_rfl
  have hh : (l.drop k).head? = some 101 ∨ (l.drop k).head? = some 69 := by
    rw [drop_head hlt]
    simp only [Option.some.injEq, byte_is]
    exact hy
  obtain ⟨k1, hk1⟩ : ∃ k1, k1 = k + 1 := ⟨_, rfl⟩
  have hk1i : (k : Int) + 1 = (k1 : Int) := by omega
  have hk1l : k1 ≤ l.length := by omega
  have hd1 : (l.drop k).drop 1 = l.drop k1 := by rw [List.drop_drop, hk1]
  clear hk1
  rcases hy with hy | hy
  · rw [hy] at hidx
    by_cases q1 : k1 < l.length
    rotate_left 1
    · have hQ : l.drop k1 = (if (l.drop k1).head? = some 45 ∨ (l.drop k1).head? = some 43 then (l.drop k1).drop 1 else l.drop k1) := by rw [List.drop_of_length_le (by omega)]; rfl
      have hL : ((l.drop k1).head? == some 45) = false := by rw [List.drop_of_length_le (by omega)]; rfl
      have HPN : Hid (True → spanT (l.drop k1) = [] → R = (Dec.zero, 170)) := Lib.hid fun _ h9 => by rw [hR, stepP_none hh (by rw [hd1]; exact hQ) h9]
      have HPS : Hid (True → spanT (l.drop k1) ≠ [] → R = fin neg all ((if false then -((min (num (spanT (l.drop k1))) 1000000 : Nat) : Int) else ((min (num (spanT (l.drop k1))) 1000000 : Nat) : Int)) - (b : Int)) (l.drop (k1 + (spanT (l.drop k1)).length))) := Lib.hid fun _ h9 => by
        rw [hR, stepP_some hh (by rw [hd1]; exact hQ) h9, hd1, hL, fin_cut neg false hd ha hb, span_drop]
      clear hQ hL
      go_upto_region 25 with fail
      refine wp_code rp25R (by kernel_rfl) ?_
      refine frQ_end (K := fun a w => Code.wp Tryd.prog rp25R _ a w) (bs l) (.pointer (some ⟨w.heap.size, 0, none⟩)) (k1 : Nat) neg (.string (bs all)) (.int .i64 (-(b : Int))) false ?_ ?_
      · kernel_rfl
      · refine rp25 w W l all k1 b neg false R hS hk1l hl hb _ ?e101 ?f101 (c := ?cc101) (hc := ?ca101) (hKc := ?ka101)
        case ka101 => assumption
        case ca101 => kernel_rfl
        case e101 => exact fun h9 => HPN.out (by trivial) h9
        case f101 =>
          intro h9 h10
          refine useK (P := Tryd.prog) (c := ?c9101) (Q := ?q9101) ?h9101 ?g9101
          case h9101 => assumption
          case g9101 =>
            refine wp_code (rpSuf 37) (by kernel_rfl) ?_
            refine suf37 w W l all _ neg _ R hS (span_le l hk1l) hd ha ?_ ?_ (HPS.out (by trivial) h9) h10
            · have := Nat.min_le_right (num (spanT (l.drop k1))) 1000000; split <;> omega
            · have := Nat.min_le_right (num (spanT (l.drop k1))) 1000000; split <;> omega
    have hidx1 : ∀ W, (Instr.index 9 (.string (bs l)) (.int .i64 (k1 : Int))).run Tryd.prog W = .ok (.int .u8 (byteAt l k1 : Int)) W := fun W => run_byte _ Tryd.underlying9 l k1 q1 W
    have hhd := drop_head q1
    obtain ⟨k2, hk2⟩ : ∃ k2, k2 = k1 + 1 := ⟨_, rfl⟩
    have hk2i : (k1 : Int) + 1 = (k2 : Int) := by omega
    have hk2l : k2 ≤ l.length := by omega
    have hdd : (l.drop k1).drop 1 = l.drop k2 := by rw [List.drop_drop, hk2]
    clear hk2
    by_cases q45 : byteAt l k1 = 45
    · have hb9 : l.getD k1 0 = 45 := (byte_is 45).2 q45
      have hQ : l.drop k2 = (if (l.drop k1).head? = some 45 ∨ (l.drop k1).head? = some 43 then (l.drop k1).drop 1 else l.drop k1) := by rw [hhd, hb9, hdd]; rfl
      have hL : ((l.drop k1).head? == some 45) = true := by rw [hhd, hb9]; rfl
      have HPN : Hid (True → spanT (l.drop k2) = [] → R = (Dec.zero, 170)) := Lib.hid fun _ h9 => by rw [hR, stepP_none hh (by rw [hd1]; exact hQ) h9]
      have HPS : Hid (True → spanT (l.drop k2) ≠ [] → R = fin neg all ((if true then -((min (num (spanT (l.drop k2))) 1000000 : Nat) : Int) else ((min (num (spanT (l.drop k2))) 1000000 : Nat) : Int)) - (b : Int)) (l.drop (k2 + (spanT (l.drop k2)).length))) := Lib.hid fun _ h9 => by
        rw [hR, stepP_some hh (by rw [hd1]; exact hQ) h9, hd1, hL, fin_cut neg true hd ha hb, span_drop]
      clear hQ hL
      rw [q45] at hidx1
      clear hhd hdd hb9
      go_upto_region 25 with fail
      refine wp_code rp25R (by kernel_rfl) ?_
      refine frQ_end (K := fun a w => Code.wp Tryd.prog rp25R _ a w) (bs l) (.pointer (some ⟨w.heap.size, 0, none⟩)) (k2 : Nat) neg (.string (bs all)) (.int .i64 (-(b : Int))) true ?_ ?_
      · kernel_rfl
      · refine rp25 w W l all k2 b neg true R hS hk2l hl hb _ ?e102 ?f102 (c := ?cc102) (hc := ?ca102) (hKc := ?ka102)
        case ka102 => assumption
        case ca102 => kernel_rfl
        case e102 => exact fun h9 => HPN.out (by trivial) h9
        case f102 =>
          intro h9 h10
          refine useK (P := Tryd.prog) (c := ?c9102) (Q := ?q9102) ?h9102 ?g9102
          case h9102 => assumption
          case g9102 =>
            refine wp_code (rpSuf 37) (by kernel_rfl) ?_
            refine suf37 w W l all _ neg _ R hS (span_le l hk2l) hd ha ?_ ?_ (HPS.out (by trivial) h9) h10
            · have := Nat.min_le_right (num (spanT (l.drop k2))) 1000000; split <;> omega
            · have := Nat.min_le_right (num (spanT (l.drop k2))) 1000000; split <;> omega
    by_cases q43 : byteAt l k1 = 43
    · have hb9 : l.getD k1 0 = 43 := (byte_is 43).2 q43
      have hQ : l.drop k2 = (if (l.drop k1).head? = some 45 ∨ (l.drop k1).head? = some 43 then (l.drop k1).drop 1 else l.drop k1) := by rw [hhd, hb9, hdd]; rfl
      have hL : ((l.drop k1).head? == some 45) = false := by rw [hhd, hb9]; rfl
      have HPN : Hid (True → spanT (l.drop k2) = [] → R = (Dec.zero, 170)) := Lib.hid fun _ h9 => by rw [hR, stepP_none hh (by rw [hd1]; exact hQ) h9]
      have HPS : Hid (True → spanT (l.drop k2) ≠ [] → R = fin neg all ((if false then -((min (num (spanT (l.drop k2))) 1000000 : Nat) : Int) else ((min (num (spanT (l.drop k2))) 1000000 : Nat) : Int)) - (b : Int)) (l.drop (k2 + (spanT (l.drop k2)).length))) := Lib.hid fun _ h9 => by
        rw [hR, stepP_some hh (by rw [hd1]; exact hQ) h9, hd1, hL, fin_cut neg false hd ha hb, span_drop]
      clear hQ hL
      rw [q43] at hidx1
      clear hhd hdd hb9 q45
      go_upto_region 25 with fail
      refine wp_code rp25R (by kernel_rfl) ?_
      refine frQ_end (K := fun a w => Code.wp Tryd.prog rp25R _ a w) (bs l) (.pointer (some ⟨w.heap.size, 0, none⟩)) (k2 : Nat) neg (.string (bs all)) (.int .i64 (-(b : Int))) false ?_ ?_
      · kernel_rfl
      · refine rp25 w W l all k2 b neg false R hS hk2l hl hb _ ?e103 ?f103 (c := ?cc103) (hc := ?ca103) (hKc := ?ka103)
        case ka103 => assumption
        case ca103 => kernel_rfl
        case e103 => exact fun h9 => HPN.out (by trivial) h9
        case f103 =>
          intro h9 h10
          refine useK (P := Tryd.prog) (c := ?c9103) (Q := ?q9103) ?h9103 ?g9103
          case h9103 => assumption
          case g9103 =>
            refine wp_code (rpSuf 37) (by kernel_rfl) ?_
            refine suf37 w W l all _ neg _ R hS (span_le l hk2l) hd ha ?_ ?_ (HPS.out (by trivial) h9) h10
            · have := Nat.min_le_right (num (spanT (l.drop k2))) 1000000; split <;> omega
            · have := Nat.min_le_right (num (spanT (l.drop k2))) 1000000; split <;> omega
    have hQ : l.drop k1 = (if (l.drop k1).head? = some 45 ∨ (l.drop k1).head? = some 43 then (l.drop k1).drop 1 else l.drop k1) := by
      rw [hhd]; simp only [Option.some.injEq, byte_is]; rw [if_neg (by intro h; rcases h with h | h; exact q45 h; exact q43 h)]
    have hL : ((l.drop k1).head? == some 45) = false := by rw [hhd, beq_eq_false_iff_ne]; intro h; injection h with h; exact q45 ((byte_is 45).1 h)
    have HPN : Hid (True → spanT (l.drop k1) = [] → R = (Dec.zero, 170)) := Lib.hid fun _ h9 => by rw [hR, stepP_none hh (by rw [hd1]; exact hQ) h9]
    have HPS : Hid (True → spanT (l.drop k1) ≠ [] → R = fin neg all ((if false then -((min (num (spanT (l.drop k1))) 1000000 : Nat) : Int) else ((min (num (spanT (l.drop k1))) 1000000 : Nat) : Int)) - (b : Int)) (l.drop (k1 + (spanT (l.drop k1)).length))) := Lib.hid fun _ h9 => by
      rw [hR, stepP_some hh (by rw [hd1]; exact hQ) h9, hd1, hL, fin_cut neg false hd ha hb, span_drop]
    clear hQ hL
    have e45 : ((byteAt l k1 : Int) == 45) = false := by rw [beq_eq_false_iff_ne]; omega
    have e43 : ((byteAt l k1 : Int) == 43) = false := by rw [beq_eq_false_iff_ne]; omega
    clear hhd hdd q45 q43
    generalize byteAt l k1 = y1 at *
    go_upto_region 25 with fail
    refine wp_code rp25R (by kernel_rfl) ?_
    refine frQ_end (K := fun a w => Code.wp Tryd.prog rp25R _ a w) (bs l) (.pointer (some ⟨w.heap.size, 0, none⟩)) (k1 : Nat) neg (.string (bs all)) (.int .i64 (-(b : Int))) false ?_ ?_
    · kernel_rfl
    · refine rp25 w W l all k1 b neg false R hS hk1l hl hb _ ?e104 ?f104 (c := ?cc104) (hc := ?ca104) (hKc := ?ka104)
      case ka104 => assumption
      case ca104 => kernel_rfl
      case e104 => exact fun h9 => HPN.out (by trivial) h9
      case f104 =>
        intro h9 h10
        refine useK (P := Tryd.prog) (c := ?c9104) (Q := ?q9104) ?h9104 ?g9104
        case h9104 => assumption
        case g9104 =>
          refine wp_code (rpSuf 37) (by kernel_rfl) ?_
          refine suf37 w W l all _ neg _ R hS (span_le l hk1l) hd ha ?_ ?_ (HPS.out (by trivial) h9) h10
          · have := Nat.min_le_right (num (spanT (l.drop k1))) 1000000; split <;> omega
          · have := Nat.min_le_right (num (spanT (l.drop k1))) 1000000; split <;> omega
  · rw [hy] at hidx
    by_cases q1 : k1 < l.length
    rotate_left 1
    · have hQ : l.drop k1 = (if (l.drop k1).head? = some 45 ∨ (l.drop k1).head? = some 43 then (l.drop k1).drop 1 else l.drop k1) := by rw [List.drop_of_length_le (by omega)]; rfl
      have hL : ((l.drop k1).head? == some 45) = false := by rw [List.drop_of_length_le (by omega)]; rfl
      have HPN : Hid (True → spanT (l.drop k1) = [] → R = (Dec.zero, 170)) := Lib.hid fun _ h9 => by rw [hR, stepP_none hh (by rw [hd1]; exact hQ) h9]
      have HPS : Hid (True → spanT (l.drop k1) ≠ [] → R = fin neg all ((if false then -((min (num (spanT (l.drop k1))) 1000000 : Nat) : Int) else ((min (num (spanT (l.drop k1))) 1000000 : Nat) : Int)) - (b : Int)) (l.drop (k1 + (spanT (l.drop k1)).length))) := Lib.hid fun _ h9 => by
        rw [hR, stepP_some hh (by rw [hd1]; exact hQ) h9, hd1, hL, fin_cut neg false hd ha hb, span_drop]
      clear hQ hL
      go_upto_region 25 with fail
      refine wp_code rp25R (by kernel_rfl) ?_
      refine frQ_end (K := fun a w => Code.wp Tryd.prog rp25R _ a w) (bs l) (.pointer (some ⟨w.heap.size, 0, none⟩)) (k1 : Nat) neg (.string (bs all)) (.int .i64 (-(b : Int))) false ?_ ?_
      · kernel_rfl
      · refine rp25 w W l all k1 b neg false R hS hk1l hl hb _ ?e105 ?f105 (c := ?cc105) (hc := ?ca105) (hKc := ?ka105)
        case ka105 => assumption
        case ca105 => kernel_rfl
        case e105 => exact fun h9 => HPN.out (by trivial) h9
        case f105 =>
          intro h9 h10
          refine useK (P := Tryd.prog) (c := ?c9105) (Q := ?q9105) ?h9105 ?g9105
          case h9105 => assumption
          case g9105 =>
            refine wp_code (rpSuf 37) (by kernel_rfl) ?_
            refine suf37 w W l all _ neg _ R hS (span_le l hk1l) hd ha ?_ ?_ (HPS.out (by trivial) h9) h10
            · have := Nat.min_le_right (num (spanT (l.drop k1))) 1000000; split <;> omega
            · have := Nat.min_le_right (num (spanT (l.drop k1))) 1000000; split <;> omega
    have hidx1 : ∀ W, (Instr.index 9 (.string (bs l)) (.int .i64 (k1 : Int))).run Tryd.prog W = .ok (.int .u8 (byteAt l k1 : Int)) W := fun W => run_byte _ Tryd.underlying9 l k1 q1 W
    have hhd := drop_head q1
    obtain ⟨k2, hk2⟩ : ∃ k2, k2 = k1 + 1 := ⟨_, rfl⟩
    have hk2i : (k1 : Int) + 1 = (k2 : Int) := by omega
    have hk2l : k2 ≤ l.length := by omega
    have hdd : (l.drop k1).drop 1 = l.drop k2 := by rw [List.drop_drop, hk2]
    clear hk2
    by_cases q45 : byteAt l k1 = 45
    · have hb9 : l.getD k1 0 = 45 := (byte_is 45).2 q45
      have hQ : l.drop k2 = (if (l.drop k1).head? = some 45 ∨ (l.drop k1).head? = some 43 then (l.drop k1).drop 1 else l.drop k1) := by rw [hhd, hb9, hdd]; rfl
      have hL : ((l.drop k1).head? == some 45) = true := by rw [hhd, hb9]; rfl
      have HPN : Hid (True → spanT (l.drop k2) = [] → R = (Dec.zero, 170)) := Lib.hid fun _ h9 => by rw [hR, stepP_none hh (by rw [hd1]; exact hQ) h9]
      have HPS : Hid (True → spanT (l.drop k2) ≠ [] → R = fin neg all ((if true then -((min (num (spanT (l.drop k2))) 1000000 : Nat) : Int) else ((min (num (spanT (l.drop k2))) 1000000 : Nat) : Int)) - (b : Int)) (l.drop (k2 + (spanT (l.drop k2)).length))) := Lib.hid fun _ h9 => by
        rw [hR, stepP_some hh (by rw [hd1]; exact hQ) h9, hd1, hL, fin_cut neg true hd ha hb, span_drop]
      clear hQ hL
      rw [q45] at hidx1
      clear hhd hdd hb9
      go_upto_region 25 with fail
      refine wp_code rp25R (by kernel_rfl) ?_
      refine frQ_end (K := fun a w => Code.wp Tryd.prog rp25R _ a w) (bs l) (.pointer (some ⟨w.heap.size, 0, none⟩)) (k2 : Nat) neg (.string (bs all)) (.int .i64 (-(b : Int))) true ?_ ?_
      · kernel_rfl
      · refine rp25 w W l all k2 b neg true R hS hk2l hl hb _ ?e106 ?f106 (c := ?cc106) (hc := ?ca106) (hKc := ?ka106)
        case ka106 => assumption
        case ca106 => kernel_rfl
        case e106 => exact fun h9 => HPN.out (by trivial) h9
        case f106 =>
          intro h9 h10
          refine useK (P := Tryd.prog) (c := ?c9106) (Q := ?q9106) ?h9106 ?g9106
          case h9106 => assumption
          case g9106 =>
            refine wp_code (rpSuf 37) (by kernel_rfl) ?_
            refine suf37 w W l all _ neg _ R hS (span_le l hk2l) hd ha ?_ ?_ (HPS.out (by trivial) h9) h10
            · have := Nat.min_le_right (num (spanT (l.drop k2))) 1000000; split <;> omega
            · have := Nat.min_le_right (num (spanT (l.drop k2))) 1000000; split <;> omega
    by_cases q43 : byteAt l k1 = 43
    · have hb9 : l.getD k1 0 = 43 := (byte_is 43).2 q43
      have hQ : l.drop k2 = (if (l.drop k1).head? = some 45 ∨ (l.drop k1).head? = some 43 then (l.drop k1).drop 1 else l.drop k1) := by rw [hhd, hb9, hdd]; rfl
      have hL : ((l.drop k1).head? == some 45) = false := by rw [hhd, hb9]; rfl
      have HPN : Hid (True → spanT (l.drop k2) = [] → R = (Dec.zero, 170)) := Lib.hid fun _ h9 => by rw [hR, stepP_none hh (by rw [hd1]; exact hQ) h9]
      have HPS : Hid (True → spanT (l.drop k2) ≠ [] → R = fin neg all ((if false then -((min (num (spanT (l.drop k2))) 1000000 : Nat) : Int) else ((min (num (spanT (l.drop k2))) 1000000 : Nat) : Int)) - (b : Int)) (l.drop (k2 + (spanT (l.drop k2)).length))) := Lib.hid fun _ h9 => by
        rw [hR, stepP_some hh (by rw [hd1]; exact hQ) h9, hd1, hL, fin_cut neg false hd ha hb, span_drop]
      clear hQ hL
      rw [q43] at hidx1
      clear hhd hdd hb9 q45
      go_upto_region 25 with fail
      refine wp_code rp25R (by kernel_rfl) ?_
      refine frQ_end (K := fun a w => Code.wp Tryd.prog rp25R _ a w) (bs l) (.pointer (some ⟨w.heap.size, 0, none⟩)) (k2 : Nat) neg (.string (bs all)) (.int .i64 (-(b : Int))) false ?_ ?_
      · kernel_rfl
      · refine rp25 w W l all k2 b neg false R hS hk2l hl hb _ ?e107 ?f107 (c := ?cc107) (hc := ?ca107) (hKc := ?ka107)
        case ka107 => assumption
        case ca107 => kernel_rfl
        case e107 => exact fun h9 => HPN.out (by trivial) h9
        case f107 =>
          intro h9 h10
          refine useK (P := Tryd.prog) (c := ?c9107) (Q := ?q9107) ?h9107 ?g9107
          case h9107 => assumption
          case g9107 =>
            refine wp_code (rpSuf 37) (by kernel_rfl) ?_
            refine suf37 w W l all _ neg _ R hS (span_le l hk2l) hd ha ?_ ?_ (HPS.out (by trivial) h9) h10
            · have := Nat.min_le_right (num (spanT (l.drop k2))) 1000000; split <;> omega
            · have := Nat.min_le_right (num (spanT (l.drop k2))) 1000000; split <;> omega
    have hQ : l.drop k1 = (if (l.drop k1).head? = some 45 ∨ (l.drop k1).head? = some 43 then (l.drop k1).drop 1 else l.drop k1) := by
      rw [hhd]; simp only [Option.some.injEq, byte_is]; rw [if_neg (by intro h; rcases h with h | h; exact q45 h; exact q43 h)]
    have hL : ((l.drop k1).head? == some 45) = false := by rw [hhd, beq_eq_false_iff_ne]; intro h; injection h with h; exact q45 ((byte_is 45).1 h)
    have HPN : Hid (True → spanT (l.drop k1) = [] → R = (Dec.zero, 170)) := Lib.hid fun _ h9 => by rw [hR, stepP_none hh (by rw [hd1]; exact hQ) h9]
    have HPS : Hid (True → spanT (l.drop k1) ≠ [] → R = fin neg all ((if false then -((min (num (spanT (l.drop k1))) 1000000 : Nat) : Int) else ((min (num (spanT (l.drop k1))) 1000000 : Nat) : Int)) - (b : Int)) (l.drop (k1 + (spanT (l.drop k1)).length))) := Lib.hid fun _ h9 => by
      rw [hR, stepP_some hh (by rw [hd1]; exact hQ) h9, hd1, hL, fin_cut neg false hd ha hb, span_drop]
    clear hQ hL
    have e45 : ((byteAt l k1 : Int) == 45) = false := by rw [beq_eq_false_iff_ne]; omega
    have e43 : ((byteAt l k1 : Int) == 43) = false := by rw [beq_eq_false_iff_ne]; omega
    clear hhd hdd q45 q43
    generalize byteAt l k1 = y1 at *
    go_upto_region 25 with fail
    refine wp_code rp25R (by kernel_rfl) ?_
    refine frQ_end (K := fun a w => Code.wp Tryd.prog rp25R _ a w) (bs l) (.pointer (some ⟨w.heap.size, 0, none⟩)) (k1 : Nat) neg (.string (bs all)) (.int .i64 (-(b : Int))) false ?_ ?_
    · kernel_rfl
    · refine rp25 w W l all k1 b neg false R hS hk1l hl hb _ ?e108 ?f108 (c := ?cc108) (hc := ?ca108) (hKc := ?ka108)
      case ka108 => assumption
      case ca108 => kernel_rfl
      case e108 => exact fun h9 => HPN.out (by trivial) h9
      case f108 =>
        intro h9 h10
        refine useK (P := Tryd.prog) (c := ?c9108) (Q := ?q9108) ?h9108 ?g9108
        case h9108 => assumption
        case g9108 =>
          refine wp_code (rpSuf 37) (by kernel_rfl) ?_
          refine suf37 w W l all _ neg _ R hS (span_le l hk1l) hd ha ?_ ?_ (HPS.out (by trivial) h9) h10
          · have := Nat.min_le_right (num (spanT (l.drop k1))) 1000000; split <;> omega
          · have := Nat.min_le_right (num (spanT (l.drop k1))) 1000000; split <;> omega
end Go.Proofs.YtkbkappbplocoaaDoor
