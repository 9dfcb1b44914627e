/- Layer 8: whole: what is closed. -/
import Derived.Test.YtjckojedafajeaaGreatDoorPt36
import Derived.Test.YtjckojedafajeaaGreatDoorPt37
namespace Go.Proofs.YtjckojedafajeaaGreatDoor
open Go.RowKit

set_option maxRecDepth 1000000 in
set_option maxHeartbeats 40000000 in
theorem wh_leave (w : World) (p : Nat) (X : Txt) (s0 : List UInt8) (E0 O0 : Value) (f0 : Fl) (h0 : JAt w p X s0 E0 O0 f0) (hX : X.l.length ≤ 1048576) (R : Option (JV × Fl)) (m : Nat) (h : Nat → Value) (own : Nat → Nat) (K : List Fr) (E O : Value) (f : Fl) (s : List UInt8) (W : World)
    (hs : WhS w p X own K E O f s W) (hR : R = runJ .leave K f s) (hK : K ≠ []) (hw : wtK K + s.length ≤ X.l.length) (hm : 2 * s.length + 1 < m + 1) :
    Code.wp Tryz.prog (tailOf (restW 0)) (jumps (JWM w p X R m) (QW w p X R)) ⟨(whF w p h).toArray, []⟩ W := by
  have hp := h0.lt
  obtain ⟨t, r, rfl⟩ : ∃ t r, K = t :: r := by
    cases K with
    | nil => exact absurd rfl hK
    | cons a b => exact ⟨a, b, rfl⟩
  have HL := Lib.hid (jleave_ok p X s s0 E O E0 O0 f f0 w W own t r h0 hs.jat hs.stk (Nat.le_of_lt hs.lt))
  have HRR : Hid (R = runJ (.behind (if isDeepK (t :: r) then JV.null else t.val)) r f s) := Lib.hid (by rw [hR, runJ_leave])
  have HWT : Hid (wtK r + 1 ≤ wtK (t :: r)) := Lib.hid (by simp only [wtK]; omega)
  have HS := Lib.hid hs
  have H0 := Lib.hid h0
  have HW := Lib.hid hw
  have HM := Lib.hid hm
  have HX := Lib.hid hX
  clear hs h0 hR hw hm hK hX
  conv => arg 2; whnf
  dsimp only [whF]
  go_wp2_with fail
  refine HL.out.mono ?_
  rintro e w1 ⟨own2, E2, O2, cl, rfl, hv, hst, hj, hk, ho⟩
  have hs1 := HS.out.stkTo hp hst hj hk (ho _ HS.out.lt HS.out.rv3)
  obtain ⟨cs, hcs⟩ : ∃ cs : Array Value, cs = cl.toArray := ⟨_, rfl⟩
  have hcl : cs.toList = cl := by rw [hcs]
  rw [← hcl] at hv
  rw [← hcs]
  have h8 : cs.size = 8 := by have := hv.len; simpa using this
  have HONE : Hid (cs.all (·.oneCell') = true) := Lib.hid (by have := all_oneCell_toArray (jv_one hv); simpa using this)
  have HIN : Hid ((Tryz.prog.info? 30).map (·.size) = some cs.size) := Lib.hid (by rw [h8]; exact infoJ)
  have hth := hs1.there
  rw [← h8] at hth
  have HTH := Lib.hid hth
  have hl3 := hs1.laid H0.out h8
  have HL3 := Lib.hid hl3
  have HV3 : Hid (JIs (w1.setCells w.heap.size 0 cs.toList) (FB own2 w.heap.size 0) (if isDeepK (t :: r) then JV.null else t.val) cs.toList) := Lib.hid (hv.still hl3.2.2 (fun q e _ => by rw [e, hs1.rv3]; omega))
  clear hv hst hj hk ho hs1 hcs hcl h8 hth hl3 HL
  go_wp2_with (
    refine wpList_store_mid ?_ 30 (.tmp 2) (.tmp 24) ?_ w.heap.size 0 cs ?_ ?_ HTH.out HIN.out HONE.out ?_
    · with_reducible rfl
    · with_reducible rfl
    · rfl
    · rfl)
  simp only [Act.put]
  rename_i K0 hK0
  have HK0 := Lib.hid hK0
  clear hK0
  go_step3
  refine HK0.out _ _ ?_
  refine wp_code (tailOf (restW 3)) (by kernel_rfl) ?_
  refine whF_end (K := fun a w => Code.wp _ _ _ a w) w p ?_ ?_
  · kernel_rfl
  · exact wh_behind w p X s0 E0 O0 f0 H0.out HX.out R m _ own2 r E2 O2 f s _ HL3.out.1 _ cs HL3.out.2.1 HV3.out HRR.out (by have := HW.out; have := HWT.out; omega) (by have := HM.out; omega)
end Go.Proofs.YtjckojedafajeaaGreatDoor
/- Layer 8: whole: a JSON text is passed. -/
namespace Go.Proofs.YtjckojedafajeaaGreatDoor
open Go.RowKit

set_option maxRecDepth 1000000 in
set_option maxHeartbeats 40000000 in
theorem jwhole_ok (w : World) (p : Nat) (X : Txt) (s : List UInt8) (f : Fl) (h : JAt w p X s (.slice none 0 0) (.slice none 0 0) f) (hX : X.l.length ≤ 1048576) (hT : ∀ V, Kept (TxF w p) w V → PowTab V) :
    Calls Tryz.prog 27 #[.pointer (some ⟨p, 0, none⟩)] w (WPost w p X (runJ .value [] f s)) := by
  have hsl := h.len
  obtain ⟨w1, hw1⟩ : ∃ w1, w1 = w.alloc (.cells zeroJ 30) := ⟨_, rfl⟩
  have hb1 : Below w.heap.size w w1 := by subst hw1; exact (Below.refl _ _).alloc (Nat.le_refl _) _
  have hs1 : WhS w p X (fun _ => 3) [] (.slice none 0 0) (.slice none 0 0) f s w1 := by
    refine ⟨⟨Lies.empty _ _ _ _ _, [], Lies.empty _ _ _ _ _, trivial⟩, h.above h (keptOf_below hb1), keptOf_below hb1, rfl, zeroJ, ?_, rfl⟩
    subst hw1
    exact Row.new _ _ _
  have HS := Lib.hid hs1
  have H := Lib.hid h
  have HX := Lib.hid hX
  have HT := Lib.hid hT
  have HSL := Lib.hid hsl
  clear h hX hT hsl hb1 hs1
  generalize hR : runJ .value [] f s = R at *
  have HR := Lib.hid hR
  clear hR
  unfold zeroJ at hw1
  go_enter Tryz.func27, Tryz.ntmps27
  go_wp2_with fail
  rw [← hw1]
  clear hw1
  refine wp_code (Code.scope whBody) (by kernel_rfl) ?_
  refine wp_scope_labels restW (JW w p X R) (fun i _ W => measW p X i W) ?hf ?first ?pass
  case hf =>
    rintro i a W ⟨h, own, K, E, O, f, s, e, hs, x⟩
    match i, x with
    | 0, _ => exact (by kernel_rfl : findLabel whBody 0 = some (restW 0))
    | 1, _ => exact (by kernel_rfl : findLabel whBody 1 = some (restW 1))
    | 2, _ => exact (by kernel_rfl : findLabel whBody 2 = some (restW 2))
    | 3, _ => exact (by kernel_rfl : findLabel whBody 3 = some (restW 3))
  case first =>
    refine wp_code ((Code.label 1).seq (tailOf (restW 1))) (by kernel_rfl) (wp_seq ?_)
    go_step3
    simp only [Exit.then]
    refine whF_end (K := fun a w => Code.wp _ _ _ a w) w p ?_ ?_
    · kernel_rfl
    · exact Code.wp_mono (jumpsW w p X R _) (wh_value w p X s _ _ f H.out HX.out HT.out R (2 * s.length) _ _ [] _ _ f s w1 HS.out HR.out.symm (by unfold wtK; rw [Nat.zero_add]; exact HSL.out) (by omega))
  case pass =>
    rintro i a W ⟨h, own, K, E, O, f2, s2, rfl, hs, x⟩
    have hm : 2 * s2.length + (if i = 0 then 1 else 0) = measW p X i W := by unfold measW; rw [hs.jat.left]
    match i, x with
    | 0, x =>
      refine wp_code (Code.seq .skip (tailOf (restW 0))) (by kernel_rfl) (wp_seq (wp_skip ?_))
      exact wh_leave w p X s _ _ f H.out HX.out R (measW p X 0 W) h own K E O f2 s2 W hs x.1 x.2.1 x.2.2 (by rw [if_pos rfl] at hm; omega)
    | 1, x =>
      refine wp_code (Code.seq .skip (tailOf (restW 1))) (by kernel_rfl) (wp_seq (wp_skip ?_))
      exact wh_value w p X s _ _ f H.out HX.out HT.out R (measW p X 1 W) h own K E O f2 s2 W hs x.1 x.2 (by rw [if_neg (by omega)] at hm; omega)
    | 2, x =>
      refine wp_code (Code.seq .skip (tailOf (restW 2))) (by kernel_rfl) (wp_seq (wp_skip ?_))
      exact wh_name w p X s _ _ f H.out HX.out R (measW p X 2 W) h own K E O f2 s2 W hs x.1 x.2.1 x.2.2 (by rw [if_neg (by omega)] at hm; omega)
    | 3, x =>
      obtain ⟨v, cs, x1, x2, x3, x4⟩ := x
      refine wp_code (Code.seq .skip (tailOf (restW 3))) (by kernel_rfl) (wp_seq (wp_skip ?_))
      exact wh_behind w p X s _ _ f H.out HX.out R (measW p X 3 W) h own K E O f2 s2 W hs v cs x1 x2 x3 x4 (by rw [if_neg (by omega)] at hm; omega)
end Go.Proofs.YtjckojedafajeaaGreatDoor
