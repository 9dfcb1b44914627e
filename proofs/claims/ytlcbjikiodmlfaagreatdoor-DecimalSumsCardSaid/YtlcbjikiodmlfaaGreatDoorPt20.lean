/- Layer 7: FromInt, Neg. -/
import Derived.Test.YtlcbjikiodmlfaaGreatDoorPt19
namespace Go.Proofs.YtlcbjikiodmlfaaGreatDoor
open Go.RowKit

theorem results_one {fn : Func} {p : Tmp} {ty : TypeId} {P : Program} (h : fn.results = #[.cell p ty]) (tmps : Array Value) (w : World) (g : Nat) (cs : Array Value)
    (hp : tmps.getD p undef = .pointer (some ⟨g, 0, none⟩)) (hr : (loadVar ty ⟨g, 0, none⟩).run P w = .ok (.agg cs) w) :
    (results fn tmps).run P w = .ok (.agg cs) w := by
  have hp' : tmps[p]?.getD undef = .pointer (some ⟨g, 0, none⟩) := by simpa using hp
  simp [results, h, hp', asAddr, hr]
def fromI (n : Int) : Dec := mkD (decide (n < 0)) n.natAbs 0
def OneDec (w : World) (d : Dec) (e : Ending) (w' : World) : Prop := e = .returned (decV d) ∧ Below w.heap.size w w'

set_option maxHeartbeats 1000000 in
theorem fromInt_ok (n : Int) (w : World) (h0 : -9223372036854775808 ≤ n) (h1 : n ≤ 9223372036854775807) (hT : PowTab w) :
    Calls Tryz.prog 17 #[.int .i64 n] w (OneDec w (fromI n)) := by
  obtain ⟨u, hu⟩ : ∃ u : Nat, n.natAbs = u := ⟨_, rfl⟩
  have hu2 : u < 18446744073709551616 := by omega
  obtain ⟨w0, hw0⟩ : ∃ w0, w0 = w.alloc (.cells #[.bool false, .string ⟨#[]⟩, .int .i64 0] 24) := ⟨_, rfl⟩
  have hb0 : Below w.heap.size w w0 := by subst hw0; exact (Below.refl _ _).alloc (Nat.le_refl _) _
  have hr0 : Row w0 w.heap.size 24 #[.bool false, .string ⟨#[]⟩, .int .i64 0] := by subst hw0; exact Row.new _ _ _
  have HB0 := Lib.hid hb0
  have HR0 := Lib.hid hr0
  have HT := Lib.hid hT
  have HF := Lib.hid (fun W => format_ok u hu2 W)
  have hdl : (Lib.decDigits u).length ≤ 20 := decDigits_len (by omega) (by omega)
  have HLD := Lib.hid (fun W => laid_ok (Lib.decDigits u) 0 W (decDigits_digs u) (by omega) (by omega))
  rw [num_decDigits, Nat.pow_zero, Nat.mul_one] at HLD
  have HLN : Hid ((wds u).length ≤ 3) := Lib.hid (wds_length_le (by omega))
  clear hb0 hr0 hT hdl
  unfold OneDec fromI
  rw [hu]
  have key : ∀ neg : Bool, decide (n < 0) = neg → IntKind.u64.wrap (if neg then -IntKind.u64.wrap n else n) = (u : Int) := by
    intro neg hneg
    cases neg
    · have : ¬ n < 0 := of_decide_eq_false hneg
      simp [IntKind.wrap, IntKind.bits, IntKind.signed]
      omega
    · have : n < 0 := of_decide_eq_true hneg
      simp [IntKind.wrap, IntKind.bits, IntKind.signed]
      omega
  have HMD : ∀ neg : Bool, Hid ((decV (mkD neg u 0)) = .agg #[.bool (mkD neg u 0).neg, .string (bs (mkD neg u 0).digits), .int .i64 (mkD neg u 0).exp]) := fun neg => Lib.hid rfl
  by_cases hn : n < 0
  · have hb : decide (n < 0) = true := by simp; omega
    have hw := key true hb
    rw [if_pos rfl] at hw
    rw [hb]
    clear key HMD hu
    go_enter Tryz.func17, Tryz.ntmps17
    go_wp2_with fail
    rw [← hw0]
    clear hw0
    refine (HF.out _ (HT.out.below HB0.out)).mono ?_
    rintro e w1 ⟨rfl, hb1⟩
    have HB1 := Lib.hid (HB0.out.call hb1)
    have HR1 := Lib.hid (HR0.out.call hb1)
    clear hb1 HB0 HR0 HF
    go_wp2_with fail
    refine (HLD.out _).mono ?_
    rintro e w2 ⟨v, rfl, hv, hb2⟩
    have HB2 := Lib.hid (HB1.out.call hb2)
    have HR2 := Lib.hid (HR1.out.call hb2)
    have HV := Lib.hid hv
    clear hb2 HB1 HR1 HLD hv
    go_wp2_with fail
    refine (told_ok true v u 0 _ HV.out (by have := HLN.out; omega) (HT.out.below HB2.out) (by omega) (by omega)).mono ?_
    rintro e w3 ⟨rfl, hb3⟩
    have HB3 := Lib.hid (HB2.out.call hb3)
    have HR3 := Lib.hid (HR2.out.call hb3)
    clear hb3 HB2 HR2 HV
    unfold decV
    obtain ⟨d, hd⟩ : ∃ d, d = mkD true u 0 := ⟨_, rfl⟩
    have HDE := Lib.hid hd
    rw [← hd]
    clear hd
    obtain ⟨neg, l, x⟩ := d
    simp only
    have HR4 := HR3.out.alloc (.cells #[.bool neg, .string (bs l), .int .i64 x] 24)
    have y0 := HR4.cell (i := 0) (v := .bool false) rfl
    have y1 := HR4.cell (i := 1) (v := .string ⟨#[]⟩) rfl
    have y2 := HR4.cell (i := 2) (v := .int .i64 0) rfl
    have g0 := HR4.free 0
    have g1 := HR4.free 1
    have g2 := HR4.free 2
    have HN4 : Row (w3.alloc (.cells #[.bool neg, .string (bs l), .int .i64 x] 24)) w3.heap.size 24 #[.bool neg, .string (bs l), .int .i64 x] := Row.new _ _ _
    have z0 := HN4.cell (i := 0) (v := .bool neg) rfl
    have z1 := HN4.cell (i := 1) (v := .string (bs l)) rfl
    have z2 := HN4.cell (i := 2) (v := .int .i64 x) rfl
    have HHR4 := Lib.hid HR4
    have HB4 := Lib.hid (HB3.out.alloc HB3.out.size (.cells #[.bool neg, .string (bs l), .int .i64 x] 24))
    clear HR4 HN4
    go_wp2_with fail
    have hrow := ((HHR4.out.set_ 0 (.bool neg)).set_ 1 (.string (bs l))).set_ 2 (.int .i64 x)
    refine bodyPost_ret_by (results_one rfl _ _ w.heap.size #[.bool neg, .string (bs l), .int .i64 x] rfl (load_dec hrow rfl)) rfl ?_
    exact ⟨by unfold decV; rw [← HDE.out], ((HB4.out.setCell (p := ⟨w.heap.size, 0, none⟩) (Nat.le_refl _) _).setCell (p := ⟨w.heap.size, 1, none⟩) (Nat.le_refl _) _).setCell (p := ⟨w.heap.size, 2, none⟩) (Nat.le_refl _) _⟩
  · have hb : decide (n < 0) = false := by simp; omega
    have hw := key false hb
    rw [if_neg (by decide)] at hw
    rw [hb]
    clear key HMD hu
    go_enter Tryz.func17, Tryz.ntmps17
    go_wp2_with fail
    rw [← hw0]
    clear hw0
    refine (HF.out _ (HT.out.below HB0.out)).mono ?_
    rintro e w1 ⟨rfl, hb1⟩
    have HB1 := Lib.hid (HB0.out.call hb1)
    have HR1 := Lib.hid (HR0.out.call hb1)
    clear hb1 HB0 HR0 HF
    go_wp2_with fail
    refine (HLD.out _).mono ?_
    rintro e w2 ⟨v, rfl, hv, hb2⟩
    have HB2 := Lib.hid (HB1.out.call hb2)
    have HR2 := Lib.hid (HR1.out.call hb2)
    have HV := Lib.hid hv
    clear hb2 HB1 HR1 HLD hv
    go_wp2_with fail
    refine (told_ok false v u 0 _ HV.out (by have := HLN.out; omega) (HT.out.below HB2.out) (by omega) (by omega)).mono ?_
    rintro e w3 ⟨rfl, hb3⟩
    have HB3 := Lib.hid (HB2.out.call hb3)
    have HR3 := Lib.hid (HR2.out.call hb3)
    clear hb3 HB2 HR2 HV
    unfold decV
    obtain ⟨d, hd⟩ : ∃ d, d = mkD false u 0 := ⟨_, rfl⟩
    have HDE := Lib.hid hd
    rw [← hd]
    clear hd
    obtain ⟨neg, l, x⟩ := d
    simp only
    have HR4 := HR3.out.alloc (.cells #[.bool neg, .string (bs l), .int .i64 x] 24)
    have y0 := HR4.cell (i := 0) (v := .bool false) rfl
    have y1 := HR4.cell (i := 1) (v := .string ⟨#[]⟩) rfl
    have y2 := HR4.cell (i := 2) (v := .int .i64 0) rfl
    have g0 := HR4.free 0
    have g1 := HR4.free 1
    have g2 := HR4.free 2
    have HN4 : Row (w3.alloc (.cells #[.bool neg, .string (bs l), .int .i64 x] 24)) w3.heap.size 24 #[.bool neg, .string (bs l), .int .i64 x] := Row.new _ _ _
    have z0 := HN4.cell (i := 0) (v := .bool neg) rfl
    have z1 := HN4.cell (i := 1) (v := .string (bs l)) rfl
    have z2 := HN4.cell (i := 2) (v := .int .i64 x) rfl
    have HHR4 := Lib.hid HR4
    have HB4 := Lib.hid (HB3.out.alloc HB3.out.size (.cells #[.bool neg, .string (bs l), .int .i64 x] 24))
    clear HR4 HN4
    go_wp2_with fail
    have hrow := ((HHR4.out.set_ 0 (.bool neg)).set_ 1 (.string (bs l))).set_ 2 (.int .i64 x)
    refine bodyPost_ret_by (results_one rfl _ _ w.heap.size #[.bool neg, .string (bs l), .int .i64 x] rfl (load_dec hrow rfl)) rfl ?_
    exact ⟨by unfold decV; rw [← HDE.out], ((HB4.out.setCell (p := ⟨w.heap.size, 0, none⟩) (Nat.le_refl _) _).setCell (p := ⟨w.heap.size, 1, none⟩) (Nat.le_refl _) _).setCell (p := ⟨w.heap.size, 2, none⟩) (Nat.le_refl _) _⟩
end Go.Proofs.YtlcbjikiodmlfaaGreatDoor
