/- Layer 8: works: a text is read, and told. -/
import Derived.Test.YtfdodndagakmmaaGreatDoorPt46
import Derived.Lib.SlBytesConst
namespace Go.Proofs.YtfdodndagakmmaaGreatDoor
open Go.RowKit
/-- A value in a variable of its own. -/
def varW (V : World) (cs : Array Value) : World := (V.alloc (.cells zeroJ 30)).setCells V.heap.size 0 cs.toList
theorem varW_ok (V : World) (cs : Array Value) (h8 : cs.size = 8) : Below V.heap.size V (varW V cs) ∧ Row (varW V cs) V.heap.size 30 cs ∧ (V.alloc (.cells zeroJ 30)).there V.heap.size 0 cs.size := by
  refine ⟨?_, ?_, row_there (Row.new _ _ _) (by rw [h8]; exact Nat.le_refl _)⟩
  · unfold varW
    exact ((Below.refl _ _).alloc (Nat.le_refl _) _).trans ((kept_setCells _ _ _ _ _ (Kept.refl _ _)).below ((Below.refl V.heap.size V).alloc (Nat.le_refl _) _).size fun k hk => Nat.le_of_eq hk.symm)
  · unfold varW
    have h9 := row_laid cs.toList [] zeroJ.toList (V.alloc (.cells zeroJ 30)) (g := V.heap.size) (by simpa using Row.new V 30 zeroJ) (by rw [Array.length_toList, Array.length_toList, h8]; rfl)
    simpa using h9
theorem one_of_jis {W : World} {F : Nat → Prop} {v : JV} {cs : Array Value} (h : JIs W F v cs.toList) : cs.all (·.oneCell') = true := by
  rw [Array.all_eq_true_iff_forall_mem]
  intro u hu
  exact jv_one h u (Array.mem_toList_iff.2 hu)
theorem size_of_jis {W : World} {F : Nat → Prop} {v : JV} {cs : Array Value} (h : JIs W F v cs.toList) : cs.size = 8 := by have := h.len; rwa [Array.length_toList] at this
theorem info_of_size {cs : Array Value} (h : cs.size = 8) : (Tryz.prog.info? 30).map (·.size) = some cs.size := by rw [h]; exact infoJ
def wkC : Array Value := #[.int .u8 32, .int .u8 123, .int .u8 34, .int .u8 98, .int .u8 34, .int .u8 32, .int .u8 58, .int .u8 32, .int .u8 91, .int .u8 49, .int .u8 46, .int .u8 53, .int .u8 48, .int .u8 44, .int .u8 32, .int .u8 110, .int .u8 117, .int .u8 108, .int .u8 108, .int .u8 93, .int .u8 44, .int .u8 32, .int .u8 34, .int .u8 97, .int .u8 34, .int .u8 58, .int .u8 34, .int .u8 92, .int .u8 117, .int .u8 48, .int .u8 48, .int .u8 101, .int .u8 57, .int .u8 34, .int .u8 125, .int .u8 32]
def wkC2 : Array Value := #[.int .u8 91, .int .u8 49, .int .u8 44, .int .u8 93]
theorem wkC_eq : wkC = (u8s wkT).toArray := by rfl
theorem wkC2_eq : wkC2 = (u8s [91, 49, 44, 93]).toArray := by rfl
/-- What a slice of bytes holds that is laid as a literal. -/
theorem lit_holds (w : World) (l : List UInt8) (fz : Nat × Nat) : Holds (w.alloc (.cells (u8s l).toArray 5 fz)) (some ⟨w.heap.size, 0, none⟩) l.length 1 (u8s l) :=
  ⟨by rw [u8s_length, Nat.mul_one], fun _ => ⟨w.heap.size, 0, rfl, by simp, fun j u hu => by
    rw [Nat.zero_add, cell_of_row _ _ _ _ _ _ (heap_alloc_new w (.cells (u8s l).toArray 5 fz))]
    simpa using hu⟩⟩
theorem small_wkV : SmallJ wkV := by simp [wkV, wkX, wkY, wkN, JV.null, Dec.zero, SmallJ, SmallKids, maxLen]
theorem small_wkS : SmallJ wkS := by simp [wkS, wkX, wkY, wkN, JV.null, Dec.zero, SmallJ, SmallKids, maxLen]
theorem fine_wkV : FineJ wkV := by simp [wkV, wkX, wkY, wkN, JV.null, Dec.zero, FineJ, FineKids]
theorem fine_wkS : FineJ wkS := by simp [wkS, wkX, wkY, wkN, JV.null, Dec.zero, FineJ, FineKids]
theorem no_wkX : NoObj wkX := by simp [wkX, wkN, JV.null, NoObj, NoObjs]
theorem no_wkY : NoObj wkY := by simp [wkY, NoObj, NoObjs]
theorem deep_wkV : depthJ wkV ≤ 1000000 := by have := (check_zero wk_check).2.1; omega
theorem deep_wkS : depthJ wkS ≤ 1000000 := by have := (check_zero wk_check2).2.1; omega
set_option maxRecDepth 1000000 in
set_option maxHeartbeats 8000000 in
theorem jworks_ok (w : World) (hT : PowTab w) (hU : Lib.Utf8Tabs 0 1 w) : Calls Tryz.prog 10 #[] w fun e w' => e = .returned (.bool true) ∧ Below w.heap.size w w' := by
  have HT := Lib.hid (fun V (hb : Below w.heap.size w V) => hT.below hb)
  have HU := Lib.hid (fun V (hb : Below w.heap.size w V) => Utf8Tabs_below hU hb)
  clear hT hU
  have hcc := fun (w : World) (C : Array Value) (n c : Nat) => Lib.run_convert_bytes_const (P := Tryz.prog) w 22 5 C n c Tryz.underlying22 Tryz.underlying5
  obtain ⟨w0, hw0⟩ : ∃ w0, w0 = w.alloc (.cells wkC 5 (36, 37)) := ⟨_, rfl⟩
  have b0 : Below w.heap.size w w0 := by rw [hw0]; exact (Below.refl _ _).alloc (Nat.le_refl _) _
  have HP : Hid (Calls Tryz.prog 11 #[.slice (some ⟨w.heap.size, 0, none⟩) 36 36] w0 (ParPost w0 wkV 0)) := Lib.hid (by
    have h9 := jparse_v (some ⟨w.heap.size, 0, none⟩) 36 36 wkT w0 (by rw [hw0, wkC_eq]; exact lit_holds w wkT _) rfl (Nat.le_refl _) (by decide) (HT.out _ b0) (HU.out _ b0)
    rw [wk_valid, wk_parse] at h9
    exact h9)
  have HB0 := Lib.hid b0
  clear b0
  unfold wkC at hw0
  go_enter Tryz.func10, Tryz.ntmps10
  go_wp2_with fail
  rw [← hw0]
  clear hw0
  refine HP.out.mono ?_
  rintro e w1 ⟨cs, rfl, hj, hb⟩
  have h8 := size_of_jis hj
  have HON := Lib.hid (one_of_jis hj)
  have HIN := Lib.hid (info_of_size h8)
  obtain ⟨bv, rv, tv⟩ := varW_ok w1 cs h8
  have HTV := Lib.hid tv
  obtain ⟨w2, hw2⟩ : ∃ w2, w2 = varW w1 cs := ⟨_, rfl⟩
  rw [← hw2] at bv rv
  have HW2 := Lib.hid hw2
  have HB2 := Lib.hid ((HB0.out.call hb).call bv)
  have HJ := Lib.hid (hj.below bv)
  have HR := Lib.hid rv
  have H8 := Lib.hid h8
  clear hj hb h8 bv rv tv hw2 HP HB0
  have HRA : Hid (∀ V, Below w2.heap.size w2 V → V.rangeAt w1.heap.size 0 cs.toList) := Lib.hid (fun V hb q u hu => by rw [Nat.zero_add]; exact (HR.out.call hb).cell (by simpa using hu))
  have HS := Lib.hid (jsorted_two _ cs false Dec.zero [] wkX wkY w2 HJ.out H8.out small_wkV (fun _ => fine_wkV) deep_wkV (HT.out _ HB2.out) (HU.out _ HB2.out) wk_check no_wkX no_wkY)
  have HRA2 := Lib.hid (HRA.out w2 (Below.refl _ _))
  go_wp2_with (first
    | (refine wpList_store_mid ?_ 30 (.tmp 1) (.tmp 12) ?_ w1.heap.size 0 cs ?_ ?_ ?_ HIN.out HON.out ?_
       · with_reducible rfl
       · with_reducible rfl
       · rfl
       · rfl
       · exact HTV.out
       show wpList _ _ _ _ _ (varW w1 cs)
       rw [← HW2.out])
    | (refine wpList_load_mid ?_ 30 (.tmp 1) ?_ w1.heap.size 0 ?_ cs.toList _ HRA2.out Tryz.underlying30 rfl (by rw [Array.length_toList]; exact HIN.out) ?_
       · with_reducible rfl
       · with_reducible rfl
       · rfl))
  refine HS.out.mono ?_
  rintro e w3 ⟨cs2, rfl, hj2, h82, hb⟩
  have HB3 := Lib.hid (HB2.out.call hb)
  have HPR := Lib.hid (jprint_ok _ cs2 wkS w3 hj2 h82 small_wkS (fun _ => fine_wkS) deep_wkS (HT.out _ HB3.out) (HU.out _ HB3.out))
  have HB23 := Lib.hid hb
  clear hj2 h82 hb HS HRA2 HTV HW2
  go_wp2_with fail
  refine HPR.out.mono ?_
  rintro e w4 ⟨AP, cP, rfl, _, _, hl4, hb⟩
  have hpo : printJ wkS = wkO := by unfold printJ; rw [if_pos wk_check2, wk_tell]
  rw [hpo] at hl4 ⊢
  have HL4 := Lib.hid hl4
  have HB4 := Lib.hid (HB3.out.call hb)
  have HB24 := Lib.hid (HB23.out.call hb)
  have HRA4 := Lib.hid (HRA.out w4 HB24.out)
  have HPT := Lib.hid (jpointer_b0 _ cs wkV false Dec.zero [] wkX [wkY] [[97]] false Dec.zero [] wkN [JV.null] [] w4 rfl rfl (HJ.out.below HB24.out) H8.out small_wkV (fun _ => fine_wkV) deep_wkV (HT.out _ HB4.out) (HU.out _ HB4.out) wk_check)
  clear hb hl4 hpo HPR HB23 HB3
  go_wp2_with (first
    | (refine wpList_load_mid ?_ 30 (.tmp 1) ?_ w1.heap.size 0 ?_ cs.toList _ HRA4.out Tryz.underlying30 rfl (by rw [Array.length_toList]; exact HIN.out) ?_
       · with_reducible rfl
       · with_reducible rfl
       · rfl))
  refine HPT.out.mono ?_
  rintro e w5 ⟨cs3, rfl, hj3, h83, hb⟩
  have HON3 := Lib.hid (one_of_jis hj3)
  have HIN3 := Lib.hid (info_of_size h83)
  obtain ⟨bv, rv, tv⟩ := varW_ok w5 cs3 h83
  have HTV3 := Lib.hid tv
  obtain ⟨w6, hw6⟩ : ∃ w6, w6 = varW w5 cs3 := ⟨_, rfl⟩
  rw [← hw6] at bv rv
  have HW6 := Lib.hid hw6
  have HR3 := Lib.hid rv
  have HB46 := Lib.hid (hb.call bv)
  have HB6 := Lib.hid ((HB4.out.call hb).call bv)
  have HN3 : Hid (∃ A c A' c', cs3 = jvC 2 false ⟨false, [49, 53], -1⟩ [] (.slice A 0 c) (.slice A' 0 c')) := Lib.hid (by
    unfold wkN JIs at hj3
    obtain ⟨A, c, A', c', e, _⟩ := hj3
    exact ⟨A, c, A', c', Array.toList_inj.1 e⟩)
  obtain ⟨w7, hw7⟩ : ∃ w7, w7 = w6.alloc (.cells wkC2 5 (4, 5)) := ⟨_, rfl⟩
  have b7 : Below w6.heap.size w6 w7 := by rw [hw7]; exact (Below.refl _ _).alloc (Nat.le_refl _) _
  have HP2 : Hid (Calls Tryz.prog 11 #[.slice (some ⟨w6.heap.size, 0, none⟩) 4 4] w7 (ParPost w7 JV.null 180)) := Lib.hid (by
    have h9 := jparse_v (some ⟨w6.heap.size, 0, none⟩) 4 4 [91, 49, 44, 93] w7 (by rw [hw7, wkC2_eq]; exact lit_holds w6 [91, 49, 44, 93] _) rfl (Nat.le_refl _) (by decide) (HT.out _ (HB6.out.call b7)) (HU.out _ (HB6.out.call b7))
    rw [wk_valid2, wk_bad] at h9
    exact h9)
  have HB67 := Lib.hid b7
  unfold wkC2 at hw7
  clear hj3 h83 hb bv rv tv hw6 b7 HPT HRA4
  go_wp2_with (first
    | (refine wpList_store_mid ?_ 30 (.tmp 4) (.tmp 20) ?_ w5.heap.size 0 cs3 ?_ ?_ ?_ HIN3.out HON3.out ?_
       · with_reducible rfl
       · with_reducible rfl
       · rfl
       · rfl
       · exact HTV3.out
       show wpList _ _ _ _ _ (varW w5 cs3)
       rw [← HW6.out]))
  rw [← hw7]
  clear hw7
  refine HP2.out.mono ?_
  rintro e w8 ⟨cs4, rfl, hj4, hb⟩
  have h84 := size_of_jis hj4
  have HON4 := Lib.hid (one_of_jis hj4)
  have HIN4 := Lib.hid (info_of_size h84)
  obtain ⟨bv, _, tv⟩ := varW_ok w8 cs4 h84
  have HTV4 := Lib.hid tv
  obtain ⟨w9, hw9⟩ : ∃ w9, w9 = varW w8 cs4 := ⟨_, rfl⟩
  rw [← hw9] at bv
  have HW9 := Lib.hid hw9
  have HB69 := Lib.hid ((HB67.out.call hb).call bv)
  have HB49 := Lib.hid (HB46.out.call HB69.out)
  have HB29 := Lib.hid (HB24.out.call HB49.out)
  have HB9 := Lib.hid (HB2.out.call HB29.out)
  have HAL := Lib.hid (jall_ok _ cs wkV w9 (HJ.out.below HB29.out) H8.out small_wkV (fun _ => fine_wkV) deep_wkV (HT.out _ HB9.out) (HU.out _ HB9.out) wk_check)
  have hcs : (convert 22 9 (.slice AP wkO.length cP)).run Tryz.prog w9 = .ok (.string ⟨#[123, 34, 97, 34, 58, 34, 195, 169, 34, 44, 34, 98, 34, 58, 91, 49, 46, 53, 44, 110, 117, 108, 108, 93, 125]⟩) w9 := by
    obtain ⟨A9, c9, e9, _, _, h9⟩ := (HL4.out.below HB49.out).holds
    obtain ⟨rfl, _, rfl⟩ := Value.slice.inj e9
    exact run_text_bs h9 22 9 5 cP Tryz.underlying22 Tryz.underlying5 Tryz.underlying9
  have hr3 := HR3.out.call HB69.out
  obtain ⟨A1, c1, A2, c2, e3⟩ := HN3.out
  rw [e3] at hr3
  have z2 : w9.cell? ⟨w5.heap.size, 2, none⟩ = some (.bool false) := hr3.cell (i := 2) rfl
  have z3 : w9.cell? ⟨w5.heap.size, 3, none⟩ = some (.string ⟨#[49, 53]⟩) := hr3.cell (i := 3) rfl
  have z4 : w9.cell? ⟨w5.heap.size, 4, none⟩ = some (.int .i64 (-1)) := hr3.cell (i := 4) rfl
  have hfn : ∀ (q : Nat) (W : World), (binOp BinOp.neq 56 (.func (.func 68) #[] #[.pointer (some ⟨q, 0, none⟩)]) .nilFunc).run Tryz.prog W = .ok (.bool true) W := fun _ _ => rfl
  obtain ⟨A5, c5, A6, c6, ecs⟩ : ∃ A c A' c', cs = jvC 5 false Dec.zero [] (.slice A 2 c) (.slice A' 2 c') := by
    have h9 := HJ.out
    unfold wkV JIs at h9
    obtain ⟨A, c, A', c', e, _⟩ := h9
    exact ⟨A, c, A', c', Array.toList_inj.1 e⟩
  have hr1 := HR.out.call HB29.out
  rw [ecs] at hr1 HAL
  have y0 : w9.cell? ⟨w1.heap.size, 0, none⟩ = some (.int .i64 5) := hr1.cell (i := 0) rfl
  have y1 : w9.cell? ⟨w1.heap.size, 1, none⟩ = some (.bool false) := hr1.cell (i := 1) rfl
  have y2 : w9.cell? ⟨w1.heap.size, 2, none⟩ = some (.bool false) := hr1.cell (i := 2) rfl
  have y3 : w9.cell? ⟨w1.heap.size, 3, none⟩ = some (.string (bs [])) := hr1.cell (i := 3) rfl
  have y4 : w9.cell? ⟨w1.heap.size, 4, none⟩ = some (.int .i64 0) := hr1.cell (i := 4) rfl
  have y5 : w9.cell? ⟨w1.heap.size, 5, none⟩ = some (.string (bs [])) := hr1.cell (i := 5) rfl
  have y6 : w9.cell? ⟨w1.heap.size, 6, none⟩ = some (.slice A5 2 c5) := hr1.cell (i := 6) rfl
  have y7 : w9.cell? ⟨w1.heap.size, 7, none⟩ = some (.slice A6 2 c6) := hr1.cell (i := 7) rfl
  have HAL2 : Hid (Calls Tryz.prog 32 #[.agg #[.int .i64 5, .bool false, .bool false, .string (bs []), .int .i64 0, .string (bs []), .slice A5 2 c5, .slice A6 2 c6]] w9 (AllPost w9 wkV)) := HAL
  clear hr1 HAL
  clear hj4 hb h84 bv tv hw9 HP2 hr3 e3 HR3 HN3 HB46 HB69 HB67 HB6
  go_wp2_with (first
    | (refine wpList_store_mid ?_ 30 (.tmp 6) (.tmp 26) ?_ w8.heap.size 0 cs4 ?_ ?_ ?_ HIN4.out HON4.out ?_
       · with_reducible rfl
       · with_reducible rfl
       · rfl
       · rfl
       · exact HTV4.out
       show wpList _ _ _ _ _ (varW w8 cs4)
       rw [← HW9.out])
    | (go_at_call 14; go_in))
  (with_reducible refine HAL2.out.mono ?_)
  rintro e w10 ⟨gk, ck, rfl, _, _, _, hb⟩
  have HB10 := Lib.hid (HB9.out.call hb)
  clear hb
  go_wp2_with fail
  go_ret
  exact ⟨rfl, HB10.out⟩
end Go.Proofs.YtfdodndagakmmaaGreatDoor
