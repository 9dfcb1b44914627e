/- Layer 8: Parse. -/
import Derived.Test.YtfdodndagakmmaaGreatDoorPt29
namespace Go.Proofs.YtfdodndagakmmaaGreatDoor
open Go.RowKit

def parseJ (vb : Bool) (l : List UInt8) : JV × Int := if 1048576 < l.length then (JV.null, 3) else if vb = false then (JV.null, 181) else readR l
/-- A value, and an error's number. -/
def ParPost (w : World) (v : JV) (k : Int) (e : Ending) (w' : World) : Prop := ∃ cs : Array Value, e = .returned (.tuple #[.agg cs, .int .i64 k]) ∧ JIs w' (fun q => w.heap.size ≤ q) v cs.toList ∧ Below w.heap.size w w'
theorem null_jis (W : World) (F : Nat → Prop) : JIs W F JV.null zeroJ.toList := by
  unfold JV.null JIs
  exact ⟨none, 0, none, 0, rfl, by simp, by unfold maxLen; omega, by simp, by unfold maxLen; omega, fun i hi => by simp at hi, by unfold KidsAt; trivial⟩
set_option maxRecDepth 1000000 in
set_option maxHeartbeats 40000000 in
theorem jparse_ok (A : Option Addr) (n c : Nat) (l : List UInt8) (vb : Bool) (w : World) (hA : Holds w A n 1 (u8s l)) (hln : l.length = n) (hnc : n ≤ c) (hcm : c ≤ 9223372036854775807) (hT : PowTab w)
    (hV : n ≤ 1048576 → ∀ V, Below w.heap.size w V → Calls Tryz.prog 39 #[.slice A n c] V fun e w' => e = .returned (.bool vb) ∧ Below V.heap.size V w') :
    Calls Tryz.prog 11 #[.slice A n c] w (ParPost w (parseJ vb l).1 (parseJ vb l).2) := by
  obtain ⟨w1, hw1⟩ : ∃ w1, w1 = w.alloc (.cells zeroJ 30) := ⟨_, rfl⟩
  have hb1 : Below w.heap.size w w1 := by subst hw1; exact (Below.refl _ _).alloc (Nat.le_refl _) _
  have hrv : Row w1 w.heap.size 30 zeroJ := by subst hw1; exact Row.new _ _ _
  have HZ : Hid (∀ (V : World), Row V w.heap.size 30 zeroJ → V.there w.heap.size 0 zeroJ.size) := Lib.hid fun V h => row_there h (Nat.le_refl _)
  have HZ8 : Hid ((Tryz.prog.info? 30).map (·.size) = some zeroJ.size) := Lib.hid infoJ
  have HZ1 : Hid (zeroJ.all (·.oneCell') = true) := Lib.hid (by kernel_rfl)
  have HB1 := Lib.hid hb1
  have HRV := Lib.hid hrv
  have HA := Lib.hid hA
  have HLN := Lib.hid hln
  have HT := Lib.hid hT
  have HNC := Lib.hid hnc
  have HVV := Lib.hid hV
  have HCM := Lib.hid hcm
  clear hb1 hrv hA hln hT hV
  obtain ⟨RR, hRR⟩ : ∃ RR, RR = parseJ vb l := ⟨_, rfl⟩
  rw [← hRR]
  have HR : Hid (RR = if 1048576 < l.length then (JV.null, 3) else if vb = false then (JV.null, 181) else readR l) := Lib.hid hRR
  clear hRR
  -- what is laid where nothing is told
  have FZ : Hid (∀ (k : Int) (V : World) (old : Array Value), Row V w.heap.size 30 old → old.size = 8 → Below w.heap.size w V → RR = (JV.null, k) → (loadVar 30 ⟨w.heap.size, 0, none⟩).run Tryz.prog (V.setCells w.heap.size 0 zeroJ.toList) = .ok (.agg zeroJ) (V.setCells w.heap.size 0 zeroJ.toList) ∧ ParPost w RR.1 RR.2 (.returned (.tuple #[.agg zeroJ, .int .i64 k])) (V.setCells w.heap.size 0 zeroJ.toList)) := Lib.hid (by
    intro k V old ho h8 hb hr
    have hrow : Row (V.setCells w.heap.size 0 zeroJ.toList) w.heap.size 30 zeroJ := by
      have h9 := row_laid zeroJ.toList [] old.toList V (by simpa using ho) (by rw [Array.length_toList, Array.length_toList, h8]; rfl)
      simpa using h9
    refine ⟨load_jv hrow rfl, zeroJ, by rw [hr], by rw [hr]; exact null_jis _ _, hb.trans ?_⟩
    exact (kept_setCells V w.heap.size zeroJ.toList 0 V (Kept.refl _ _)).below hb.size (fun q e => by rw [e]; exact Nat.le_refl _))
  unfold zeroJ at hw1
  go_enter Tryz.func11, Tryz.ntmps11
  go_upto_region 1 with fail
  rw [← hw1]
  clear hw1
  by_cases hlong : 1048576 < n
  · have HRN : Hid (RR = (JV.null, 3)) := Lib.hid (by rw [HR.out, HLN.out, if_pos hlong])
    have HTH := Lib.hid (HZ.out _ HRV.out)
    go_wp2_with (
      refine wpList_store_mid ?_ 30 (.tmp 2) (.tmp 9) ?_ w.heap.size 0 zeroJ ?_ ?_ HTH.out HZ8.out HZ1.out ?_
      · with_reducible rfl
      · with_reducible rfl
      · rfl
      · rfl)
    obtain ⟨e1, e2⟩ := FZ.out 3 w1 _ HRV.out rfl HB1.out HRN.out
    refine bodyPost_ret_by (results_row_tmp rfl _ _ w.heap.size zeroJ rfl e1) rfl ?_
    exact e2
  · have hn : n ≤ 1048576 := by omega
    have HVC := Lib.hid (HVV.out hn w1 HB1.out)
    have HR1 : Hid (RR = if vb = false then (JV.null, 181) else readR l) := Lib.hid (by rw [HR.out, HLN.out, if_neg hlong])
    clear HR HVV
    cases vb with
    | false =>
      have HRN : Hid (RR = (JV.null, 181)) := Lib.hid (by rw [HR1.out, if_pos rfl])
      clear HR1
      go_wp2_with fail
      refine HVC.out.mono ?_
      rintro e w2 ⟨rfl, hb2⟩
      have HRV2 := Lib.hid (HRV.out.call hb2)
      have HB2 := Lib.hid (HB1.out.call hb2)
      have HTH := Lib.hid (HZ.out _ HRV2.out)
      clear hb2 HVC
      go_wp2_with (
        refine wpList_store_mid ?_ 30 (.tmp 2) (.tmp 14) ?_ w.heap.size 0 zeroJ ?_ ?_ HTH.out HZ8.out HZ1.out ?_
        · with_reducible rfl
        · with_reducible rfl
        · rfl
        · rfl)
      obtain ⟨e1, e2⟩ := FZ.out 181 w2 _ HRV2.out rfl HB2.out HRN.out
      refine bodyPost_ret_by (results_row_tmp rfl _ _ w.heap.size zeroJ rfl e1) rfl ?_
      exact e2
    | true =>
      have HR2 : Hid (RR = readR l) := Lib.hid (by rw [HR1.out, if_neg (by simp)])
      clear HR1
      go_wp2_with fail
      refine HVC.out.mono ?_
      rintro e w2 ⟨rfl, hb2⟩
      have hrv2 := HRV.out.call hb2
      have hbw2 := HB1.out.call hb2
      -- the reader, its variable, the error's cell
      obtain ⟨p, hp⟩ : ∃ p, p = w2.heap.size := ⟨_, rfl⟩
      obtain ⟨w3, hw3⟩ : ∃ w3, w3 = w2.alloc (.cells #[.slice A n c, .int .i64 0, .slice none 0 0, .slice none 0 0, .bool false, .bool false, .bool false, .bool false] 66) := ⟨_, rfl⟩
      obtain ⟨w4, hw4⟩ : ∃ w4, w4 = w3.alloc (.cells #[.pointer (some ⟨p, 0, none⟩)] 63) := ⟨_, rfl⟩
      obtain ⟨w5, hw5⟩ : ∃ w5, w5 = w4.alloc (.cells #[.int .i64 0] 31) := ⟨_, rfl⟩
      have s3 : w3.heap.size = p + 1 := by rw [hw3, hp]; simp
      have s4 : w4.heap.size = p + 2 := by rw [hw4]; simp [s3]
      have b3 : Below w2.heap.size w2 w3 := by rw [hw3]; exact (Below.refl _ _).alloc (Nat.le_refl _) _
      have b4 : Below w3.heap.size w3 w4 := by rw [hw4]; exact (Below.refl _ _).alloc (Nat.le_refl _) _
      have b5 : Below w4.heap.size w4 w5 := by rw [hw5]; exact (Below.refl _ _).alloc (Nat.le_refl _) _
      have r3 : Row w3 p 66 (rdCells ⟨A, c, l⟩ 0 (.slice none 0 0) (.slice none 0 0) fl0) := by
        rw [hw3, hp]
        unfold rdCells fl0
        rw [HLN.out]
        exact Row.new _ _ _
      have r4 : Row w4 (p + 1) 63 #[.pointer (some ⟨p, 0, none⟩)] := by rw [← s3, hw4]; exact Row.new _ _ _
      have r5 : Row w5 w4.heap.size 31 #[.int .i64 0] := by rw [hw5]; exact Row.new _ _ _
      have hbw5 : Below w.heap.size w w5 := ((hbw2.call b3).call b4).call b5
      have hrv5 := ((hrv2.call b3).call b4).call b5
      have hwp : w.heap.size < p := by rw [hp]; exact hrv2.lt
      have hj5 : JAt w5 p ⟨A, c, l⟩ l (.slice none 0 0) (.slice none 0 0) fl0 := by
        refine ⟨⟨by show l.length ≤ _; have := HLN.out; omega, by show l.length ≤ c; have := HLN.out; omega⟩, 0, ⟨(r3.call b4).call b5, fun i hi => ?_⟩, rfl, Nat.zero_le _⟩
        have hi : i < l.length := hi
        obtain ⟨b, off, e, hlt, hr⟩ := HA.out.2 (by have := HLN.out; omega)
        refine ⟨b, off, e, by omega, Nat.lt_of_lt_of_le hlt hbw5.size, (hbw5.cell (p := ⟨b, off + i, none⟩) hlt).trans ?_⟩
        refine hr i (.int .u8 (byteAt l i : Int)) ?_
        rw [u8s_get, List.getElem?_eq_getElem hi]
        unfold byteAt
        simp [List.getD, List.getElem?_eq_getElem hi]
      have hdoes : Does 41 #[.pointer (some ⟨p + 1, 0, none⟩), .pointer (some ⟨w.heap.size, 0, none⟩)] w5 (fun w' => Pa1Post w5 p w.heap.size l (.returned (.tuple #[])) w') (fun k w' => k = (readR l).2 ∧ Pa1Post w5 p w.heap.size l (.panicked (panicOf k)) w') := by
        unfold Does
        refine (jparse1_ok w5 p (p + 1) w.heap.size w.heap.size ⟨A, c, l⟩ l ((r4.call b5)) hrv5 hj5 (by show l.length ≤ _; have := HLN.out; omega) (by omega) (by omega) (by omega) (by omega) (Nat.le_refl _) (fun g off n9 e h9 => ?_) (fun V hV => HT.out.below (hbw5.trans (hV.below hbw5.size (fun q h => h))))).mono ?_
        · have h9 : 0 < l.length := h9
          obtain ⟨b, off2, e2, hlt, _⟩ := HA.out.2 (by have := HLN.out; omega)
          have e : A = some ⟨g, off, n9⟩ := e
          rw [e] at e2
          injection e2 with e2
          injection e2 with e2 _ _
          omega
        · intro e w' hpo
          rcases hpo.1 with ⟨h1, rfl, _⟩ | ⟨h1, rfl, _⟩
          · exact .inl ⟨rfl, hpo⟩
          · exact .inr ⟨_, rfl, rfl, hpo⟩
      have hkeep : ∀ w', Kept (fun q => q = p ∨ q = w.heap.size) w5 w' → w'.cell? ⟨w4.heap.size, 0, none⟩ = some (.int .i64 0) ∧ w'.frozen? ⟨w4.heap.size, 0, none⟩ = false := fun w' hk => by
        have h9 := r5.kept hk (by rintro (e | e) <;> omega)
        exact ⟨h9.cell rfl, h9.free 0⟩
      have HCA := Lib.hid (caught_ok 41 #[.pointer (some ⟨p + 1, 0, none⟩), .pointer (some ⟨w.heap.size, 0, none⟩)] w4 w5 hw5 _ _ hdoes (fun _ => rfl) (fun w' h => hkeep w' h.2) (fun k w' h => hkeep w' h.2.2))
      have HB5 := Lib.hid hbw5
      have HWP := Lib.hid hwp
      have HS4 := Lib.hid s4
      have HS5 : Hid (w4.heap.size + 1 = w5.heap.size) := Lib.hid (by rw [hw5]; simp)
      have hmf : ∀ (fn : Fn) (first cap : Array Value) (W : World), (Instr.makeFunc fn first cap).run Tryz.prog W = .ok (.func fn first cap) W := fun _ _ _ _ => rfl
      have HHP := Lib.hid hp
      have HW3 := Lib.hid hw3
      have HW4 := Lib.hid hw4
      clear hb2 hrv2 hbw2 hp hw3 hw4 hw5 s3 s4 b3 b4 b5 r3 r4 r5 hbw5 hrv5 hwp hj5 hdoes hkeep HVC
      go_upto_region 6 with fail
      have h4 := HW4.out
      rw [HW3.out, HHP.out] at h4
      rw [← h4, ← HHP.out]
      clear h4 HW3 HW4
      have HK6 : Hid (∀ v6 k6, Kept (fun q => q = p ∨ q = w.heap.size) w5 v6 → Below w.heap.size w (v6.setCell ⟨w4.heap.size, 0, none⟩ k6)) := Lib.hid fun v6 k6 hk => by
        have h1 := hk.below (B := w.heap.size) HB5.out.size (fun q e => by rcases e with e | e <;> (have := HWP.out; omega))
        exact (HB5.out.trans h1).setCell (p := ⟨w4.heap.size, 0, none⟩) (by show w.heap.size ≤ w4.heap.size; have := HS4.out; have := HWP.out; omega) _
      have HNE : Hid (w.heap.size ≠ w4.heap.size) := Lib.hid (by have := HS4.out; have := HWP.out; omega)
      go_wp2_with fail
      refine HCA.out.mono ?_
      rintro e w6 (⟨v6, rfl, hR, rfl⟩ | ⟨k, v6, rfl, ⟨hk0, hS⟩, rfl⟩)
      · obtain ⟨hk, cs, hrow, h8, hv⟩ : (readR l).2 = 0 ∧ ∃ cs : Array Value, Row v6 w.heap.size 30 cs ∧ cs.size = 8 ∧ JIs v6 (fun q => w5.heap.size ≤ q) (readR l).1 cs.toList := by
          rcases hR.1 with ⟨h1, _, cs, h2, h3, h4⟩ | ⟨_, h2, _⟩
          · exact ⟨h1, cs, h2, h3, h4⟩
          · cases h2
        have HB6 := Lib.hid (HK6.out v6 (.int .i64 0) hR.2)
        have hrow6 : Row (v6.setCell ⟨w4.heap.size, 0, none⟩ (.int .i64 0)) w.heap.size 30 cs := hrow.far HNE.out _
        have hv6 : JIs (v6.setCell ⟨w4.heap.size, 0, none⟩ (.int .i64 0)) (fun q => w.heap.size < q ∧ q ≠ w4.heap.size) (readR l).1 cs.toList :=
          JIs.kept (Kept.cell _ _ _ _) (fun q h => h.2) _ _ (JIs.mono (fun q h _ => by have := HS4.out; have := HS5.out; have := HWP.out; omega) _ _ hv)
        have HROW6 := Lib.hid hrow6
        have HV6 := Lib.hid hv6
        have HRA : Hid ((v6.setCell ⟨w4.heap.size, 0, none⟩ (.int .i64 0)).rangeAt w.heap.size 0 cs.toList) := Lib.hid (fun j u hu => by rw [Nat.zero_add]; exact hrow6.cell (by simpa using hu))
        have HIN : Hid ((Tryz.prog.info? 30).map (·.size) = some cs.size) := Lib.hid (by rw [h8]; exact infoJ)
        have HONE : Hid (cs.all (·.oneCell') = true) := Lib.hid (by have := all_oneCell_toArray (jv_one hv); simpa using this)
        have HTH := Lib.hid (row_there hrow6 (Nat.le_refl _))
        have H8 := Lib.hid h8
        have HRD : Hid (RR = ((readR l).1, 0)) := Lib.hid (by rw [HR2.out, ← hk])
        clear hk hrow hrow6 hv hv6 hR h8 HCA
        generalize v6.setCell ⟨w4.heap.size, 0, none⟩ (.int .i64 0) = w7 at *
        go_wp2_with (first
          | (refine wpList_load_mid ?_ 30 (.tmp 2) ?_ w.heap.size 0 ?_ cs.toList _ HRA.out Tryz.underlying30 rfl (by rw [Array.length_toList]; exact HIN.out) ?_
             · with_reducible rfl
             · with_reducible rfl
             · rfl)
          | (refine wpList_store_mid ?_ 30 (.tmp 2) (.tmp 24) ?_ w.heap.size 0 cs ?_ ?_ HTH.out HIN.out HONE.out ?_
             · with_reducible rfl
             · with_reducible rfl
             · rfl
             · rfl))
        have HWF := row_setCells cs.toList 0 w7 HROW6.out (fun j u hu => by rw [Nat.zero_add]; simpa using hu)
        have hkf : Kept (· = w.heap.size) w7 (w7.setCells w.heap.size 0 cs.toList) := kept_setCells _ _ _ _ _ (Kept.refl _ _)
        refine bodyPost_ret_by (results_row_tmp rfl _ _ w.heap.size cs rfl (load_jv HWF H8.out)) rfl ?_
        rw [HRD.out]
        exact ⟨cs, rfl, JIs.mono (fun q h _ => Nat.le_of_lt h.1) _ _ (JIs.kept hkf (fun q h e => by have := h.1; omega) _ _ HV6.out), HB6.out.trans (hkf.below HB6.out.size (fun q e => by rw [e]; exact Nat.le_refl _))⟩
      · obtain ⟨hkn, hnl, cs, hrow, h8⟩ : (readR l).2 ≠ 0 ∧ (readR l).1 = JV.null ∧ ∃ cs : Array Value, Row v6 w.heap.size 30 cs ∧ cs.size = 8 := by
          rcases hS.1 with ⟨_, h2, _⟩ | ⟨h1, _, h3, cs, h4, h5⟩
          · cases h2
          · exact ⟨h1, h3, cs, h4, h5⟩
        have HB6 := Lib.hid (HK6.out v6 (.int .i64 k) hS.2)
        have hrow6 : Row (v6.setCell ⟨w4.heap.size, 0, none⟩ (.int .i64 k)) w.heap.size 30 cs := hrow.far HNE.out _
        have HROW6 := Lib.hid hrow6
        have HRN : Hid (RR = (JV.null, k)) := Lib.hid (by rw [HR2.out, hk0, ← hnl])
        have hkb : (k != 0) = true := by rw [bne_iff_ne, hk0]; exact hkn
        have HTH := Lib.hid (row_there hrow6 (n := zeroJ.size) (by rw [h8]; exact Nat.le_refl _))
        have H8 := Lib.hid h8
        clear hkn hnl hrow hrow6 hS h8 hk0 HCA
        generalize v6.setCell ⟨w4.heap.size, 0, none⟩ (.int .i64 k) = w7 at *
        go_wp2_with (
          refine wpList_store_mid ?_ 30 (.tmp 2) (.tmp 22) ?_ w.heap.size 0 zeroJ ?_ ?_ HTH.out HZ8.out HZ1.out ?_
          · with_reducible rfl
          · with_reducible rfl
          · rfl
          · rfl)
        obtain ⟨e1, e2⟩ := FZ.out k w7 _ HROW6.out H8.out HB6.out HRN.out
        refine bodyPost_ret_by (results_row_tmp rfl _ _ w.heap.size zeroJ rfl e1) rfl ?_
        exact e2
end Go.Proofs.YtfdodndagakmmaaGreatDoor
