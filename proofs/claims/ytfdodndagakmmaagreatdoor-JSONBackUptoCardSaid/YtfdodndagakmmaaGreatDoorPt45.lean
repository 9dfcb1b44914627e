/- Layer 8: what the path /b/0 leads to. -/
import Derived.Test.YtfdodndagakmmaaGreatDoorPt44
namespace Go.Proofs.YtfdodndagakmmaaGreatDoor
open Go.RowKit
set_option maxRecDepth 100000 in
set_option maxHeartbeats 4000000 in
theorem index_b (nb no n c : Nat) (w : World) (hn : 0 < n) (hn2 : n ≤ 1000000000000) (h : w.cell? ⟨nb, no, none⟩ = some (.string ⟨#[98]⟩)) :
    Calls Tryz.prog 111 #[.slice (some ⟨nb, no, none⟩) n c, .string ⟨#[98]⟩] w fun e w' => e = .returned (.int .i64 0) ∧ w = w' := by
  have hz : (0 : Int) < (n : Int) := by omega
  go_enter Tryz.func111, Tryz.ntmps111
  go_wp2
  go_loop [8] (fun v8 => v8 = .int .i64 0) (fun _ => 0)
  case atStart => rfl
  case round =>
    obtain rfl := hrel
    go_wp2
    go_ret
    exact ⟨rfl, rfl⟩
set_option maxRecDepth 100000 in
set_option maxHeartbeats 4000000 in
theorem member_b (g off nb no n cn lb lo m cl : Nat) (w : World) (hn : 0 < n) (hn2 : n ≤ 1000000000000) (hm : 0 < m) (h7 : w.cell? ⟨g, off + 7, none⟩ = some (.slice (some ⟨nb, no, none⟩) n cn)) (h6 : w.cell? ⟨g, off + 6, none⟩ = some (.slice (some ⟨lb, lo, none⟩) m cl)) (h : w.cell? ⟨nb, no, none⟩ = some (.string ⟨#[98]⟩)) :
    Calls Tryz.prog 66 #[.pointer (some ⟨g, off, none⟩), .string ⟨#[98]⟩] w fun e w' => e = .returned (.pointer (some ⟨lb, lo, none⟩)) ∧ w = w' := by
  have HX := Lib.hid (index_b nb no n cn w hn hn2 h)
  have hz : (0 : Int) < (m : Int) := by omega
  clear h
  go_enter Tryz.func66, Tryz.ntmps66
  go_wp2_with fail
  refine HX.out.mono ?_
  rintro e w1 ⟨rfl, rfl⟩
  go_wp2_with fail
  go_ret
  exact ⟨rfl, rfl⟩
set_option maxRecDepth 100000 in
set_option maxHeartbeats 4000000 in
theorem within_b (g off nb no n cn lb lo m cl : Nat) (w : World) (hn : 0 < n) (hn2 : n ≤ 1000000000000) (hm : 0 < m) (h0 : w.cell? ⟨g, off, none⟩ = some (.int .i64 5)) (h7 : w.cell? ⟨g, off + 7, none⟩ = some (.slice (some ⟨nb, no, none⟩) n cn)) (h6 : w.cell? ⟨g, off + 6, none⟩ = some (.slice (some ⟨lb, lo, none⟩) m cl)) (h : w.cell? ⟨nb, no, none⟩ = some (.string ⟨#[98]⟩)) :
    Calls Tryz.prog 65 #[.pointer (some ⟨g, off, none⟩), .string ⟨#[98]⟩] w fun e w' => e = .returned (.pointer (some ⟨lb, lo, none⟩)) ∧ w = w' := by
  have HX := Lib.hid (member_b g off nb no n cn lb lo m cl w hn hn2 hm h7 h6 h)
  clear h h7 h6
  go_enter Tryz.func65, Tryz.ntmps65
  go_wp2_with fail
  refine HX.out.mono ?_
  rintro e w1 ⟨rfl, rfl⟩
  go_wp2_with fail
  go_ret
  exact ⟨rfl, rfl⟩
theorem atoi_0 (w : World) : Calls Tryz.prog 110 #[.string ⟨#[48]⟩] w fun e w' => e = .returned (.tuple #[.int .i64 0, .nilIface]) ∧ Below w.heap.size w w' := by
  refine (Tryz.strconv_Atoi ⟨#[48]⟩ 0 (by decide) (by decide) w).mono ?_
  rintro e w' ⟨rfl, t, rfl⟩
  exact ⟨rfl, Lib.bytesWorld_below _ _ _⟩
theorem itoa_0 (w : World) (hT : PowTab w) : Calls Tryz.prog 69 #[.int .i64 0] w fun e w' => e = .returned (.string ⟨#[48]⟩) ∧ Below w.heap.size w w' := by
  refine (Tryz.strconv_Itoa 0 (by decide) (by decide) w hT).mono ?_
  rintro e w' ⟨rfl, k, os, rfl⟩
  exact ⟨by rw [show Lib.itoa 0 = [48] by decide +kernel], Lib.below_grow _ _ (Nat.le_refl _) _ _⟩
set_option maxRecDepth 100000 in
set_option maxHeartbeats 4000000 in
theorem within_0 (g off lb lo m cl : Nat) (w : World) (hT : PowTab w) (hg : g < w.heap.size) (hm : 0 < m) (hm2 : m ≤ 9223372036854775807) (h0 : w.cell? ⟨g, off, none⟩ = some (.int .i64 4)) (h6 : w.cell? ⟨g, off + 6, none⟩ = some (.slice (some ⟨lb, lo, none⟩) m cl)) :
    Calls Tryz.prog 65 #[.pointer (some ⟨g, off, none⟩), .string ⟨#[48]⟩] w fun e w' => e = .returned (.pointer (some ⟨lb, lo, none⟩)) ∧ Below w.heap.size w w' := by
  have HA := Lib.hid (atoi_0 w)
  have HI := Lib.hid (fun V (hb : Below w.heap.size w V) => itoa_0 V (hT.below hb))
  have H6 := Lib.hid (fun V (hb : Below w.heap.size w V) => (hb.cell (p := ⟨g, off + 6, none⟩) hg).trans h6)
  have hz : (0 : Int) < (m : Int) := by omega
  have hge : decide ((m : Int) ≤ 0) = false := by simp; omega
  clear h6 hT
  go_enter Tryz.func65, Tryz.ntmps65
  go_wp2_with fail
  refine HA.out.mono ?_
  rintro e w1 ⟨rfl, hb⟩
  have x6 := H6.out w1 hb
  have HI1 := Lib.hid (HI.out w1 hb)
  have HB := Lib.hid hb
  clear hb
  go_wp2_with fail
  refine HI1.out.mono ?_
  rintro e w2 ⟨rfl, hb⟩
  have HB2 := Lib.hid (HB.out.call hb)
  have x7 := H6.out w2 HB2.out
  clear hb x6
  go_wp2_with fail
  go_ret
  exact ⟨rfl, HB2.out⟩
set_option maxRecDepth 100000 in
set_option maxHeartbeats 4000000 in
theorem cut_0 (w : World) : Calls Tryz.prog 64 #[.string ⟨#[47, 48]⟩] w (CutPost w [48] []) := by
  have HR := Lib.hid (repl_48_49 w)
  have hx : (⟨#[47, 48]⟩ : ByteArray).extract 1 2 = ⟨#[48]⟩ := by decide
  have hy : (⟨#[47, 48]⟩ : ByteArray).extract 2 2 = ⟨#[]⟩ := by decide
  go_enter Tryz.func64, Tryz.ntmps64
  go_wp2
  go_loop [4] (fun v4 => v4 = .int .i64 1 ∨ v4 = .int .i64 2) (fun v4 => 2 - (intOf v4).toNat)
  case atStart => exact .inl rfl
  case round =>
    rcases hrel with rfl | rfl
    · go_wp2
      go_round
      case rel => exact .inr rfl
      case measure => simp [intOf]
    · go_wp2_with fail
      refine HR.out.mono ?_
      rintro e w1 ⟨rfl, rfl⟩
      go_wp2_with fail
      go_quiet ((go_at_call 109; with_reducible exact Calls.quiet_of_same (same_q (repl_48_48 _))))
      go_wp2_with fail
      go_ret2
      exact ⟨rfl, below_drewN (Below.refl _ _) _⟩
/-- The value and an error's number. -/
def PtrPost (w : World) (v : JV) (k : Int) (e : Ending) (w' : World) : Prop := ∃ cs : Array Value, e = .returned (.tuple #[.agg cs, .int .i64 k]) ∧ JIs w' (fun q => w.heap.size ≤ q) v cs.toList ∧ cs.size = 8 ∧ Below w.heap.size w w'
def sizeV : Value → Nat
  | .string s => s.size
  | _ => 0
set_option maxRecDepth 1000000 in
set_option maxHeartbeats 8000000 in
theorem jpointer_b0 (F : Nat → Prop) (cs : Array Value) (v : JV) (b : Bool) (d : Dec) (t : List UInt8) (x : JV) (l : List JV) (ns : List (List UInt8)) (b2 : Bool) (d2 : Dec) (t2 : List UInt8) (z : JV) (l2 : List JV) (ns2 : List (List UInt8)) (w : World) (hv : v = .mk 5 b d t (x :: l) ([98] :: ns)) (hx : x = .mk 4 b2 d2 t2 (z :: l2) ns2)
    (h : JIs w F v cs.toList) (h8 : cs.size = 8) (hs : SmallJ v) (hf : askJ v = true → FineJ v) (hd : depthJ v ≤ 1000000) (hT : PowTab w) (hU : Lib.Utf8Tabs 0 1 w) (h0 : checkJ v = 0) :
    Calls Tryz.prog 30 #[.agg cs, .string ⟨#[47, 98, 47, 48]⟩] w (PtrPost w z 0) := by
  have hcv := cop_of_check h0 hf
  have hcz : CopJ z ∧ ns.length + 1 ≤ 1000000000000 := by
    rw [hv] at hcv
    unfold CopJ at hcv
    have hcx := hcv.2.2.2.2.2.get x (by simp)
    rw [hx] at hcx
    unfold CopJ at hcx
    exact ⟨hcx.2.2.2.2.2.get z (by simp), by simpa using hcv.2.2.1⟩
  obtain ⟨w0, hw0⟩ : ∃ w0, w0 = w.alloc (.cells cs 30) := ⟨_, rfl⟩
  obtain ⟨w1, hw1⟩ : ∃ w1, w1 = w0.alloc (.cells zeroJ 30) := ⟨_, rfl⟩
  have b0 : Below w.heap.size w w0 := by rw [hw0]; exact (Below.refl _ _).alloc (Nat.le_refl _) _
  have b01 : Below w0.heap.size w0 w1 := by rw [hw1]; exact (Below.refl _ _).alloc (Nat.le_refl _) _
  have s0 : w0.heap.size = w.heap.size + 1 := by rw [hw0]; simp
  have b1 := b0.call b01
  have r0 : Row w0 w.heap.size 30 cs := by rw [hw0]; exact Row.new _ _ _
  have r1 := r0.call b01
  have rr : Row w1 (w.heap.size + 1) 30 zeroJ := by rw [← s0, hw1]; exact Row.new _ _ _
  have HRA : Hid (w1.rangeAt w.heap.size 0 cs.toList) := Lib.hid (fun j u hu => by rw [Nat.zero_add]; exact r1.cell (by simpa using hu))
  have HIN : Hid ((Tryz.prog.info? 30).map (·.size) = some cs.size) := Lib.hid (by rw [h8]; exact infoJ)
  have HC := Lib.hid (jmayBe_ok F cs v w1 (h.below b1) h8 hs hf hd (hT.below b1) (Utf8Tabs_below hU b1))
  have h1 : (checkJ v == 0) = true := by rw [h0]; rfl
  rw [h1] at HC
  have HB := Lib.hid b1
  have hj : JAtP w1 F w.heap.size 0 v := by have := boxed h; rw [← hw0] at this; exact this.below b01
  rw [hv] at hj
  -- what is where
  obtain ⟨A, c, A', c', p0, _, _, _, _, _, p6, p7, a1, a2, a3, a4, hnm, hkd⟩ := hj.open_
  obtain ⟨nb, no, rfl, _, hnlt, hn0⟩ := hnm 0 (by simp)
  obtain ⟨lb, lo, rfl, hjx⟩ := hkd 0 (by simp)
  have e0 : (x :: l).getD 0 JV.null = x := rfl
  rw [e0, Nat.zero_mul, Nat.add_zero, hx] at hjx
  obtain ⟨B, c2, B', c3, y0, _, _, _, _, _, y6, y7, a5, a6, a7, a8, _, hkd2⟩ := hjx.open_
  obtain ⟨mb, mo, rfl, hjz⟩ := hkd2 0 (by simp)
  have e1 : (z :: l2).getD 0 JV.null = z := rfl
  rw [e1, Nat.zero_mul, Nat.add_zero] at hjz
  rw [Nat.add_zero] at hn0
  have hlx := hjx.1
  have hlv := hj.1
  have hns : ([98] :: ns).length ≤ 1000000000000 := by simpa using hcz.2
  have W1 := Lib.hid (fun V (hb : Below w1.heap.size w1 V) => within_b w.heap.size 0 nb no ([98] :: ns).length c' lb lo (x :: l).length c V (by simp) hns (by simp) ((hb.cell (p := ⟨w.heap.size, 0, none⟩) hlv).trans p0) ((hb.cell (p := ⟨w.heap.size, 0 + 7, none⟩) hlv).trans p7) ((hb.cell (p := ⟨w.heap.size, 0 + 6, none⟩) hlv).trans p6) ((hb.cell (p := ⟨nb, no, none⟩) hnlt).trans hn0))
  have W2 := Lib.hid (fun V (hb : Below w1.heap.size w1 V) => within_0 lb lo mb mo (z :: l2).length c2 V (hT.below (b1.call hb)) (Nat.lt_of_lt_of_le hlx hb.size) (by simp) (by unfold maxLen at a6; omega) ((hb.cell (p := ⟨lb, lo, none⟩) hlx).trans y0) ((hb.cell (p := ⟨lb, lo + 6, none⟩) hlx).trans y6))
  have HCP := Lib.hid (fun V (hb : Below w1.heap.size w1 V) => jcopied_ok _ z (Nat.le_refl _) hcz.1 F mb mo V (hjz.below hb))
  have HRR := Lib.hid rr
  have HT := Lib.hid hT
  clear hv hx h hs hf hd hU hT h0 h1 hcv hcz b1 r1 r0 b0 b01 rr h8 hj p0 p6 p7 a1 a2 a3 a4 a5 a6 a7 a8 hnm hkd hnlt hn0 hjx y0 y6 y7 hkd2 hjz e0 e1 hlx hlv hns
  generalize (x :: l).length = nl at *
  generalize ([98] :: ns).length = nn at *
  generalize (z :: l2).length = nz at *
  generalize hck : checkJ v = ck at *
  clear hck
  have HW1 := hw1
  unfold zeroJ at HW1
  clear hw1
  go_enter Tryz.func30, Tryz.ntmps30
  go_upto_region 1 with fail
  rw [← hw0, ← HW1]
  clear hw0 HW1 s0
  go_wp2_with (first
    | (refine wpList_load_mid ?_ 30 (.tmp 2) ?_ w.heap.size 0 ?_ cs.toList _ HRA.out Tryz.underlying30 rfl (by rw [Array.length_toList]; exact HIN.out) ?_
       · with_reducible rfl
       · with_reducible rfl
       · rfl))
  refine HC.out.mono ?_
  rintro e w2 ⟨rfl, hb⟩
  have HB2 := Lib.hid hb
  clear hb
  go_wp2_with fail
  refine (isPath_b0 w2).mono ?_
  rintro e w3 ⟨rfl, rfl⟩
  go_wp2_with fail
  go_loopw [1, 6] (fun v1 v6 wr => Hid (Below w1.heap.size w1 wr) ∧ ((v1 = .string ⟨#[47, 98, 47, 48]⟩ ∧ v6 = .pointer (some ⟨w.heap.size, 0, none⟩)) ∨ (v1 = .string ⟨#[47, 48]⟩ ∧ v6 = .pointer (some ⟨lb, lo, none⟩)) ∨ (v1 = .string ⟨#[]⟩ ∧ v6 = .pointer (some ⟨mb, mo, none⟩)))) (fun v1 _ _ => sizeV v1)
  case atStart => exact ⟨HB2, .inl ⟨rfl, rfl⟩⟩
  case round =>
    obtain ⟨HBR, hrel⟩ := hrel
    rcases hrel with ⟨rfl, rfl⟩ | ⟨rfl, rfl⟩ | ⟨rfl, rfl⟩
    · have HCT := Lib.hid (cut_b wr)
      go_wp2_with fail
      refine HCT.out.mono ?_
      rintro e u1 ⟨rfl, hb⟩
      have HB3 := Lib.hid (HBR.out.call hb)
      have HX := Lib.hid (W1.out u1 HB3.out)
      clear hb
      go_wp2_with fail
      refine HX.out.mono ?_
      rintro e u2 ⟨rfl, rfl⟩
      go_wp2_with fail
      exact ⟨⟨HB3, .inr (.inl ⟨rfl, rfl⟩)⟩, by decide⟩
    · have HCT := Lib.hid (cut_0 wr)
      go_wp2_with fail
      refine HCT.out.mono ?_
      rintro e u1 ⟨rfl, hb⟩
      have HB3 := Lib.hid (HBR.out.call hb)
      have HX := Lib.hid (W2.out u1 HB3.out)
      clear hb
      go_wp2_with fail
      refine HX.out.mono ?_
      rintro e u2 ⟨rfl, hb⟩
      have HB4 := Lib.hid (HB3.out.call hb)
      clear hb
      go_wp2_with fail
      exact ⟨⟨HB4, .inr (.inr ⟨rfl, rfl⟩)⟩, by decide⟩
    · have HCC := Lib.hid (HCP.out wr HBR.out)
      have HRR2 := Lib.hid (HRR.out.call HBR.out)
      go_wp2_with fail
      refine HCC.out.mono ?_
      rintro e u1 ⟨c2z, rfl, hcop, hb⟩
      obtain ⟨_, _, _, _, _, _, hcf⟩ := hcop.form
      have hs2 : c2z.size = 8 := by rw [hcf]; rfl
      have hone : c2z.all (·.oneCell') = true := by
        rw [Array.all_eq_true_iff_forall_mem]
        intro u hu
        exact jv_one hcop.jis u (Array.mem_toList_iff.2 hu)
      have hr3 := HRR2.out.call hb
      have kk := kept_setCells u1 (w.heap.size + 1) c2z.toList 0 u1 (Kept.refl _ _)
      have HT5 : Hid (u1.there (w.heap.size + 1) 0 c2z.size) := Lib.hid (row_there hr3 (by rw [hs2]; exact Nat.le_refl _))
      have HI2 : Hid ((Tryz.prog.info? 30).map (·.size) = some c2z.size) := Lib.hid (by rw [hs2]; exact infoJ)
      have HON := Lib.hid hone
      have HS2 := Lib.hid hs2
      have HRF : Hid (Row (u1.setCells (w.heap.size + 1) 0 c2z.toList) (w.heap.size + 1) 30 c2z) := Lib.hid (by
        have h9 := row_laid c2z.toList [] zeroJ.toList u1 (g := w.heap.size + 1) (by simpa using hr3) (by rw [Array.length_toList, Array.length_toList, hs2]; rfl)
        simpa using h9)
      have hlt := HRR2.out.lt
      have hbw := HB.out.call HBR.out
      have HFIN : Hid (PtrPost w z 0 (.returned (.tuple #[.agg c2z, .int .i64 0])) (u1.setCells (w.heap.size + 1) 0 c2z.toList)) := Lib.hid
        ⟨c2z, rfl, JIs.mono (fun q e1 _ => Nat.le_trans hbw.size e1) _ _ (JIs.kept kk (fun q e1 e2 => by omega) _ _ hcop.jis), hs2, (hbw.call hb).trans (kk.below (hbw.call hb).size fun q e => by omega)⟩
      clear hcop hb hcf hs2 hone hr3 kk hlt hbw
      go_wp2_with (first
        | (refine wpList_store_mid ?_ 30 (.tmp 4) (.tmp 37) ?_ (w.heap.size + 1) 0 c2z ?_ ?_ HT5.out HI2.out HON.out ?_
           · with_reducible rfl
           · with_reducible rfl
           · rfl
           · rfl))
      refine bodyPost_ret_by (results_row_tmp rfl _ _ (w.heap.size + 1) c2z rfl (load_jv HRF.out HS2.out)) rfl ?_
      exact HFIN.out
end Go.Proofs.YtfdodndagakmmaaGreatDoor
