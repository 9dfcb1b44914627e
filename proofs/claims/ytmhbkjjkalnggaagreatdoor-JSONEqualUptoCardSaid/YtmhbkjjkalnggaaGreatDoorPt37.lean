import Derived.Test.YtmhbkjjkalnggaaGreatDoorPt36
import Derived.Lib.SlBytesConst
namespace Go.Proofs.YtmhbkjjkalnggaaGreatDoor
open Go.RowKit
set_option maxRecDepth 1000000
set_option maxHeartbeats 8000000
theorem index_b (nb no n c : Nat) (w : World) (hn : 0 < n) (hn2 : n <= 1000000000000) (h : w.cell? ⟨nb, no, none⟩ = some (.string ⟨#[98]⟩)) :
   Calls Tryz.prog 107 #[.slice (some ⟨nb, no, none⟩) n c, .string ⟨#[98]⟩] w fun e w' => e = .returned (.int .i64 0) /\ w = w' := by
 have hz : (0 : Int) < (n : Int) := by omega
 go_enter Tryz.func107, Tryz.ntmps107
 go_wp2
 go_loop [8] (fun v8 => v8 = .int .i64 0) (fun _ => 0)
 case atStart => rfl
 case round =>
   obtain rfl := hrel
   go_wp2
   go_ret
   exact ⟨rfl, rfl⟩
theorem member_b (g off nb no n cn lb lo m cl : Nat) (w : World) (hn : 0 < n) (hn2 : n <= 1000000000000) (hm : 0 < m) (h7 : w.cell? ⟨g, off + 7, none⟩ = some (.slice (some ⟨nb, no, none⟩) n cn)) (h6 : w.cell? ⟨g, off + 6, none⟩ = some (.slice (some ⟨lb, lo, none⟩) m cl)) (h : w.cell? ⟨nb, no, none⟩ = some (.string ⟨#[98]⟩)) :
   Calls Tryz.prog 87 #[.pointer (some ⟨g, off, none⟩), .string ⟨#[98]⟩] w fun e w' => e = .returned (.pointer (some ⟨lb, lo, none⟩)) /\ w = w' := by
 have HX := hid (index_b nb no n cn w hn hn2 h)
 have hz : (0 : Int) < (m : Int) := by omega
 clear h
 go_enter Tryz.func87, Tryz.ntmps87
 go_wp2_with fail
 refine HX.out.mono ?_
 rintro e w1 ⟨rfl, rfl⟩
 go_wp2_with fail
 go_ret
 exact ⟨rfl, rfl⟩
theorem within_b (g off nb no n cn lb lo m cl : Nat) (w : World) (hn : 0 < n) (hn2 : n <= 1000000000000) (hm : 0 < m) (h0 : w.cell? ⟨g, off, none⟩ = some (.int .i64 5)) (h7 : w.cell? ⟨g, off + 7, none⟩ = some (.slice (some ⟨nb, no, none⟩) n cn)) (h6 : w.cell? ⟨g, off + 6, none⟩ = some (.slice (some ⟨lb, lo, none⟩) m cl)) (h : w.cell? ⟨nb, no, none⟩ = some (.string ⟨#[98]⟩)) :
   Calls Tryz.prog 52 #[.pointer (some ⟨g, off, none⟩), .string ⟨#[98]⟩] w fun e w' => e = .returned (.pointer (some ⟨lb, lo, none⟩)) /\ w = w' := by
 have HX := hid (member_b g off nb no n cn lb lo m cl w hn hn2 hm h7 h6 h)
 clear h h7 h6
 go_enter Tryz.func52, Tryz.ntmps52
 go_wp2_with fail
 refine HX.out.mono ?_
 rintro e w1 ⟨rfl, rfl⟩
 go_wp2_with fail
 go_ret
 exact ⟨rfl, rfl⟩
theorem atoi_0 (w : World) : Calls Tryz.prog 88 #[.string ⟨#[48]⟩] w fun e w' => e = .returned (.tuple #[.int .i64 0, .nilIface]) /\ Below w.heap.size w w' := by
 refine (Tryz.strconv_Atoi ⟨#[48]⟩ 0 (by decide) (by decide) w).mono ?_
 rintro e w' ⟨rfl, t, rfl⟩
 exact ⟨rfl, Lib.bytesWorld_below _ _ _⟩
theorem itoa_0 (w : World) (hT : PowTab w) : Calls Tryz.prog 55 #[.int .i64 0] w fun e w' => e = .returned (.string ⟨#[48]⟩) /\ Below w.heap.size w w' := by
 refine (Tryz.strconv_Itoa 0 (by decide) (by decide) w hT).mono ?_
 rintro e w' ⟨rfl, k, os, rfl⟩
 exact ⟨by rw [show Lib.itoa 0 = [48] by decide +kernel], Lib.below_grow _ _ (Nat.le_refl _) _ _⟩
theorem within_0 (g off lb lo m cl : Nat) (w : World) (hT : PowTab w) (hg : g < w.heap.size) (hm : 0 < m) (hm2 : m <= 9223372036854775807) (h0 : w.cell? ⟨g, off, none⟩ = some (.int .i64 4)) (h6 : w.cell? ⟨g, off + 6, none⟩ = some (.slice (some ⟨lb, lo, none⟩) m cl)) :
   Calls Tryz.prog 52 #[.pointer (some ⟨g, off, none⟩), .string ⟨#[48]⟩] w fun e w' => e = .returned (.pointer (some ⟨lb, lo, none⟩)) /\ Below w.heap.size w w' := by
 have HA := hid (atoi_0 w)
 have HI := hid (fun V (hb : Below w.heap.size w V) => itoa_0 V (hT.below hb))
 have H6 := hid (fun V (hb : Below w.heap.size w V) => (hb.cell (p := ⟨g, off + 6, none⟩) hg).trans h6)
 have hz : (0 : Int) < (m : Int) := by omega
 have hge : decide ((m : Int) <= 0) = false := by simp; omega
 clear h6 hT
 go_enter Tryz.func52, Tryz.ntmps52
 go_wp2_with fail
 refine HA.out.mono ?_
 rintro e w1 ⟨rfl, hb⟩
 have x6 := H6.out w1 hb
 have HI1 := hid (HI.out w1 hb)
 have HB := hid hb
 clear hb
 go_wp2_with fail
 refine HI1.out.mono ?_
 rintro e w2 ⟨rfl, hb⟩
 have HB2 := hid (HB.out.call hb)
 have x7 := H6.out w2 HB2.out
 clear hb x6
 go_wp2_with fail
 go_ret
 exact ⟨rfl, HB2.out⟩
theorem cut_0 (w : World) : Calls Tryz.prog 51 #[.string ⟨#[47, 48]⟩] w (CutPost w [48] []) := by
 have HR := hid (repl_48_49 w)
 have hx : (⟨#[47, 48]⟩ : ByteArray).extract 1 2 = ⟨#[48]⟩ := by decide
 have hy : (⟨#[47, 48]⟩ : ByteArray).extract 2 2 = ⟨#[]⟩ := by decide
 go_enter Tryz.func51, Tryz.ntmps51
 go_wp2
 go_loop [4] (fun v4 => v4 = .int .i64 1 ∨ v4 = .int .i64 2) (fun v4 => 2 - (intOf v4).toNat)
 case atStart => exact .inl rfl
 case round =>
   rcases hrel with rfl | rfl
   · go_wp2
     go_round
     case rel => exact .inr rfl
     case measure => simp [intOf]
   · go_wp2_with fail
     refine HR.out.mono ?_
     rintro e w1 ⟨rfl, rfl⟩
     go_wp2_with fail
     go_quiet ((go_at_call 86; with_reducible exact Calls.quiet_of_same (same_q (repl_48_48 _))))
     go_wp2_with fail
     go_ret2
     exact ⟨rfl, below_drewN (Below.refl _ _) _⟩
def PtrPost (w : World) (v : JV) (k : Int) (e : Ending) (w' : World) : Prop := ∃ cs : Array Value, e = .returned (.tuple #[.agg cs, .int .i64 k]) /\ JIs w' (fun q => w.heap.size <= q) v cs.toList /\ cs.size = 8 /\ Below w.heap.size w w'
def sizeV : Value -> Nat
 | .string s => s.size
 | _ => 0
theorem jpointer_b0 (F : Nat -> Prop) (cs : Array Value) (v : JV) (b : Bool) (d : Dec) (t : List UInt8) (x : JV) (l : List JV) (ns : List (List UInt8)) (b2 : Bool) (d2 : Dec) (t2 : List UInt8) (z : JV) (l2 : List JV) (ns2 : List (List UInt8)) (w : World) (hv : v = .mk 5 b d t (x :: l) ([98] :: ns)) (hx : x = .mk 4 b2 d2 t2 (z :: l2) ns2)
   (h : JIs w F v cs.toList) (h8 : cs.size = 8) (hs : SmallJ v) (hf : askJ v = true -> FineJ v) (hd : depthJ v <= 1000000) (hT : PowTab w) (hU : Lib.Utf8Tabs 0 1 w) (h0 : checkJ v = 0) :
   Calls Tryz.prog 28 #[.agg cs, .string ⟨#[47, 98, 47, 48]⟩] w (PtrPost w z 0) := by
 have hcv := cop_of_check h0 hf
 have hcz : CopJ z /\ ns.length + 1 <= 1000000000000 := by
   rw [hv] at hcv
   unfold CopJ at hcv
   have hcx := hcv.2.2.2.2.2.get x (by simp)
   rw [hx] at hcx
   unfold CopJ at hcx
   exact ⟨hcx.2.2.2.2.2.get z (by simp), by simpa using hcv.2.2.1⟩
 obtain ⟨w0, hw0⟩ : ∃ w0, w0 = w.alloc (.cells cs 28) := ⟨_, rfl⟩
 obtain ⟨w1, hw1⟩ : ∃ w1, w1 = w0.alloc (.cells zeroJ 28) := ⟨_, rfl⟩
 have b0 : Below w.heap.size w w0 := by rw [hw0]; exact (Below.refl _ _).alloc (Nat.le_refl _) _
 have b01 : Below w0.heap.size w0 w1 := by rw [hw1]; exact (Below.refl _ _).alloc (Nat.le_refl _) _
 have s0 : w0.heap.size = w.heap.size + 1 := by rw [hw0]; simp
 have b1 := b0.call b01
 have r0 : Row w0 w.heap.size 28 cs := by rw [hw0]; exact Row.new _ _ _
 have r1 := r0.call b01
 have rr : Row w1 (w.heap.size + 1) 28 zeroJ := by rw [<- s0, hw1]; exact Row.new _ _ _
 have HRA : Hid (w1.rangeAt w.heap.size 0 cs.toList) := hid (fun j u hu => by rw [Nat.zero_add]; exact r1.cell (by simpa using hu))
 have HIN : Hid ((Tryz.prog.info? 28).map (·.size) = some cs.size) := hid (by rw [h8]; exact infoJ)
 have HC := hid (jmayBe_ok F cs v w1 (h.below b1) h8 hs hf hd (hT.below b1) (Utf8Tabs_below hU b1))
 have h1 : (checkJ v == 0) = true := by rw [h0]; rfl
 rw [h1] at HC
 have HB := hid b1
 have hj : JAtP w1 F w.heap.size 0 v := by have := boxed h; rw [<- hw0] at this; exact this.below b01
 rw [hv] at hj
 obtain ⟨A, c, A', c', p0, _, _, _, _, _, p6, p7, a1, a2, a3, a4, hnm, hkd⟩ := hj.open_
 obtain ⟨nb, no, rfl, _, hnlt, hn0⟩ := hnm 0 (by simp)
 obtain ⟨lb, lo, rfl, hjx⟩ := hkd 0 (by simp)
 have e0 : (x :: l).getD 0 JV.null = x := rfl
 rw [e0, Nat.zero_mul, Nat.add_zero, hx] at hjx
 obtain ⟨B, c2, B', c3, y0, _, _, _, _, _, y6, y7, a5, a6, a7, a8, _, hkd2⟩ := hjx.open_
 obtain ⟨mb, mo, rfl, hjz⟩ := hkd2 0 (by simp)
 have e1 : (z :: l2).getD 0 JV.null = z := rfl
 rw [e1, Nat.zero_mul, Nat.add_zero] at hjz
 rw [Nat.add_zero] at hn0
 have hlx := hjx.1
 have hlv := hj.1
 have hns : ([98] :: ns).length <= 1000000000000 := by simpa using hcz.2
 have W1 := hid (fun V (hb : Below w1.heap.size w1 V) => within_b w.heap.size 0 nb no ([98] :: ns).length c' lb lo (x :: l).length c V (by simp) hns (by simp) ((hb.cell (p := ⟨w.heap.size, 0, none⟩) hlv).trans p0) ((hb.cell (p := ⟨w.heap.size, 0 + 7, none⟩) hlv).trans p7) ((hb.cell (p := ⟨w.heap.size, 0 + 6, none⟩) hlv).trans p6) ((hb.cell (p := ⟨nb, no, none⟩) hnlt).trans hn0))
 have W2 := hid (fun V (hb : Below w1.heap.size w1 V) => within_0 lb lo mb mo (z :: l2).length c2 V (hT.below (b1.call hb)) (Nat.lt_of_lt_of_le hlx hb.size) (by simp) (by unfold maxLen at a6; omega) ((hb.cell (p := ⟨lb, lo, none⟩) hlx).trans y0) ((hb.cell (p := ⟨lb, lo + 6, none⟩) hlx).trans y6))
 have HCP := hid (fun V (hb : Below w1.heap.size w1 V) => jcopied_ok _ z (Nat.le_refl _) hcz.1 F mb mo V (hjz.below hb))
 have HRR := hid rr
 have HT := hid hT
 clear hv hx h hs hf hd hU hT h0 h1 hcv hcz b1 r1 r0 b0 b01 rr h8 hj p0 p6 p7 a1 a2 a3 a4 a5 a6 a7 a8 hnm hkd hnlt hn0 hjx y0 y6 y7 hkd2 hjz e0 e1 hlx hlv hns
 generalize (x :: l).length = nl at *
 generalize ([98] :: ns).length = nn at *
 generalize (z :: l2).length = nz at *
 generalize hck : checkJ v = ck at *
 clear hck
 have HW1 := hw1
 unfold zeroJ at HW1
 clear hw1
 go_enter Tryz.func28, Tryz.ntmps28
 go_upto_region 1 with fail
 rw [<- hw0, <- HW1]
 clear hw0 HW1 s0
 go_wp2_with (first
   | (refine ldJ (.tmp 2) w.heap.size 0 cs HRA.out HIN.out ?_))
 refine HC.out.mono ?_
 rintro e w2 ⟨rfl, hb⟩
 have HB2 := hid hb
 clear hb
 go_wp2_with fail
 refine (isPath_b0 w2).mono ?_
 rintro e w3 ⟨rfl, rfl⟩
 go_wp2_with fail
 go_loopw [1, 6] (fun v1 v6 wr => Hid (Below w1.heap.size w1 wr) /\ ((v1 = .string ⟨#[47, 98, 47, 48]⟩ /\ v6 = .pointer (some ⟨w.heap.size, 0, none⟩)) ∨ (v1 = .string ⟨#[47, 48]⟩ /\ v6 = .pointer (some ⟨lb, lo, none⟩)) ∨ (v1 = .string ⟨#[]⟩ /\ v6 = .pointer (some ⟨mb, mo, none⟩)))) (fun v1 _ _ => sizeV v1)
 case atStart => exact ⟨HB2, .inl ⟨rfl, rfl⟩⟩
 case round =>
   obtain ⟨HBR, hrel⟩ := hrel
   rcases hrel with ⟨rfl, rfl⟩ | ⟨rfl, rfl⟩ | ⟨rfl, rfl⟩
   · have HCT := hid (cut_b wr)
     go_wp2_with fail
     refine HCT.out.mono ?_
     rintro e u1 ⟨rfl, hb⟩
     have HB3 := hid (HBR.out.call hb)
     have HX := hid (W1.out u1 HB3.out)
     clear hb
     go_wp2_with fail
     refine HX.out.mono ?_
     rintro e u2 ⟨rfl, rfl⟩
     go_wp2_with fail
     exact ⟨⟨HB3, .inr (.inl ⟨rfl, rfl⟩)⟩, by decide⟩
   · have HCT := hid (cut_0 wr)
     go_wp2_with fail
     refine HCT.out.mono ?_
     rintro e u1 ⟨rfl, hb⟩
     have HB3 := hid (HBR.out.call hb)
     have HX := hid (W2.out u1 HB3.out)
     clear hb
     go_wp2_with fail
     refine HX.out.mono ?_
     rintro e u2 ⟨rfl, hb⟩
     have HB4 := hid (HB3.out.call hb)
     clear hb
     go_wp2_with fail
     exact ⟨⟨HB4, .inr (.inr ⟨rfl, rfl⟩)⟩, by decide⟩
   · have HCC := hid (HCP.out wr HBR.out)
     have HRR2 := hid (HRR.out.call HBR.out)
     go_wp2_with fail
     refine HCC.out.mono ?_
     rintro e u1 ⟨c2z, rfl, hcop, hb⟩
     obtain ⟨_, _, _, _, _, _, hcf⟩ := hcop.form
     have hs2 : c2z.size = 8 := by rw [hcf]; rfl
     have hone : c2z.all (·.oneCell') = true := by
       rw [Array.all_eq_true_iff_forall_mem]
       intro u hu
       exact jv_one hcop.jis u (Array.mem_toList_iff.2 hu)
     have hr3 := HRR2.out.call hb
     have kk := kept_setCells u1 (w.heap.size + 1) c2z.toList 0 u1 (Kept.refl _ _)
     have HT5 : Hid (u1.there (w.heap.size + 1) 0 c2z.size) := hid (row_there hr3 (by rw [hs2]; exact Nat.le_refl _))
     have HI2 : Hid ((Tryz.prog.info? 28).map (·.size) = some c2z.size) := hid (by rw [hs2]; exact infoJ)
     have HON := hid hone
     have HS2 := hid hs2
     have HRF : Hid (Row (u1.setCells (w.heap.size + 1) 0 c2z.toList) (w.heap.size + 1) 28 c2z) := hid (by
       have h9 := row_laid c2z.toList [] zeroJ.toList u1 (g := w.heap.size + 1) (by simpa using hr3) (by rw [Array.length_toList, Array.length_toList, hs2]; rfl)
       simpa using h9)
     have hlt := HRR2.out.lt
     have hbw := HB.out.call HBR.out
     have HFIN : Hid (PtrPost w z 0 (.returned (.tuple #[.agg c2z, .int .i64 0])) (u1.setCells (w.heap.size + 1) 0 c2z.toList)) := hid
       ⟨c2z, rfl, JIs.mono (fun q e1 _ => Nat.le_trans hbw.size e1) _ _ (JIs.kept kk (fun q e1 e2 => by omega) _ _ hcop.jis), hs2, (hbw.call hb).trans (kk.below (hbw.call hb).size fun q e => by omega)⟩
     clear hcop hb hcf hs2 hone hr3 kk hlt hbw
     go_wp2_with (first
       | (refine wpList_store_mid ?_ 28 (.tmp 4) (.tmp 37) ?_ (w.heap.size + 1) 0 c2z ?_ ?_ HT5.out HI2.out HON.out ?_
          · with_reducible rfl
          · with_reducible rfl
          · rfl
          · rfl))
     refine bodyPost_ret_by (results_row_tmp rfl _ _ (w.heap.size + 1) c2z rfl (load_jv HRF.out HS2.out)) rfl ?_
     exact HFIN.out
def wkT : List UInt8 := [32, 123, 34, 98, 34, 32, 58, 32, 91, 49, 46, 53, 48, 44, 32, 110, 117, 108, 108, 93, 44, 32, 34, 97, 34, 58, 34, 92, 117, 48, 48, 101, 57, 34, 125, 32]
def wkN : JV := .mk 2 false ⟨false, [49, 53], -1⟩ [] [] []
def wkX : JV := .mk 4 false Dec.zero [] [wkN, JV.null] []
def wkY : JV := .mk 3 false Dec.zero [195, 169] [] []
def wkV : JV := .mk 5 false Dec.zero [] [wkX, wkY] [[98], [97]]
def wkS : JV := .mk 5 false Dec.zero [] [wkY, wkX] [[97], [98]]
def wkO : List UInt8 := [123, 34, 97, 34, 58, 34, 195, 169, 34, 44, 34, 98, 34, 58, 91, 49, 46, 53, 44, 110, 117, 108, 108, 93, 125]
set_option maxRecDepth 100000
theorem wk_valid : Lib.validD wkT = true := by kernel_rfl
theorem okR (l : List UInt8) (v : JV) (h : runJ .value [] fl0 l = some (v, fl0)) (h1 : l.length <= 1048576) (h2 : (tellJ v).length <= 1048576) : parseJ true l = (v, 0) := by
 unfold parseJ readR
 rw [if_neg (by omega), if_neg (by simp), h]
 show (if judgeE fl0 ≠ 0 then _ else _) = _
 rw [if_neg (by decide), if_neg (by omega)]
theorem wk_run : runJ .value [] fl0 [32, 123, 34, 98, 34, 32, 58, 32, 91, 49, 46, 53, 48, 44, 32, 110, 117, 108, 108, 93, 44, 32, 34, 97, 34, 58, 34, 92, 117, 48, 48, 101, 57, 34, 125, 32] = some ((.mk 5 false Dec.zero [] [(.mk 4 false Dec.zero [] [(.mk 2 false ⟨false, [49, 53], -1⟩ [] [] []), JV.null] []), (.mk 3 false Dec.zero [195, 169] [] [])] [[98], [97]]), fl0) := by
 refine Eq.trans (b := runJ .name [⟨true, [], []⟩] fl0 [34, 98, 34, 32, 58, 32, 91, 49, 46, 53, 48, 44, 32, 110, 117, 108, 108, 93, 44, 32, 34, 97, 34, 58, 34, 92, 117, 48, 48, 101, 57, 34, 125, 32]) ((runJ_value _ _ _).trans (by kernel_rfl)) ?_
 refine Eq.trans (b := runJ .value [⟨true, [], [[98]]⟩] fl0 [32, 91, 49, 46, 53, 48, 44, 32, 110, 117, 108, 108, 93, 44, 32, 34, 97, 34, 58, 34, 92, 117, 48, 48, 101, 57, 34, 125, 32]) ((runJ_name _ _ _).trans (by kernel_rfl)) ?_
 refine Eq.trans (b := runJ .value [⟨false, [], []⟩, ⟨true, [], [[98]]⟩] fl0 [49, 46, 53, 48, 44, 32, 110, 117, 108, 108, 93, 44, 32, 34, 97, 34, 58, 34, 92, 117, 48, 48, 101, 57, 34, 125, 32]) ((runJ_value _ _ _).trans (by kernel_rfl)) ?_
 refine Eq.trans (b := runJ (.behind (.mk 2 false ⟨false, [49, 53], -1⟩ [] [] [])) [⟨false, [], []⟩, ⟨true, [], [[98]]⟩] fl0 [44, 32, 110, 117, 108, 108, 93, 44, 32, 34, 97, 34, 58, 34, 92, 117, 48, 48, 101, 57, 34, 125, 32]) ((runJ_value _ _ _).trans (by kernel_rfl)) ?_
 refine Eq.trans (b := runJ .value [⟨false, [(.mk 2 false ⟨false, [49, 53], -1⟩ [] [] [])], []⟩, ⟨true, [], [[98]]⟩] fl0 [32, 110, 117, 108, 108, 93, 44, 32, 34, 97, 34, 58, 34, 92, 117, 48, 48, 101, 57, 34, 125, 32]) ((runJ_behind _ _ _ _ _).trans (by kernel_rfl)) ?_
 refine Eq.trans (b := runJ (.behind JV.null) [⟨false, [(.mk 2 false ⟨false, [49, 53], -1⟩ [] [] [])], []⟩, ⟨true, [], [[98]]⟩] fl0 [93, 44, 32, 34, 97, 34, 58, 34, 92, 117, 48, 48, 101, 57, 34, 125, 32]) ((runJ_value _ _ _).trans (by kernel_rfl)) ?_
 refine Eq.trans (b := runJ .leave [⟨false, [(.mk 2 false ⟨false, [49, 53], -1⟩ [] [] []), JV.null], []⟩, ⟨true, [], [[98]]⟩] fl0 [44, 32, 34, 97, 34, 58, 34, 92, 117, 48, 48, 101, 57, 34, 125, 32]) ((runJ_behind _ _ _ _ _).trans (by kernel_rfl)) ?_
 refine Eq.trans (b := runJ (.behind (.mk 4 false Dec.zero [] [(.mk 2 false ⟨false, [49, 53], -1⟩ [] [] []), JV.null] [])) [⟨true, [], [[98]]⟩] fl0 [44, 32, 34, 97, 34, 58, 34, 92, 117, 48, 48, 101, 57, 34, 125, 32]) ((runJ_leave _ _ _ _).trans (by kernel_rfl)) ?_
 refine Eq.trans (b := runJ .name [⟨true, [(.mk 4 false Dec.zero [] [(.mk 2 false ⟨false, [49, 53], -1⟩ [] [] []), JV.null] [])], [[98]]⟩] fl0 [32, 34, 97, 34, 58, 34, 92, 117, 48, 48, 101, 57, 34, 125, 32]) ((runJ_behind _ _ _ _ _).trans (by kernel_rfl)) ?_
 refine Eq.trans (b := runJ .value [⟨true, [(.mk 4 false Dec.zero [] [(.mk 2 false ⟨false, [49, 53], -1⟩ [] [] []), JV.null] [])], [[98], [97]]⟩] fl0 [34, 92, 117, 48, 48, 101, 57, 34, 125, 32]) ((runJ_name _ _ _).trans (by kernel_rfl)) ?_
 refine Eq.trans (b := runJ (.behind (.mk 3 false Dec.zero [195, 169] [] [])) [⟨true, [(.mk 4 false Dec.zero [] [(.mk 2 false ⟨false, [49, 53], -1⟩ [] [] []), JV.null] [])], [[98], [97]]⟩] fl0 [125, 32]) ((runJ_value _ _ _).trans (by kernel_rfl)) ?_
 refine Eq.trans (b := runJ .leave [⟨true, [(.mk 4 false Dec.zero [] [(.mk 2 false ⟨false, [49, 53], -1⟩ [] [] []), JV.null] []), (.mk 3 false Dec.zero [195, 169] [] [])], [[98], [97]]⟩] fl0 [32]) ((runJ_behind _ _ _ _ _).trans (by kernel_rfl)) ?_
 refine Eq.trans (b := runJ (.behind (.mk 5 false Dec.zero [] [(.mk 4 false Dec.zero [] [(.mk 2 false ⟨false, [49, 53], -1⟩ [] [] []), JV.null] []), (.mk 3 false Dec.zero [195, 169] [] [])] [[98], [97]])) [] fl0 [32]) ((runJ_leave _ _ _ _).trans (by kernel_rfl)) ?_
 refine Eq.trans (b := some ((.mk 5 false Dec.zero [] [(.mk 4 false Dec.zero [] [(.mk 2 false ⟨false, [49, 53], -1⟩ [] [] []), JV.null] []), (.mk 3 false Dec.zero [195, 169] [] [])] [[98], [97]]), fl0)) ((runJ_behind0 _ _ _).trans (by kernel_rfl)) ?_
 rfl
theorem wk_parse : parseJ true wkT = (wkV, 0) := okR _ _ wk_run (by decide) (by decide)
theorem wk_run2 : runJ .value [] fl0 [91, 49, 44, 93] = none := by
 refine Eq.trans (b := runJ .value [⟨false, [], []⟩] fl0 [49, 44, 93]) ((runJ_value _ _ _).trans (by kernel_rfl)) ?_
 refine Eq.trans (b := runJ (.behind (.mk 2 false ⟨false, [49], 0⟩ [] [] [])) [⟨false, [], []⟩] fl0 [44, 93]) ((runJ_value _ _ _).trans (by kernel_rfl)) ?_
 refine Eq.trans (b := runJ .value [⟨false, [(.mk 2 false ⟨false, [49], 0⟩ [] [] [])], []⟩] fl0 [93]) ((runJ_behind _ _ _ _ _).trans (by kernel_rfl)) ?_
 refine Eq.trans (b := none) ((runJ_value _ _ _).trans (by kernel_rfl)) ?_
 rfl
theorem wk_bad : parseJ true [91, 49, 44, 93] = (JV.null, 180) := by
 unfold parseJ readR
 rw [if_neg (by decide), if_neg (by simp), wk_run2]
theorem wk_valid2 : Lib.validD [91, 49, 44, 93] = true := by kernel_rfl
theorem wk_tell : tellJ wkS = wkO := by kernel_rfl
theorem wk_check : checkJ wkV = 0 := by kernel_rfl
theorem wk_check2 : checkJ wkS = 0 := by kernel_rfl
def varW (V : World) (cs : Array Value) : World := (V.alloc (.cells zeroJ 28)).setCells V.heap.size 0 cs.toList
theorem varW_ok (V : World) (cs : Array Value) (h8 : cs.size = 8) : Below V.heap.size V (varW V cs) /\ Row (varW V cs) V.heap.size 28 cs /\ (V.alloc (.cells zeroJ 28)).there V.heap.size 0 cs.size := by
 refine ⟨?_, ?_, row_there (Row.new _ _ _) (by rw [h8]; exact Nat.le_refl _)⟩
 · unfold varW
   exact ((Below.refl _ _).alloc (Nat.le_refl _) _).trans ((kept_setCells _ _ _ _ _ (Kept.refl _ _)).below ((Below.refl V.heap.size V).alloc (Nat.le_refl _) _).size fun k hk => Nat.le_of_eq hk.symm)
 · unfold varW
   have h9 := row_laid cs.toList [] zeroJ.toList (V.alloc (.cells zeroJ 28)) (g := V.heap.size) (by simpa using Row.new V 28 zeroJ) (by rw [Array.length_toList, Array.length_toList, h8]; rfl)
   simpa using h9
theorem one_of_jis {W : World} {F : Nat -> Prop} {v : JV} {cs : Array Value} (h : JIs W F v cs.toList) : cs.all (·.oneCell') = true := by
 rw [Array.all_eq_true_iff_forall_mem]
 intro u hu
 exact jv_one h u (Array.mem_toList_iff.2 hu)
theorem size_of_jis {W : World} {F : Nat -> Prop} {v : JV} {cs : Array Value} (h : JIs W F v cs.toList) : cs.size = 8 := by have := h.len; rwa [Array.length_toList] at this
theorem info_of_size {cs : Array Value} (h : cs.size = 8) : (Tryz.prog.info? 28).map (·.size) = some cs.size := by rw [h]; exact infoJ
def wkC : Array Value := #[.int .u8 32, .int .u8 123, .int .u8 34, .int .u8 98, .int .u8 34, .int .u8 32, .int .u8 58, .int .u8 32, .int .u8 91, .int .u8 49, .int .u8 46, .int .u8 53, .int .u8 48, .int .u8 44, .int .u8 32, .int .u8 110, .int .u8 117, .int .u8 108, .int .u8 108, .int .u8 93, .int .u8 44, .int .u8 32, .int .u8 34, .int .u8 97, .int .u8 34, .int .u8 58, .int .u8 34, .int .u8 92, .int .u8 117, .int .u8 48, .int .u8 48, .int .u8 101, .int .u8 57, .int .u8 34, .int .u8 125, .int .u8 32]
def wkC2 : Array Value := #[.int .u8 91, .int .u8 49, .int .u8 44, .int .u8 93]
theorem wkC_eq : wkC = (u8s wkT).toArray := by rfl
theorem wkC2_eq : wkC2 = (u8s [91, 49, 44, 93]).toArray := by rfl
theorem lit_holds (w : World) (l : List UInt8) (fz : Nat × Nat) : Holds (w.alloc (.cells (u8s l).toArray 5 fz)) (some ⟨w.heap.size, 0, none⟩) l.length 1 (u8s l) :=
 ⟨by rw [u8s_length, Nat.mul_one], fun _ => ⟨w.heap.size, 0, rfl, by simp, fun j u hu => by
   rw [Nat.zero_add, cell_of_row _ _ _ _ _ _ (heap_alloc_new w (.cells (u8s l).toArray 5 fz))]
   simpa using hu⟩⟩
theorem small_wkV : SmallJ wkV := by simp [wkV, wkX, wkY, wkN, JV.null, Dec.zero, SmallJ, SmallKids, maxLen]
theorem small_wkS : SmallJ wkS := by simp [wkS, wkX, wkY, wkN, JV.null, Dec.zero, SmallJ, SmallKids, maxLen]
theorem fine_wkV : FineJ wkV := by simp [wkV, wkX, wkY, wkN, JV.null, Dec.zero, FineJ, FineKids]
theorem fine_wkS : FineJ wkS := by simp [wkS, wkX, wkY, wkN, JV.null, Dec.zero, FineJ, FineKids]
theorem no_wkX : NoObj wkX := by simp [wkX, wkN, JV.null, NoObj, NoObjs]
theorem no_wkY : NoObj wkY := by simp [wkY, NoObj, NoObjs]
theorem deep_wkV : depthJ wkV <= 1000000 := by have := (check_zero wk_check).2.1; omega
theorem deep_wkS : depthJ wkS <= 1000000 := by have := (check_zero wk_check2).2.1; omega
theorem jworks_ok (w : World) (hT : PowTab w) (hU : Lib.Utf8Tabs 0 1 w) : Calls Tryz.prog 7 #[] w fun e w' => e = .returned (.bool true) /\ Below w.heap.size w w' := by
 have HT := hid (fun V (hb : Below w.heap.size w V) => hT.below hb)
 have HU := hid (fun V (hb : Below w.heap.size w V) => Utf8Tabs_below hU hb)
 clear hT hU
 have hcc := fun (w : World) (C : Array Value) (n c : Nat) => Lib.run_convert_bytes_const (P := Tryz.prog) w 35 5 C n c Tryz.underlying35 Tryz.underlying5
 obtain ⟨w0, hw0⟩ : ∃ w0, w0 = w.alloc (.cells wkC 5 (36, 37)) := ⟨_, rfl⟩
 have b0 : Below w.heap.size w w0 := by rw [hw0]; exact (Below.refl _ _).alloc (Nat.le_refl _) _
 have HP : Hid (Calls Tryz.prog 27 #[.slice (some ⟨w.heap.size, 0, none⟩) 36 36] w0 (ParPost w0 wkV 0)) := hid (by
   have h9 := jparse_v (some ⟨w.heap.size, 0, none⟩) 36 36 wkT w0 (by rw [hw0, wkC_eq]; exact lit_holds w wkT _) rfl (Nat.le_refl _) (by decide) (HT.out _ b0) (HU.out _ b0)
   rw [wk_valid, wk_parse] at h9
   exact h9)
 have HB0 := hid b0
 clear b0
 unfold wkC at hw0
 go_enter Tryz.func7, Tryz.ntmps7
 go_wp2_with fail
 rw [<- hw0]
 clear hw0
 refine HP.out.mono ?_
 rintro e w1 ⟨cs, rfl, hj, hb⟩
 have h8 := size_of_jis hj
 have HON := hid (one_of_jis hj)
 have HIN := hid (info_of_size h8)
 obtain ⟨bv, rv, tv⟩ := varW_ok w1 cs h8
 have HTV := hid tv
 obtain ⟨w2, hw2⟩ : ∃ w2, w2 = varW w1 cs := ⟨_, rfl⟩
 rw [<- hw2] at bv rv
 have HW2 := hid hw2
 have HB2 := hid ((HB0.out.call hb).call bv)
 have HJ := hid (hj.below bv)
 have HR := hid rv
 have H8 := hid h8
 clear hj hb h8 bv rv tv hw2 HP HB0
 have HRA : Hid (∀ V, Below w2.heap.size w2 V -> V.rangeAt w1.heap.size 0 cs.toList) := hid (fun V hb q u hu => by rw [Nat.zero_add]; exact (HR.out.call hb).cell (by simpa using hu))
 have HS := hid (jsorted_two _ cs false Dec.zero [] wkX wkY w2 HJ.out H8.out small_wkV (fun _ => fine_wkV) deep_wkV (HT.out _ HB2.out) (HU.out _ HB2.out) wk_check no_wkX no_wkY)
 have HRA2 := hid (HRA.out w2 (Below.refl _ _))
 go_wp2_with (first
   | (refine wpList_store_mid ?_ 28 (.tmp 1) (.tmp 12) ?_ w1.heap.size 0 cs ?_ ?_ ?_ HIN.out HON.out ?_
      · with_reducible rfl
      · with_reducible rfl
      · rfl
      · rfl
      · exact HTV.out
      show wpList _ _ _ _ _ (varW w1 cs)
      rw [<- HW2.out])
   | (refine ldJ (.tmp 1) w1.heap.size 0 cs HRA2.out HIN.out ?_))
 refine HS.out.mono ?_
 rintro e w3 ⟨cs2, rfl, hj2, h82, hb⟩
 have HB3 := hid (HB2.out.call hb)
 have HPR := hid (jprint_ok _ cs2 wkS w3 hj2 h82 small_wkS (fun _ => fine_wkS) deep_wkS (HT.out _ HB3.out) (HU.out _ HB3.out))
 have HB23 := hid hb
 clear hj2 h82 hb HS HRA2 HTV HW2
 go_wp2_with fail
 refine HPR.out.mono ?_
 rintro e w4 ⟨AP, cP, rfl, _, _, hl4, hb⟩
 have hpo : printJ wkS = wkO := by unfold printJ; rw [if_pos wk_check2, wk_tell]
 rw [hpo] at hl4 ⊢
 have HL4 := hid hl4
 have HB4 := hid (HB3.out.call hb)
 have HB24 := hid (HB23.out.call hb)
 have HRA4 := hid (HRA.out w4 HB24.out)
 have HPT := hid (jpointer_b0 _ cs wkV false Dec.zero [] wkX [wkY] [[97]] false Dec.zero [] wkN [JV.null] [] w4 rfl rfl (HJ.out.below HB24.out) H8.out small_wkV (fun _ => fine_wkV) deep_wkV (HT.out _ HB4.out) (HU.out _ HB4.out) wk_check)
 clear hb hl4 hpo HPR HB23 HB3
 go_wp2_with (first
   | (refine ldJ (.tmp 1) w1.heap.size 0 cs HRA4.out HIN.out ?_))
 refine HPT.out.mono ?_
 rintro e w5 ⟨cs3, rfl, hj3, h83, hb⟩
 have HON3 := hid (one_of_jis hj3)
 have HIN3 := hid (info_of_size h83)
 obtain ⟨bv, rv, tv⟩ := varW_ok w5 cs3 h83
 have HTV3 := hid tv
 obtain ⟨w6, hw6⟩ : ∃ w6, w6 = varW w5 cs3 := ⟨_, rfl⟩
 rw [<- hw6] at bv rv
 have HW6 := hid hw6
 have HR3 := hid rv
 have HB46 := hid (hb.call bv)
 have HB6 := hid ((HB4.out.call hb).call bv)
 have HN3 : Hid (∃ A c A' c', cs3 = jvC 2 false ⟨false, [49, 53], -1⟩ [] (.slice A 0 c) (.slice A' 0 c')) := hid (by
   unfold wkN JIs at hj3
   obtain ⟨A, c, A', c', e, _⟩ := hj3
   exact ⟨A, c, A', c', Array.toList_inj.1 e⟩)
 obtain ⟨w7, hw7⟩ : ∃ w7, w7 = w6.alloc (.cells wkC2 5 (4, 5)) := ⟨_, rfl⟩
 have b7 : Below w6.heap.size w6 w7 := by rw [hw7]; exact (Below.refl _ _).alloc (Nat.le_refl _) _
 have HP2 : Hid (Calls Tryz.prog 27 #[.slice (some ⟨w6.heap.size, 0, none⟩) 4 4] w7 (ParPost w7 JV.null 180)) := hid (by
   have h9 := jparse_v (some ⟨w6.heap.size, 0, none⟩) 4 4 [91, 49, 44, 93] w7 (by rw [hw7, wkC2_eq]; exact lit_holds w6 [91, 49, 44, 93] _) rfl (Nat.le_refl _) (by decide) (HT.out _ (HB6.out.call b7)) (HU.out _ (HB6.out.call b7))
   rw [wk_valid2, wk_bad] at h9
   exact h9)
 have HB67 := hid b7
 unfold wkC2 at hw7
 clear hj3 h83 hb bv rv tv hw6 b7 HPT HRA4
 go_wp2_with (first
   | (refine wpList_store_mid ?_ 28 (.tmp 4) (.tmp 20) ?_ w5.heap.size 0 cs3 ?_ ?_ ?_ HIN3.out HON3.out ?_
      · with_reducible rfl
      · with_reducible rfl
      · rfl
      · rfl
      · exact HTV3.out
      show wpList _ _ _ _ _ (varW w5 cs3)
      rw [<- HW6.out]))
 rw [<- hw7]
 clear hw7
 refine HP2.out.mono ?_
 rintro e w8 ⟨cs4, rfl, hj4, hb⟩
 have h84 := size_of_jis hj4
 have HON4 := hid (one_of_jis hj4)
 have HIN4 := hid (info_of_size h84)
 obtain ⟨bv, _, tv⟩ := varW_ok w8 cs4 h84
 have HTV4 := hid tv
 obtain ⟨w9, hw9⟩ : ∃ w9, w9 = varW w8 cs4 := ⟨_, rfl⟩
 rw [<- hw9] at bv
 have HW9 := hid hw9
 have HB69 := hid ((HB67.out.call hb).call bv)
 have HB49 := hid (HB46.out.call HB69.out)
 have HB29 := hid (HB24.out.call HB49.out)
 have HB9 := hid (HB2.out.call HB29.out)
 have HAL := hid (jall_ok _ cs wkV w9 (HJ.out.below HB29.out) H8.out small_wkV (fun _ => fine_wkV) deep_wkV (HT.out _ HB9.out) (HU.out _ HB9.out) wk_check)
 have hcs : (convert 35 9 (.slice AP wkO.length cP)).run Tryz.prog w9 = .ok (.string ⟨#[123, 34, 97, 34, 58, 34, 195, 169, 34, 44, 34, 98, 34, 58, 91, 49, 46, 53, 44, 110, 117, 108, 108, 93, 125]⟩) w9 := by
   obtain ⟨A9, c9, e9, _, _, h9⟩ := (HL4.out.below HB49.out).holds
   obtain ⟨rfl, _, rfl⟩ := Value.slice.inj e9
   exact run_text_bs h9 35 9 5 cP Tryz.underlying35 Tryz.underlying5 Tryz.underlying9
 have hr3 := HR3.out.call HB69.out
 obtain ⟨A1, c1, A2, c2, e3⟩ := HN3.out
 rw [e3] at hr3
 have z2 : w9.cell? ⟨w5.heap.size, 2, none⟩ = some (.bool false) := hr3.cell (i := 2) rfl
 have z3 : w9.cell? ⟨w5.heap.size, 3, none⟩ = some (.string ⟨#[49, 53]⟩) := hr3.cell (i := 3) rfl
 have z4 : w9.cell? ⟨w5.heap.size, 4, none⟩ = some (.int .i64 (-1)) := hr3.cell (i := 4) rfl
 have hfn : ∀ (q : Nat) (W : World), (binOp BinOp.neq 50 (.func (.func 54) #[] #[.pointer (some ⟨q, 0, none⟩)]) .nilFunc).run Tryz.prog W = .ok (.bool true) W := fun _ _ => rfl
 obtain ⟨A5, c5, A6, c6, ecs⟩ : ∃ A c A' c', cs = jvC 5 false Dec.zero [] (.slice A 2 c) (.slice A' 2 c') := by
   have h9 := HJ.out
   unfold wkV JIs at h9
   obtain ⟨A, c, A', c', e, _⟩ := h9
   exact ⟨A, c, A', c', Array.toList_inj.1 e⟩
 have hr1 := HR.out.call HB29.out
 rw [ecs] at hr1 HAL
 have y0 : w9.cell? ⟨w1.heap.size, 0, none⟩ = some (.int .i64 5) := hr1.cell (i := 0) rfl
 have y1 : w9.cell? ⟨w1.heap.size, 1, none⟩ = some (.bool false) := hr1.cell (i := 1) rfl
 have y2 : w9.cell? ⟨w1.heap.size, 2, none⟩ = some (.bool false) := hr1.cell (i := 2) rfl
 have y3 : w9.cell? ⟨w1.heap.size, 3, none⟩ = some (.string (bs [])) := hr1.cell (i := 3) rfl
 have y4 : w9.cell? ⟨w1.heap.size, 4, none⟩ = some (.int .i64 0) := hr1.cell (i := 4) rfl
 have y5 : w9.cell? ⟨w1.heap.size, 5, none⟩ = some (.string (bs [])) := hr1.cell (i := 5) rfl
 have y6 : w9.cell? ⟨w1.heap.size, 6, none⟩ = some (.slice A5 2 c5) := hr1.cell (i := 6) rfl
 have y7 : w9.cell? ⟨w1.heap.size, 7, none⟩ = some (.slice A6 2 c6) := hr1.cell (i := 7) rfl
 have HAL2 : Hid (Calls Tryz.prog 29 #[.agg #[.int .i64 5, .bool false, .bool false, .string (bs []), .int .i64 0, .string (bs []), .slice A5 2 c5, .slice A6 2 c6]] w9 (AllPost w9 wkV)) := HAL
 clear hr1 HAL
 clear hj4 hb h84 bv tv hw9 HP2 hr3 e3 HR3 HN3 HB46 HB69 HB67 HB6
 go_wp2_with (first
   | (refine wpList_store_mid ?_ 28 (.tmp 6) (.tmp 26) ?_ w8.heap.size 0 cs4 ?_ ?_ ?_ HIN4.out HON4.out ?_
      · with_reducible rfl
      · with_reducible rfl
      · rfl
      · rfl
      · exact HTV4.out
      show wpList _ _ _ _ _ (varW w8 cs4)
      rw [<- HW9.out])
   | (go_at_call 9; go_in))
 (with_reducible refine HAL2.out.mono ?_)
 rintro e w10 ⟨gk, ck, rfl, _, _, _, hb⟩
 have HB10 := hid (HB9.out.call hb)
 clear hb
 go_wp2_with fail
 go_ret
 exact ⟨rfl, HB10.out⟩
end Go.Proofs.YtmhbkjjkalnggaaGreatDoor
