import Derived.Test.YtmhbkjjkalnggaaGreatDoorPt03
import Derived.Deep.Slices
import Derived.StillTailTactics
import Derived.Lib.IndexAny
namespace Go.Proofs.YtmhbkjjkalnggaaGreatDoor
open Go.RowKit
set_option maxRecDepth 100000
set_option maxHeartbeats 4000000
theorem wval_split (l : List Nat) (i : Nat) : wval l = wtk l i + 1000000000 ^ (min i l.length) * wval (l.drop i) := by
 conv => lhs; rw [<- List.take_append_drop i l]
 rw [wval_append, List.length_take]
 rfl
theorem wval_drop (l : List Nat) (i : Nat) (hi : i < l.length) : wval (l.drop i) = wat l i + 1000000000 * wval (l.drop (i + 1)) := by
 rw [List.drop_eq_getElem_cons hi]
 unfold wat
 rw [List.getD, List.getElem?_eq_getElem hi]
 rfl
theorem tz_words (l : List Nat) (i j : Nat) (hi : i < l.length) (hz : wtk l i = 0) (hj : j < 9) (hd : wat l i % 10 ^ j = 0) (hm : wat l i / 10 ^ j % 10 ≠ 0) : tz (wval l) = 9 * i + j := by
 have e1 := wval_split l i
 rw [hz, Nat.min_eq_left (by omega), Nat.zero_add, wval_drop l i hi] at e1
 have e2 : wat l i = wat l i / 10 ^ j * 10 ^ j := by
   have := Nat.div_add_mod (wat l i) (10 ^ j)
   rw [hd, Nat.mul_comm] at this; omega
 have e3 : (1000000000 : Nat) = 10 ^ (9 - j) * 10 ^ j := by rw [<- Nat.pow_add, Nat.sub_add_cancel (by omega)]
 have e4 : (10 : Nat) ^ (9 - j) = 10 * 10 ^ (8 - j) := by rw [show 9 - j = (8 - j) + 1 by omega, Nat.pow_succ']
 have e5 : wat l i + 1000000000 * wval (l.drop (i + 1)) = (wat l i / 10 ^ j + 10 * (10 ^ (8 - j) * wval (l.drop (i + 1)))) * 10 ^ j := by
   rw [Nat.add_mul, <- e2]
   congr 1
   conv => lhs; rw [e3, e4]
   rw [Nat.mul_assoc, Nat.mul_assoc, Nat.mul_assoc, Nat.mul_assoc, Nat.mul_comm (10 ^ j)]
 have e6 : wval l = (wat l i / 10 ^ j + 10 * (10 ^ (8 - j) * wval (l.drop (i + 1)))) * 10 ^ (9 * i + j) := by
   rw [e1, e5, <- ten_nine, Nat.pow_add, Nat.mul_comm (10 ^ (9 * i)), Nat.mul_assoc, Nat.mul_comm (10 ^ j)]
 rw [e6]
 exact tz_mul_pow (by omega) _
theorem div_step (x j : Nat) (hd : x % 10 ^ j = 0) (hm : x / 10 ^ j % 10 = 0) : x % 10 ^ (j + 1) = 0 := by
 have e1 : x = x / 10 ^ j * 10 ^ j := by
   have := Nat.div_add_mod x (10 ^ j)
   rw [hd, Nat.mul_comm] at this; omega
 have e2 : x / 10 ^ j = 10 * (x / 10 ^ j / 10) := by omega
 have e3 : x = x / 10 ^ j / 10 * 10 ^ (j + 1) := by
   conv => lhs; rw [e1, e2]
   rw [Nat.pow_succ, Nat.mul_comm 10, Nat.mul_assoc, Nat.mul_comm 10]
 rw [e3]; exact Nat.mul_mod_left _ _
theorem div_next (x j : Nat) : x / 10 ^ j / 10 = x / 10 ^ (j + 1) := by rw [Nat.div_div_eq_div_mul, Nat.pow_succ]
theorem word_zero {x : Nat} (hx : x < 1000000000) (h : x % 10 ^ 9 = 0) : x = 0 := by rw [ten9] at h; omega
theorem noughtsBehind_ok (v : Value) (n : Nat) (w : World) (hn : 0 < n) (h : Wds w v (wds n)) (hlen : (wds n).length <= 2000000) :
   Calls Tryz.prog 182 #[v] w fun e w' => e = .returned (.int .i64 (tz n : Nat)) /\ w = w' := by
 have hpos : 0 < (wds n).length := by
   rcases Nat.eq_zero_or_pos (wds n).length with e | e
   · have := wds_nil (List.eq_nil_of_length_eq_zero e); omega
   · exact e
 have hW := wds_words n
 have hv := wval_wds n
 generalize wds n = l at *
 obtain ⟨b, off, c, rfl, h2, h3, hb, hc⟩ := h.at_ hpos
 clear h
 have HC := hid hc
 have HV := hid hv
 have HW := hid hW
 clear hc hv hW
 unfold maxLen at h3
 obtain ⟨m, hm⟩ : ∃ m, m = l.length := ⟨_, rfl⟩
 rw [<- hm] at h2 hlen hpos
 have HM := hid hm
 rw [<- hm]
 clear hm
 go_enter Tryz.func182, Tryz.ntmps182
 go_wp2_with fail
 go_step3
 go_wp2_with fail
 go_step3
 go_wp2_with fail
 go_loop [3, 8] (fun v3 v8 => ∃ i : Nat, i <= m /\ v8 = .int .i64 i /\ v3 = .int .i64 (9 * i : Nat) /\ Hid (wtk l i = 0)) (fun _ v8 => m - (intOf v8).toNat)
 case atStart => exact ⟨0, Nat.zero_le _, rfl, rfl, hid (wtk_zero l)⟩
 case round =>
   obtain ⟨i, hi, rfl, rfl, Hz⟩ := hrel
   by_cases hlt : i < m
   · have hci := HC.out i (by rw [<- HM.out]; exact hlt)
     have hx := wat_lt HW.out i
     have HT := hid (fun j => tz_words l i j (by rw [<- HM.out]; exact hlt) Hz.out)
     have HZ : Hid (wat l i = 0 -> wtk l (i + 1) = 0) := hid (fun e => by rw [wtk_succ, Hz.out, e]; simp)
     rw [HV.out] at HT
     clear HC Hz
     generalize wat l i = x at *
     go_wp2_with fail
     go_loop [3, 5, 12] (fun v3 v5 v12 => ∃ j : Nat, j <= 9 /\ v12 = .int .i64 j /\ v3 = .int .i64 (9 * i + j : Nat) /\ v5 = .int .u64 (x / 10 ^ j : Nat) /\ Hid (x % 10 ^ j = 0)) (fun _ _ v12 => 9 - (intOf v12).toNat)
     case atStart => exact ⟨0, Nat.zero_le _, rfl, rfl, by simp, hid (by simp [Nat.mod_one])⟩
     case round =>
       obtain ⟨j, hj, rfl, rfl, rfl, Hd⟩ := hrel
       by_cases hj9 : j < 9
       · have hy : x / 10 ^ j < 1000000000 := Nat.lt_of_le_of_lt (Nat.div_le_self _ _) hx
         by_cases hm0 : x / 10 ^ j % 10 = 0
         · have HD2 := hid (div_step x j Hd.out hm0)
           have HN2 := hid (div_next x j)
           clear Hd HT
           generalize x / 10 ^ j = y at *
           have hyy : (((y : Int) % 10) == 0) = true := by simp; omega
           go_wp2
           go_round
           case rel => exact ⟨j + 1, by omega, by go_num, by go_num, by rw [<- HN2.out]; go_num, HD2⟩
           case measure => simp [intOf]; omega
         · have HE := hid (HT.out j hj9 Hd.out hm0)
           clear Hd HT
           generalize x / 10 ^ j = y at *
           have hyy : (((y : Int) % 10) == 0) = false := by simp; omega
           go_wp2
           go_ret
           exact ⟨by rw [HE.out]; rfl, rfl⟩
       · obtain rfl : j = 9 := by omega
         have HZ2 := hid (HZ.out (word_zero hx Hd.out))
         clear HT HZ Hd
         go_wp2
         go_round
         case rel => exact ⟨i + 1, by omega, by go_num, by go_num, HZ2⟩
         case measure => simp [intOf]; omega
   · exfalso
     obtain rfl : i = m := by omega
     have := Hz.out
     rw [wtk_all l (by rw [HM.out]; exact Nat.le_refl _), HV.out] at this
     omega
theorem infoDec : (Tryz.prog.info? 24).map (·.size) = some 3 := by kernel_rfl
theorem dig_len (n : Nat) : (dig n).length <= 9 * (wds n).length := by
 rcases Nat.eq_zero_or_pos n with h | h
 · rw [h]; simp [dig_zero]
 · have h1 := wval_lt (wds_words n)
   rw [wval_wds, <- ten_nine] at h1
   have h2 : 0 < (wds n).length := by
     rcases Nat.eq_zero_or_pos (wds n).length with e | e
     · have := wds_nil (List.eq_nil_of_length_eq_zero e); omega
     · exact e
   rw [dig_pos h]
   exact decDigits_len (by omega) h1
theorem results_row_tmp {fn : Func} {p u : Tmp} {ty : TypeId} {P : Program} (h : fn.results = #[.cell p ty, .tmp u]) (tmps : Array Value) (w : World) (g : Nat) (cs : Array Value)
   (hp : tmps.getD p undef = .pointer (some ⟨g, 0, none⟩)) (hr : (loadVar ty ⟨g, 0, none⟩).run P w = .ok (.agg cs) w) :
   (results fn tmps).run P w = .ok (.tuple #[.agg cs, tmps.getD u undef]) w := by
 rw [results_cell_tmp h, hp]
 simp [asAddr, Result.andThen, hr]
theorem load_dec {w : World} {g : Nat} {cs : Array Value} (h : Row w g 24 cs) (hs : cs.size = 3) : (loadVar 24 ⟨g, 0, none⟩).run Tryz.prog w = .ok (.agg cs) w :=
 run_loadVar_row w g 24 24 cs (0, 0) _ h Tryz.underlying24 rfl (by rw [hs]; exact infoDec)
def Told (w : World) (d : Dec) (k : Nat) (e : Ending) (w' : World) : Prop := e = .returned (.tuple #[decV d, .int .i64 (k : Int)]) /\ Below w.heap.size w w'
theorem told_zero (neg : Bool) (A : Option Addr) (c : Nat) (exp : Int) (w : World) :
   Calls Tryz.prog 162 #[.bool neg, .slice A 0 c, .int .i64 exp] w (Told w Dec.zero 0) := by
 have hb : Below w.heap.size w (w.alloc (.cells #[.bool false, .string ⟨#[]⟩, .int .i64 0] 24)) := (Below.refl _ _).alloc (Nat.le_refl _) _
 have hr : Row (w.alloc (.cells #[.bool false, .string ⟨#[]⟩, .int .i64 0] 24)) w.heap.size 24 #[.bool false, .string ⟨#[]⟩, .int .i64 0] := Row.new _ _ _
 have HB := hid hb
 have HR := hid hr
 clear hb hr
 go_enter Tryz.func162, Tryz.ntmps162
 go_wp2_with fail
 refine bodyPost_ret_by (results_row_tmp rfl _ _ w.heap.size #[.bool false, .string ⟨#[]⟩, .int .i64 0] rfl (load_dec HR.out rfl)) rfl ?_
 exact ⟨rfl, HB.out⟩
theorem told_some (neg : Bool) (A : Option Addr) (c N n : Nat) (exp : Int) (w : World) (hn : 0 < n) (hN : (wds n).length = N) (h : Wds w (.slice A N c) (wds n)) (hlen : N <= 100000) (hT : PowTab w) (h1 : -1000000000 <= exp) (h2 : exp <= 1000000000) :
   Calls Tryz.prog 162 #[.bool neg, .slice A N c, .int .i64 exp] w (Told w (mkD neg n exp) (mkE neg n exp)) := by
 have hNp : 0 < N := by
   rcases Nat.eq_zero_or_pos N with e | e
   · rw [e] at hN; have := wds_nil (List.eq_nil_of_length_eq_zero hN); omega
   · exact e
 have hdl := dig_len n
 rw [hN] at hdl
 have htz : tz n <= (dig n).length := by have := tz_le (dig_digs n); rwa [num_dig] at this
 have hdc : (dig n).length = (dig (core n)).length + tz n := by
   have := congrArg List.length (dig_core hn)
   rw [List.length_append, List.length_replicate] at this
   exact this
 have HTK : Hid ((dig n).take (dig (core n)).length = dig (core n)) := hid (by
   conv => lhs; rw [dig_core hn]
   exact List.take_left)
 have HDEC : Hid (dec neg n exp = ⟨neg, dig (core n), exp + tz n⟩) := hid (dec_pos neg hn exp)
 have hcl : (dig (core n)).length <= 900000 := by omega
 have HW := hid h
 have HNL := hid hN
 obtain ⟨w0, hw0⟩ : ∃ w0, w0 = w.alloc (.cells #[.bool false, .string ⟨#[]⟩, .int .i64 0] 24) := ⟨_, rfl⟩
 have hb0 : Below w.heap.size w w0 := by subst hw0; exact (Below.refl _ _).alloc (Nat.le_refl _) _
 have hr0 : Row w0 w.heap.size 24 #[.bool false, .string ⟨#[]⟩, .int .i64 0] := by subst hw0; exact Row.new _ _ _
 have HB0 := hid hb0
 have HR0 := hid hr0
 have HT := hid hT
 have hN0 : ((N : Int) == 0) = false := by rw [beq_eq_false_iff_ne]; omega
 clear hb0 hr0 h hN hT
 go_enter Tryz.func162, Tryz.ntmps162
 go_upto_region 1 with fail
 rw [<- hw0]
 clear hw0
 go_wp2_with fail
 refine (noughtsBehind_ok _ n w0 hn (HW.out.below HB0.out) (by rw [HNL.out]; omega)).mono ?_
 rintro e w1 ⟨rfl, rfl⟩
 go_wp2_with fail
 refine (digitsOf_ok _ n w0 hn (HW.out.below HB0.out) (by rw [HNL.out]; omega) (HT.out.below HB0.out)).mono ?_
 rintro e w2 ⟨v, rfl, hl, hb2⟩
 obtain ⟨A2, c2, rfl, hc21, hc22⟩ := hl.form
 unfold maxLen at hc22
 have HR2 := hid (HR0.out.call hb2)
 have HB2 := hid (HB0.out.call hb2)
 have hH : Holds w2 A2 (dig n).length 1 (u8s (dig n)) := by
   obtain ⟨A9, c9, e9, _, _, h9⟩ := hl.holds
   injection e9 with e1 e2 e3
   subst e1
   exact h9
 have HH := hid hH
 clear hl hb2 HB0 HR0 hH HW HT HNL
 obtain ⟨dl, hdl0⟩ : ∃ dl, dl = (dig n).length := ⟨_, rfl⟩
 obtain ⟨cl, hcl0⟩ : ∃ cl, cl = (dig (core n)).length := ⟨_, rfl⟩
 rw [<- hdl0, <- hcl0] at hdc
 rw [<- hdl0] at hdl htz hc21
 rw [<- hcl0] at hcl
 have HDL := hid hdl0
 have HCL := hid hcl0
 rw [<- hdl0]
 have HCV : Hid (∀ W, Below w2.heap.size w2 W -> (convert 35 9 (.slice A2 cl c2)).run Tryz.prog W = .ok (.string (bs (dig (core n)))) W) := hid fun W hb => by
   rw [HCL.out]
   refine run_text_bs ?_ 35 9 5 c2 Tryz.underlying35 Tryz.underlying5 Tryz.underlying9
   refine ⟨by simp [u8s_length], fun h0 => ?_⟩
   obtain ⟨b, off, e, hb9, hr⟩ := (HH.out.below hb).2 (by rw [<- HDL.out]; rw [<- HCL.out] at h0; omega)
   refine ⟨b, off, e, hb9, fun j u hu => hr j u ?_⟩
   rw [<- HTK.out] at hu
   unfold u8s at hu ⊢
   rw [List.map_take] at hu
   by_cases hj : j < (dig (core n)).length
   · rwa [List.getElem?_take_of_lt hj] at hu
   · rw [List.getElem?_eq_none (by rw [List.length_take]; omega)] at hu; cases hu
 clear hdl0 hcl0
 have hcv := HCV.out w2 (Below.refl _ _)
 go_wp2_with fail
 have hl9 : (dig (core n)).length <= 9223372036854775806 := by rw [<- HCL.out]; omega
 have hck := fun W => check_ok ⟨neg, dig (core n), exp + tz n⟩ W hl9
 have HMK : Hid (mayB ⟨neg, dig (core n), exp + tz n⟩ = true -> mkD neg n exp = ⟨neg, dig (core n), exp + tz n⟩ /\ mkE neg n exp = 0) := hid fun h => by
   unfold mkD mkE
   rw [HDEC.out, if_pos h, if_pos h]
   exact ⟨rfl, rfl⟩
 have HMN : Hid (mayB ⟨neg, dig (core n), exp + tz n⟩ = false -> mkD neg n exp = Dec.zero /\ mkE neg n exp = 4) := hid fun h => by
   unfold mkD mkE
   rw [HDEC.out, h]
   exact ⟨rfl, rfl⟩
 obtain ⟨w3, hw3⟩ : ∃ w3, w3 = w2.alloc (.cells #[.bool neg, .string (bs (dig (core n))), .int .i64 (exp + tz n)] 24) := ⟨_, rfl⟩
 have hb3 : Below w2.heap.size w2 w3 := by subst hw3; exact (Below.refl _ _).alloc (Nat.le_refl _) _
 have hr3 : Row w3 w2.heap.size 24 #[.bool neg, .string (bs (dig (core n))), .int .i64 (exp + tz n)] := by subst hw3; exact Row.new _ _ _
 have HR3 := hid hr3
 have HR03 := hid (HR2.out.call hb3)
 have HB3 := hid (HB2.out.call hb3)
 rw [<- hw3]
 clear hw3 hb3 hr3 hcv HCV HH HR2 HB2 HDEC HTK
 unfold decV at hck
 simp only at hck
 obtain ⟨s, hs⟩ : ∃ s, s = bs (dig (core n)) := ⟨_, rfl⟩
 have HSX := hid hs
 rw [<- hs] at HR3 ⊢
 simp only [<- hs] at hck
 clear hs
 refine (hck w3).mono ?_
 rintro e w4 ⟨rfl, hb4⟩
 have hr4 := HR3.out.call hb4
 have hr04 := HR03.out.call hb4
 have HB4 := hid (HB3.out.call hb4)
 have x0 := hr4.cell (i := 0) (v := .bool neg) rfl
 have x1 := hr4.cell (i := 1) (v := .string s) rfl
 have x2 := hr4.cell (i := 2) (v := .int .i64 (exp + tz n)) rfl
 have y0 := hr04.cell (i := 0) (v := .bool false) rfl
 have y1 := hr04.cell (i := 1) (v := .string ⟨#[]⟩) rfl
 have y2 := hr04.cell (i := 2) (v := .int .i64 0) rfl
 have g0 := hr04.free 0
 have g1 := hr04.free 1
 have g2 := hr04.free 2
 have HR04 := hid hr04
 clear hb4 hr4 hr04 HR3 HR03 HB3 hck
 cases hmb : mayB ⟨neg, dig (core n), exp + tz n⟩ with
 | true =>
   obtain ⟨hm1, hm2⟩ := HMK.out hmb
   have HM1 := hid hm1
   have HM2 := hid hm2
   rw [checkE_yes hmb]
   clear hmb hm1 hm2 HMK HMN
   go_wp2_with fail
   have hrow : Row (((w4.setCell ⟨w.heap.size, 0, none⟩ (.bool neg)).setCell ⟨w.heap.size, 1, none⟩ (.string s)).setCell ⟨w.heap.size, 2, none⟩ (.int .i64 (exp + tz n))) w.heap.size 24 #[.bool neg, .string s, .int .i64 (exp + tz n)] := by
     simpa using ((HR04.out.set_ 0 (.bool neg)).set_ 1 (.string s)).set_ 2 (.int .i64 (exp + tz n))
   refine bodyPost_ret_by (results_row_tmp rfl _ _ w.heap.size #[.bool neg, .string s, .int .i64 (exp + tz n)] rfl (load_dec hrow rfl)) rfl ?_
   exact ⟨by rw [HM1.out, HM2.out, HSX.out]; rfl, ((HB4.out.setCell (p := ⟨w.heap.size, 0, none⟩) (Nat.le_refl _) _).setCell (p := ⟨w.heap.size, 1, none⟩) (Nat.le_refl _) _).setCell (p := ⟨w.heap.size, 2, none⟩) (Nat.le_refl _) _⟩
 | false =>
   obtain ⟨hm1, hm2⟩ := HMN.out hmb
   have HM1 := hid hm1
   have HM2 := hid hm2
   rw [checkE_no hmb]
   clear hmb hm1 hm2 HMK HMN
   go_wp2_with fail
   have hrow : Row (((w4.setCell ⟨w.heap.size, 0, none⟩ (.bool false)).setCell ⟨w.heap.size, 1, none⟩ (.string ⟨#[]⟩)).setCell ⟨w.heap.size, 2, none⟩ (.int .i64 0)) w.heap.size 24 #[.bool false, .string ⟨#[]⟩, .int .i64 0] := by
     simpa using ((HR04.out.set_ 0 (.bool false)).set_ 1 (.string ⟨#[]⟩)).set_ 2 (.int .i64 0)
   refine bodyPost_ret_by (results_row_tmp rfl _ _ w.heap.size #[.bool false, .string ⟨#[]⟩, .int .i64 0] rfl (load_dec hrow rfl)) rfl ?_
   exact ⟨by rw [HM1.out, HM2.out]; rfl, ((HB4.out.setCell (p := ⟨w.heap.size, 0, none⟩) (Nat.le_refl _) _).setCell (p := ⟨w.heap.size, 1, none⟩) (Nat.le_refl _) _).setCell (p := ⟨w.heap.size, 2, none⟩) (Nat.le_refl _) _⟩
theorem told_ok (neg : Bool) (v : Value) (n : Nat) (exp : Int) (w : World) (h : Wds w v (wds n)) (hlen : (wds n).length <= 100000) (hT : PowTab w) (h1 : -1000000000 <= exp) (h2 : exp <= 1000000000) :
   Calls Tryz.prog 162 #[.bool neg, v, .int .i64 exp] w (Told w (mkD neg n exp) (mkE neg n exp)) := by
 have h' := h
 obtain ⟨_, A, c, rfl, _⟩ := h'
 rcases Nat.eq_zero_or_pos n with e | e
 · subst e
   rw [mk_zero, mkE_zero]
   rw [wds_zero]
   exact told_zero neg A c exp w
 · exact told_some neg A c _ n exp w e rfl h hlen hT h1 h2
def RdAt (w : World) (p : Nat) (l : List UInt8) (k : Nat) : Prop := Row w p 178 #[.string (bs l), .int .i64 (k : Int)]
def digAt (l : List UInt8) (k : Nat) : Bool := decide (k < l.length) && isDig (l.getD k 0)
theorem digit_ok (p : Nat) (l : List UInt8) (k : Nat) (w : World) (h : RdAt w p l k) :
   Calls Tryz.prog 160 #[.pointer (some ⟨p, 0, none⟩)] w fun e w' => e = .returned (.bool (digAt l k)) /\ Below w.heap.size w w' := by
 have c0 := h.cell (i := 0) (v := .string (bs l)) rfl
 have c1 := h.cell (i := 1) (v := .int .i64 (k : Int)) rfl
 have hs := bs_size l
 have hc0 : ∀ W : World, Below w.heap.size w W -> W.cell? ⟨p, 0, none⟩ = some (.string (bs l)) := fun W hb => (hb.cell (p := ⟨p, 0, none⟩) h.lt).trans c0
 have hc1 : ∀ W : World, Below w.heap.size w W -> W.cell? ⟨p, 1, none⟩ = some (.int .i64 (k : Int)) := fun W hb => (hb.cell (p := ⟨p, 1, none⟩) h.lt).trans c1
 clear h
 by_cases hk : k < l.length
 · have HD : Hid (digAt l k = isDig (l.getD k 0)) := hid (by unfold digAt; simp [hk])
   have hi : ∀ W : World, (Instr.index 9 (.string (bs l)) (.int .i64 (k : Int))).run Tryz.prog W = .ok (.int .u8 (byteAt l k : Int)) W := fun W => run_byte _ Tryz.underlying9 l k hk W
   have HI := isDigit_at l k
   generalize isDig (l.getD k 0) = b at *
   generalize byteAt l k = y at *
   have hlt : decide ((k : Int) < (l.length : Int)) = true := by simp; omega
   go_enter Tryz.func160, Tryz.ntmps160
   go_wp2_with fail
   have hb0 : Below w.heap.size w w := Below.refl _ _
   go_region_held3 (fun W => Below w.heap.size w W) (first | exact Below.refl _ _ | exact (Below.refl _ _).drew | assumption | (exact Below.call (by assumption) (by assumption)))
     (first
       | (go_at_call 91; refine (HI _).mono ?_; rintro e w' ⟨rfl, rfl⟩))
   go_wp2
   go_ret
   exact ⟨by rw [HD.out]; rfl, (Below.refl _ _).drew⟩
 · have HD : Hid (digAt l k = false) := hid (by unfold digAt; simp [hk])
   have hlt : decide ((k : Int) < (l.length : Int)) = false := by simp; omega
   go_enter Tryz.func160, Tryz.ntmps160
   go_wp2_with fail
   go_quiet (fail)
   go_wp2
   go_ret
   exact ⟨by rw [HD.out]; rfl, below_drewN (Below.refl _ _) _⟩
def Went (p : Nat) (l : List UInt8) (k : Nat) (w w' : World) : Prop := RdAt w' p l k /\ Kept (· = p) w w'
theorem next_ok (p : Nat) (l : List UInt8) (k : Nat) (w : World) (h : RdAt w p l k) (hk : k < l.length) (hl : l.length <= 9223372036854775806) :
   Calls Tryz.prog 161 #[.pointer (some ⟨p, 0, none⟩)] w fun e w' => e = .returned (.int .u8 (byteAt l k : Int)) /\ Went p l (k + 1) w w' := by
 have c0 := h.cell (i := 0) (v := .string (bs l)) rfl
 have c1 := h.cell (i := 1) (v := .int .i64 (k : Int)) rfl
 have f1 := h.free 1
 obtain ⟨w1, hw1⟩ : ∃ w1, w1 = w.setCell ⟨p, 1, none⟩ (.int .i64 ((k + 1 : Nat) : Int)) := ⟨_, rfl⟩
 have h1 : RdAt w1 p l (k + 1) := by subst hw1; simpa [RdAt] using h.set_ 1 (.int .i64 ((k + 1 : Nat) : Int))
 have hk1 : Kept (· = p) w w1 := by subst hw1; exact Kept.cell _ _ _ _
 have HW : Hid (w.setCell ⟨p, 1, none⟩ (.int .i64 ((k : Int) + 1)) = w1) := hid (by rw [hw1]; rfl)
 have hc0 : ∀ W : World, Below w1.heap.size w1 W -> W.cell? ⟨p, 0, none⟩ = some (.string (bs l)) := fun W hb => (hb.cell (p := ⟨p, 0, none⟩) h1.lt).trans (h1.cell (i := 0) rfl)
 have hc1 : ∀ W : World, Below w1.heap.size w1 W -> W.cell? ⟨p, 1, none⟩ = some (.int .i64 ((k : Int) + 1)) := fun W hb => (hb.cell (p := ⟨p, 1, none⟩) h1.lt).trans (h1.cell (i := 1) rfl)
 have hi : ∀ W : World, (Instr.index 9 (.string (bs l)) (.int .i64 (k : Int))).run Tryz.prog W = .ok (.int .u8 (byteAt l k : Int)) W := fun W => run_byte _ Tryz.underlying9 l k hk W
 have H1 := hid h1
 have HK1 := hid hk1
 clear hw1 h h1 hk1
 generalize byteAt l k = y at *
 go_enter Tryz.func161, Tryz.ntmps161
 go_wp2_with fail
 rw [HW.out]
 have k0 := hc0 w1 (Below.refl _ _)
 have k1 := hc1 w1 (Below.refl _ _)
 go_quiet (fail)
 go_wp2
 go_ret
 exact ⟨rfl, H1.out.drewN _, HK1.out.drewN _⟩
def takeAt (these l : List UInt8) (k : Nat) : Bool := decide (k < l.length) && these.contains (l.getD k 0)
theorem takeAt_head (these l : List UInt8) (k : Nat) : takeAt these l k = match (l.drop k).head? with | some b => these.contains b | none => false := by
 unfold takeAt
 by_cases h : k < l.length
 · simp [h, List.getD]
 · simp [h]
theorem take_ok (p : Nat) (these l : List UInt8) (k : Nat) (w : World) (h : RdAt w p l k) (hl : l.length <= 9223372036854775806) :
   Calls Tryz.prog 159 #[.pointer (some ⟨p, 0, none⟩), .string (bs these)] w fun e w' => e = .returned (.bool (takeAt these l k)) /\ Went p l (if takeAt these l k then k + 1 else k) w w' := by
 have c0 := h.cell (i := 0) (v := .string (bs l)) rfl
 have c1 := h.cell (i := 1) (v := .int .i64 (k : Int)) rfl
 have f1 := h.free 1
 have hs := bs_size l
 have H := hid h
 clear h
 by_cases hk : k < l.length
 · have hi : ∀ W : World, (Instr.index 9 (.string (bs l)) (.int .i64 (k : Int))).run Tryz.prog W = .ok (.int .u8 (byteAt l k : Int)) W := fun W => run_byte _ Tryz.underlying9 l k hk W
   have hlt : decide ((k : Int) < (l.length : Int)) = true := by simp; omega
   obtain ⟨x, hx⟩ : ∃ x, x = Lib.indexByte these (l.getD k 0) := ⟨_, rfl⟩
   have hT : takeAt these l k = decide (0 <= x) := by
     unfold takeAt
     rw [Lib.contains_iff_indexByte, hx]; simp [hk]
   have HIB : Hid (∀ W, Calls Tryz.prog 123 #[.string (bs these), .int .u8 (byteAt l k : Int)] W fun e w' => e = .returned (.int .i64 x) /\ w' = W) := hid fun W => by
     have := Tryz.strings_IndexByte (bs these) (byteAt l k : Int) W
     have e : ((byteAt l k : Int)).toNat.toUInt8 = l.getD k 0 := by unfold byteAt; simp
     rw [e] at this
     rw [hx]; exact this
   have HT := hid hT
   clear hT hx
   generalize byteAt l k = y at *
   by_cases hx0 : 0 <= x
   · rw [HT.out, decide_eq_true hx0, if_pos rfl]
     have hdx : decide ((0 : Int) <= x) = true := by simpa using hx0
     go_enter Tryz.func159, Tryz.ntmps159
     go_wp2_with fail
     go_quiet ((go_at_call 123; exact Calls.quiet_of_same ((HIB.out _).mono fun _ _ h => ⟨h.1, h.2⟩)))
     go_wp2
     go_ret
     refine ⟨rfl, ?_, ?_⟩
     · simpa [RdAt] using (H.out.drewN nq).set_ 1 (.int .i64 ((k + 1 : Nat) : Int))
     · exact (Kept.refl _ _).drewN _ |>.trans' (Kept.cell _ _ _ _)
   · rw [HT.out, decide_eq_false hx0]
     have hdx : decide ((0 : Int) <= x) = false := by simpa using hx0
     go_enter Tryz.func159, Tryz.ntmps159
     go_wp2_with fail
     go_quiet ((go_at_call 123; exact Calls.quiet_of_same ((HIB.out _).mono fun _ _ h => ⟨h.1, h.2⟩)))
     go_wp2
     go_ret
     exact ⟨rfl, H.out.drewN _, (Kept.refl _ _).drewN _⟩
 · have hT : takeAt these l k = false := by unfold takeAt; simp [hk]
   have hlt : decide ((k : Int) < (l.length : Int)) = false := by simp; omega
   rw [hT]
   go_enter Tryz.func159, Tryz.ntmps159
   go_wp2_with fail
   go_quiet (fail)
   go_wp2
   go_ret
   exact ⟨rfl, H.out.drewN _, (Kept.refl _ _).drewN _⟩
end Go.Proofs.YtmhbkjjkalnggaaGreatDoor
