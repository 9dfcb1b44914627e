/- Layer 7: told: the decimal of words, times 10 to a power. -/
import Derived.Test.YtjckojedafajeaaGreatDoorPt08
import Derived.Test.YtjckojedafajeaaGreatDoorPt09
import Derived.Deep.Slices
import Derived.StillTailTactics
import Derived.Lib.IndexAny
namespace Go.Proofs.YtjckojedafajeaaGreatDoor
open Go.RowKit

theorem infoDec : (Tryz.prog.info? 26).map (·.size) = some 3 := by kernel_rfl
theorem dig_len (n : Nat) : (dig n).length ≤ 9 * (wds n).length := by
  rcases Nat.eq_zero_or_pos n with h | h
  · rw [h]; simp [dig_zero]
  · have h1 := wval_lt (wds_words n)
    rw [wval_wds, ← ten_nine] at h1
    have h2 : 0 < (wds n).length := by
      rcases Nat.eq_zero_or_pos (wds n).length with e | e
      · have := wds_nil (List.eq_nil_of_length_eq_zero e); omega
      · exact e
    rw [dig_pos h]
    exact decDigits_len (by omega) h1
theorem results_row_tmp {fn : Func} {p u : Tmp} {ty : TypeId} {P : Program} (h : fn.results = #[.cell p ty, .tmp u]) (tmps : Array Value) (w : World) (g : Nat) (cs : Array Value)
    (hp : tmps.getD p undef = .pointer (some ⟨g, 0, none⟩)) (hr : (loadVar ty ⟨g, 0, none⟩).run P w = .ok (.agg cs) w) :
    (results fn tmps).run P w = .ok (.tuple #[.agg cs, tmps.getD u undef]) w := by
  rw [results_cell_tmp h, hp]
  simp [asAddr, Result.andThen, hr]
theorem load_dec {w : World} {g : Nat} {cs : Array Value} (h : Row w g 26 cs) (hs : cs.size = 3) : (loadVar 26 ⟨g, 0, none⟩).run Tryz.prog w = .ok (.agg cs) w :=
  run_loadVar_row w g 26 26 cs (0, 0) _ h Tryz.underlying26 rfl (by rw [hs]; exact infoDec)
/-- A decimal, and the number of an error. -/
def Told (w : World) (d : Dec) (k : Nat) (e : Ending) (w' : World) : Prop := e = .returned (.tuple #[decV d, .int .i64 (k : Int)]) ∧ Below w.heap.size w w'

set_option maxHeartbeats 2000000 in
theorem told_zero (neg : Bool) (A : Option Addr) (c : Nat) (exp : Int) (w : World) :
    Calls Tryz.prog 157 #[.bool neg, .slice A 0 c, .int .i64 exp] w (Told w Dec.zero 0) := by
  have hb : Below w.heap.size w (w.alloc (.cells #[.bool false, .string ⟨#[]⟩, .int .i64 0] 26)) := (Below.refl _ _).alloc (Nat.le_refl _) _
  have hr : Row (w.alloc (.cells #[.bool false, .string ⟨#[]⟩, .int .i64 0] 26)) w.heap.size 26 #[.bool false, .string ⟨#[]⟩, .int .i64 0] := Row.new _ _ _
  have HB := Lib.hid hb
  have HR := Lib.hid hr
  clear hb hr
  go_enter Tryz.func157, Tryz.ntmps157
  go_wp2_with fail
  refine bodyPost_ret_by (results_row_tmp rfl _ _ w.heap.size #[.bool false, .string ⟨#[]⟩, .int .i64 0] rfl (load_dec HR.out rfl)) rfl ?_
  exact ⟨rfl, HB.out⟩

set_option maxHeartbeats 4000000 in
theorem told_some (neg : Bool) (A : Option Addr) (c N n : Nat) (exp : Int) (w : World) (hn : 0 < n) (hN : (wds n).length = N) (h : Wds w (.slice A N c) (wds n)) (hlen : N ≤ 100000) (hT : PowTab w) (h1 : -1000000000 ≤ exp) (h2 : exp ≤ 1000000000) :
    Calls Tryz.prog 157 #[.bool neg, .slice A N c, .int .i64 exp] w (Told w (mkD neg n exp) (mkE neg n exp)) := by
  have hNp : 0 < N := by
    rcases Nat.eq_zero_or_pos N with e | e
    · rw [e] at hN; have := wds_nil (List.eq_nil_of_length_eq_zero hN); omega
    · exact e
  have hdl := dig_len n
  rw [hN] at hdl
  have htz : tz n ≤ (dig n).length := by have := tz_le (dig_digs n); rwa [num_dig] at this
  have hdc : (dig n).length = (dig (core n)).length + tz n := by
    have := congrArg List.length (dig_core hn)
    rw [List.length_append, List.length_replicate] at this
    exact this
  have HTK : Hid ((dig n).take (dig (core n)).length = dig (core n)) := Lib.hid (by
    conv => lhs; rw [dig_core hn]
    exact List.take_left)
  have HDEC : Hid (dec neg n exp = ⟨neg, dig (core n), exp + tz n⟩) := Lib.hid (dec_pos neg hn exp)
  have hcl : (dig (core n)).length ≤ 900000 := by omega
  have HW := Lib.hid h
  have HNL := Lib.hid hN
  obtain ⟨w0, hw0⟩ : ∃ w0, w0 = w.alloc (.cells #[.bool false, .string ⟨#[]⟩, .int .i64 0] 26) := ⟨_, rfl⟩
  have hb0 : Below w.heap.size w w0 := by subst hw0; exact (Below.refl _ _).alloc (Nat.le_refl _) _
  have hr0 : Row w0 w.heap.size 26 #[.bool false, .string ⟨#[]⟩, .int .i64 0] := by subst hw0; exact Row.new _ _ _
  have HB0 := Lib.hid hb0
  have HR0 := Lib.hid hr0
  have HT := Lib.hid hT
  have hN0 : ((N : Int) == 0) = false := by rw [beq_eq_false_iff_ne]; omega
  clear hb0 hr0 h hN hT
  go_enter Tryz.func157, Tryz.ntmps157
  go_upto_region 1 with fail
  rw [← hw0]
  clear hw0
  go_wp2_with fail
  refine (noughtsBehind_ok _ n w0 hn (HW.out.below HB0.out) (by rw [HNL.out]; omega)).mono ?_
  rintro e w1 ⟨rfl, rfl⟩
  go_wp2_with fail
  refine (digitsOf_ok _ n w0 hn (HW.out.below HB0.out) (by rw [HNL.out]; omega) (HT.out.below HB0.out)).mono ?_
  rintro e w2 ⟨v, rfl, hl, hb2⟩
  obtain ⟨A2, c2, rfl, hc21, hc22⟩ := hl.form
  unfold maxLen at hc22
  have HR2 := Lib.hid (HR0.out.call hb2)
  have HB2 := Lib.hid (HB0.out.call hb2)
  have hH : Holds w2 A2 (dig n).length 1 (u8s (dig n)) := by
    obtain ⟨A9, c9, e9, _, _, h9⟩ := hl.holds
    injection e9 with e1 e2 e3
    subst e1
    exact h9
  have HH := Lib.hid hH
  clear hl hb2 HB0 HR0 hH HW HT HNL
  obtain ⟨dl, hdl0⟩ : ∃ dl, dl = (dig n).length := ⟨_, rfl⟩
  obtain ⟨cl, hcl0⟩ : ∃ cl, cl = (dig (core n)).length := ⟨_, rfl⟩
  rw [← hdl0, ← hcl0] at hdc
  rw [← hdl0] at hdl htz hc21
  rw [← hcl0] at hcl
  have HDL := Lib.hid hdl0
  have HCL := Lib.hid hcl0
  rw [← hdl0]
  have HCV : Hid (∀ W, Below w2.heap.size w2 W → (convert 22 9 (.slice A2 cl c2)).run Tryz.prog W = .ok (.string (bs (dig (core n)))) W) := Lib.hid fun W hb => by
    rw [HCL.out]
    refine run_text_bs ?_ 22 9 5 c2 Tryz.underlying22 Tryz.underlying5 Tryz.underlying9
    refine ⟨by simp [u8s_length], fun h0 => ?_⟩
    obtain ⟨b, off, e, hb9, hr⟩ := (HH.out.below hb).2 (by rw [← HDL.out]; rw [← HCL.out] at h0; omega)
    refine ⟨b, off, e, hb9, fun j u hu => hr j u ?_⟩
    rw [← HTK.out] at hu
    unfold u8s at hu ⊢
    rw [List.map_take] at hu
    by_cases hj : j < (dig (core n)).length
    · rwa [List.getElem?_take_of_lt hj] at hu
    · rw [List.getElem?_eq_none (by rw [List.length_take]; omega)] at hu; cases hu
  clear hdl0 hcl0
  have hcv := HCV.out w2 (Below.refl _ _)
  go_wp2_with fail
  have hl9 : (dig (core n)).length ≤ 9223372036854775806 := by rw [← HCL.out]; omega
  have hck := fun W => check_ok ⟨neg, dig (core n), exp + tz n⟩ W hl9
  have HMK : Hid (mayB ⟨neg, dig (core n), exp + tz n⟩ = true → mkD neg n exp = ⟨neg, dig (core n), exp + tz n⟩ ∧ mkE neg n exp = 0) := Lib.hid fun h => by
    unfold mkD mkE
    rw [HDEC.out, if_pos h, if_pos h]
    exact ⟨rfl, rfl⟩
  have HMN : Hid (mayB ⟨neg, dig (core n), exp + tz n⟩ = false → mkD neg n exp = Dec.zero ∧ mkE neg n exp = 4) := Lib.hid fun h => by
    unfold mkD mkE
    rw [HDEC.out, h]
    exact ⟨rfl, rfl⟩
  obtain ⟨w3, hw3⟩ : ∃ w3, w3 = w2.alloc (.cells #[.bool neg, .string (bs (dig (core n))), .int .i64 (exp + tz n)] 26) := ⟨_, rfl⟩
  have hb3 : Below w2.heap.size w2 w3 := by subst hw3; exact (Below.refl _ _).alloc (Nat.le_refl _) _
  have hr3 : Row w3 w2.heap.size 26 #[.bool neg, .string (bs (dig (core n))), .int .i64 (exp + tz n)] := by subst hw3; exact Row.new _ _ _
  have HR3 := Lib.hid hr3
  have HR03 := Lib.hid (HR2.out.call hb3)
  have HB3 := Lib.hid (HB2.out.call hb3)
  rw [← hw3]
  clear hw3 hb3 hr3 hcv HCV HH HR2 HB2 HDEC HTK
  unfold decV at hck
  simp only at hck
  obtain ⟨s, hs⟩ : ∃ s, s = bs (dig (core n)) := ⟨_, rfl⟩
  have HSX := Lib.hid hs
  rw [← hs] at HR3 ⊢
  simp only [← hs] at hck
  clear hs
  refine (hck w3).mono ?_
  rintro e w4 ⟨rfl, hb4⟩
  have hr4 := HR3.out.call hb4
  have hr04 := HR03.out.call hb4
  have HB4 := Lib.hid (HB3.out.call hb4)
  have x0 := hr4.cell (i := 0) (v := .bool neg) rfl
  have x1 := hr4.cell (i := 1) (v := .string s) rfl
  have x2 := hr4.cell (i := 2) (v := .int .i64 (exp + tz n)) rfl
  have y0 := hr04.cell (i := 0) (v := .bool false) rfl
  have y1 := hr04.cell (i := 1) (v := .string ⟨#[]⟩) rfl
  have y2 := hr04.cell (i := 2) (v := .int .i64 0) rfl
  have g0 := hr04.free 0
  have g1 := hr04.free 1
  have g2 := hr04.free 2
  have HR04 := Lib.hid hr04
  clear hb4 hr4 hr04 HR3 HR03 HB3 hck
  cases hmb : mayB ⟨neg, dig (core n), exp + tz n⟩ with
  | true =>
    obtain ⟨hm1, hm2⟩ := HMK.out hmb
    have HM1 := Lib.hid hm1
    have HM2 := Lib.hid hm2
    rw [checkE_yes hmb]
    clear hmb hm1 hm2 HMK HMN
    go_wp2_with fail
    have hrow : Row (((w4.setCell ⟨w.heap.size, 0, none⟩ (.bool neg)).setCell ⟨w.heap.size, 1, none⟩ (.string s)).setCell ⟨w.heap.size, 2, none⟩ (.int .i64 (exp + tz n))) w.heap.size 26 #[.bool neg, .string s, .int .i64 (exp + tz n)] := by
      simpa using ((HR04.out.set_ 0 (.bool neg)).set_ 1 (.string s)).set_ 2 (.int .i64 (exp + tz n))
    refine bodyPost_ret_by (results_row_tmp rfl _ _ w.heap.size #[.bool neg, .string s, .int .i64 (exp + tz n)] rfl (load_dec hrow rfl)) rfl ?_
    exact ⟨by rw [HM1.out, HM2.out, HSX.out]; rfl, ((HB4.out.setCell (p := ⟨w.heap.size, 0, none⟩) (Nat.le_refl _) _).setCell (p := ⟨w.heap.size, 1, none⟩) (Nat.le_refl _) _).setCell (p := ⟨w.heap.size, 2, none⟩) (Nat.le_refl _) _⟩
  | false =>
    obtain ⟨hm1, hm2⟩ := HMN.out hmb
    have HM1 := Lib.hid hm1
    have HM2 := Lib.hid hm2
    rw [checkE_no hmb]
    clear hmb hm1 hm2 HMK HMN
    go_wp2_with fail
    have hrow : Row (((w4.setCell ⟨w.heap.size, 0, none⟩ (.bool false)).setCell ⟨w.heap.size, 1, none⟩ (.string ⟨#[]⟩)).setCell ⟨w.heap.size, 2, none⟩ (.int .i64 0)) w.heap.size 26 #[.bool false, .string ⟨#[]⟩, .int .i64 0] := by
      simpa using ((HR04.out.set_ 0 (.bool false)).set_ 1 (.string ⟨#[]⟩)).set_ 2 (.int .i64 0)
    refine bodyPost_ret_by (results_row_tmp rfl _ _ w.heap.size #[.bool false, .string ⟨#[]⟩, .int .i64 0] rfl (load_dec hrow rfl)) rfl ?_
    exact ⟨by rw [HM1.out, HM2.out]; rfl, ((HB4.out.setCell (p := ⟨w.heap.size, 0, none⟩) (Nat.le_refl _) _).setCell (p := ⟨w.heap.size, 1, none⟩) (Nat.le_refl _) _).setCell (p := ⟨w.heap.size, 2, none⟩) (Nat.le_refl _) _⟩
theorem told_ok (neg : Bool) (v : Value) (n : Nat) (exp : Int) (w : World) (h : Wds w v (wds n)) (hlen : (wds n).length ≤ 100000) (hT : PowTab w) (h1 : -1000000000 ≤ exp) (h2 : exp ≤ 1000000000) :
    Calls Tryz.prog 157 #[.bool neg, v, .int .i64 exp] w (Told w (mkD neg n exp) (mkE neg n exp)) := by
  have h' := h
  obtain ⟨_, A, c, rfl, _⟩ := h'
  rcases Nat.eq_zero_or_pos n with e | e
  · subst e
    rw [mk_zero, mkE_zero]
    rw [wds_zero]
    exact told_zero neg A c exp w
  · exact told_some neg A c _ n exp w e rfl h hlen hT h1 h2
end Go.Proofs.YtjckojedafajeaaGreatDoor
/- Layer 7: the reader of a number's text. -/
namespace Go.Proofs.YtjckojedafajeaaGreatDoor
open Go.RowKit

/-- A reader that has come to a place of a text. -/
def RdAt (w : World) (p : Nat) (l : List UInt8) (k : Nat) : Prop := Row w p 179 #[.string (bs l), .int .i64 (k : Int)]
/-- Is a digit next? -/
def digAt (l : List UInt8) (k : Nat) : Bool := decide (k < l.length) && isDig (l.getD k 0)
theorem digAt_head (l : List UInt8) (k : Nat) : digAt l k = match (l.drop k).head? with | some b => isDig b | none => false := by
  unfold digAt
  by_cases h : k < l.length
  · simp [h, List.getD]
  · simp [h]

set_option maxRecDepth 100000 in
set_option maxHeartbeats 2000000 in
theorem digit_ok (p : Nat) (l : List UInt8) (k : Nat) (w : World) (h : RdAt w p l k) :
    Calls Tryz.prog 155 #[.pointer (some ⟨p, 0, none⟩)] w fun e w' => e = .returned (.bool (digAt l k)) ∧ Below w.heap.size w w' := by
  have c0 := h.cell (i := 0) (v := .string (bs l)) rfl
  have c1 := h.cell (i := 1) (v := .int .i64 (k : Int)) rfl
  have hs := bs_size l
  have hc0 : ∀ W : World, Below w.heap.size w W → W.cell? ⟨p, 0, none⟩ = some (.string (bs l)) := fun W hb => (hb.cell (p := ⟨p, 0, none⟩) h.lt).trans c0
  have hc1 : ∀ W : World, Below w.heap.size w W → W.cell? ⟨p, 1, none⟩ = some (.int .i64 (k : Int)) := fun W hb => (hb.cell (p := ⟨p, 1, none⟩) h.lt).trans c1
  clear h
  by_cases hk : k < l.length
  · have HD : Hid (digAt l k = isDig (l.getD k 0)) := Lib.hid (by unfold digAt; simp [hk])
    have hi : ∀ W : World, (Instr.index 9 (.string (bs l)) (.int .i64 (k : Int))).run Tryz.prog W = .ok (.int .u8 (byteAt l k : Int)) W := fun W => run_byte _ Tryz.underlying9 l k hk W
    have HI := isDigit_at l k
    generalize isDig (l.getD k 0) = b at *
    generalize byteAt l k = y at *
    have hlt : decide ((k : Int) < (l.length : Int)) = true := by simp; omega
    go_enter Tryz.func155, Tryz.ntmps155
    go_wp2_with fail
    have hb0 : Below w.heap.size w w := Below.refl _ _
    go_region_held3 (fun W => Below w.heap.size w W) (first | exact Below.refl _ _ | exact (Below.refl _ _).drew | assumption | (exact Below.call (by assumption) (by assumption)))
      (first
        | (go_at_call 99; refine (HI _).mono ?_; rintro e w' ⟨rfl, rfl⟩))
    go_wp2
    go_ret
    exact ⟨by rw [HD.out]; rfl, (Below.refl _ _).drew⟩
  · have HD : Hid (digAt l k = false) := Lib.hid (by unfold digAt; simp [hk])
    have hlt : decide ((k : Int) < (l.length : Int)) = false := by simp; omega
    go_enter Tryz.func155, Tryz.ntmps155
    go_wp2_with fail
    go_quiet (fail)
    go_wp2
    go_ret
    exact ⟨by rw [HD.out]; rfl, below_drewN (Below.refl _ _) _⟩

/-- A reader has gone on. -/
def Went (p : Nat) (l : List UInt8) (k : Nat) (w w' : World) : Prop := RdAt w' p l k ∧ Kept (· = p) w w'
set_option maxRecDepth 100000 in
set_option maxHeartbeats 2000000 in
theorem next_ok (p : Nat) (l : List UInt8) (k : Nat) (w : World) (h : RdAt w p l k) (hk : k < l.length) (hl : l.length ≤ 9223372036854775806) :
    Calls Tryz.prog 156 #[.pointer (some ⟨p, 0, none⟩)] w fun e w' => e = .returned (.int .u8 (byteAt l k : Int)) ∧ Went p l (k + 1) w w' := by
  have c0 := h.cell (i := 0) (v := .string (bs l)) rfl
  have c1 := h.cell (i := 1) (v := .int .i64 (k : Int)) rfl
  have f1 := h.free 1
  obtain ⟨w1, hw1⟩ : ∃ w1, w1 = w.setCell ⟨p, 1, none⟩ (.int .i64 ((k + 1 : Nat) : Int)) := ⟨_, rfl⟩
  have h1 : RdAt w1 p l (k + 1) := by subst hw1; simpa [RdAt] using h.set_ 1 (.int .i64 ((k + 1 : Nat) : Int))
  have hk1 : Kept (· = p) w w1 := by subst hw1; exact Kept.cell _ _ _ _
  have HW : Hid (w.setCell ⟨p, 1, none⟩ (.int .i64 ((k : Int) + 1)) = w1) := Lib.hid (by rw [hw1]; rfl)
  have hc0 : ∀ W : World, Below w1.heap.size w1 W → W.cell? ⟨p, 0, none⟩ = some (.string (bs l)) := fun W hb => (hb.cell (p := ⟨p, 0, none⟩) h1.lt).trans (h1.cell (i := 0) rfl)
  have hc1 : ∀ W : World, Below w1.heap.size w1 W → W.cell? ⟨p, 1, none⟩ = some (.int .i64 ((k : Int) + 1)) := fun W hb => (hb.cell (p := ⟨p, 1, none⟩) h1.lt).trans (h1.cell (i := 1) rfl)
  have hi : ∀ W : World, (Instr.index 9 (.string (bs l)) (.int .i64 (k : Int))).run Tryz.prog W = .ok (.int .u8 (byteAt l k : Int)) W := fun W => run_byte _ Tryz.underlying9 l k hk W
  have H1 := Lib.hid h1
  have HK1 := Lib.hid hk1
  clear hw1 h h1 hk1
  generalize byteAt l k = y at *
  go_enter Tryz.func156, Tryz.ntmps156
  go_wp2_with fail
  rw [HW.out]
  have k0 := hc0 w1 (Below.refl _ _)
  have k1 := hc1 w1 (Below.refl _ _)
  go_quiet (fail)
  go_wp2
  go_ret
  exact ⟨rfl, H1.out.drewN _, HK1.out.drewN _⟩
/-- Is what is next one of these? -/
def takeAt (these l : List UInt8) (k : Nat) : Bool := decide (k < l.length) && these.contains (l.getD k 0)
theorem takeAt_head (these l : List UInt8) (k : Nat) : takeAt these l k = match (l.drop k).head? with | some b => these.contains b | none => false := by
  unfold takeAt
  by_cases h : k < l.length
  · simp [h, List.getD]
  · simp [h]
set_option maxRecDepth 100000 in
set_option maxHeartbeats 2000000 in
theorem take_ok (p : Nat) (these l : List UInt8) (k : Nat) (w : World) (h : RdAt w p l k) (hl : l.length ≤ 9223372036854775806) :
    Calls Tryz.prog 154 #[.pointer (some ⟨p, 0, none⟩), .string (bs these)] w fun e w' => e = .returned (.bool (takeAt these l k)) ∧ Went p l (if takeAt these l k then k + 1 else k) w w' := by
  have c0 := h.cell (i := 0) (v := .string (bs l)) rfl
  have c1 := h.cell (i := 1) (v := .int .i64 (k : Int)) rfl
  have f1 := h.free 1
  have hs := bs_size l
  have H := Lib.hid h
  clear h
  by_cases hk : k < l.length
  · have hi : ∀ W : World, (Instr.index 9 (.string (bs l)) (.int .i64 (k : Int))).run Tryz.prog W = .ok (.int .u8 (byteAt l k : Int)) W := fun W => run_byte _ Tryz.underlying9 l k hk W
    have hlt : decide ((k : Int) < (l.length : Int)) = true := by simp; omega
    obtain ⟨x, hx⟩ : ∃ x, x = Lib.indexByte these (l.getD k 0) := ⟨_, rfl⟩
    have hT : takeAt these l k = decide (0 ≤ x) := by
      unfold takeAt
      rw [Lib.contains_iff_indexByte, hx]; simp [hk]
    have HIB : Hid (∀ W, Calls Tryz.prog 112 #[.string (bs these), .int .u8 (byteAt l k : Int)] W fun e w' => e = .returned (.int .i64 x) ∧ w' = W) := Lib.hid fun W => by
      have := Tryz.strings_IndexByte (bs these) (byteAt l k : Int) W
      have e : ((byteAt l k : Int)).toNat.toUInt8 = l.getD k 0 := by unfold byteAt; simp
      rw [e] at this
      rw [hx]; exact this
    have HT := Lib.hid hT
    clear hT hx
    generalize byteAt l k = y at *
    by_cases hx0 : 0 ≤ x
    · rw [HT.out, decide_eq_true hx0, if_pos rfl]
      have hdx : decide ((0 : Int) ≤ x) = true := by simpa using hx0
      go_enter Tryz.func154, Tryz.ntmps154
      go_wp2_with fail
      go_quiet ((go_at_call 112; exact Calls.quiet_of_same ((HIB.out _).mono fun _ _ h => ⟨h.1, h.2⟩)))
      go_wp2
      go_ret
      refine ⟨rfl, ?_, ?_⟩
      · simpa [RdAt] using (H.out.drewN nq).set_ 1 (.int .i64 ((k + 1 : Nat) : Int))
      · exact (Kept.refl _ _).drewN _ |>.trans' (Kept.cell _ _ _ _)
    · rw [HT.out, decide_eq_false hx0]
      have hdx : decide ((0 : Int) ≤ x) = false := by simpa using hx0
      go_enter Tryz.func154, Tryz.ntmps154
      go_wp2_with fail
      go_quiet ((go_at_call 112; exact Calls.quiet_of_same ((HIB.out _).mono fun _ _ h => ⟨h.1, h.2⟩)))
      go_wp2
      go_ret
      exact ⟨rfl, H.out.drewN _, (Kept.refl _ _).drewN _⟩
  · have hT : takeAt these l k = false := by unfold takeAt; simp [hk]
    have hlt : decide ((k : Int) < (l.length : Int)) = false := by simp; omega
    rw [hT]
    go_enter Tryz.func154, Tryz.ntmps154
    go_wp2_with fail
    go_quiet (fail)
    go_wp2
    go_ret
    exact ⟨rfl, H.out.drewN _, (Kept.refl _ _).drewN _⟩
end Go.Proofs.YtjckojedafajeaaGreatDoor
