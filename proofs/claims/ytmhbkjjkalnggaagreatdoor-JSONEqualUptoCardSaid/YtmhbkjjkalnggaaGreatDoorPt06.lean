import Derived.Test.YtmhbkjjkalnggaaGreatDoorPt05
namespace Go.Proofs.YtmhbkjjkalnggaaGreatDoor
open Go.RowKit
set_option maxRecDepth 100000
set_option maxHeartbeats 4000000
def JRes (p : Nat) (X : Txt) (E O : Value) (w : World) : Option (Value × Fl × List UInt8) -> Ending -> World -> Prop
 | some (v, f, s), e, w' => e = .returned v /\ JTo p X s E O f w w'
 | none, e, w' => e = .panicked (panicOf 180) /\ Kept (· = p) w w'
def fourR (f : Fl) (s : List UInt8) : Option (Value × Fl × List UInt8) := (four s).map fun q => (.int .i32 (q.1 : Int), f, q.2)
def hexI (b : UInt8) : Int := match hexV b with
 | none => -1
 | some d => if 65 <= b.toNat /\ b.toNat <= 70 then (d : Int) + 6 else d
theorem hexI_eq : ∀ b : Fin 256, Lib.indexByte hexDigits (UInt8.ofNat b.val) = hexI (UInt8.ofNat b.val) := by decide +kernel
theorem hexI_at (b : UInt8) : Lib.indexByte hexDigits b = hexI b := by
 have := hexI_eq ⟨b.toNat, b.toNat_lt⟩
 simpa using this
theorem hexI_none {b : UInt8} (h : hexV b = none) : hexI b = -1 := by unfold hexI; rw [h]
def hexOk (b : UInt8) : Bool := match hexV b with
 | none => true
 | some d => decide (d <= 15 /\ 0 <= hexI b /\ ((hexI b < 16 /\ hexI b = d) ∨ (16 <= hexI b /\ hexI b - 6 = d /\ hexI b <= 21)))
theorem hexOk_all : ∀ b : Fin 256, hexOk (UInt8.ofNat b.val) = true := by decide +kernel
theorem hexI_of {b : UInt8} {d : Nat} (h : hexV b = some d) : d <= 15 /\ 0 <= hexI b /\ ((hexI b < 16 /\ hexI b = d) ∨ (16 <= hexI b /\ hexI b - 6 = d /\ hexI b <= 21)) := by
 have := hexOk_all ⟨b.toNat, b.toNat_lt⟩
 simp only [UInt8.ofNat_toNat] at this
 unfold hexOk at this
 rw [h] at this
 exact of_decide_eq_true this
theorem jindex_ok (these : List UInt8) (b : UInt8) (W : World) :
   Calls Tryz.prog 123 #[.string (bs these), .int .u8 (b.toNat : Int)] W fun e w' => e = .returned (.int .i64 (Lib.indexByte these b)) /\ w' = W := by
 have := Tryz.strings_IndexByte (bs these) (b.toNat : Int) W
 have e : ((b.toNat : Int)).toNat.toUInt8 = b := by simp
 rw [e] at this
 exact this
theorem hexN_nil (k x : Nat) : hexN (k + 1) x [] = none := rfl
theorem hexN_none {b : UInt8} (h : hexV b = none) (k x : Nat) (t : List UInt8) : hexN (k + 1) x (b :: t) = none := by rw [hexN]; simp only [h]
theorem hexN_some {b : UInt8} {d : Nat} (h : hexV b = some d) (k x : Nat) (t : List UInt8) : hexN (k + 1) x (b :: t) = hexN k (x * 16 + d) t := by rw [hexN]; simp only [h]
theorem jfour_ok (p : Nat) (X : Txt) (s : List UInt8) (E O : Value) (f : Fl) (w : World) (h : JAt w p X s E O f) :
   Calls Tryz.prog 180 #[.pointer (some ⟨p, 0, none⟩)] w (JRes p X E O w (fourR f s)) := by
 have H := hid h
 have HF : Hid (fourR f s = (hexN 4 0 s).map fun q => (.int .i32 (q.1 : Int), f, q.2)) := hid rfl
 clear h
 generalize fourR f s = R at *
 go_enter Tryz.func180, Tryz.ntmps180
 go_wp2_with fail
 go_loopw [3, 4, 5] (fun v3 v4 v5 wr => ∃ (i n : Nat) (r : List UInt8), i <= 4 /\ v5 = .int .i64 (i : Int) /\ v3 = .int .i64 (n : Int) /\ Hid (n < 16 ^ i) /\ Hid (JTo p X r E O f w wr) /\ Hid (R = (hexN (4 - i) n r).map fun q => (.int .i32 (q.1 : Int), f, q.2))) (fun _ _ v5 _ => 4 - (intOf v5).toNat)
 case atStart => exact ⟨0, 0, s, by omega, rfl, rfl, hid (by decide), hid (JTo.refl H.out), HF⟩
 case round =>
   obtain ⟨i, n, r, hi, rfl, rfl, HN, HJ, HR⟩ := hrel
   by_cases hlt : i < 4
   · have HX := hid (jnext_ok p X r E O f _ HJ.out.1)
     have hn : n < 4096 := Nat.lt_of_lt_of_le HN.out (Nat.le_trans (Nat.pow_le_pow_right (by omega) (show i <= 3 by omega)) (by decide))
     obtain ⟨k, hk⟩ : ∃ k, 4 - i = k + 1 := ⟨3 - i, by omega⟩
     have HKI : Hid (4 - (i + 1) = k) := hid (by omega)
     rw [hk] at HR
     clear hk
     cases r with
     | nil =>
       obtain rfl : R = none := by rw [HR.out, hexN_nil]; rfl
       go_wp2_with fail
       refine HX.out.mono ?_
       rintro e w2 ⟨rfl, hkp⟩
       have HK := hid (HJ.out.2.trans' hkp)
       clear hkp
       go_wp2_with fail
       exact ⟨rfl, rfl, HK.out⟩
     | cons b t =>
       have HIB := hid (fun W => jindex_ok hexDigits b W)
       rw [hexI_at] at HIB
       cases hd : hexV b with
       | none =>
         obtain rfl : R = none := by rw [HR.out, hexN_none hd]; rfl
         rw [hexI_none hd] at HIB
         clear hd
         generalize hy : b.toNat = y at *
         go_wp2_with fail
         refine HX.out.mono ?_
         rintro e w2 ⟨rfl, hj, hkp⟩
         have HK := hid (HJ.out.2.trans' hkp)
         clear hkp hj
         rw [hy]
         clear hy
         go_wp2_with fail
         refine (HIB.out _).mono ?_
         rintro e w3 ⟨rfl, rfl⟩
         go_wp2_with fail
         exact ⟨rfl, rfl, HK.out⟩
       | some d =>
         have HR2 : Hid (R = (hexN k (n * 16 + d) t).map fun q => (.int .i32 (q.1 : Int), f, q.2)) := hid (by rw [HR.out, hexN_some hd])
         obtain ⟨hd1, hd2, hd3⟩ := hexI_of hd
         have HN2 : Hid (n * 16 + d < 16 ^ (i + 1)) := hid (by have := HN.out; rw [Nat.pow_succ]; omega)
         clear hd HR
         generalize hexI b = x at *
         generalize hy : b.toNat = y at *
         go_wp2_with fail
         refine HX.out.mono ?_
         rintro e w2 ⟨rfl, hj, hkp⟩
         have HJ2 := hid hj
         have HK := hid (HJ.out.2.trans' hkp)
         clear hkp hj
         rw [hy]
         clear hy
         go_wp2_with fail
         refine (HIB.out _).mono ?_
         rintro e w3 ⟨rfl, rfl⟩
         rcases hd3 with ⟨hx1, hx2⟩ | ⟨hx1, hx2, hx3⟩
         · go_wp2_with fail
           exact ⟨⟨i + 1, n * 16 + d, t, by omega, by go_num, by go_num, HN2, hid ⟨HJ2.out, HK.out⟩, by rw [HKI.out]; exact HR2⟩, by simp [intOf]; omega⟩
         · go_wp2_with fail
           exact ⟨⟨i + 1, n * 16 + d, t, by omega, by go_num, by go_num, HN2, hid ⟨HJ2.out, HK.out⟩, by rw [HKI.out]; exact HR2⟩, by simp [intOf]; omega⟩
   · obtain rfl : i = 4 := by omega
     obtain rfl : R = some (.int .i32 (n : Int), f, r) := HR.out
     have hn := HN.out
     have hn2 : (n : Int) < 65536 := by omega
     have hw : IntKind.i32.wrap (n : Int) = (n : Int) := by simp [IntKind.wrap, IntKind.bits, IntKind.signed]; omega
     go_wp2_with fail
     go_ret
     exact ⟨rfl, HJ.out.1, HJ.out.2⟩
theorem letsL_esc92 {t r : List UInt8} {x : Nat} {a : Bool} (h : letterL t = some (x, a, r)) : letsL (92 :: t) = (letsL r).map fun q => (runeL x ++ q.1, a || q.2.1, q.2.2) := by
 rw [letsL]
 rw [if_neg (by decide), if_pos rfl]
 split
 · rename_i h2; rw [h] at h2; cases h2
 · rename_i x2 a2 r2 h2
   rw [h] at h2
   injection h2 with h2; injection h2 with h3 h2; injection h2 with h4 h5
   subst h3 h4 h5
   cases letsL r <;> rfl
theorem letsL_plain {b : UInt8} (h1 : b ≠ 34) (h2 : b ≠ 92) (h3 : ¬ b.toNat < 32) (t : List UInt8) : letsL (b :: t) = (letsL t).map fun q => (b :: q.1, q.2.1, q.2.2) := by
 rw [letsL, if_neg h1, if_neg h2, if_neg h3]
 cases letsL t <;> rfl
theorem tkB_cons (these : List UInt8) (b : UInt8) (t : List UInt8) : tkB these (b :: t) = these.contains b := rfl
theorem runJ_value (K : List Fr) (f : Fl) (s : List UInt8) : runJ .value K f s =
   if tkB [91] (blk s) = true then
     if tkB [93] (blk ((blk s).drop 1)) = true then runJ .leave (enterK false K) (enterF (enterK false K) f) ((blk ((blk s).drop 1)).drop 1)
     else runJ .value (enterK false K) (enterF (enterK false K) f) (blk ((blk s).drop 1))
   else if tkB [123] (blk s) = true then
     if tkB [125] (blk ((blk s).drop 1)) = true then runJ .leave (enterK true K) (enterF (enterK true K) f) ((blk ((blk s).drop 1)).drop 1)
     else runJ .name (enterK true K) (enterF (enterK true K) f) (blk ((blk s).drop 1))
   else match plainL (blk s) with
     | none => none
     | some (v, a, g, r) => runJ (.behind v) K { f with alone := f.alone || a, far := f.far || g } r := by
 conv => lhs; rw [runJ]
 simp only [dite_eq_ite]
 split
 · rfl
 · split
   · rfl
   · split <;> rename_i h <;> rw [h]
theorem runJ_name (K : List Fr) (f : Fl) (s : List UInt8) : runJ .name K f s =
   if tkB [34] (blk s) = true then match letsL ((blk s).drop 1) with
     | none => none
     | some (l, a, r) =>
       if tkB [58] (blk r) = true then runJ .value (nameK l K) (nameF l K { f with alone := f.alone || a }) ((blk r).drop 1)
       else none
   else none := by
 conv => lhs; rw [runJ]
 simp only [dite_eq_ite]
 split
 · split <;> rename_i h <;> rw [h]
 · rfl
theorem runJ_leave (t : Fr) (r : List Fr) (f : Fl) (s : List UInt8) : runJ .leave (t :: r) f s = runJ (.behind (if isDeepK (t :: r) then JV.null else t.val)) r f s := by
 conv => lhs; rw [runJ]
theorem runJ_behind0 (v : JV) (f : Fl) (s : List UInt8) : runJ (.behind v) [] f s = if blk s = [] then some (v, f) else none := by
 conv => lhs; rw [runJ]
theorem runJ_behind (v : JV) (t : Fr) (r : List Fr) (f : Fl) (s : List UInt8) : runJ (.behind v) (t :: r) f s =
   if tkB [44] (blk s) = true then runJ (if t.obj then .name else .value) (putK v (t :: r)) f ((blk s).drop 1)
   else if tkB [if t.obj then 125 else 93] (blk s) = true then runJ .leave (putK v (t :: r)) f ((blk s).drop 1)
   else none := by
 conv => lhs; rw [runJ]
 simp only [dite_eq_ite]
def tenDigits : List UInt8 := [48, 49, 50, 51, 52, 53, 54, 55, 56, 57]
def tenOk (b : UInt8) : Bool := tenDigits.contains b == isDig b
theorem tenOk_all : ∀ b : Fin 256, tenOk (UInt8.ofNat b.val) = true := by decide +kernel
theorem ten_is (b : UInt8) : tenDigits.contains b = isDig b := by
 have := tenOk_all ⟨b.toNat, b.toNat_lt⟩
 simp only [UInt8.ofNat_toNat] at this
 unfold tenOk at this
 exact beq_iff_eq.1 this
theorem span_yes {r : List UInt8} (h : tkB tenDigits r = true) : (tkS tenDigits r).dropWhile isDig = r.dropWhile isDig := by
 rw [tkS_yes h]
 cases r with
 | nil => rfl
 | cons x t =>
   rw [tkB_cons, ten_is] at h
   rw [List.dropWhile_cons, if_pos h]
   rfl
theorem span_no {r : List UInt8} (h : tkB tenDigits r = false) : r.dropWhile isDig = r := by
 cases r with
 | nil => rfl
 | cons x t =>
   rw [tkB_cons, ten_is] at h
   rw [List.dropWhile_cons, if_neg (by rw [h]; simp)]
theorem dgs_yes {r : List UInt8} (h : tkB tenDigits r = true) : dgs r = some ((tkS tenDigits r).dropWhile isDig) := by
 rw [tkS_yes h]
 cases r with
 | nil => cases h
 | cons x t =>
   rw [tkB_cons, ten_is] at h
   unfold dgs
   simp only [h, if_true]
   rfl
theorem dgs_no {r : List UInt8} (h : tkB tenDigits r = false) : dgs r = none := by
 cases r with
 | nil => rfl
 | cons x t =>
   rw [tkB_cons, ten_is] at h
   unfold dgs
   simp [h]
def dgsR (f : Fl) (s : List UInt8) : Option (Value × Fl × List UInt8) := (dgs s).map fun q => (.tuple #[], f, q)
theorem jdigits_ok (p : Nat) (X : Txt) (s : List UInt8) (E O : Value) (f : Fl) (w : World) (h : JAt w p X s E O f) :
   Calls Tryz.prog 128 #[.pointer (some ⟨p, 0, none⟩)] w (JRes p X E O w (dgsR f s)) := by
 have HT := hid (jtake_ok p X tenDigits s E O f w h)
 have HF : Hid (dgsR f s = (dgs s).map fun q => (.tuple #[], f, q)) := hid rfl
 clear h
 generalize dgsR f s = R at *
 go_enter Tryz.func128, Tryz.ntmps128
 cases hb : tkB tenDigits s with
 | false =>
   obtain rfl : R = none := by rw [HF.out, dgs_no hb]; rfl
   rw [hb] at HT
   clear hb HF
   go_wp2_with fail
   refine HT.out.mono ?_
   rintro e w1 ⟨rfl, hj, hk⟩
   have HK := hid hk
   clear hj hk HT
   go_wp2_with fail
   exact ⟨rfl, rfl, HK.out⟩
 | true =>
   have HR : Hid (R = some (.tuple #[], f, (tkS tenDigits s).dropWhile isDig)) := hid (by rw [HF.out, dgs_yes hb]; rfl)
   rw [hb] at HT
   clear hb HF
   generalize tkS tenDigits s = s1 at *
   go_wp2_with fail
   refine HT.out.mono ?_
   rintro e w1 ⟨rfl, hj, hk⟩
   have HJ := hid hj
   have HK := hid hk
   clear hj hk HT
   go_wp2_with fail
   go_loopw [6] (fun _ wr => ∃ r, Hid (JTo p X r E O f w wr) /\ Hid (r.dropWhile isDig = s1.dropWhile isDig)) (fun _ wr => leftOf X p wr)
   case atStart => exact ⟨s1, hid ⟨HJ.out, HK.out⟩, hid rfl⟩
   case round =>
     obtain ⟨r, HX, HB⟩ := hrel
     have HT := hid (jtake_ok p X tenDigits r E O f _ HX.out.1)
     have HL := hid HX.out.1.left
     cases hb : tkB tenDigits r with
     | true =>
       have HY1 := hid (span_yes hb)
       have HY := hid (tkS_lt hb)
       rw [hb] at HT
       clear hb
       go_wp2_with fail
       refine HT.out.mono ?_
       rintro e w2 ⟨rfl, hj, hkp⟩
       have HJ2 := hid hj
       have HK2 := hid (HX.out.2.trans' hkp)
       clear hj hkp
       go_wp2_with fail
       exact ⟨⟨_, hid ⟨HJ2.out, HK2.out⟩, hid (HY1.out.trans HB.out)⟩, by rw [HJ2.out.left, HL.out]; exact HY.out⟩
     | false =>
       have HY1 := hid (span_no hb)
       have HY := hid (tkS_no hb)
       rw [hb] at HT
       clear hb
       go_wp2_with fail
       refine HT.out.mono ?_
       rintro e w2 ⟨rfl, hj, hkp⟩
       rw [HY.out] at hj
       have HJ2 := hid hj
       have HK2 := hid (HX.out.2.trans' hkp)
       clear hj hkp
       go_wp2_with fail
       go_end0
       rw [HR.out]
       refine ⟨rfl, ?_, HK2.out⟩
       rw [<- HB.out, HY1.out]
       exact HJ2.out
theorem bequal_ok (A B : Option Addr) (c d n m : Nat) (l q : List UInt8) (hn : l.length = n) (hm : q.length = m) (w : World) (hA : Holds w A l.length 1 (u8s l)) (hB : Holds w B q.length 1 (u8s q)) :
   Calls Tryz.prog 158 #[.slice A n c, .slice B m d] w fun e w' => e = .returned (.bool (l == q)) /\ w = w' := by
 have h1 : ∀ W : World, Below w.heap.size w W -> (convert 35 9 (.slice A n c)).run Tryz.prog W = .ok (.string (bs l)) W := fun W hb => by
   rw [<- hn]
   exact run_text_bs (hA.below hb) 35 9 5 c Tryz.underlying35 Tryz.underlying5 Tryz.underlying9
 have h2 : ∀ W : World, Below w.heap.size w W -> (convert 35 9 (.slice B m d)).run Tryz.prog W = .ok (.string (bs q)) W := fun W hb => by
   rw [<- hm]
   exact run_text_bs (hB.below hb) 35 9 5 d Tryz.underlying35 Tryz.underlying5 Tryz.underlying9
 have e1 := h1 w (Below.refl _ _)
 have e2 := h2 w (Below.refl _ _)
 have hl : (bs l).toList = l := bs_toList l
 have hq : (bs q).toList = q := bs_toList q
 clear h1 h2 hA hB hn hm
 go_enter Tryz.func158, Tryz.ntmps158
 go_wp2_with fail
 go_ret
 exact ⟨rfl, rfl⟩
theorem pfx_take (q l : List UInt8) : pfx q l = (decide (q.length <= l.length) && (l.take q.length == q)) := by
 unfold pfx
 rw [Bool.eq_iff_iff, List.isPrefixOf_iff_prefix, Bool.and_eq_true, decide_eq_true_eq, beq_iff_eq]
 constructor
 · rintro ⟨t, rfl⟩
   exact ⟨by simp, by simp⟩
 · rintro ⟨_, h⟩
   exact ⟨l.drop q.length, by have h9 := List.take_append_drop q.length l; rw [h] at h9; exact h9⟩
theorem Holds.take1 {w : World} {A : Option Addr} {l : List UInt8} (h : Holds w A l.length 1 (u8s l)) (m : Nat) : Holds w A (l.take m).length 1 (u8s (l.take m)) := by
 refine ⟨by rw [u8s_length, Nat.mul_one], fun h0 => ?_⟩
 have hl : 0 < l.length := by rw [List.length_take] at h0; omega
 obtain ⟨b, off, e, hb, hr⟩ := h.2 hl
 refine ⟨b, off, e, hb, fun j v hv => hr j v ?_⟩
 have e2 : u8s (l.take m) = (u8s l).take m := by unfold u8s; rw [List.map_take]
 rw [e2] at hv
 by_cases hj : j < m
 · rwa [List.getElem?_take_of_lt hj] at hv
 · rw [List.getElem?_eq_none (by rw [List.length_take]; omega)] at hv; cases hv
theorem bprefix_ok (A B : Option Addr) (c d n m : Nat) (l q : List UInt8) (hn : l.length = n) (hm : q.length = m) (h0 : 0 < m) (hc : n <= c) (w : World) (hA : Holds w A l.length 1 (u8s l)) (hB : Holds w B q.length 1 (u8s q)) :
   Calls Tryz.prog 127 #[.slice A n c, .slice B m d] w fun e w' => e = .returned (.bool (pfx q l)) /\ w = w' := by
 rw [pfx_take, hm, hn]
 by_cases hle : m <= n
 · obtain ⟨g, off, rfl, _, _⟩ := hA.2 (by omega)
   have HE := hid (bequal_ok (some ⟨g, off, none⟩) B c d m m (l.take m) q (by rw [List.length_take]; omega) hm w (hA.take1 m) hB)
   rw [decide_eq_true hle, Bool.true_and]
   have hd : decide ((m : Int) <= (n : Int)) = true := by simp; omega
   clear hA hB hn hm
   generalize (l.take m == q) = b at *
   go_enter Tryz.func127, Tryz.ntmps127
   go_wp2_with fail
   refine HE.out.mono ?_
   rintro e w2 ⟨rfl, rfl⟩
   go_wp2
   go_ret
   exact ⟨rfl, rfl⟩
 · rw [decide_eq_false hle, Bool.false_and]
   have hd : decide ((m : Int) <= (n : Int)) = false := by simp; omega
   clear hA hB hn hm
   go_enter Tryz.func127, Tryz.ntmps127
   go_wp2
   go_ret
   exact ⟨rfl, rfl⟩
open Go.RowKit Go.Shelf
attribute [local go_sem] Oper.semAt_some
section
variable {F₁ : Fence} {n₁ : Nat} {P : Program} {ops : Array Oper} {rest : List Oper} {o : Oper} {a : Act} {w : World} {Q : Exit -> Act -> World -> Prop}
theorem run_slice2 {P : Program} (w : World) (t e : TypeId) (ht : P.underlying t = some (.slice e)) (hi1 : (P.info? e).map (·.size) = some 1) (g off n c a1 b1 : Nat) (ka kb : IntKind) (h1 : a1 <= b1) (h2 : b1 <= c) (h3 : a1 < c) :
   (Instr.sliceAt t (.slice (some ⟨g, off, none⟩) n c) (some (.int ka a1)) (some (.int kb b1)) none).run P w = .ok (.slice (some ⟨g, off + a1, none⟩) (b1 - a1) (c - a1)) w := by
 obtain ⟨i, hi, hs⟩ : ∃ i, P.info? e = some i /\ i.size = 1 := by
   cases h : P.info? e with
   | none => rw [h] at hi1; cases hi1
   | some i => rw [h] at hi1; exact ⟨i, rfl, Option.some.inj hi1⟩
 have e1 : ¬ c = a1 := by omega
 simp [Instr.sliceAt, Instr.slice, Instr.sliceBounds, Instr.sliceBound, asIntOf, go_sem, run_underlying ht, sizeOf, typeInfo, hi, hs, h1, h2, e1, Addr.add]
end
open Go Go.RowKit
structure YieldsS (P : Program) (ops : Array Oper) (S : World -> Prop) (o : Oper) (v : Value) (a : Act) : Prop where
 wanted : Region.wanted o (yielded ops a.tmps) = true
 val : ∀ w, S w -> (execOp a.eval o).run P w = .ok (.value v) w
 about : ∀ w, o.about P w a.eval = none
def opP (P : Program) (ops : Array Oper) (i : Nat) (K : Act -> World -> Prop) (a : Act) (w : World) : Prop :=
 ∃ o, ops[i]? = some o /\ o.about P w a.eval = none /\ Region.wanted o (yielded ops a.tmps) = true /\ ∃ x w', ((execOp a.eval o).run P w = .ok (.value x) w' ∨ ((execOp a.eval o).run P w = .ok .skip w' /\ x = undef)) /\ K (a.put o.dst x) w'
section
variable {P : Program} {md : Region.Mode} {ops : Array Oper} {S : World -> Prop} {Q : Act -> World -> Prop}
theorem run_from {P : Program} (w : World) (t e : TypeId) (ht : P.underlying t = some (.slice e)) (hi1 : (P.info? e).map (·.size) = some 1) (A : Option Addr) (n c a1 : Nat) (ka : IntKind) (h1 : a1 <= n) :
   (Instr.sliceAt t (.slice A n c) (some (.int ka a1)) none none).run P w = .ok (cutFrom A n c a1 1) w := by
 obtain ⟨i, hi, hs⟩ : ∃ i, P.info? e = some i /\ i.size = 1 := by
   cases h : P.info? e with
   | none => rw [h] at hi1; cases hi1
   | some i => rw [h] at hi1; exact ⟨i, rfl, Option.some.inj hi1⟩
 simp [Instr.sliceAt, Instr.slice, Instr.sliceBounds, Instr.sliceBound, asIntOf, go_sem, run_underlying ht, sizeOf, typeInfo, hi, hs, h1, cutFrom]
end
theorem u8s_get (l : List UInt8) (j : Nat) : (u8s l)[j]? = (l[j]?).map fun b => Value.int .u8 (b.toNat : Int) := by unfold u8s; rw [List.getElem?_map]
theorem JRd.rest {w : World} {p : Nat} {X : Txt} {k : Nat} {E O : Value} {f : Fl} (h : JRd w p X k E O f) (hk : k <= X.l.length) (hc : X.l.length <= X.c) :
   ∃ A, cutFrom X.A X.l.length X.c k 1 = .slice A (X.l.length - k) (X.c - k) /\ Holds w A (X.l.drop k).length 1 (u8s (X.l.drop k)) := by
 refine ⟨_, rfl, by rw [u8s_length, Nat.mul_one], fun h0 => ?_⟩
 rw [List.length_drop] at h0
 obtain ⟨g, off, hA, _, hg, _⟩ := h.txt 0 (by omega)
 refine ⟨g, off + k, ?_, hg, fun j v hv => ?_⟩
 · rw [if_neg (by omega), hA]
   simp [Addr.add]
 · rw [u8s_get, List.getElem?_drop] at hv
   have hj : k + j < X.l.length := by
     rcases Nat.lt_or_ge (k + j) X.l.length with h9 | h9
     · exact h9
     · rw [List.getElem?_eq_none h9] at hv; cases hv
   obtain ⟨g2, off2, hA2, _, _, hc2⟩ := h.txt (k + j) hj
   rw [hA] at hA2
   injection hA2 with hA2
   injection hA2 with e1 e2 _
   subst e1 e2
   rw [<- Nat.add_assoc] at hc2
   rw [hc2]
   rw [List.getElem?_eq_getElem hj] at hv
   rw [<- hv]
   unfold byteAt
   simp [List.getD, List.getElem?_eq_getElem hj]
theorem keptOf_below {F : Nat -> Prop} {w w' : World} (h : Below w.heap.size w w') : Kept F w w' := ⟨h.os, h.tape, h.output, h.size, fun k hk _ => h.block k hk⟩
theorem bytesRow_holds (W : World) (q : List UInt8) (cp : Nat) (e : TypeId) (fr : Nat × Nat) : Holds ((W.alloc (.cells (bytesRow (bs q) cp) e fr)).drew) (some ⟨W.heap.size, 0, none⟩) q.length 1 (u8s q) := by
 have h0 : ((W.alloc (.cells (bytesRow (bs q) cp) e fr)).drew).heap[W.heap.size]? = some (.cells (bytesRow (bs q) cp) e fr) := heap_alloc_new W _
 refine ⟨by rw [u8s_length, Nat.mul_one], fun _ => ⟨W.heap.size, 0, rfl, lt_of_heap h0, fun j v hv => ?_⟩⟩
 rw [Nat.zero_add, cell_of_row _ _ _ _ _ _ h0]
 rw [u8s_get] at hv
 have hj : j < q.length := by
   rcases Nat.lt_or_ge j q.length with h9 | h9
   · exact h9
   · rw [List.getElem?_eq_none h9] at hv; cases hv
 rw [List.getElem?_eq_getElem hj] at hv
 unfold bytesRow
 rw [Array.getElem?_append_left (by simp [bs]; exact hj), <- hv]
 simp [bs, hj]
theorem jwordK_ok (p : Nat) (X : Txt) (q : List UInt8) (k : Nat) (E O : Value) (f : Fl) (w : World) (h : JRd w p X k E O f) (hk : k <= X.l.length) (hl : X.l.length <= 9223372036854775806) (hc : X.l.length <= X.c) (hq : 0 < q.length) :
   Calls Tryz.prog 103 #[.pointer (some ⟨p, 0, none⟩), .string (bs q)] w fun e w' => e = .returned (.bool (pfx q (X.l.drop k))) /\ (if pfx q (X.l.drop k) then JRd w' p X (k + q.length) E O f else JRd w' p X k E O f) /\ Kept (· = p) w w' := by
 have H := hid h
 have hqs : (bs q).size = q.length := bs_size q
 have HLE := hid (fun hb : pfx q (X.l.drop k) = true => pfx_len hb)
 have hcv : ∀ W : World, (convert 9 35 (.string (bs q))).run Tryz.prog W = .ok (.slice (some ⟨W.heap.size, 0, none⟩) q.length (grownCap W q.length 0 5)) ((W.alloc (.cells (bytesRow (bs q) (grownCap W q.length 0 5)) 5 ((bytesRow (bs q) (grownCap W q.length 0 5)).size, (bytesRow (bs q) (grownCap W q.length 0 5)).size + 1))).drew) := fun W => by
   have h9 := run_bytes_of_string (P := Tryz.prog) W 9 35 5 (bs q) Tryz.underlying9 Tryz.underlying35 Tryz.underlying5
   rw [hqs] at h9
   exact h9
 obtain ⟨A, hA, hHo⟩ := h.rest hk hc
 have hsl : ∀ W : World, (Instr.sliceAt 35 (.slice X.A X.l.length X.c) (some (.int .i64 (k : Int))) none none).run Tryz.prog W = .ok (.slice A (X.l.length - k) (X.c - k)) W := fun W => by
   rw [<- hA]
   exact run_from (P := Tryz.prog) W 35 5 Tryz.underlying35 (by kernel_rfl) X.A X.l.length X.c k .i64 hk
 have HPF : Hid (∀ (W : World) (B : Option Addr) (d : Nat), Below w.heap.size w W -> Holds W B q.length 1 (u8s q) -> Calls Tryz.prog 127 #[.slice A (X.l.length - k) (X.c - k), .slice B q.length d] W fun e w' => e = .returned (.bool (pfx q (X.l.drop k))) /\ Below W.heap.size W w') :=
   hid fun W B d hb hB => (bprefix_ok A B (X.c - k) d (X.l.length - k) q.length (X.l.drop k) q (by rw [List.length_drop]) rfl hq (by omega) W (hHo.below hb) hB).mono fun e w' hx => ⟨hx.1, hx.2 ▸ Below.refl _ _⟩
 have HRW := hid (fun (W : World) cp e fr => bytesRow_holds W q cp e fr)
 clear hA hHo h
 generalize pfx q (X.l.drop k) = b at *
 generalize hm : q.length = m at *
 generalize hn : X.l.length - k = nk at *
 generalize hck : X.c - k = ck at *
 have c0 := H.out.row.cell (i := 0) (v := .slice X.A X.l.length X.c) rfl
 have c1 := H.out.row.cell (i := 1) (v := .int .i64 (k : Int)) rfl
 go_enter Tryz.func103, Tryz.ntmps103
 clear hn hck hm
 go_upto_region 1 with fail
 refine wp_region_held_drew (S := (fun W => Below w.heap.size w W /\ JRd W p X k E O f)) (by kernel_rfl) (⟨(Below.refl _ _).drew, H.out.below (Below.refl _ _).drew⟩) (fun hHeld => ?_)
 refine wpAnyH_z 0 ?_
 try simp only [Act.put, sA, sB, sC]
 refine wpAnyH_z 1 ?_
 try simp only [Act.put, sA, sB, sC]
 refine wpAnyH_z 2 ?_
 try simp only [Act.put, sA, sB, sC]
 refine wpAnyH_y 3 ?_ ?_ ?_
 rotate_left
 · intro W hSw; have q0 := hSw.2.row.cell (i := 0) (v := .slice X.A X.l.length X.c) rfl; go_simp; try with_reducible rfl
 try simp only [Act.put, sA, sB, sC]
 refine wpAnyH_z 4 ?_
 try simp only [Act.put, sA, sB, sC]
 refine wpAnyH_z 5 ?_
 try simp only [Act.put, sA, sB, sC]
 refine wpAnyH_z 6 ?_
 try simp only [Act.put, sA, sB, sC]
 refine wpAnyH_y 7 ?_ ?_ ?_
 rotate_left
 · intro W hSw; have q1 := hSw.2.row.cell (i := 1) (v := .int .i64 (k : Int)) rfl; go_simp; try with_reducible rfl
 try simp only [Act.put, sA, sB, sC]
 refine wpAnyH_z 8 ?_
 try simp only [Act.put, sA, sB, sC]
 refine wpAnyH_z 9 ?_
 try simp only [Act.put, sA, sB, sC]
 refine wpAnyH_ready (rs := [10]) (by kernel_rfl) (by simp) ?_
 refine AllReadyH.cons (o := ?_) ?_ (fun K1 hK1 => ?_) AllReadyH.nil
 rotate_left 1
 · simp only [gA, gB, gC]; with_reducible rfl
 rw [if_pos (by rfl)]
 go_simp
 refine hK1.out _ _ (⟨(hHeld.1.alloc hHeld.1.size _).drew, hHeld.2.below ((Below.refl _ _).alloc (Nat.le_refl _) _).drew⟩) (fun hHeld1 => ?_)
 clear hK1 K1
 try simp only [Act.put, sA, sB, sC]
 refine wpAnyH_ready (rs := [11]) (by kernel_rfl) (by simp) ?_
 refine AllReadyH.cons (o := ?_) ?_ (fun K2 hK2 => ?_) AllReadyH.nil
 rotate_left 1
 · simp only [gA, gB, gC]; with_reducible rfl
 rw [if_pos (by rfl)]
 go_simp
 refine (HPF.out _ _ _ hHeld1.1 (HRW.out _ _ _ _)).mono ?_
 rintro e5 w5 ⟨rfl, hb5⟩
 go_wp2_with fail
 refine hK2.out _ _ (⟨hHeld1.1.call hb5, hHeld1.2.below hb5⟩) (fun hHeld2 => ?_)
 clear hK2 K2
 try simp only [Act.put, sA, sB, sC]
 refine wpAnyH_z 12 ?_
 try simp only [Act.put, sA, sB, sC]
 refine wpAnyH_done (by kernel_rfl) ?_ _
 have HJ := hid hHeld2.2
 have HB := hid hHeld2.1
 have d1 := HJ.out.row.cell (i := 1) (v := .int .i64 (k : Int)) rfl
 have g1 := HJ.out.row.free 1
 clear hHeld hHeld1 hHeld2 hb5 hcv hsl c0 c1
 have HK := hid (keptOf_below (F := (· = p)) HB.out)
 cases b with
 | false =>
   go_wp2
   go_ret
   exact ⟨rfl, HJ.out, HK.out⟩
 | true =>
   have hle := HLE.out rfl
   rw [List.length_drop] at hle
   go_wp2
   go_ret
   have hkk : Kept (· = p) w5 (w5.setCell ⟨p, 1, none⟩ (.int .i64 ((k + m : Nat) : Int))) := Kept.cell _ _ _ _
   exact ⟨rfl, HJ.out.step hkk (by simpa [rdCells] using HJ.out.row.set_ 1 (.int .i64 ((k + m : Nat) : Int))), HK.out.trans' hkk⟩
theorem jword_ok (p : Nat) (X : Txt) (q s : List UInt8) (E O : Value) (f : Fl) (w : World) (h : JAt w p X s E O f) (hq : 0 < q.length) :
   Calls Tryz.prog 103 #[.pointer (some ⟨p, 0, none⟩), .string (bs q)] w fun e w' => e = .returned (.bool (pfx q s)) /\ JTo p X (if pfx q s then s.drop q.length else s) E O f w w' := by
 obtain ⟨hl, k, hr, rfl, hk⟩ := h
 refine (jwordK_ok p X q k E O f w hr hk hl.1 hl.2 hq).mono ?_
 rintro e w' ⟨rfl, hj, hkp⟩
 refine ⟨rfl, ?_, hkp⟩
 split
 · rename_i hb
   rw [if_pos hb] at hj
   have := pfx_len hb
   rw [List.length_drop] at this
   exact ⟨hl, _, hj, by rw [List.drop_drop], by omega⟩
 · rename_i hb
   rw [if_neg hb] at hj
   exact ⟨hl, _, hj, rfl, hk⟩
end Go.Proofs.YtmhbkjjkalnggaaGreatDoor
