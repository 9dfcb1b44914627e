import Derived.Test.YtmhbkjjkalnggaaGreatDoorPt04
namespace Go.Proofs.YtmhbkjjkalnggaaGreatDoor
open Go.RowKit
set_option maxRecDepth 100000
set_option maxHeartbeats 2000000
structure Txt where
 A : Option Addr
 c : Nat
 l : List UInt8
def rdCells (X : Txt) (k : Nat) (E O : Value) (f : Fl) : Array Value := #[.slice X.A X.l.length X.c, .int .i64 (k : Int), E, O, .bool f.deep, .bool f.alone, .bool f.twice, .bool f.far]
def TxtAt (w : World) (p : Nat) (X : Txt) : Prop := ∀ i, i < X.l.length -> ∃ g off, X.A = some ⟨g, off, none⟩ /\ g ≠ p /\ g < w.heap.size /\ w.cell? ⟨g, off + i, none⟩ = some (.int .u8 (byteAt X.l i : Int))
structure JRd (w : World) (p : Nat) (X : Txt) (k : Nat) (E O : Value) (f : Fl) : Prop where
 row : Row w p 67 (rdCells X k E O f)
 txt : TxtAt w p X
theorem TxtAt.kept {w w' : World} {p : Nat} {X : Txt} (h : TxtAt w p X) (hk : Kept (· = p) w w') : TxtAt w' p X := fun i hi => by
 obtain ⟨g, off, e, hg, hlt, hc⟩ := h i hi
 exact ⟨g, off, e, hg, Nat.lt_of_lt_of_le hlt hk.size, by rw [<- hc]; exact World.cell?_of_block (hk.block g hlt hg)⟩
theorem JRd.step {w w' : World} {p : Nat} {X : Txt} {k k' : Nat} {E O E' O' : Value} {f f' : Fl} (h : JRd w p X k E O f) (hk : Kept (· = p) w w') (hr : Row w' p 67 (rdCells X k' E' O' f')) : JRd w' p X k' E' O' f' := ⟨hr, h.txt.kept hk⟩
theorem JRd.drewN {w : World} {p : Nat} {X : Txt} {k : Nat} {E O : Value} {f : Fl} (h : JRd w p X k E O f) (n : Nat) : JRd (w.drewN n) p X k E O f := ⟨h.row.drewN n, h.txt⟩
theorem JRd.below {w w' : World} {p : Nat} {X : Txt} {k : Nat} {E O : Value} {f : Fl} (h : JRd w p X k E O f) (hb : Below w.heap.size w w') : JRd w' p X k E O f :=
 ⟨h.row.call hb, fun i hi => by
   obtain ⟨g, off, e, hg, hlt, hc⟩ := h.txt i hi
   exact ⟨g, off, e, hg, Nat.lt_of_lt_of_le hlt hb.size, (hb.cell (p := ⟨g, off + i, none⟩) hlt).trans hc⟩⟩
def JWent (p : Nat) (X : Txt) (k : Nat) (E O : Value) (f : Fl) (w w' : World) : Prop := JRd w' p X k E O f /\ Kept (· = p) w w'
theorem jtakeK_ok (p : Nat) (X : Txt) (these : List UInt8) (k : Nat) (E O : Value) (f : Fl) (w : World) (h : JRd w p X k E O f) (hl : X.l.length <= 9223372036854775806) :
   Calls Tryz.prog 100 #[.pointer (some ⟨p, 0, none⟩), .string (bs these)] w fun e w' => e = .returned (.bool (takeAt these X.l k)) /\ JWent p X (if takeAt these X.l k then k + 1 else k) E O f w w' := by
 have c0 := h.row.cell (i := 0) (v := .slice X.A X.l.length X.c) rfl
 have c1 := h.row.cell (i := 1) (v := .int .i64 (k : Int)) rfl
 have f1 := h.row.free 1
 have H := hid h
 by_cases hk : k < X.l.length
 · obtain ⟨g, off, hA, hg, hgl, hc⟩ := h.txt k hk
   rw [hA] at c0
   have hlt : decide ((k : Int) < (X.l.length : Int)) = true := by simp; omega
   obtain ⟨x, hx⟩ : ∃ x, x = Lib.indexByte these (X.l.getD k 0) := ⟨_, rfl⟩
   have hT : takeAt these X.l k = decide (0 <= x) := by
     unfold takeAt
     rw [Lib.contains_iff_indexByte, hx]; simp [hk]
   have HIB : Hid (∀ W, Calls Tryz.prog 123 #[.string (bs these), .int .u8 (byteAt X.l k : Int)] W fun e w' => e = .returned (.int .i64 x) /\ w' = W) := hid fun W => by
     have := Tryz.strings_IndexByte (bs these) (byteAt X.l k : Int) W
     have e : ((byteAt X.l k : Int)).toNat.toUInt8 = X.l.getD k 0 := by unfold byteAt; simp
     rw [e] at this
     rw [hx]; exact this
   have HT := hid hT
   clear hT hx h hA
   generalize byteAt X.l k = y at *
   generalize hn : X.l.length = n at *
   by_cases hx0 : 0 <= x
   · rw [HT.out, decide_eq_true hx0, if_pos rfl]
     have hdx : decide ((0 : Int) <= x) = true := by simpa using hx0
     go_enter Tryz.func100, Tryz.ntmps100
     go_wp2_with fail
     go_quiet ((go_at_call 123; exact Calls.quiet_of_same ((HIB.out _).mono fun _ _ h => ⟨h.1, h.2⟩)))
     go_wp2
     go_ret
     have hkk : Kept (· = p) w ((w.drewN nq).setCell ⟨p, 1, none⟩ (.int .i64 ((k + 1 : Nat) : Int))) := (Kept.refl _ _).drewN _ |>.trans' (Kept.cell _ _ _ _)
     exact ⟨rfl, H.out.step hkk (by simpa [rdCells] using (H.out.row.drewN nq).set_ 1 (.int .i64 ((k + 1 : Nat) : Int))), hkk⟩
   · rw [HT.out, decide_eq_false hx0]
     have hdx : decide ((0 : Int) <= x) = false := by simpa using hx0
     go_enter Tryz.func100, Tryz.ntmps100
     go_wp2_with fail
     go_quiet ((go_at_call 123; exact Calls.quiet_of_same ((HIB.out _).mono fun _ _ h => ⟨h.1, h.2⟩)))
     go_wp2
     go_ret
     exact ⟨rfl, H.out.drewN _, (Kept.refl _ _).drewN _⟩
 · have hT : takeAt these X.l k = false := by unfold takeAt; simp [hk]
   have hlt : decide ((k : Int) < (X.l.length : Int)) = false := by simp; omega
   rw [hT]
   clear h
   go_enter Tryz.func100, Tryz.ntmps100
   go_wp2_with fail
   go_quiet (fail)
   go_wp2
   go_ret
   exact ⟨rfl, H.out.drewN _, (Kept.refl _ _).drewN _⟩
structure JAt (w : World) (p : Nat) (X : Txt) (s : List UInt8) (E O : Value) (f : Fl) : Prop where
 small : X.l.length <= 9223372036854775806 /\ X.l.length <= X.c
 at_ : ∃ k, JRd w p X k E O f /\ X.l.drop k = s /\ k <= X.l.length
def JTo (p : Nat) (X : Txt) (s : List UInt8) (E O : Value) (f : Fl) (w w' : World) : Prop := JAt w' p X s E O f /\ Kept (· = p) w w'
theorem take_tk (these l : List UInt8) (k : Nat) : takeAt these l k = tkB these (l.drop k) := by
 rw [takeAt_head]
 unfold tkB
 cases l.drop k <;> rfl
theorem jtake_ok (p : Nat) (X : Txt) (these s : List UInt8) (E O : Value) (f : Fl) (w : World) (h : JAt w p X s E O f) :
   Calls Tryz.prog 100 #[.pointer (some ⟨p, 0, none⟩), .string (bs these)] w fun e w' => e = .returned (.bool (tkB these s)) /\ JTo p X (tkS these s) E O f w w' := by
 obtain ⟨hl, k, hr, rfl, hk⟩ := h
 refine (jtakeK_ok p X these k E O f w hr hl.1).mono ?_
 rintro e w' ⟨rfl, hj, hkp⟩
 rw [<- take_tk]
 refine ⟨rfl, ⟨hl, _, hj, ?_, ?_⟩, hkp⟩
 · unfold tkS
   rw [<- take_tk]
   split
   · rw [List.drop_drop]
   · rfl
 · split
   · rename_i hb
     unfold takeAt at hb
     have := (Bool.and_eq_true_iff.1 hb).1
     have := of_decide_eq_true this
     omega
   · exact hk
theorem JTo.refl {p : Nat} {X : Txt} {s : List UInt8} {E O : Value} {f : Fl} {w : World} (h : JAt w p X s E O f) : JTo p X s E O f w w := ⟨h, Kept.refl _ _⟩
def leftOf (X : Txt) (p : Nat) (w : World) : Nat := X.l.length - (match w.cell? ⟨p, 1, none⟩ with | some (.int _ k) => k.toNat | _ => 0)
theorem JAt.left {w : World} {p : Nat} {X : Txt} {s : List UInt8} {E O : Value} {f : Fl} (h : JAt w p X s E O f) : leftOf X p w = s.length := by
 obtain ⟨_, k, hr, rfl, hk⟩ := h
 unfold leftOf
 rw [hr.row.cell (i := 1) (v := .int .i64 (k : Int)) rfl]
 simp
theorem blk_tk {s : List UInt8} (h : tkB [32, 9, 10, 13] s = true) : blk (tkS [32, 9, 10, 13] s) = blk s := by
 unfold tkS
 rw [if_pos h]
 cases s with
 | nil => rfl
 | cons x t =>
   have hx : isBlank x = true := by
     unfold tkB at h
     simp only [List.contains_eq_mem, List.mem_cons, List.not_mem_nil, or_false, decide_eq_true_eq] at h
     unfold isBlank
     rcases h with h | h | h | h <;> subst h <;> decide
   unfold blk
   rw [List.dropWhile_cons, if_pos hx]
   rfl
theorem blk_tkn {s : List UInt8} (h : tkB [32, 9, 10, 13] s = false) : blk s = s := by
 cases s with
 | nil => rfl
 | cons x t =>
   have hx : ¬ isBlank x = true := by
     intro hb
     unfold tkB at h
     simp only [List.contains_eq_mem, List.mem_cons, List.not_mem_nil, or_false, decide_eq_false_iff_not] at h
     unfold isBlank at hb
     simp only [Bool.or_eq_true, beq_iff_eq] at hb
     refine h ?_
     rcases hb with ((hb | hb) | hb) | hb <;> simp [hb]
   unfold blk
   rw [List.dropWhile_cons, if_neg hx]
theorem tkS_no {these s : List UInt8} (h : tkB these s = false) : tkS these s = s := by unfold tkS; rw [h]; rfl
theorem tkS_yes {these s : List UInt8} (h : tkB these s = true) : tkS these s = s.drop 1 := by unfold tkS; rw [if_pos h]
theorem tkS_lt {these s : List UInt8} (h : tkB these s = true) : (tkS these s).length < s.length := by
 rw [tkS_yes h, List.length_drop]
 have := tkB_some h
 omega
theorem jblanks_ok (p : Nat) (X : Txt) (s : List UInt8) (E O : Value) (f : Fl) (w : World) (h : JAt w p X s E O f) :
   Calls Tryz.prog 84 #[.pointer (some ⟨p, 0, none⟩)] w fun e w' => e = .returned (.tuple #[]) /\ JTo p X (blk s) E O f w w' := by
 have H := hid h
 clear h
 go_enter Tryz.func84, Tryz.ntmps84
 go_wp2_with fail
 go_loopw [2] (fun _ wr => ∃ r, Hid (JTo p X r E O f w wr) /\ Hid (blk r = blk s)) (fun _ wr => leftOf X p wr)
 case atStart => exact ⟨s, hid (JTo.refl H.out), hid rfl⟩
 case round =>
   obtain ⟨r, HR, HB⟩ := hrel
   have HT := hid (jtake_ok p X [32, 9, 10, 13] r E O f _ HR.out.1)
   have HL := hid HR.out.1.left
   cases hb : tkB [32, 9, 10, 13] r with
   | true =>
     have HX := hid (blk_tk hb)
     have HY := hid (tkS_lt hb)
     rw [hb] at HT
     clear hb
     go_wp2_with fail
     refine HT.out.mono ?_
     rintro e w2 ⟨rfl, hj, hkp⟩
     have HJ := hid hj
     have HK := hid (HR.out.2.trans' hkp)
     clear hj hkp
     go_wp2_with fail
     exact ⟨⟨_, hid ⟨HJ.out, HK.out⟩, hid (HX.out.trans HB.out)⟩, by rw [HJ.out.left, HL.out]; exact HY.out⟩
   | false =>
     have HX := hid (blk_tkn hb)
     have HY := hid (tkS_no hb)
     rw [hb] at HT
     clear hb
     go_wp2_with fail
     refine HT.out.mono ?_
     rintro e w2 ⟨rfl, hj, hkp⟩
     rw [HY.out] at hj
     have HJ := hid hj
     have HK := hid (HR.out.2.trans' hkp)
     clear hj hkp
     go_wp2_with fail
     go_end0
     refine ⟨rfl, ?_, HK.out⟩
     rw [<- HB.out, HX.out]
     exact HJ.out
def panicOf (k : Int) : List PanicEntry := [{ v := .iface 33 (.int .i64 k), recovered := false }]
def sgB (these s : List UInt8) : Bool := tkB these (blk s)
def sgS (these s : List UInt8) : List UInt8 := tkS these (blk s)
theorem jsign_ok (p : Nat) (X : Txt) (these s : List UInt8) (E O : Value) (f : Fl) (w : World) (h : JAt w p X s E O f) :
   Calls Tryz.prog 76 #[.pointer (some ⟨p, 0, none⟩), .string (bs these)] w fun e w' => e = .returned (.bool (sgB these s)) /\ JTo p X (sgS these s) E O f w w' := by
 have HB := hid (jblanks_ok p X s E O f w h)
 clear h
 go_enter Tryz.func76, Tryz.ntmps76
 go_wp2_with fail
 refine HB.out.mono ?_
 rintro e w1 ⟨rfl, hj, hk⟩
 have HT := hid (jtake_ok p X these (blk s) E O f w1 hj)
 have HK := hid hk
 clear hj hk
 go_wp2_with fail
 refine HT.out.mono ?_
 rintro e w2 ⟨rfl, hj, hk⟩
 have HJ := hid hj
 have HK2 := hid (HK.out.trans' hk)
 clear hj hk
 go_wp2
 go_ret
 exact ⟨rfl, HJ.out, HK2.out⟩
def mustL (these s : List UInt8) : Option (List UInt8) := if sgB these s then some (sgS these s) else none
def JEnd (p : Nat) (X : Txt) (E O : Value) (f : Fl) (w : World) (v : Value) : Option (List UInt8) -> Ending -> World -> Prop
 | some s, e, w' => e = .returned v /\ JTo p X s E O f w w'
 | none, e, w' => e = .panicked (panicOf 180) /\ Kept (· = p) w w'
theorem jmust_ok (p : Nat) (X : Txt) (these s : List UInt8) (E O : Value) (f : Fl) (w : World) (h : JAt w p X s E O f) :
   Calls Tryz.prog 80 #[.pointer (some ⟨p, 0, none⟩), .string (bs these)] w (JEnd p X E O f w (.tuple #[]) (mustL these s)) := by
 have HB := hid (jsign_ok p X these s E O f w h)
 have HM : Hid (mustL these s = if sgB these s then some (sgS these s) else none) := hid rfl
 clear h
 generalize mustL these s = m at *
 generalize sgB these s = b at *
 generalize sgS these s = r at *
 go_enter Tryz.func80, Tryz.ntmps80
 go_wp2_with fail
 refine HB.out.mono ?_
 rintro e w1 ⟨rfl, hj, hk⟩
 have HJ := hid hj
 have HK := hid hk
 clear hj hk HB
 cases b with
 | true =>
   obtain rfl : m = some r := HM.out
   go_wp2_with fail
   go_end0
   exact ⟨rfl, HJ.out, HK.out⟩
 | false =>
   obtain rfl : m = none := HM.out
   go_wp2_with fail
   exact ⟨rfl, rfl, HK.out⟩
def JNext (p : Nat) (X : Txt) (E O : Value) (f : Fl) (w : World) : List UInt8 -> Ending -> World -> Prop
 | b :: t, e, w' => e = .returned (.int .u8 (b.toNat : Int)) /\ JTo p X t E O f w w'
 | [], e, w' => e = .panicked (panicOf 180) /\ Kept (· = p) w w'
theorem dropJ_cons {l : List UInt8} {k : Nat} (h : k < l.length) : l.drop k = l.getD k 0 :: l.drop (k + 1) := by
 rw [List.drop_eq_getElem_cons h]
 congr 1
 simp [List.getD, List.getElem?_eq_getElem h]
theorem jnext_ok (p : Nat) (X : Txt) (s : List UInt8) (E O : Value) (f : Fl) (w : World) (h : JAt w p X s E O f) :
   Calls Tryz.prog 124 #[.pointer (some ⟨p, 0, none⟩)] w (JNext p X E O f w s) := by
 obtain ⟨hl9, k, h, rfl, hk⟩ := h
 have HL9 := hid hl9
 have hl := hl9.1
 clear hl9
 have c0 := h.row.cell (i := 0) (v := .slice X.A X.l.length X.c) rfl
 have c1 := h.row.cell (i := 1) (v := .int .i64 (k : Int)) rfl
 have f1 := h.row.free 1
 have H := hid h
 by_cases hlt : k < X.l.length
 · obtain ⟨g, off, hA, hg, hgl, hc⟩ := h.txt k hlt
   have HD := hid (dropJ_cons hlt)
   have HB : Hid (byteAt X.l k = (X.l.getD k 0).toNat) := hid rfl
   have HTX := hid h.txt
   rw [hA] at c0
   have he : ((k : Int) == (X.l.length : Int)) = false := by rw [beq_eq_false_iff_ne]; omega
   have HPK : Hid (JNext p X E O f w (X.l.drop k) = JNext p X E O f w (X.l.getD k 0 :: X.l.drop (k + 1))) := hid (by rw [HD.out])
   rw [HPK.out]
   clear h
   generalize hn : X.l.length = n at *
   have HN := hid hn
   have HA := hid hA
   clear hn hA HPK hk
   go_enter Tryz.func124, Tryz.ntmps124
   go_wp2_with fail
   go_quiet (fail)
   go_upto_region 4 with fail
   obtain ⟨w1, hw1⟩ : ∃ w1, w1 = (w.drewN nq).setCell ⟨p, 1, none⟩ (.int .i64 ((k : Int) + 1)) := ⟨_, rfl⟩
   rw [<- hw1]
   have hkk : Kept (· = p) w w1 := by subst hw1; exact (Kept.refl _ _).drewN _ |>.trans' (Kept.cell _ _ _ _)
   have hj1 : JRd w1 p X (k + 1) E O f := H.out.step hkk (by subst hw1; simpa [rdCells] using (H.out.row.drewN nq).set_ 1 (.int .i64 ((k + 1 : Nat) : Int)))
   have HJ := hid hj1
   have HK := hid hkk
   have d0 := hj1.row.cell (i := 0) (v := .slice X.A X.l.length X.c) rfl
   rw [HA.out, HN.out] at d0
   have d1 := hj1.row.cell (i := 1) (v := .int .i64 ((k : Int) + 1)) rfl
   have dc := (World.cell?_of_block (a := ⟨g, off + k, none⟩) (hkk.block g hgl hg)).trans hc
   rw [HB.out] at dc
   have hkn : (k : Int) + 1 - 1 = (k : Int) := by omega
   clear hj1 hkk hw1 hc c0 c1 f1 he
   generalize X.l.getD k 0 = b at *
   obtain ⟨y, hy⟩ : ∃ y, b.toNat = y := ⟨_, rfl⟩
   have HY := hid hy
   rw [hy] at dc
   clear hy
   go_quiet (fail)
   go_wp2
   go_ret
   refine ⟨by rw [HY.out]; rfl, ⟨by rw [HN.out]; exact HL9.out, k + 1, HJ.out.drewN _, rfl, ?_⟩, HK.out.drewN _⟩
   rw [HN.out]
   omega
 · have HD : Hid (X.l.drop k = []) := hid (List.drop_of_length_le (by omega))
   rw [HD.out]
   have he : ((k : Int) == (X.l.length : Int)) = true := by rw [beq_iff_eq]; omega
   clear h
   generalize hn : X.l.length = n at *
   go_enter Tryz.func124, Tryz.ntmps124
   go_wp2_with fail
   go_quiet (fail)
   go_wp2
   exact ⟨rfl, rfl, (Kept.refl _ _).drewN _⟩
end Go.Proofs.YtmhbkjjkalnggaaGreatDoor
