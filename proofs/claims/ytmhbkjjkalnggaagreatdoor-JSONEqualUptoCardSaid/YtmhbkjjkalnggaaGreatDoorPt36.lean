import Derived.Test.YtmhbkjjkalnggaaGreatDoorPt34
import Derived.Test.YtmhbkjjkalnggaaGreatDoorPt35
namespace Go.Proofs.YtmhbkjjkalnggaaGreatDoor
open Go.RowKit
set_option maxRecDepth 1000000
set_option maxHeartbeats 8000000
theorem escL_pos (b : UInt8) : 1 <= (escL b).length := by
 unfold escL
 repeat (split; · simp)
 simp
theorem flat_esc_len (s : List UInt8) : s.length <= (s.flatMap escL).length := by
 induction s with
 | nil => simp
 | cons b s ih =>
   have := escL_pos b
   rw [List.flatMap_cons, List.length_append, List.length_cons]; omega
theorem quoteL_len (s : List UInt8) : s.length <= (quoteL s).length := by
 have := flat_esc_len s
 unfold quoteL
 simp only [List.length_append, List.length_cons, List.length_nil]; omega
theorem tellKids_len (k : Int) : ∀ (l : List JV) (i : Nat) (ns : List (List UInt8)), l.length <= (tellKids k i l ns).length + (if i = 0 then 1 else 0)
 | [], _, _ => by simp
 | x :: l, i, ns => by
   have := tellKids_len k l (i + 1) ns.tail
   rw [if_neg (by omega)] at this
   rw [tellKids]
   simp only [List.length_append, List.length_cons]
   split <;> simp <;> omega
theorem tellKids_mem (k : Int) : ∀ (l : List JV) (i : Nat) (ns : List (List UInt8)), ∀ x ∈ l, (tellJ x).length <= (tellKids k i l ns).length
 | [], _, _, x, hx => by simp at hx
 | y :: l, i, ns, x, hx => by
   rw [tellKids]
   simp only [List.length_append]
   rcases List.mem_cons.1 hx with rfl | hx
   · omega
   · have := tellKids_mem k l (i + 1) ns.tail x hx
     omega
theorem tellKids_name : ∀ (l : List JV) (i : Nat) (ns : List (List UInt8)), ns.length = l.length -> ∀ x ∈ ns, x.length <= (tellKids 5 i l ns).length
 | [], _, ns, h, x, hx => by
   obtain rfl : ns = [] := List.eq_nil_of_length_eq_zero (by simpa using h)
   simp at hx
 | y :: l, i, [], h, x, hx => by simp at hx
 | y :: l, i, n :: ns, h, x, hx => by
   rw [tellKids]
   simp only [List.length_append, if_true, List.headD_cons, List.tail_cons]
   rcases List.mem_cons.1 hx with rfl | hx
   · have := quoteL_len x; omega
   · have := tellKids_name l (i + 1) ns (by simpa using h) x hx
     omega
theorem askKids_get : ∀ {l : List JV}, askKids l = true -> ∀ x ∈ l, askJ x = true
 | [], _, x, hx => by simp at hx
 | y :: l, h, x, hx => by
   unfold askKids at h
   rw [Bool.and_eq_true] at h
   rcases List.mem_cons.1 hx with rfl | hx
   · exact h.1
   · exact askKids_get h.2 x hx
theorem zB_get {b : Bool} {d : Dec} {t : List UInt8} {n m : Nat} (h : zB b d t n m = true) : d.digits = [] /\ t = [] /\ n = 0 /\ m = 0 := by
 unfold zB at h
 simp only [Bool.and_eq_true, decide_eq_true_eq, List.isEmpty_iff] at h
 exact ⟨h.1.1.1.2.1.2, h.1.1.2, h.1.2, h.2⟩
theorem cop_of_ask : ∀ (n : Nat) (v : JV), SizeOf.sizeOf v <= n -> FineJ v -> askJ v = true -> (tellJ v).length <= 1048576 -> CopJ v := by
 intro n
 induction n with
 | zero => intro v hv; cases v; simp at hv
 | succ n ih =>
   intro v hv hf ha hl
   obtain ⟨k, b, d, t, l, ns⟩ := v
   have hsz : ∀ x ∈ l, SizeOf.sizeOf x <= n := fun x hx => by
     have := List.sizeOf_lt_of_mem hx
     simp only [JV.mk.sizeOf_spec] at hv
     omega
   unfold FineJ at hf
   obtain ⟨hk, hd, htx, hkn, hns, hfk⟩ := hf
   have hfk2 := FineKids.get l hfk
   unfold CopJ
   have flat : l.length = 0 -> ns.length = 0 -> t.length <= 100000000000000 -> d.digits.length <= 100000000000000 /\ t.length <= 100000000000000 /\ ns.length <= 1000000000000 /\ l.length <= 1000000000000 /\ (∀ x ∈ ns, x.length <= 100000000000000) /\ CopKids l := fun h1 h2 h3 => by
     obtain rfl := List.eq_nil_of_length_eq_zero h1
     obtain rfl := List.eq_nil_of_length_eq_zero h2
     exact ⟨by omega, h3, by simp, by simp, fun x hx => by simp at hx, by unfold CopKids; trivial⟩
   rcases hk with rfl | rfl | rfl | rfl | rfl | rfl
   · rw [askJ, if_pos rfl] at ha
     obtain ⟨_, h2, h3, h4⟩ := zB_get ha
     exact flat h3 h4 (by rw [h2]; simp)
   · rw [askJ, if_neg (by decide), if_pos rfl] at ha
     obtain ⟨_, h2, h3, h4⟩ := zB_get ha
     exact flat h3 h4 (by rw [h2]; simp)
   · rw [askJ, if_neg (by decide), if_neg (by decide), if_pos rfl, Bool.and_eq_true] at ha
     obtain ⟨_, h2, h3, h4⟩ := zB_get ha.2
     exact flat h3 h4 (by rw [h2]; simp)
   · rw [askJ, if_neg (by decide), if_neg (by decide), if_neg (by decide), if_pos rfl, Bool.and_eq_true] at ha
     obtain ⟨_, h2, h3, h4⟩ := zB_get ha.2
     rw [tellJ, if_neg (by decide), if_neg (by decide), if_neg (by decide), if_pos rfl] at hl
     have := quoteL_len t
     exact flat h3 h4 (by omega)
   · rw [askJ, if_neg (by decide), if_neg (by decide), if_neg (by decide), if_neg (by decide), if_pos rfl, Bool.and_eq_true] at ha
     obtain ⟨_, h2, _, h4⟩ := zB_get ha.2
     have e : tellJ (.mk 4 b d t l ns) = [91] ++ tellKids 4 0 l [] ++ [93] := by rw [tellJ]; simp
     rw [e] at hl
     simp only [List.length_append, List.length_cons, List.length_nil] at hl
     have h5 := tellKids_len 4 l 0 []
     rw [if_pos rfl] at h5
     obtain rfl := List.eq_nil_of_length_eq_zero h4
     refine ⟨by omega, by rw [h2]; simp, by simp, by omega, fun x hx => by simp at hx, CopKids.of fun x hx => ih x (hsz x hx) (hfk2 x hx) (askKids_get ha.1 x hx) ?_⟩
     have := tellKids_mem 4 l 0 [] x hx
     omega
   · rw [askJ, if_neg (by decide), if_neg (by decide), if_neg (by decide), if_neg (by decide), if_neg (by decide), if_pos rfl, Bool.and_eq_true, Bool.and_eq_true, Bool.and_eq_true] at ha
     obtain ⟨_, h2, _, _⟩ := zB_get ha.2
     have e : tellJ (.mk 5 b d t l ns) = [123] ++ tellKids 5 0 l ns ++ [125] := by rw [tellJ]; simp
     rw [e] at hl
     simp only [List.length_append, List.length_cons, List.length_nil] at hl
     have h5 := tellKids_len 5 l 0 ns
     rw [if_pos rfl] at h5
     have h6 := hkn rfl
     refine ⟨by omega, by rw [h2]; simp, by omega, by omega, fun x hx => ?_, CopKids.of fun x hx => ih x (hsz x hx) (hfk2 x hx) (askKids_get ha.1.2 x hx) ?_⟩
     · have := tellKids_name l 0 ns h6 x hx
       omega
     · have := tellKids_mem 5 l 0 ns x hx
       omega
theorem check_zero {v : JV} (h : checkJ v = 0) : askJ v = true /\ depthJ v <= 64 /\ (tellJ v).length <= 1048576 := by
 unfold checkJ at h
 split at h
 · cases h
 · rename_i ha
   split at h
   · cases h
   · split at h
     · cases h
     · exact ⟨by simpa using ha, by omega, by omega⟩
def AllPost (w : World) (v : JV) (e : Ending) (w' : World) : Prop := ∃ gk cs, e = .returned (.func (.func 54) #[] #[.pointer (some ⟨gk, 0, none⟩)]) /\ w.heap.size <= gk /\ Row w' gk 28 cs /\ JIs w' (fun q => w.heap.size <= q) v cs.toList /\ Below w.heap.size w w'
theorem boxed {F : Nat -> Prop} {cs : Array Value} {v : JV} {w : World} (h : JIs w F v cs.toList) : JAtP (w.alloc (.cells cs 28)) F w.heap.size 0 v := by
 have b1 : Below w.heap.size w (w.alloc (.cells cs 28)) := (Below.refl _ _).alloc (Nat.le_refl _) _
 have r1 : Row (w.alloc (.cells cs 28)) w.heap.size 28 cs := Row.new _ _ _
 exact ⟨r1.lt, cs.toList, fun q u hu => by rw [Nat.zero_add]; exact r1.cell (by simpa using hu), h.below b1⟩
theorem cop_of_check {v : JV} (h : checkJ v = 0) (hf : askJ v = true -> FineJ v) : CopJ v := by
 obtain ⟨h1, _, h3⟩ := check_zero h
 exact cop_of_ask _ v (Nat.le_refl _) (hf h1) h1 h3
theorem jall_ok (F : Nat -> Prop) (cs : Array Value) (v : JV) (w : World) (h : JIs w F v cs.toList) (h8 : cs.size = 8) (hs : SmallJ v) (hf : askJ v = true -> FineJ v) (hd : depthJ v <= 1000000) (hT : PowTab w) (hU : Lib.Utf8Tabs 0 1 w) (h0 : checkJ v = 0) :
   Calls Tryz.prog 29 #[.agg cs] w (AllPost w v) := by
 obtain ⟨w1, hw1⟩ : ∃ w1, w1 = w.alloc (.cells cs 28) := ⟨_, rfl⟩
 have b1 : Below w.heap.size w w1 := by rw [hw1]; exact (Below.refl _ _).alloc (Nat.le_refl _) _
 have r1 : Row w1 w.heap.size 28 cs := by rw [hw1]; exact Row.new _ _ _
 have HRA : Hid (w1.rangeAt w.heap.size 0 cs.toList) := hid (fun j u hu => by rw [Nat.zero_add]; exact r1.cell (by simpa using hu))
 have HIN : Hid ((Tryz.prog.info? 28).map (·.size) = some cs.size) := hid (by rw [h8]; exact infoJ)
 have HC := hid (jmayBe_ok F cs v w1 (h.below b1) h8 hs hf hd (hT.below b1) (Utf8Tabs_below hU b1))
 have HB := hid b1
 have hj : JAtP w1 F w.heap.size 0 v := by rw [hw1]; exact boxed h
 have HCP := hid (fun V (hb : Below w1.heap.size w1 V) => jcopied_ok _ v (Nat.le_refl _) (cop_of_check h0 hf) F w.heap.size 0 V (hj.below hb))
 have h1 : (checkJ v == 0) = true := by rw [h0]; rfl
 rw [h1] at HC
 have hmf : ∀ (fn : Fn) (first cap : Array Value) (W : World), (Instr.makeFunc fn first cap).run Tryz.prog W = .ok (.func fn first cap) W := fun _ _ _ _ => rfl
 clear h hs hf hd hT hU b1 r1 h8 hj h0 h1
 go_enter Tryz.func29, Tryz.ntmps29
 go_upto_region 1 with fail
 rw [<- hw1]
 clear hw1
 go_wp2_with (first
   | (refine ldJ (.tmp 1) w.heap.size 0 cs HRA.out HIN.out ?_))
 refine HC.out.mono ?_
 rintro e w2 ⟨rfl, hb⟩
 have HCP2 := hid (HCP.out w2 hb)
 have HB2 := hid (HB.out.call hb)
 clear hb HCP
 go_wp2_with fail
 refine HCP2.out.mono ?_
 rintro e w3 ⟨c2, rfl, hcop, hb⟩
 obtain ⟨k2, b2, d2, t2, L2, N2, hc2⟩ := hcop.form
 have hone : c2.all (·.oneCell') = true := by
   rw [Array.all_eq_true_iff_forall_mem]
   intro u hu
   exact jv_one hcop.jis u (Array.mem_toList_iff.2 hu)
 have hs2 : c2.size = 8 := by rw [hc2]; rfl
 have HON := hid hone
 have HI2 : Hid ((Tryz.prog.info? 28).map (·.size) = some c2.size) := hid (by rw [hs2]; exact infoJ)
 have HTH : Hid ((w3.alloc (.cells zeroJ 28)).there w3.heap.size 0 c2.size) := hid (row_there (Row.new _ _ _) (by rw [hs2]; exact Nat.le_refl _))
 obtain ⟨w4, hw4⟩ : ∃ w4, w4 = (w3.alloc (.cells zeroJ 28)).setCells w3.heap.size 0 c2.toList := ⟨_, rfl⟩
 have b34 : Below w3.heap.size w3 w4 := by rw [hw4]; exact ((Below.refl _ _).alloc (Nat.le_refl _) _).trans ((kept_setCells _ _ _ _ _ (Kept.refl _ _)).below ((Below.refl w3.heap.size w3).alloc (Nat.le_refl _) _).size fun k hk => Nat.le_of_eq hk.symm)
 have hrow : Row w4 w3.heap.size 28 c2 := by
   rw [hw4]
   have h9 := row_laid c2.toList [] zeroJ.toList (w3.alloc (.cells zeroJ 28)) (g := w3.heap.size) (by simpa using Row.new w3 28 zeroJ) (by rw [Array.length_toList, Array.length_toList, hs2]; rfl)
   simpa using h9
 have HF : Hid (AllPost w v (.returned (.func (.func 54) #[] #[.pointer (some ⟨w3.heap.size, 0, none⟩)])) w4) := hid
   ⟨w3.heap.size, c2, rfl, Nat.le_trans HB2.out.size hb.size, hrow, (JIs.mono (fun q e1 _ => Nat.le_trans HB2.out.size e1) _ _ hcop.jis).below b34, (HB2.out.call hb).call b34⟩
 have HW4 := hid hw4
 clear hcop hb hc2 hone hs2 hw4 b34 hrow
 go_wp2_with (first
   | (refine wpList_store_mid ?_ 28 (.tmp 3) (.tmp 7) ?_ w3.heap.size 0 c2 ?_ ?_ ?_ HI2.out HON.out ?_
      · with_reducible rfl
      · with_reducible rfl
      · rfl
      · rfl
      · exact HTH.out
      show wpList _ _ _ _ _ ((w3.alloc (.cells zeroJ 28)).setCells w3.heap.size 0 c2.toList)
      rw [<- HW4.out]))
 go_ret
 exact HF.out
theorem Two.jis {W : World} {nb no cn lb lo cl : Nat} {b : Bool} {d : Dec} {t : List UInt8} {x y : JV} {F G : Nat -> Prop} {c0 c1 : List Value} (h : Two W nb no cn lb lo cl ⟨#[97]⟩ ⟨#[98]⟩ c0 c1) (hx : JIs W F x c0) (hy : JIs W F y c1) (hF : ∀ q, F q -> q < W.heap.size -> G q) (gn : G nb) (gl : G lb) :
   JIs W G (.mk 5 b d t [x, y] [[97], [98]]) (jvC 5 b d t (.slice (some ⟨lb, lo, none⟩) 2 cl) (.slice (some ⟨nb, no, none⟩) 2 cn)).toList := by
 obtain ⟨_, _, e1, a1, a2⟩ := h.list.form
 injection e1 with _ _ e1
 subst e1
 obtain ⟨_, _, e2, a3, a4⟩ := h.names.form
 injection e2 with _ _ e2
 subst e2
 obtain ⟨n0, n1, _, _⟩ := h.cells
 obtain ⟨g, off, cap, e3, _, _, _, _, hr⟩ := h.list.cells (by decide)
 injection e3 with e3 _ _
 injection e3 with e3
 injection e3 with e3 e4
 subst e3 e4
 unfold JIs
 refine ⟨some ⟨lb, lo, none⟩, cl, some ⟨nb, no, none⟩, cn, rfl, a1, a2, a3, a4, fun i hi => ?_, ?_⟩
 · refine ⟨nb, no, rfl, gn, h.nlt, ?_⟩
   have hi : i < 2 := hi
   rcases (show i = 0 ∨ i = 1 by omega) with rfl | rfl
   · exact n0
   · exact n1
 · refine JsAt.kids (F := F) gl h.llt hF [x, y] [c0, c1] 0 ⟨hx, hy, trivial⟩ ?_
   simpa using hr
theorem CopAt.two {W : World} {base : Nat} {b : Bool} {d : Dec} {t : List UInt8} {x y : JV} {cs : Array Value} (h : CopAt W base (.mk 5 b d t [x, y] [[98], [97]]) cs) :
   ∃ nb no cn lb lo cl c0 c1 F, cs = jvC 5 b d t (.slice (some ⟨lb, lo, none⟩) 2 cl) (.slice (some ⟨nb, no, none⟩) 2 cn) /\ Two W nb no cn lb lo cl ⟨#[98]⟩ ⟨#[97]⟩ c0 c1 /\ JIs W F x c0 /\ JIs W F y c1 /\ base <= nb /\ base <= lb /\ (∀ q, F q -> q ≠ nb /\ q ≠ lb /\ base <= q) := by
 obtain ⟨own, L, N, css, rfl, h1, h2, h3⟩ := h
 obtain ⟨lb, lo, cl, rfl, hl, _⟩ := h2.cells (by simp)
 obtain ⟨nb, no, cn, rfl, hn, _⟩ := h3.cells (by simp)
 match css, h1 with
 | [c0, c1], h1 =>
   refine ⟨nb, no, cn, lb, lo, cl, c0, c1, FB own base 0, rfl, ⟨?_, h3.only (by simp), ?_, h1.1.len, h1.2.1.len⟩, h1.1, h1.2.1, hn.2, hl.2, fun q hq => ⟨?_, ?_, hq.2⟩⟩
   · intro e; have a := hn.1; have b := hl.1; rw [e] at a; omega
   · have := h2.only (by simp); simpa using this
   · intro e; have a := hn.1; have b := hq.1; rw [e] at b; omega
   · intro e; have a := hl.1; have b := hq.1; rw [e] at b; omega
def SorPost (w : World) (v : JV) (e : Ending) (w' : World) : Prop := ∃ cs : Array Value, e = .returned (.agg cs) /\ JIs w' (fun q => w.heap.size <= q) v cs.toList /\ cs.size = 8 /\ Below w.heap.size w w'
theorem jsorted_two (F : Nat -> Prop) (cs : Array Value) (b : Bool) (d : Dec) (t : List UInt8) (x y : JV) (w : World) (h : JIs w F (.mk 5 b d t [x, y] [[98], [97]]) cs.toList) (h8 : cs.size = 8) (hs : SmallJ (.mk 5 b d t [x, y] [[98], [97]])) (hf : askJ (.mk 5 b d t [x, y] [[98], [97]]) = true -> FineJ (.mk 5 b d t [x, y] [[98], [97]]))
   (hd : depthJ (.mk 5 b d t [x, y] [[98], [97]]) <= 1000000) (hT : PowTab w) (hU : Lib.Utf8Tabs 0 1 w) (h0 : checkJ (.mk 5 b d t [x, y] [[98], [97]]) = 0) (nx : NoObj x) (ny : NoObj y) :
   Calls Tryz.prog 12 #[.agg cs] w (SorPost w (.mk 5 b d t [y, x] [[97], [98]])) := by
 obtain ⟨w0, hw0⟩ : ∃ w0, w0 = w.alloc (.cells cs 28) := ⟨_, rfl⟩
 obtain ⟨w1, hw1⟩ : ∃ w1, w1 = w0.alloc (.cells zeroJ 28) := ⟨_, rfl⟩
 have b0 : Below w.heap.size w w0 := by rw [hw0]; exact (Below.refl _ _).alloc (Nat.le_refl _) _
 have b01 : Below w0.heap.size w0 w1 := by rw [hw1]; exact (Below.refl _ _).alloc (Nat.le_refl _) _
 have s0 : w0.heap.size = w.heap.size + 1 := by rw [hw0]; simp
 have b1 := b0.call b01
 have r0 : Row w0 w.heap.size 28 cs := by rw [hw0]; exact Row.new _ _ _
 have r1 := r0.call b01
 have rr : Row w1 (w.heap.size + 1) 28 zeroJ := by rw [<- s0, hw1]; exact Row.new _ _ _
 have HRA : Hid (w1.rangeAt w.heap.size 0 cs.toList) := hid (fun j u hu => by rw [Nat.zero_add]; exact r1.cell (by simpa using hu))
 have HIN : Hid ((Tryz.prog.info? 28).map (·.size) = some cs.size) := hid (by rw [h8]; exact infoJ)
 have HC := hid (jmayBe_ok F cs _ w1 (h.below b1) h8 hs hf hd (hT.below b1) (Utf8Tabs_below hU b1))
 have HB := hid b1
 have hj : JAtP w1 F w.heap.size 0 (.mk 5 b d t [x, y] [[98], [97]]) := by have := boxed h; rw [<- hw0] at this; exact this.below b01
 have HCP := hid (fun V (hb : Below w1.heap.size w1 V) => jcopied_ok _ _ (Nat.le_refl _) (cop_of_check h0 hf) F w.heap.size 0 V (hj.below hb))
 have HRR := hid rr
 have h1 : (checkJ (.mk 5 b d t [x, y] [[98], [97]]) == 0) = true := by rw [h0]; rfl
 rw [h1] at HC
 have hz : zeroJ = zeroJ := rfl
 clear h hs hf hd hT hU b1 r1 h8 hj h0 h1 rr r0 b0 b01 hz
 have HW1 := hid hw1
 clear hw1
 go_enter Tryz.func12, Tryz.ntmps12
 go_upto_region 1 with fail
 have HW1 := HW1.out
 unfold zeroJ at HW1
 rw [<- hw0, <- HW1]
 clear hw0 HW1 s0
 go_wp2_with (first
   | (refine ldJ (.tmp 1) w.heap.size 0 cs HRA.out HIN.out ?_))
 refine HC.out.mono ?_
 rintro e w2 ⟨rfl, hb⟩
 have HCP2 := hid (HCP.out w2 hb)
 have HB2 := hid (HB.out.call hb)
 have HRR2 := hid (HRR.out.call hb)
 clear hb HCP HRR
 go_wp2_with fail
 refine HCP2.out.mono ?_
 rintro e w3 ⟨c2, rfl, hcop, hb⟩
 obtain ⟨nb, no, cn, lb, lo, cl, c0, c1, F2, hc2, htw, hjx, hjy, gn, gl, hF2⟩ := hcop.two
 have hone : c2.all (·.oneCell') = true := by
   rw [Array.all_eq_true_iff_forall_mem]
   intro u hu
   exact jv_one hcop.jis u (Array.mem_toList_iff.2 hu)
 have hs2 : c2.size = 8 := by rw [hc2]; rfl
 have HON := hid hone
 have HI2 : Hid ((Tryz.prog.info? 28).map (·.size) = some c2.size) := hid (by rw [hs2]; exact infoJ)
 have HTH : Hid ((w3.alloc (.cells zeroJ 28)).there w3.heap.size 0 c2.size) := hid (row_there (Row.new _ _ _) (by rw [hs2]; exact Nat.le_refl _))
 obtain ⟨w4, hw4⟩ : ∃ w4, w4 = (w3.alloc (.cells zeroJ 28)).setCells w3.heap.size 0 c2.toList := ⟨_, rfl⟩
 have b34 : Below w3.heap.size w3 w4 := by rw [hw4]; exact ((Below.refl _ _).alloc (Nat.le_refl _) _).trans ((kept_setCells _ _ _ _ _ (Kept.refl _ _)).below ((Below.refl w3.heap.size w3).alloc (Nat.le_refl _) _).size fun k hk => Nat.le_of_eq hk.symm)
 have hrow : Row w4 w3.heap.size 28 c2 := by
   rw [hw4]
   have h9 := row_laid c2.toList [] zeroJ.toList (w3.alloc (.cells zeroJ 28)) (g := w3.heap.size) (by simpa using Row.new w3 28 zeroJ) (by rw [Array.length_toList, Array.length_toList, hs2]; rfl)
   simpa using h9
 have l0 : c0.toArray.toList = c0 := rfl
 have l1 : c1.toArray.toList = c1 := rfl
 have ht4 := htw.below b34
 have hj4x := hjx.below b34
 have hj4y := hjy.below b34
 have hrow4 := hrow
 rw [hc2] at hrow4
 have HAR := hid (jarr_two w3.heap.size nb no cn lb lo cl b d t x y F2 c0.toArray c1.toArray w4 hrow4 ht4 hj4x hj4y (by have := htw.nlt; omega) (by have := htw.llt; omega) (fun q hq => ⟨(hF2 q hq).1, (hF2 q hq).2.1⟩) nx ny)
 have FF : Hid (∀ w5, TwoPost nb no cn lb lo cl c0.toArray c1.toArray w4 (.returned (.tuple #[])) w5 -> Row w5 w3.heap.size 28 c2 /\ Row w5 (w.heap.size + 1) 28 zeroJ /\ JIs w5 (fun q => w2.heap.size <= q) (.mk 5 b d t [y, x] [[97], [98]]) c2.toList /\ Below w.heap.size w w5) := hid (by
   rintro w5 ⟨_, h2, h3⟩
   have hsz := hb.size
   have hw2 := HRR2.out.lt
   have hne : ∀ q, q = nb ∨ q = lb -> w2.heap.size <= q := fun q e => e.elim (fun e => by rw [e]; exact gn) (fun e => by rw [e]; exact gl)
   have kx : JIs w5 F2 x c0 := JIs.kept h3 (fun q hq e => e.elim (hF2 q hq).1 (hF2 q hq).2.1) _ _ hj4x
   have ky : JIs w5 F2 y c1 := JIs.kept h3 (fun q hq e => e.elim (hF2 q hq).1 (hF2 q hq).2.1) _ _ hj4y
   refine ⟨hrow.kept h3 (fun e => by have := htw.nlt; have := htw.llt; omega), ((HRR2.out.call hb).call b34).kept h3 (fun e => by have := hne _ e; omega), ?_, ?_⟩
   · rw [hc2]
     exact Two.jis h2 ky kx (fun q hq _ => (hF2 q hq).2.2) gn gl
   · exact ((HB2.out.call hb).call b34).trans (h3.below (((HB2.out.call hb).call b34).size) fun q e => by have := hne q e; have := HB2.out.size; omega))
 have HW4 := hid hw4
 have HS2 := hid hs2
 clear hcop hb hc2 hone hs2 hw4 b34 hrow htw hjx hjy gn gl hF2 l0 l1 ht4 hj4x hj4y hrow4
 go_wp2_with (first
   | (refine wpList_store_mid ?_ 28 (.tmp 3) (.tmp 8) ?_ w3.heap.size 0 c2 ?_ ?_ ?_ HI2.out HON.out ?_
      · with_reducible rfl
      · with_reducible rfl
      · rfl
      · rfl
      · exact HTH.out
      show wpList _ _ _ _ _ ((w3.alloc (.cells zeroJ 28)).setCells w3.heap.size 0 c2.toList)
      rw [<- HW4.out]))
 refine HAR.out.mono ?_
 rintro e w5 ⟨rfl, h2, h3⟩
 obtain ⟨f1, f2, f3, f4⟩ := FF.out w5 ⟨rfl, h2, h3⟩
 have HR5 : Hid (w5.rangeAt w3.heap.size 0 c2.toList) := hid (fun q u hu => by rw [Nat.zero_add]; exact f1.cell (by simpa using hu))
 have HT5 : Hid (w5.there (w.heap.size + 1) 0 c2.size) := hid (row_there f2 (by rw [HS2.out]; exact Nat.le_refl _))
 have kk := kept_setCells w5 (w.heap.size + 1) c2.toList 0 w5 (Kept.refl _ _)
 have HRF : Hid (Row (w5.setCells (w.heap.size + 1) 0 c2.toList) (w.heap.size + 1) 28 c2) := hid (by
   have h9 := row_laid c2.toList [] zeroJ.toList w5 (g := w.heap.size + 1) (by simpa using f2) (by rw [Array.length_toList, Array.length_toList, HS2.out]; rfl)
   simpa using h9)
 have hw2 := HRR2.out.lt
 have HFIN : Hid (SorPost w (.mk 5 b d t [y, x] [[97], [98]]) (.returned (.agg c2)) (w5.setCells (w.heap.size + 1) 0 c2.toList)) := hid
   ⟨c2, rfl, JIs.mono (fun q e1 _ => Nat.le_trans HB2.out.size e1) _ _ (JIs.kept kk (fun q e1 e2 => by omega) _ _ f3), HS2.out, f4.trans (kk.below f4.size fun q e => by omega)⟩
 clear h2 h3 f1 f2 f3 f4 kk hw2
 go_wp2_with (first
   | (refine ldJ (.tmp 3) w3.heap.size 0 c2 HR5.out HI2.out ?_)
   | (refine wpList_store_mid ?_ 28 (.tmp 2) (.tmp 10) ?_ (w.heap.size + 1) 0 c2 ?_ ?_ HT5.out HI2.out HON.out ?_
      · with_reducible rfl
      · with_reducible rfl
      · rfl
      · rfl))
 refine bodyPost_ret_by (results_oneJ rfl _ _ (w.heap.size + 1) c2 ?_ (load_jv HRF.out HS2.out)) rfl ?_
 · rfl
 exact HFIN.out
end Go.Proofs.YtmhbkjjkalnggaaGreatDoor
