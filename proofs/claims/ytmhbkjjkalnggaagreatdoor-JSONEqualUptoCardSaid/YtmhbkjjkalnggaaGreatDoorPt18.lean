import Derived.Test.YtmhbkjjkalnggaaGreatDoorPt17
namespace Go.Proofs.YtmhbkjjkalnggaaGreatDoor
open Go.RowKit
set_option maxRecDepth 1000000
set_option maxHeartbeats 40000000
theorem ldJ {ops : Array Oper} {rest : List Oper} {op : Oper} {a : Act} {w : World} {Q : Exit -> Act -> World -> Prop} (x : Operand) (b o : Nat) (cs : Array Value) (hc : w.rangeAt b o cs.toList) (hi : (Tryz.prog.info? 28).map (·.size) = some cs.size)
   (h : wpList Tryz.prog ops Q rest (a.put op.dst (.agg cs)) w) (hg : op.guard = none := by with_reducible rfl) (ho : op.op = .load 28 x := by with_reducible rfl) (hx : a.eval x = .pointer (some ⟨b, o, none⟩) := by rfl) : wpList Tryz.prog ops Q (op :: rest) a w :=
 wpList_load_mid hg 28 x ho b o hx cs.toList _ hc Tryz.underlying28 rfl (by rw [Array.length_toList]; exact hi) (by rw [Array.toArray_toList]; exact h)
theorem run_sliceTo {P : Program} (W : World) (t e : TypeId) (ht : P.underlying t = some (.slice e)) (hi : (P.info? e).isSome = true) (g off n c b : Nat) (h : b <= c) :
   (Instr.sliceAt t (.slice (some ⟨g, off, none⟩) n c) none (some (.int .i64 (b : Int))) none).run P W = .ok (.slice (some ⟨g, off, none⟩) b c) W := by
 obtain ⟨i, hi⟩ := Option.isSome_iff_exists.1 hi
 simp [Instr.sliceAt, Instr.slice, Instr.sliceBounds, Instr.sliceBound, asIntOf, go_sem, run_underlying ht, sizeOf, typeInfo, hi, h, Addr.add]
def ownDone (own : Nat -> Nat) (m q : Nat) : Nat := if own q = 4 + 3 * m ∨ own q = 5 + 3 * m ∨ own q = 6 + 3 * m then 0 else own q
theorem ownDone_3 {own : Nat -> Nat} {m q : Nat} (h : own q = 3) : ownDone own m q = 3 := by unfold ownDone; rw [if_neg (by omega)]; exact h
section
variable {W : World} {own own' : Nat -> Nat} {base : Nat}
theorem LvAt.relabel {i : Nat} {t : Fr} {cs : List Value} (h : LvAt W own base i t cs) (h0 : ∀ q, own q = 0 -> own' q = 0) (h1 : ∀ q, 4 + 3 * i <= own q -> own q < 7 + 3 * i -> own' q = own q) : LvAt W own' base i t cs := by
 obtain ⟨L, N, M, css, e, a1, a2, a3, a4⟩ := h
 have f : ∀ j, 4 + 3 * i <= j -> j < 7 + 3 * i -> ∀ k, FB own base j k -> FB own' base j k := fun j h2 h3 k hk => ⟨(h1 k (by have := hk.1; omega) (by have := hk.1; omega)).trans hk.1, hk.2⟩
 exact ⟨L, N, M, css, e, JsAt.mono (fun k hk _ => ⟨h0 k hk.1, hk.2⟩) _ _ a1, a2.mono (f _ (by omega) (by omega)), a3.mono (f _ (by omega) (by omega)), a4.imp id fun ⟨b, e1, e2, e3⟩ => ⟨b, e1, f _ (by omega) (by omega) b e2, e3⟩⟩
theorem LvsAt.relabel (h0 : ∀ q, own q = 0 -> own' q = 0) : ∀ (i : Nat) (l : List Fr) (css : List (List Value)), LvsAt W own base i l css -> (∀ q, 4 + 3 * i <= own q -> own q < 4 + 3 * (i + l.length) -> own' q = own q) -> LvsAt W own' base i l css
 | _, [], [], _, _ => trivial
 | i, t :: r, c :: cs, h, hd => ⟨h.1.relabel h0 fun q a b => hd q a (by simp only [List.length_cons]; omega), LvsAt.relabel h0 (i + 1) r cs h.2 fun q a b => hd q (by omega) (by simp only [List.length_cons]; omega)⟩
 | _, [], _ :: _, h, _ => h.elim
 | _, _ :: _, [], h, _ => h.elim
end
theorem TopW.val {W : World} {own : Nat -> Nat} {base : Nat} {t : Fr} {r : List Fr} {g off cap : Nat} {cs0 : List (List Value)} {L N M : Value} {css : List (List Value)} (h : TopW W own base t r g off cap cs0 L N M css) :
   JIs W (FB (ownDone own r.length) base 0) t.val ((lvC t.obj L N M).take 8) := by
 obtain ⟨A, c, hL, h1, h2⟩ := h.list.form
 obtain ⟨A', c', hN, h3, h4⟩ := h.names.form
 unfold Fr.val JIs
 refine ⟨A, c, A', c', by rw [hL, hN]; rfl, h1, h2, h3, h4, fun i hi => ?_, ?_⟩
 · obtain ⟨g2, off2, cap2, hv, hf, _, _, hlt, hr⟩ := h.names.cells (by omega)
   rw [hN] at hv
   injection hv with e1 _ _
   refine ⟨g2, off2, e1, ⟨?_, hf.2⟩, hlt, ?_⟩
   · unfold ownDone; rw [if_pos (.inr (.inl hf.1))]
   · have := hr i (keyV (t.names.getD i [])) (by simp [List.getD, List.getElem?_eq_getElem hi])
     exact this
 · by_cases h0 : t.list = []
   · rw [h0]; unfold KidsAt; trivial
   · have hpos : 0 < t.list.length := by
       cases hq : t.list with
       | nil => exact absurd hq h0
       | cons x y => simp
     obtain ⟨g2, off2, cap2, hv, hf, _, _, hlt, hr⟩ := h.list.cells hpos
     rw [hL] at hv
     injection hv with e1 _ _
     rw [e1]
     refine JsAt.kids (F := FB own base 0) ⟨?_, hf.2⟩ hlt (fun k hk _ => ⟨?_, hk.2⟩) t.list css 0 h.vals (by simpa using hr)
     · unfold ownDone; rw [if_pos (.inl hf.1)]
     · unfold ownDone; rw [if_neg (by have := hk.1; omega)]; exact hk.1
theorem row_setCells {g : Nat} {T : TypeId} {cs : Array Value} : ∀ (vs : List Value) (o : Nat) (W : World), Row W g T cs -> (∀ j v, vs[j]? = some v -> cs[o + j]? = some v) -> Row (W.setCells g o vs) g T cs
 | [], _, _, h, _ => h
 | v :: vs, o, W, h, hv => by
   rw [World.setCells]
   refine row_setCells vs (o + 1) _ ?_ fun j u hu => ?_
   · have h1 := h.set_ o v
     have h2 := hv 0 v rfl
     rw [Nat.add_zero] at h2
     have e : cs.setIfInBounds o v = cs := by
       refine Array.ext_getElem? fun i => ?_
       rw [Array.getElem?_setIfInBounds]
       by_cases hi : o = i
       · subst hi
         rw [if_pos rfl, if_pos (Array.getElem?_eq_some_iff.1 h2).1, <- h2]
       · rw [if_neg hi]
     rwa [e] at h1
   · rw [Nat.add_assoc, Nat.add_comm 1 j]
     exact hv (j + 1) u (by simpa using hu)
theorem row_laid {g : Nat} {T : TypeId} : ∀ (vs done rest : List Value) (W : World), Row W g T (done ++ rest).toArray -> rest.length = vs.length -> Row (W.setCells g done.length vs) g T (done ++ vs).toArray
 | [], done, rest, W, h, hl => by
   obtain rfl : rest = [] := List.eq_nil_of_length_eq_zero hl
   exact h
 | v :: vs, done, rest, W, h, hl => by
   obtain ⟨y, ys, rfl⟩ : ∃ y t, rest = y :: t := by
     cases rest with
     | nil => cases hl
     | cons y t => exact ⟨y, t, rfl⟩
   rw [World.setCells]
   have h1 := h.set_ done.length v
   have e : (done ++ y :: ys).toArray.setIfInBounds done.length v = ((done ++ [v]) ++ ys).toArray := by simp
   rw [e] at h1
   have h2 := row_laid vs (done ++ [v]) ys _ h1 (by simpa using hl)
   rw [List.length_append, List.length_singleton] at h2
   simpa using h2
theorem lea_fin {w w9 w10 wf : World} {p : Nat} {X : Txt} {s s0 : List UInt8} {O E0 O0 : Value} {f f0 : Fl} {w0 : World} {own own1 : Nat -> Nat} {t : Fr} {r : List Fr} {g0 offE c rv : Nat} {CS : Array Value} {v : JV} (h0 : JAt w0 p X s0 E0 O0 f0)
   (hrv : own1 rv = 3) (hrb : w.heap.size <= rv) (hE : Lies w9 (FB own1 w0.heap.size 1) 5 1 (.slice (some ⟨g0, offE, none⟩) (r.length + 1) c) (r.length + 1) (u8s ((t :: r).reverse.map endB)))
   (hO : ∃ css, Lies w9 (FB own1 w0.heap.size 2) 120 9 O (keptK r).length css.flatten /\ LvsAt w9 own1 w0.heap.size 0 (keptK r) css) (hv : JIs w9 (FB own1 w0.heap.size 0) v CS.toList)
   (hj : JAt w9 p X s (.slice (some ⟨g0, offE, none⟩) (r.length + 1) c) O f) (hk : Kept (StkG own w0.heap.size p) w w9) (hb : w0.heap.size <= w.heap.size)
   (h10 : w10 = w9.setCell ⟨p, 2, none⟩ (.slice (some ⟨g0, offE, none⟩) r.length c)) (hf : wf = w10.setCells rv 0 CS.toList) (ho : ∀ q, q < w.heap.size -> own q = 3 -> own1 q = 3) :
   ∃ own' E' O' cs, Ending.returned (.agg CS) = .returned (.agg cs.toArray) /\ JIs wf (FB own' w0.heap.size 0) v cs /\ Stk wf own' w0.heap.size r E' O' /\ JAt wf p X s E' O' f /\ Kept (StkG own w0.heap.size p) w wf /\ ∀ q, q < w.heap.size -> own q = 3 -> own' q = 3 := by
 have hp := h0.lt
 have k1 : Kept (· = p) w9 w10 := by rw [h10]; exact Kept.cell _ _ _ _
 have k2 : Kept (· = rv) w10 wf := by rw [hf]; exact kept_setCells _ _ _ _ _ (Kept.refl _ _)
 have s1 : Still w9 w10 (· = p) own1 own1 := ⟨k1, fun _ _ => rfl⟩
 have s2 : Still w10 wf (· = rv) own1 own1 := ⟨k2, fun _ _ => rfl⟩
 have d1 : ∀ i q, q = p -> w0.heap.size <= q -> own1 q ≠ i := fun i q e hq => by omega
 have d2 : ∀ i, i ≠ 3 -> ∀ q, q = rv -> w0.heap.size <= q -> own1 q ≠ i := fun i hi q e _ => by rw [e, hrv]; omega
 have e1 : u8s ((t :: r).reverse.map endB) = u8s (r.reverse.map endB) ++ [.int .u8 (endB t).toNat] := by unfold u8s; simp
 refine ⟨own1, .slice (some ⟨g0, offE, none⟩) r.length c, O, CS.toList, by simp, (hv.still s1 (d1 0)).still s2 (d2 0 (by omega)), ⟨?_, ?_⟩, ?_, ?_, ho⟩
 · have h1 := hE.take (k := r.length) (by omega)
   rw [e1, List.take_left' (by simp [u8s])] at h1
   exact (h1.still s1 (d1 1)).still s2 (d2 1 (by omega))
 · obtain ⟨css, a1, a2⟩ := hO
   exact ⟨css, (a1.still s1 (d1 2)).still s2 (d2 2 (by omega)), LvsAt.still s2 0 _ _ (LvsAt.still s1 0 _ _ a2 fun q e hq => by omega) fun q e hq => by rw [e, hrv]; omega⟩
 · have h1 := hj.turn (E' := .slice (some ⟨g0, offE, none⟩) r.length c) (O' := O) (f' := f) k1 fun k' hr' => by rw [h10]; simpa [rdCells] using hr'.set_ 2 (.slice (some ⟨g0, offE, none⟩) r.length c)
   exact h0.above h1 (kept_mono k2 fun q e => by show w0.heap.size <= q; rw [e]; omega)
 · exact (hk.trans' (kept_mono k1 fun q e => .inl e)).trans (kept_mono k2 fun q e => .inr (by rw [e]; exact hrb))
theorem row_there {W : World} {g n : Nat} {T : TypeId} {cs : Array Value} (h : Row W g T cs) (hn : n <= cs.size) : W.there g 0 n := fun j hj =>
 ⟨by rw [Nat.zero_add, h.cell (i := j) (v := cs[j]'(by omega)) (Array.getElem?_eq_getElem _)]; rfl, by rw [Nat.zero_add]; exact h.free j⟩
def LeaPost (w : World) (p : Nat) (X : Txt) (s : List UInt8) (f : Fl) (base : Nat) (own : Nat -> Nat) (t : Fr) (r : List Fr) (e : Ending) (w' : World) : Prop :=
 ∃ own' E' O' cs, e = .returned (.agg cs.toArray) /\ JIs w' (FB own' base 0) (if isDeepK (t :: r) then JV.null else t.val) cs /\ Stk w' own' base r E' O' /\ JAt w' p X s E' O' f /\ Kept (StkG own base p) w w' /\ ∀ q, q < w.heap.size -> own q = 3 -> own' q = 3
theorem jleave_ok (p : Nat) (X : Txt) (s s0 : List UInt8) (E O E0 O0 : Value) (f f0 : Fl) (w0 w : World) (own : Nat -> Nat) (t : Fr) (r : List Fr)
   (h0 : JAt w0 p X s0 E0 O0 f0) (h : JAt w p X s E O f) (hs : Stk w own w0.heap.size (t :: r) E O) (hb : w0.heap.size <= w.heap.size) :
   Calls Tryz.prog 81 #[.pointer (some ⟨p, 0, none⟩)] w (LeaPost w p X s f w0.heap.size own t r) := by
 obtain ⟨g0, offE, c, hE, _, hc1, hc2, hg0, _⟩ := hs.ends.cells (by simp)
 subst hE
 obtain ⟨w1, hw1⟩ : ∃ w1, w1 = w.alloc (.cells zeroJ 28) := ⟨_, rfl⟩
 have hb1 : Below w.heap.size w w1 := by subst hw1; exact (Below.refl _ _).alloc (Nat.le_refl _) _
 have hrv : Row w1 w.heap.size 28 zeroJ := by subst hw1; exact Row.new _ _ _
 have hp0 := h0.lt
 obtain ⟨k, hrow⟩ := h.row
 have HD := hid (jisDeep_ok p X k (some ⟨g0, offE, none⟩) (t :: r).length c O f w1 (by
   obtain ⟨_, k', hr', _, _⟩ := h
   exact ⟨hrow.call hb1, (hr'.below hb1).txt⟩))
 have HROW := hid (hrow.call hb1)
 have H := hid h
 have H0 := hid h0
 have HS := hid hs
 have HB := hid hb
 have HB1 := hid hb1
 have HRV := hid hrv
 obtain ⟨Post, hPost⟩ : ∃ Post, Post = LeaPost w p X s f w0.heap.size own t r := ⟨_, rfl⟩
 rw [<- hPost]
 have HPost := hid hPost
 obtain ⟨m, hm⟩ : ∃ m, m = r.length := ⟨_, rfl⟩
 have hlen : (t :: r).length = m + 1 := by rw [hm]; rfl
 rw [hlen] at HD hc1
 have h9 : ((m + 1 : Nat) : Int) - 1 = (m : Int) := by omega
 have hlt : m < m + 1 := by omega
 have hslE := fun W => run_sliceTo (P := Tryz.prog) W 35 5 Tryz.underlying35 (by kernel_rfl) g0 offE (m + 1) c m (by omega)
 have hmb : m <= 9223372036854775806 := by unfold maxLen at hc2; omega
 have hwr : IntKind.i64.wrap (m : Int) = (m : Int) := IntWalk.i64_in _ (by omega)
 have HM := hid hm
 have HLEN := hid hlen
 have hrowE := hrow
 rw [hlen] at hrowE
 have HROWE := hid (hrowE.call hb1)
 clear h h0 hs hb hb1 hrow hPost hm hlen hc1 hc2 hg0 hrowE hrv
 generalize hn1 : m + 1 = n1 at *
 have HN1 := hid hn1
 clear hn1
 unfold zeroJ at hw1
 go_enter Tryz.func81, Tryz.ntmps81
 go_upto_region 1 with fail
 rw [<- hw1]
 have HW1 := hid hw1
 clear hw1
 by_cases hd : 64 < n1
 · rw [decide_eq_true hd] at HD
   have HRR : Hid (Row w1 p 67 (rdCells X k (.slice (some ⟨g0, offE, none⟩) n1 c) O f)) := HROWE
   have HRV9 := HRV
   have H8 : Hid (zeroJ.size = 8) := hid rfl
   have HONE : Hid (zeroJ.all (·.oneCell') = true) := hid (by kernel_rfl)
   have FF : Hid (∀ w10 wf, w10 = w1.drew.setCell ⟨p, 2, none⟩ (.slice (some ⟨g0, offE, none⟩) m c) -> wf = w10.setCells w.heap.size 0 zeroJ.toList -> LeaPost w p X s f w0.heap.size own t r (.returned (.agg zeroJ)) wf) := hid (by
     intro w10 wf e1 e2
     have hm := HM.out
     subst hm
     have sA : Still w w1.drew (fun _ => False) own (ownNew own w.heap.size 3) := still_new (keptOf_below HB1.out).drew
     have hdp : isDeepK (t :: r) = true := by unfold isDeepK maxDeep; rw [HLEN.out]; exact decide_eq_true hd
     have hkk : keptK (t :: r) = keptK r := keptK_deep (by have := HN1.out; omega)
     obtain ⟨css, a1, a2⟩ := HS.out.open_
     rw [hkk] at a1 a2
     have hj := H0.out.above H.out (w' := w1.drew) (keptOf_below HB1.out).drew
     unfold LeaPost
     rw [if_pos hdp]
     refine lea_fin (w10 := w10) (t := t) H0.out ?_ (Nat.le_refl _) (HS.out.ends.still sA (fun _ h => h.elim)) ⟨css, a1.still sA (fun _ h => h.elim), LvsAt.still sA 0 _ _ a2 fun _ h => h.elim⟩ ?_ hj (keptOf_below HB1.out).drew HB.out e1 e2 ?_
     · unfold ownNew; rw [if_neg (Nat.lt_irrefl _)]
     · unfold JV.null JIs
       exact ⟨none, 0, none, 0, rfl, by simp, by unfold maxLen; omega, by simp, by unfold maxLen; omega, fun i hi => by simp at hi, by unfold KidsAt; trivial⟩
     · intro q hq h3; unfold ownNew; rw [if_pos hq]; exact h3)
   go_wp2_with fail
   refine HD.out.mono ?_
   rintro e w2 ⟨rfl, rfl⟩
   have c2 := HROWE.out.cell (i := 2) (v := .slice (some ⟨g0, offE, none⟩) n1 c) rfl
   have z2 := HROWE.out.free 2
   go_wp2_with fail
   go_still_tail 12, (by kernel_rfl)
   change wpList _ _ _ _ _ w1.drew
   have HR9 : Hid (Row w1.drew p 67 (rdCells X k (.slice (some ⟨g0, offE, none⟩) n1 c) O f)) := hid HRR.out.drew
   have HV9 : Hid (Row w1.drew w.heap.size 28 zeroJ) := hid HRV9.out.drew
   have FIN : Hid (∀ w10 wf, w10 = w1.drew.setCell ⟨p, 2, none⟩ (.slice (some ⟨g0, offE, none⟩) m c) -> wf = w10.setCells w.heap.size 0 zeroJ.toList -> LeaPost w p X s f w0.heap.size own t r (.returned (.agg zeroJ)) wf) := hid FF.out
   clear FF HRR HRV9 c2 z2
   generalize w1.drew = w9 at *
   have c2 := HR9.out.cell (i := 2) (v := .slice (some ⟨g0, offE, none⟩) n1 c) rfl
   have z2 := HR9.out.free 2
   go_upto_region 5 with fail
   obtain ⟨w10, hw10⟩ : ∃ w10, w10 = w9.setCell ⟨p, 2, none⟩ (.slice (some ⟨g0, offE, none⟩) m c) := ⟨_, rfl⟩
   rw [<- hw10]
   have HW10 := hid hw10
   have HV10 : Hid (Row w10 w.heap.size 28 zeroJ) := hid (by rw [hw10]; exact HV9.out.far (by show w.heap.size ≠ p; have := HB.out; omega) _)
   clear hw10 c2 z2
   have HRA : Hid (w10.rangeAt w.heap.size 0 zeroJ.toList) := hid (fun j u hu => by rw [Nat.zero_add]; exact HV10.out.cell (by simpa using hu))
   have HTH : Hid (w10.there w.heap.size 0 zeroJ.size) := hid (row_there HV10.out (Nat.le_refl _))
   have HIN : Hid ((Tryz.prog.info? 28).map (·.size) = some zeroJ.size) := hid (by rw [H8.out]; exact infoJ)
   go_wp2_with (first
     | (refine ldJ (.tmp 2) w.heap.size 0 zeroJ HRA.out HIN.out ?_)
     | (refine wpList_store_mid ?_ 28 (.tmp 2) (.tmp 47) ?_ w.heap.size 0 zeroJ ?_ ?_ HTH.out HIN.out HONE.out ?_
        · with_reducible rfl
        · with_reducible rfl
        · rfl
        · rfl))
   have HWF := row_setCells zeroJ.toList 0 w10 HV10.out (fun j u hu => by rw [Nat.zero_add]; simpa using hu)
   refine bodyPost_ret_by (results_oneJ rfl _ _ w.heap.size zeroJ ?_ (load_jv HWF H8.out)) rfl ?_
   · rfl
   · rw [HPost.out]
     exact FIN.out _ _ HW10.out rfl
 · rw [decide_eq_false hd] at HD
   have hdp : isDeepK (t :: r) = false := by unfold isDeepK maxDeep; rw [HLEN.out]; exact decide_eq_false hd
   obtain ⟨g, off, cap, cs0, L, N, M, css, hO, htop⟩ := HS.out.top (by have := HM.out; have := HN1.out; omega)
   subst hO
   rw [<- HM.out, HN1.out] at H HS
   have sA : Still w w1 (fun _ => False) own (ownNew own w.heap.size 3) := still_new (keptOf_below HB1.out)
   obtain ⟨ownA, hoA⟩ : ∃ ownA, ownA = ownNew own w.heap.size 3 := ⟨_, rfl⟩
   rw [<- hoA] at sA
   have HA3 : Hid (ownA w.heap.size = 3) := hid (by rw [hoA]; unfold ownNew; rw [if_neg (Nat.lt_irrefl _)])
   have htop1 : Top w1 ownA w0.heap.size t r g off cap cs0 L N M css := htop.still sA (fun _ h => h.elim)
   have hc3 := HROW.out.cell (i := 3) (v := .slice (some ⟨g, off, none⟩) (r.length + 1) cap) rfl
   rw [<- HM.out, HN1.out] at hc3
   have hra : w1.rangeAt g (off + m * 9) ((lvC t.obj L N M).take 8) := fun j u hu => by
     rw [HM.out]
     refine htop1.cell j u ?_
     by_cases hj : j < 8
     · rwa [List.getElem?_take_of_lt hj] at hu
     · rw [List.getElem?_eq_none (by simp [lvC]; omega)] at hu; cases hu
   obtain ⟨kd, hkd⟩ : ∃ kd : Int, kd = if t.obj then 5 else 4 := ⟨_, rfl⟩
   obtain ⟨c8, hc8⟩ : ∃ c8 : Array Value, c8 = #[.int .i64 kd, .bool false, .bool false, .string ⟨#[]⟩, .int .i64 0, .string ⟨#[]⟩, L, N] := ⟨_, rfl⟩
   have hc8' : c8.toList = (lvC t.obj L N M).take 8 := by rw [hc8, hkd]; rfl
   rw [<- hc8', hc8] at hra
   have h8 : c8.size = 8 := by rw [hc8]; rfl
   have x0 := hra 0 _ rfl
   have x1 := hra 1 _ rfl
   have x2 := hra 2 _ rfl
   have x3 := hra 3 _ rfl
   have x4 := hra 4 _ rfl
   have x5 := hra 5 _ rfl
   have x6 := hra 6 _ rfl
   have x7 := hra 7 _ rfl
   rw [Nat.add_zero] at x0
   have HC9 := hid hc8'
   have HC8 := hid hc8
   have H8 := hid h8
   have HONE : Hid (c8.all (·.oneCell') = true) := hid (by have := all_oneCell_toArray (jv_one htop1.toTopW.val); rw [<- hc8'] at this; simpa using this)
   have HTOP := hid htop1
   have HSA := hid sA
   have HDP := hid hdp
   have HOA := hid hoA
   have hslO := fun W => run_sliceTo (P := Tryz.prog) W 65 120 Tryz.underlying65 (by kernel_rfl) g off n1 cap m
   have HD64 := hid hd
   have HMC : Hid (m <= cap) := hid (by
     obtain ⟨g', off', cap', hv, _, hle, _⟩ := htop1.all.cells (by omega)
     injection hv with _ _ e3
     have := HM.out
     omega)
   clear hra hc8' h8 htop1 sA hdp hoA htop hd hkd
   go_wp2_with fail
   refine HD.out.mono ?_
   rintro e w2 ⟨rfl, rfl⟩
   go_wp2_with fail
   go_still_tail 13, (by kernel_rfl)
   rw [<- hc8]
   clear hc8 x0 x1 x2 x3 x4 x5 x6 x7
   change wpList _ _ _ _ _ w1.drew
   have HTH2 : Hid (w1.drew.there w.heap.size 0 c8.size) := hid (row_there HRV.out.drew (by rw [H8.out]; exact Nat.le_refl _))
   have HIN2 : Hid ((Tryz.prog.info? 28).map (·.size) = some c8.size) := hid (by rw [H8.out]; exact infoJ)
   go_upto_region 3 with (
     refine wpList_store_mid ?_ 28 (.tmp 2) (.tmp 18) ?_ w.heap.size 0 c8 ?_ ?_ HTH2.out HIN2.out HONE.out ?_
     · with_reducible rfl
     · with_reducible rfl
     · rfl
     · rfl)
   simp only [Act.put]
   obtain ⟨w2, hw2⟩ : ∃ w2, w2 = w1.drew.setCells w.heap.size 0 c8.toList := ⟨_, rfl⟩
   rw [<- hw2]
   have HK2 : Hid (Kept (· = w.heap.size) w1 w2) := hid (by rw [hw2]; exact kept_setCells _ _ _ _ _ (Kept.refl _ _).drew)
   have HR2 : Hid (Row w2 p 67 (rdCells X k (.slice (some ⟨g0, offE, none⟩) n1 c) (.slice (some ⟨g, off, none⟩) n1 cap) f)) := hid (by
     have h9 := HROWE.out
     rw [<- HM.out, HN1.out] at h9
     exact h9.kept HK2.out (by show ¬ p = w.heap.size; have := HB.out; omega))
   have HV2 : Hid (Row w2 w.heap.size 28 c8) := hid (by
     rw [hw2]
     have h9 := row_laid c8.toList [] zeroJ.toList w1.drew HRV.out.drew (by rw [Array.length_toList, Array.length_toList, H8.out]; rfl)
     simpa using h9)
   clear hw2 HTH2 hc3
   have c3 := HR2.out.cell (i := 3) (v := .slice (some ⟨g, off, none⟩) n1 cap) rfl
   have z3 := HR2.out.free 3
   have hslO2 := fun W => hslO W HMC.out
   clear hslO
   go_still_tail 12, (by kernel_rfl)
   change wpList _ _ _ _ _ w2.drew
   have c3' : w2.drew.cell? ⟨p, 3, none⟩ = some (.slice (some ⟨g, off, none⟩) n1 cap) := c3
   have z3' : w2.drew.frozen? ⟨p, 3, none⟩ = false := z3
   clear c3 z3
   go_upto_region 4 with fail
   obtain ⟨w3, hw3⟩ : ∃ w3, w3 = (w2.setCell ⟨p, 3, none⟩ (.slice (some ⟨g, off, none⟩) m cap)).drew := ⟨_, rfl⟩
   rw [<- hw3]
   have hk3 : Kept (· = p) w2 w3 := by rw [hw3]; exact (Kept.cell _ _ _ _).drew
   have HRR : Hid (Row w3 p 67 (rdCells X k (.slice (some ⟨g0, offE, none⟩) n1 c) (.slice (some ⟨g, off, none⟩) m cap) f)) := hid (by rw [hw3]; exact Row.drew (by simpa [rdCells] using HR2.out.set_ 3 (.slice (some ⟨g, off, none⟩) m cap)))
   have HRV9 : Hid (Row w3 w.heap.size 28 c8) := hid (HV2.out.kept hk3 (by show ¬ w.heap.size = p; have := HB.out; omega))
   have FF : Hid (∀ w10 wf, w10 = w3.drew.setCell ⟨p, 2, none⟩ (.slice (some ⟨g0, offE, none⟩) m c) -> wf = w10.setCells w.heap.size 0 c8.toList -> LeaPost w p X s f w0.heap.size own t r (.returned (.agg c8)) wf) := hid (by
     intro w10 wf e1 e2
     have hm := HM.out
     subst hm
     have hn1 := HN1.out
     subst hn1
     have hbs := HB.out
     have s1 : Still w1 w2 (· = w.heap.size) ownA ownA := ⟨HK2.out, fun _ _ => rfl⟩
     have s2 : Still w2 w3.drew (· = p) ownA ownA := ⟨hk3.drew, fun _ _ => rfl⟩
     have d1 : ∀ i, i ≠ 3 -> ∀ q, q = w.heap.size -> w0.heap.size <= q -> ownA q ≠ i := fun i hi q e _ => by rw [e, HA3.out]; omega
     have d2 : ∀ i q, q = p -> w0.heap.size <= q -> ownA q ≠ i := fun i q e hq => by omega
     have T2 : Top w2 ownA w0.heap.size t r g off cap cs0 L N M css := HTOP.out.still s1 (fun q e _ => by rw [e, HA3.out])
     have T3 : Top w3.drew ownA w0.heap.size t r g off cap cs0 L N M css := T2.still s2 (fun q e hq => by omega)
     have hE3 := ((HS.out.ends.still HSA.out (fun _ h => h.elim)).still s1 (d1 1 (by omega))).still s2 (d2 1)
     have hr64 : r.length < 64 := by have := HD64.out; omega
     unfold LeaPost
     rw [if_neg (by rw [HDP.out]; simp)]
     refine lea_fin (w10 := w10) (t := t) (O := .slice (some ⟨g, off, none⟩) r.length cap) (own1 := ownDone ownA r.length) H0.out (ownDone_3 HA3.out) (Nat.le_refl _) (hE3.mono fun q hq => ⟨?_, hq.2⟩) ⟨cs0, ?_, ?_⟩ ?_ ?_ ?_ HB.out e1 e2 ?_
     · unfold ownDone; rw [if_neg (by have := hq.1; omega)]; exact hq.1
     · rw [keptK_all (by omega), List.length_reverse]
       have h9 := T3.all.take (k := r.length) (by omega)
       rw [List.take_left' (by rw [T3.len])] at h9
       exact h9.mono fun q hq => ⟨by unfold ownDone; rw [if_neg (by have := hq.1; omega)]; exact hq.1, hq.2⟩
     · rw [keptK_all (by omega)]
       exact LvsAt.relabel (fun q hq => by unfold ownDone; rw [if_neg (by omega)]; exact hq) 0 _ _ T3.rest fun q a b => by
         rw [List.length_reverse] at b
         unfold ownDone; rw [if_neg (by omega)]
     · rw [HC9.out]; exact T3.toTopW.val
     · have h1 := H0.out.above H.out (w' := w2) ((keptOf_below HB1.out).trans' (kept_mono HK2.out fun q e => by show w0.heap.size <= q; rw [e]; exact hbs))
       exact h1.turn hk3.drew fun k' hr' => by
         rw [hw3]
         exact Row.drew (Row.drew (by simpa [rdCells] using hr'.set_ 3 (.slice (some ⟨g, off, none⟩) r.length cap)))
     · exact (keptOf_below HB1.out).trans ((kept_mono HK2.out fun q e => .inr (by rw [e]; exact Nat.le_refl _)).trans' (kept_mono hk3.drew fun q e => .inl (.inl e)))
     · intro q hq h3
       refine ownDone_3 ?_
       rw [HOA.out]; unfold ownNew; rw [if_pos hq]; exact h3)
   clear hw3 hk3 c3' z3' hslO2 HR2 HV2
   have c2 := HRR.out.cell (i := 2) (v := .slice (some ⟨g0, offE, none⟩) n1 c) rfl
   go_wp2_with fail
   go_still_tail 12, (by kernel_rfl)
   clear c2
   change wpList _ _ _ _ _ w3.drew
   have HR9 : Hid (Row w3.drew p 67 (rdCells X k (.slice (some ⟨g0, offE, none⟩) n1 c) (.slice (some ⟨g, off, none⟩) m cap) f)) := hid HRR.out.drew
   have HV9 : Hid (Row w3.drew w.heap.size 28 c8) := hid HRV9.out.drew
   have FIN : Hid (∀ w10 wf, w10 = w3.drew.setCell ⟨p, 2, none⟩ (.slice (some ⟨g0, offE, none⟩) m c) -> wf = w10.setCells w.heap.size 0 c8.toList -> LeaPost w p X s f w0.heap.size own t r (.returned (.agg c8)) wf) := hid FF.out
   clear FF HRR HRV9
   generalize w3.drew = w9 at *
   have c2 := HR9.out.cell (i := 2) (v := .slice (some ⟨g0, offE, none⟩) n1 c) rfl
   have z2 := HR9.out.free 2
   go_upto_region 5 with fail
   obtain ⟨w10, hw10⟩ : ∃ w10, w10 = w9.setCell ⟨p, 2, none⟩ (.slice (some ⟨g0, offE, none⟩) m c) := ⟨_, rfl⟩
   rw [<- hw10]
   have HW10 := hid hw10
   have HV10 : Hid (Row w10 w.heap.size 28 c8) := hid (by rw [hw10]; exact HV9.out.far (by show w.heap.size ≠ p; have := HB.out; omega) _)
   clear hw10 c2 z2
   have HRA : Hid (w10.rangeAt w.heap.size 0 c8.toList) := hid (fun j u hu => by rw [Nat.zero_add]; exact HV10.out.cell (by simpa using hu))
   have HTH : Hid (w10.there w.heap.size 0 c8.size) := hid (row_there HV10.out (Nat.le_refl _))
   have HIN : Hid ((Tryz.prog.info? 28).map (·.size) = some c8.size) := hid (by rw [H8.out]; exact infoJ)
   go_wp2_with (first
     | (refine ldJ (.tmp 2) w.heap.size 0 c8 HRA.out HIN.out ?_)
     | (refine wpList_store_mid ?_ 28 (.tmp 2) (.tmp 47) ?_ w.heap.size 0 c8 ?_ ?_ HTH.out HIN.out HONE.out ?_
        · with_reducible rfl
        · with_reducible rfl
        · rfl
        · rfl))
   have HWF := row_setCells c8.toList 0 w10 HV10.out (fun j u hu => by rw [Nat.zero_add]; simpa using hu)
   refine bodyPost_ret_by (results_oneJ rfl _ _ w.heap.size c8 ?_ (load_jv HWF H8.out)) rfl ?_
   · rfl
   · rw [HPost.out]
     exact FIN.out _ _ HW10.out rfl
open Go.RowKit Go.MapKept Go.Maps
theorem letsL_long (s : List UInt8) : ∀ {l : List UInt8} {a : Bool} {t : List UInt8}, letsL s = some (l, a, t) -> l.length + 4 * t.length <= 4 * s.length := by
 suffices key : ∀ (n : Nat) (s : List UInt8), s.length <= n -> ∀ {l : List UInt8} {a : Bool} {t : List UInt8}, letsL s = some (l, a, t) -> l.length + 4 * t.length <= 4 * s.length from fun {l a t} h => key s.length s (Nat.le_refl _) h
 intro n
 induction n with
 | zero =>
   intro s hs l a t h
   cases s with
   | nil => rw [letsL] at h; cases h
   | cons b r => simp at hs
 | succ n ih =>
   intro s hs l a t h
   cases s with
   | nil => rw [letsL] at h; cases h
   | cons b r =>
     rw [letsL] at h
     simp only [List.length_cons] at hs ⊢
     split at h
     · injection h with h; injection h with h1 h; injection h with _ h; subst h1 h; simp; omega
     · split at h
       · split at h
         · cases h
         · rename_i x a1 r1 h1
           have l1 := letterL_len h1
           split at h
           · cases h
           · rename_i l2 a2 q h2
             have := ih r1 (by omega) h2
             have hr := runeL_len x
             injection h with h; injection h with h3 h; injection h with _ h; subst h3 h
             rw [List.length_append]; omega
       · split at h
         · cases h
         · split at h
           · cases h
           · rename_i l2 a2 q h2
             have := ih r (by omega) h2
             injection h with h; injection h with h3 h; injection h with _ h; subst h3 h
             simp only [List.length_cons]; omega
theorem infoStr : (Tryz.prog.info? 9).map (fun i => (i.zero, i.size, i.bytes)) = some (some (.string ⟨#[]⟩), 1, 16) := by kernel_rfl
theorem wpList_putS {ops : Array Oper} {rest : List Oper} {o : Oper} {a : Act} {w : World} {Q : Exit -> Act -> World -> Prop} (hgd : o.guard = none) (m x v : Operand) (hop : o.op = .mapUpdate 109 m x v) (b : Nat) (S : List (List UInt8)) (hown : IsSet w b S)
   (l : List UInt8) (hm : a.eval m = .map (some b)) (hx : a.eval x = .string (bs l)) (hv : a.eval v = .agg #[]) (hl : l.length <= maxLen)
   (h : ∀ w', IsSet w' b (addS S l) -> Kept (· = b) w w' -> wpList Tryz.prog ops Q rest (a.put o.dst undef) w') : wpList Tryz.prog ops Q (o :: rest) a w :=
 wpList_plain hgd fun _ hK => by
   obtain ⟨w', hr, h1, h2⟩ := hown.put hl
   unfold Oper.wp
   simp [execOp, hop, hm, hx, hv, hr, Result.andThen]
   exact hK _ _ (h w' h1 h2)
structure NmS (w0 w W : World) (own own1 : Nat -> Nat) (p : Nat) (X : Txt) (q : List UInt8) (E : Value) (f : Fl) (t : Fr) (r : List Fr) (g off cap : Nat) (cs0 : List (List Value)) (L N : Value) (css : List (List Value)) (b : Nat) (S : List (List UInt8)) : Prop where
 top : TopW W own1 w0.heap.size t r g off cap cs0 L N (.map (some b)) css
 mine : FB own1 w0.heap.size (6 + 3 * r.length) b
 set_ : IsSet W b S
 ends : Lies W (FB own1 w0.heap.size 1) 5 1 E (r.length + 1) (u8s ((t :: r).reverse.map endB))
 jat : JAt W p X q E (.slice (some ⟨g, off, none⟩) (r.length + 1) cap) f
 still : Still w W (StkG own w0.heap.size p) own own1
 big : w0.heap.size <= w.heap.size
section
variable {w0 w W W' : World} {own own1 : Nat -> Nat} {p : Nat} {X : Txt} {q s0 : List UInt8} {E E0 O0 : Value} {f f0 : Fl} {t : Fr} {r : List Fr} {g off cap : Nat} {cs0 : List (List Value)} {L N : Value} {css : List (List Value)} {b : Nat} {S : List (List UInt8)}
theorem NmS.below (h0 : JAt w0 p X s0 E0 O0 f0) (h : NmS w0 w W own own1 p X q E f t r g off cap cs0 L N css b S) (hb : Below W.heap.size W W') : NmS w0 w W' own own1 p X q E f t r g off cap cs0 L N css b S := by
 have s : Still W W' (fun _ => False) own1 own1 := ⟨keptOf_below hb, fun _ _ => rfl⟩
 exact ⟨h.top.still s (fun _ h => h.elim), h.mine, h.set_.below hb, h.ends.still s (fun _ h => h.elim), h0.above h.jat (keptOf_below hb), still_trans h.still (still_mono s fun _ h => h.elim), h.big⟩
theorem NmS.twice (h0 : JAt w0 p X s0 E0 O0 f0) (h : NmS w0 w W own own1 p X q E f t r g off cap cs0 L N css b S) : NmS w0 w (W.setCell ⟨p, 6, none⟩ (.bool true)) own own1 p X q E { f with twice := true } t r g off cap cs0 L N css b S := by
 have hp := h0.lt
 have k : Kept (· = p) W (W.setCell ⟨p, 6, none⟩ (.bool true)) := Kept.cell _ _ _ _
 have s : Still W (W.setCell ⟨p, 6, none⟩ (.bool true)) (· = p) own1 own1 := ⟨k, fun _ _ => rfl⟩
 exact ⟨h.top.still s (fun q e hq => by omega), h.mine, h.set_.kept k (fun e => by have := h.mine.2; omega), h.ends.still s (fun q e hq => by omega), h.jat.turn k fun k' hr' => by simpa [rdCells] using hr'.set_ 6 (.bool true), still_trans h.still (still_mono s fun q e => .inl (.inl e)), h.big⟩
theorem NmS.put (h0 : JAt w0 p X s0 E0 O0 f0) (h : NmS w0 w W own own1 p X q E f t r g off cap cs0 L N css b S) {S' : List (List UInt8)} (hs : IsSet W' b S') (hk : Kept (· = b) W W') : NmS w0 w W' own own1 p X q E f t r g off cap cs0 L N css b S' := by
 have s : Still W W' (· = b) own1 own1 := ⟨hk, fun _ _ => rfl⟩
 have hb := h.mine
 refine ⟨h.top.still s (fun q e _ => .inr (by rw [e]; exact hb.1)), h.mine, hs, h.ends.still s (fun q e _ => by rw [e, hb.1]; omega), h0.above h.jat (kept_mono hk fun q e => by show w0.heap.size <= q; rw [e]; exact hb.2), still_trans h.still (still_mono s fun q e => ?_), h.big⟩
 by_cases hlt : q < w.heap.size
 · have h9 := h.still.own q hlt
   have h8 := hb.1
   rw [<- e] at h8
   exact .inl (.inr ⟨by rw [e]; exact hb.2, by omega, by omega⟩)
 · exact .inr (by omega)
theorem NmS.cell8 (h : NmS w0 w W own own1 p X q E f t r g off cap cs0 L N css b S) : W.cell? ⟨g, off + r.length * 9 + 8, none⟩ = some (.map (some b)) := h.top.cell 8 _ rfl
theorem NmS.cell7 (h : NmS w0 w W own own1 p X q E f t r g off cap cs0 L N css b S) : W.cell? ⟨g, off + r.length * 9 + 7, none⟩ = some N := h.top.cell 7 _ rfl
theorem NmS.fin (h0 : JAt w0 p X s0 E0 O0 f0) {l : List UInt8} {N' : Value} {W1 : World} (h : NmS w0 w W own own1 p X q E f t r g off cap cs0 L N css b (setL (t.names ++ [l]))) (hr : r.length < 64)
   (hl : Lies W1 (grow (FB own1 w0.heap.size (5 + 3 * r.length)) W) 9 1 N' (t.names.length + 1) (t.names.map keyV ++ [keyV l])) (hk : Kept (FB own1 w0.heap.size (5 + 3 * r.length)) W W1) :
   ∃ own2, Stk (W1.setCell ⟨g, off + r.length * 9 + 7, none⟩ N') own2 w0.heap.size (⟨t.obj, t.list, t.names ++ [l]⟩ :: r) E (.slice (some ⟨g, off, none⟩) (r.length + 1) cap) /\ JAt (W1.setCell ⟨g, off + r.length * 9 + 7, none⟩ N') p X q E (.slice (some ⟨g, off, none⟩) (r.length + 1) cap) f /\
     Still w (W1.setCell ⟨g, off + r.length * 9 + 7, none⟩ N') (StkG own w0.heap.size p) own own2 := by
 have hsz : w.heap.size <= W.heap.size := h.still.kept.size
 have hbg := h.big
 have s1 : Still W W1 (FB own1 w0.heap.size (5 + 3 * r.length)) own1 (ownNew own1 W.heap.size (5 + 3 * r.length)) := still_new hk
 have hl2 := lies_new hl (by omega)
 have TF := h.top.named s1 hl2 (.inr ⟨b, rfl, h.mine, h.set_⟩)
 have hg := h.top.block
 have hg1 : (ownNew own1 W.heap.size (5 + 3 * r.length)) g = 2 := by unfold ownNew; rw [if_pos hg.2]; exact hg.1.1
 have s2 := cell_still W1 (ownNew own1 W.heap.size (5 + 3 * r.length)) g (off + r.length * 9 + 7) N'
 have hE := (h.ends.still s1 (fun q hq _ => by rw [hq.1]; omega)).still s2 (fun q e _ => by rw [e, hg1]; omega)
 have e4 : ((⟨t.obj, t.list, t.names ++ [l]⟩ : Fr) :: r).reverse.map endB = (t :: r).reverse.map endB := by simp [endB]
 refine ⟨_, TF.stk hr (by rw [e4]; exact hE), ?_, ?_⟩
 · exact h0.above h.jat ((kept_mono hk fun q hq => hq.2).trans' (kept_mono s2.kept fun q e => by show w0.heap.size <= q; rw [e]; exact hg.1.2))
 · refine still_trans h.still (still_trans (still_mono s1 fun q hq => ?_) (still_mono s2 fun q e => .inl ?_))
   · by_cases hlt : q < w.heap.size
     · have h9 := h.still.own q hlt
       have h8 := hq.1
       exact .inl (.inr ⟨hq.2, by omega, by omega⟩)
     · exact .inr (by omega)
   · by_cases hlt : q < w.heap.size
     · have h9 := h.still.own q hlt
       have h8 := hg.1.1
       rw [<- e] at h8
       exact .inl (.inr ⟨by rw [e]; exact hg.1.2, by omega, by omega⟩)
     · exact .inr (by omega)
end
end Go.Proofs.YtmhbkjjkalnggaaGreatDoor
