import Derived.Test.YtmhbkjjkalnggaaGreatDoorPt30
namespace Go.Proofs.YtmhbkjjkalnggaaGreatDoor
open Go.RowKit
set_option maxRecDepth 100000
set_option maxHeartbeats 4000000
theorem clone_ok (l : List UInt8) (w : World) (h : l.length <= 100000000000000) : Calls Tryz.prog 56 #[.string (bs l)] w fun e w' => e = .returned (.string (bs l)) /\ Below w.heap.size w w' := by
 have HC := hid (Tryz.stringslite_Clone (bs l) w (by rw [bs_size]; omega))
 go_enter Tryz.func56, Tryz.ntmps56
 go_wp2_with fail
 refine HC.out.mono ?_
 rintro e w1 ⟨rfl, hb⟩
 go_wp2_with fail
 go_ret
 exact ⟨rfl, hb⟩
theorem count_98_49 (w : World) : Calls Tryz.prog 130 #[.string ⟨#[98]⟩, .string ⟨#[126, 49]⟩] w fun e w' => e = .returned (.int .i64 0) /\ w = w' := by
 go_enter Tryz.func130, Tryz.ntmps130
 go_wp2
 go_loop [0, 5] (fun v0 v5 => v0 = .string ⟨#[98]⟩ /\ v5 = .int .i64 0) (fun _ _ => 0)
 case atStart => exact ⟨rfl, rfl⟩
 case round =>
   obtain ⟨rfl, rfl⟩ := hrel
   go_wp2
   go_ret
   exact ⟨rfl, rfl⟩
theorem repl_98_49 (w : World) : Calls Tryz.prog 86 #[.string ⟨#[98]⟩, .string ⟨#[126, 49]⟩, .string ⟨#[47]⟩] w fun e w' => e = .returned (.string ⟨#[98]⟩) /\ w = w' := by
 have HC := hid (count_98_49 w)
 go_enter Tryz.func86, Tryz.ntmps86
 go_wp2_with (first
   | (go_at_call 130; refine HC.out.mono ?_; rintro e w' ⟨rfl, rfl⟩)
   | go_in)
 go_ret
 exact ⟨rfl, rfl⟩
theorem count_98_48 (w : World) : Calls Tryz.prog 130 #[.string ⟨#[98]⟩, .string ⟨#[126, 48]⟩] w fun e w' => e = .returned (.int .i64 0) /\ w = w' := by
 go_enter Tryz.func130, Tryz.ntmps130
 go_wp2
 go_loop [0, 5] (fun v0 v5 => v0 = .string ⟨#[98]⟩ /\ v5 = .int .i64 0) (fun _ _ => 0)
 case atStart => exact ⟨rfl, rfl⟩
 case round =>
   obtain ⟨rfl, rfl⟩ := hrel
   go_wp2
   go_ret
   exact ⟨rfl, rfl⟩
theorem repl_98_48 (w : World) : Calls Tryz.prog 86 #[.string ⟨#[98]⟩, .string ⟨#[126, 48]⟩, .string ⟨#[126]⟩] w fun e w' => e = .returned (.string ⟨#[98]⟩) /\ w = w' := by
 have HC := hid (count_98_48 w)
 go_enter Tryz.func86, Tryz.ntmps86
 go_wp2_with (first
   | (go_at_call 130; refine HC.out.mono ?_; rintro e w' ⟨rfl, rfl⟩)
   | go_in)
 go_ret
 exact ⟨rfl, rfl⟩
theorem count_48_49 (w : World) : Calls Tryz.prog 130 #[.string ⟨#[48]⟩, .string ⟨#[126, 49]⟩] w fun e w' => e = .returned (.int .i64 0) /\ w = w' := by
 go_enter Tryz.func130, Tryz.ntmps130
 go_wp2
 go_loop [0, 5] (fun v0 v5 => v0 = .string ⟨#[48]⟩ /\ v5 = .int .i64 0) (fun _ _ => 0)
 case atStart => exact ⟨rfl, rfl⟩
 case round =>
   obtain ⟨rfl, rfl⟩ := hrel
   go_wp2
   go_ret
   exact ⟨rfl, rfl⟩
theorem repl_48_49 (w : World) : Calls Tryz.prog 86 #[.string ⟨#[48]⟩, .string ⟨#[126, 49]⟩, .string ⟨#[47]⟩] w fun e w' => e = .returned (.string ⟨#[48]⟩) /\ w = w' := by
 have HC := hid (count_48_49 w)
 go_enter Tryz.func86, Tryz.ntmps86
 go_wp2_with (first
   | (go_at_call 130; refine HC.out.mono ?_; rintro e w' ⟨rfl, rfl⟩)
   | go_in)
 go_ret
 exact ⟨rfl, rfl⟩
theorem count_48_48 (w : World) : Calls Tryz.prog 130 #[.string ⟨#[48]⟩, .string ⟨#[126, 48]⟩] w fun e w' => e = .returned (.int .i64 0) /\ w = w' := by
 go_enter Tryz.func130, Tryz.ntmps130
 go_wp2
 go_loop [0, 5] (fun v0 v5 => v0 = .string ⟨#[48]⟩ /\ v5 = .int .i64 0) (fun _ _ => 0)
 case atStart => exact ⟨rfl, rfl⟩
 case round =>
   obtain ⟨rfl, rfl⟩ := hrel
   go_wp2
   go_ret
   exact ⟨rfl, rfl⟩
theorem repl_48_48 (w : World) : Calls Tryz.prog 86 #[.string ⟨#[48]⟩, .string ⟨#[126, 48]⟩, .string ⟨#[126]⟩] w fun e w' => e = .returned (.string ⟨#[48]⟩) /\ w = w' := by
 have HC := hid (count_48_48 w)
 go_enter Tryz.func86, Tryz.ntmps86
 go_wp2_with (first
   | (go_at_call 130; refine HC.out.mono ?_; rintro e w' ⟨rfl, rfl⟩)
   | go_in)
 go_ret
 exact ⟨rfl, rfl⟩
theorem isPath_b0 (w : World) : Calls Tryz.prog 50 #[.string ⟨#[47, 98, 47, 48]⟩] w fun e w' => e = .returned (.bool true) /\ w = w' := by
 go_enter Tryz.func50, Tryz.ntmps50
 go_wp2
 go_loop [13] (fun v13 => ∃ k : Nat, k <= 4 /\ v13 = .int .i64 (k : Int)) (fun v13 => 4 - (intOf v13).toNat)
 case atStart => exact ⟨0, Nat.zero_le _, rfl⟩
 case round =>
   obtain ⟨k, hk, rfl⟩ := hrel
   rcases (show k = 0 ∨ k = 1 ∨ k = 2 ∨ k = 3 ∨ k = 4 by omega) with rfl | rfl | rfl | rfl | rfl
   · go_wp2
     go_round
     case rel => exact ⟨_, _, _, ⟨1, by omega, rfl⟩, rfl, rfl, rfl⟩
     case measure => simp [intOf]
   · go_wp2
     go_round
     case rel => exact ⟨_, _, _, ⟨2, by omega, rfl⟩, rfl, rfl, rfl⟩
     case measure => simp [intOf]
   · go_wp2
     go_round
     case rel => exact ⟨_, _, _, ⟨3, by omega, rfl⟩, rfl, rfl, rfl⟩
     case measure => simp [intOf]
   · go_wp2
     go_round
     case rel => exact ⟨_, _, _, ⟨4, by omega, rfl⟩, rfl, rfl, rfl⟩
     case measure => simp [intOf]
   · go_wp2
     go_ret
     exact ⟨rfl, rfl⟩
def CutPost (w : World) (a b : List UInt8) (e : Ending) (w' : World) : Prop := e = .returned (.tuple #[.string ⟨a.toArray⟩, .string ⟨b.toArray⟩]) /\ Below w.heap.size w w'
theorem same_q {f : FuncId} {args : Array Value} {w : World} {e0 : Ending} (h : Calls Tryz.prog f args w fun e w' => e = e0 /\ w = w') : Calls Tryz.prog f args w fun e w' => e = e0 /\ w' = w := h.mono fun _ _ h => ⟨h.1, h.2.symm⟩
theorem cut_b (w : World) : Calls Tryz.prog 51 #[.string ⟨#[47, 98, 47, 48]⟩] w (CutPost w [98] [47, 48]) := by
 have HR := hid (repl_98_49 w)
 have hx : (⟨#[47, 98, 47, 48]⟩ : ByteArray).extract 1 2 = ⟨#[98]⟩ := by decide
 have hy : (⟨#[47, 98, 47, 48]⟩ : ByteArray).extract 2 4 = ⟨#[47, 48]⟩ := by decide
 go_enter Tryz.func51, Tryz.ntmps51
 go_wp2
 go_loop [4] (fun v4 => v4 = .int .i64 1 ∨ v4 = .int .i64 2) (fun v4 => 2 - (intOf v4).toNat)
 case atStart => exact .inl rfl
 case round =>
   rcases hrel with rfl | rfl
   · go_wp2
     go_round
     case rel => exact .inr rfl
     case measure => simp [intOf]
   · go_wp2_with fail
     refine HR.out.mono ?_
     rintro e w1 ⟨rfl, rfl⟩
     go_wp2_with fail
     go_quiet ((go_at_call 86; with_reducible exact Calls.quiet_of_same (same_q (repl_98_48 _))))
     go_wp2_with fail
     go_ret2
     exact ⟨rfl, below_drewN (Below.refl _ _) _⟩
mutual
def CopJ : JV -> Prop
 | .mk _ _ d t l ns => d.digits.length <= 100000000000000 /\ t.length <= 100000000000000 /\ ns.length <= 1000000000000 /\ l.length <= 1000000000000 /\ (∀ x ∈ ns, x.length <= 100000000000000) /\ CopKids l
def CopKids : List JV -> Prop
 | [] => True
 | x :: l => CopJ x /\ CopKids l
end
theorem CopKids.get : ∀ {l : List JV}, CopKids l -> ∀ x ∈ l, CopJ x
 | [], _, x, hx => by simp at hx
 | y :: l, h, x, hx => by
   unfold CopKids at h
   rcases List.mem_cons.1 hx with rfl | hx
   · exact h.1
   · exact CopKids.get h.2 x hx
theorem CopKids.of : ∀ {l : List JV}, (∀ x ∈ l, CopJ x) -> CopKids l
 | [], _ => by unfold CopKids; trivial
 | y :: l, h => by
   unfold CopKids
   exact ⟨h y (by simp), CopKids.of fun x hx => h x (by simp [hx])⟩
def CopAt (W : World) (base : Nat) (v : JV) (cs : Array Value) : Prop :=
 match v with
 | .mk k b d t l ns => ∃ own L N css, cs = jvC k b d t L N /\ JsAt W (FB own base 0) l css /\ Lies W (FB own base 2) 28 8 L l.length css.flatten /\ Lies W (FB own base 3) 9 1 N ns.length (ns.map keyV)
def CopPost (w : World) (v : JV) (e : Ending) (w' : World) : Prop := ∃ cs, e = .returned (.agg cs) /\ CopAt w' w.heap.size v cs /\ Below w.heap.size w w'
theorem CopAt.jis {W : World} {base : Nat} {v : JV} {cs : Array Value} (h : CopAt W base v cs) : JIs W (fun q => base <= q) v cs.toList := by
 obtain ⟨k, b, d, t, l, ns⟩ := v
 obtain ⟨own, L, N, css, rfl, h1, h2, h3⟩ := h
 obtain ⟨A, c, hL, a1, a2⟩ := h2.form
 obtain ⟨A', c', hN, a3, a4⟩ := h3.form
 unfold JIs
 refine ⟨A, c, A', c', by rw [hL, hN], a1, a2, a3, a4, fun i hi => ?_, ?_⟩
 · obtain ⟨g2, off2, cap2, hv, hf, _, _, hlt, hr⟩ := h3.cells (by omega)
   rw [hN] at hv
   injection hv with e1 _ _
   exact ⟨g2, off2, e1, hf.2, hlt, hr i (keyV (ns.getD i [])) (by simp [List.getD, List.getElem?_eq_getElem hi])⟩
 · by_cases h0 : l = []
   · rw [h0]; unfold KidsAt; trivial
   · obtain ⟨g2, off2, cap2, hv, hf, _, _, hlt, hr⟩ := h2.cells (List.length_pos_iff.2 h0)
     rw [hL] at hv
     injection hv with e1 _ _
     rw [e1]
     exact JsAt.kids (F := FB own base 0) hf.2 hlt (fun k hk _ => hk.2) l css 0 h1 (by simpa using hr)
structure CpS (w0 : World) (g : Nat) (k : Int) (b : Bool) (d : Dec) (t : List UInt8) (l : List JV) (ns : List (List UInt8)) (i j : Nat) (own : Nat -> Nat) (N L : Value) (css : List (List Value)) (W : World) : Prop where
 row : Row W g 28 (jvC k b d t L N)
 res : Row W w0.heap.size 28 zeroJ
 og : own g = 1
 ores : own w0.heap.size = 1
 vals : JsAt W (FB own w0.heap.size 0) (l.take j) css
 list : Lies W (FB own w0.heap.size 2) 28 8 L j css.flatten
 names : Lies W (FB own w0.heap.size 3) 9 1 N i ((ns.take i).map keyV)
 below : Below w0.heap.size w0 W
 ge : w0.heap.size < g
section
variable {w0 W W1 W2 : World} {g : Nat} {k : Int} {b : Bool} {d : Dec} {t : List UInt8} {l : List JV} {ns : List (List UInt8)} {i j : Nat} {own : Nat -> Nat} {N L : Value} {css : List (List Value)}
theorem CpS.drew (h : CpS w0 g k b d t l ns i j own N L css W) : CpS w0 g k b d t l ns i j own N L css W.drew :=
 ⟨h.row.call (Below.refl _ _).drew, h.res.call (Below.refl _ _).drew, h.og, h.ores, JsAt.kept (G := fun _ => False) (keptOf_below (Below.refl _ _).drew) (fun _ _ => id) _ _ h.vals, h.list.below (Below.refl _ _).drew, h.names.below (Below.refl _ _).drew, h.below.drew, h.ge⟩
theorem CpS.name (h : CpS w0 g k b d t l ns i j own N L css W) (hi : i < ns.length) (hb : Below W.heap.size W W1) {v' : Value}
   (hl : Lies W2 (grow (fun q => FB own w0.heap.size 3 q /\ q < W.heap.size) W1) 9 1 v' (i + 1) ((ns.take i).map keyV ++ [keyV (ns.getD i [])])) (hk : Kept (fun q => FB own w0.heap.size 3 q /\ q < W.heap.size) W1 W2) :
   Row W2 g 28 (jvC k b d t L N) /\ ∃ own', CpS w0 g k b d t l ns (i + 1) j own' v' L css (W2.setCell ⟨g, 7, none⟩ v') := by
 have hg3 : ∀ {q}, own q = 1 -> ¬ (FB own w0.heap.size 3 q /\ q < W.heap.size) := fun e e2 => by have := e2.1.1; omega
 have hr2 : Row W2 g 28 (jvC k b d t L N) := (h.row.call hb).kept hk (hg3 h.og)
 have hr0 : Row W2 w0.heap.size 28 zeroJ := (h.res.call hb).kept hk (hg3 h.ores)
 refine ⟨hr2, ?_⟩
 obtain ⟨own', ho'⟩ : ∃ own' : Nat -> Nat, ∀ q, own' q = if q < W.heap.size then own q else if q < W1.heap.size then 4 else 3 := ⟨_, fun _ => rfl⟩
 have s1 : Still W W2 (fun q => FB own w0.heap.size 3 q /\ q < W.heap.size) own own' := ⟨(kept_mono (F := fun _ => False) (keptOf_below hb) fun _ e => e.elim).trans' hk, fun q hq => by rw [ho', if_pos hq]⟩
 have s2 := cell_still W2 own' g 7 v'
 have eg : own' g = 1 := by rw [ho', if_pos h.row.lt]; exact h.og
 have e0 : own' w0.heap.size = 1 := by rw [ho', if_pos h.res.lt]; exact h.ores
 have hbw := h.below.size
 have hw1 := hb.size
 refine ⟨own', ?_, ?_, eg, e0, ?_, ?_, ?_, ?_, h.ge⟩
 · simpa [jvC] using hr2.set_ 7 v'
 · exact hr0.kept (Kept.cell W2 g 7 v') (fun e => by have := h.ge; omega)
 · exact (h.vals.still s1 (fun q hq _ => by rw [hq.1.1]; omega)).still s2 (fun q hq _ => by rw [hq, eg]; omega)
 · exact (h.list.still s1 (fun q hq _ => by rw [hq.1.1]; omega)).still s2 (fun q hq _ => by rw [hq, eg]; omega)
 · have e9 : (ns.take (i + 1)).map keyV = (ns.take i).map keyV ++ [keyV (ns.getD i [])] := by
     rw [List.take_add_one, List.getElem?_eq_getElem hi, List.map_append]
     simp [List.getD, List.getElem?_eq_getElem hi]
   rw [e9]
   refine Lies.still (hl.mono fun q hq => ?_) s2 (fun q hq _ => by rw [hq, eg]; omega)
   rcases hq with hq | hq
   · exact ⟨by rw [ho', if_pos hq.2]; exact hq.1.1, hq.1.2⟩
   · exact ⟨by rw [ho', if_neg (by omega), if_neg (by omega)], by omega⟩
 · have kk : Kept (fun q => w0.heap.size <= q) W (W2.setCell ⟨g, 7, none⟩ v') := (kept_mono s1.kept fun q e => e.1.2).setCell (grow.old (Nat.le_of_lt h.ge)) v'
   exact h.below.trans (kk.below hbw fun _ e => e)
theorem CpS.item (h : CpS w0 g k b d t l ns i j own N L css W) (hj : j < l.length) (hb : Below W.heap.size W W1) {v' : Value} {cs : List Value} (hv : JIs W1 (fun q => W.heap.size <= q) (l.getD j JV.null) cs)
   (hl : Lies W2 (grow (fun q => FB own w0.heap.size 2 q /\ q < W.heap.size) W1) 28 8 v' (j + 1) (css.flatten ++ cs)) (hk : Kept (fun q => FB own w0.heap.size 2 q /\ q < W.heap.size) W1 W2) :
   Row W2 g 28 (jvC k b d t L N) /\ ∃ own', CpS w0 g k b d t l ns i (j + 1) own' N v' (css ++ [cs]) (W2.setCell ⟨g, 6, none⟩ v') := by
 have hg3 : ∀ {q}, own q = 1 -> ¬ (FB own w0.heap.size 2 q /\ q < W.heap.size) := fun e e2 => by have := e2.1.1; omega
 have hr2 : Row W2 g 28 (jvC k b d t L N) := (h.row.call hb).kept hk (hg3 h.og)
 have hr0 : Row W2 w0.heap.size 28 zeroJ := (h.res.call hb).kept hk (hg3 h.ores)
 refine ⟨hr2, ?_⟩
 obtain ⟨own', ho'⟩ : ∃ own' : Nat -> Nat, ∀ q, own' q = if q < W.heap.size then own q else if q < W1.heap.size then 0 else 2 := ⟨_, fun _ => rfl⟩
 have s1 : Still W W2 (fun q => FB own w0.heap.size 2 q /\ q < W.heap.size) own own' := ⟨(kept_mono (F := fun _ => False) (keptOf_below hb) fun _ e => e.elim).trans' hk, fun q hq => by rw [ho', if_pos hq]⟩
 have s2 := cell_still W2 own' g 6 v'
 have eg : own' g = 1 := by rw [ho', if_pos h.row.lt]; exact h.og
 have e0 : own' w0.heap.size = 1 := by rw [ho', if_pos h.res.lt]; exact h.ores
 have hbw := h.below.size
 have hw1 := hb.size
 have hv2 : JIs W2 (FB own' w0.heap.size 0) (l.getD j JV.null) cs := by
   have a1 : JIs W1 (fun q => W.heap.size <= q /\ q < W1.heap.size) (l.getD j JV.null) cs := JIs.mono (fun q e1 e2 => ⟨e1, e2⟩) _ _ hv
   have a2 := JIs.kept (F := fun q => W.heap.size <= q /\ q < W1.heap.size) hk (fun q e1 e2 => by have := e2.2; have := e1.1; omega) _ _ a1
   exact JIs.mono (fun q e1 _ => ⟨by rw [ho', if_neg (by have := e1.1; omega), if_pos e1.2], by have := e1.1; omega⟩) _ _ a2
 refine ⟨own', ?_, ?_, eg, e0, ?_, ?_, ?_, ?_, h.ge⟩
 · simpa [jvC] using hr2.set_ 6 v'
 · exact hr0.kept (Kept.cell W2 g 6 v') (fun e => by have := h.ge; omega)
 · have e9 : l.take (j + 1) = l.take j ++ [l.getD j JV.null] := by
     rw [List.take_add_one, List.getElem?_eq_getElem hj]
     simp [List.getD, List.getElem?_eq_getElem hj]
   rw [e9]
   exact (JsAt.snoc hv2 _ _ (h.vals.still s1 (fun q hq _ => by rw [hq.1.1]; omega))).still s2 (fun q hq _ => by rw [hq, eg]; omega)
 · rw [List.flatten_append, List.flatten_cons, List.flatten_nil, List.append_nil]
   refine Lies.still (hl.mono fun q hq => ?_) s2 (fun q hq _ => by rw [hq, eg]; omega)
   rcases hq with hq | hq
   · exact ⟨by rw [ho', if_pos hq.2]; exact hq.1.1, hq.1.2⟩
   · exact ⟨by rw [ho', if_neg (by omega), if_neg (by omega)], by omega⟩
 · exact (h.names.still s1 (fun q hq _ => by rw [hq.1.1]; omega)).still s2 (fun q hq _ => by rw [hq, eg]; omega)
 · have kk : Kept (fun q => w0.heap.size <= q) W (W2.setCell ⟨g, 6, none⟩ v') := (kept_mono s1.kept fun q e => e.1.2).setCell (grow.old (Nat.le_of_lt h.ge)) v'
   exact h.below.trans (kk.below hbw fun _ e => e)
theorem CpS.fin (h : CpS w0 g k b d t l ns ns.length l.length own N L css W) : Row (W.setCells w0.heap.size 0 (jvC k b d t L N).toList) w0.heap.size 28 (jvC k b d t L N) /\ CopPost w0 (.mk k b d t l ns) (.returned (.agg (jvC k b d t L N))) (W.setCells w0.heap.size 0 (jvC k b d t L N).toList) := by
 have kk := kept_setCells W w0.heap.size (jvC k b d t L N).toList 0 W (Kept.refl _ _)
 have hrow : Row (W.setCells w0.heap.size 0 (jvC k b d t L N).toList) w0.heap.size 28 (jvC k b d t L N) := by
   have h9 := row_laid (jvC k b d t L N).toList [] zeroJ.toList W (by simpa using h.res) rfl
   simpa using h9
 have hne : ∀ m, m ≠ 1 -> ∀ q, q = w0.heap.size -> w0.heap.size <= q -> own q ≠ m := fun m hm q hq _ e => hm (by rw [<- e, hq, h.ores])
 have s : Still W (W.setCells w0.heap.size 0 (jvC k b d t L N).toList) (· = w0.heap.size) own own := ⟨kk, fun _ _ => rfl⟩
 refine ⟨hrow, jvC k b d t L N, rfl, ⟨own, L, N, css, rfl, ?_, ?_, ?_⟩, ?_⟩
 · have := h.vals
   rw [List.take_length] at this
   exact this.still s (hne 0 (by omega))
 · exact h.list.still s (hne 2 (by omega))
 · have := h.names
   rw [List.take_length] at this
   exact this.still s (hne 3 (by omega))
 · exact h.below.trans (kk.below h.below.size fun q e => by rw [e]; exact Nat.le_refl _)
theorem CpS.start {W3 W4 : World} {N0 L0 : Value} (hr : Row W g 28 (jvC k b d t L0 N0)) (h0 : Row W w0.heap.size 28 zeroJ) (hb : Below w0.heap.size w0 W) (hg : w0.heap.size < g) (b1 : Below W.heap.size W W3) (hN : Lies W3 (fun q => W.heap.size <= q) 9 1 N 0 []) (b2 : Below W3.heap.size W3 W4) (hL : Lies W4 (fun q => W3.heap.size <= q) 28 8 L 0 []) :
   W4.frozen? ⟨g, 7, none⟩ = false /\ W4.cell? ⟨g, 7, none⟩ = some N0 /\ (W4.setCell ⟨g, 7, none⟩ N).frozen? ⟨g, 6, none⟩ = false /\ (W4.setCell ⟨g, 7, none⟩ N).cell? ⟨g, 6, none⟩ = some L0 /\
     ∃ own, CpS w0 g k b d t l ns 0 0 own N L [] ((W4.setCell ⟨g, 7, none⟩ N).setCell ⟨g, 6, none⟩ L) := by
 have r4 : Row W4 g 28 (jvC k b d t L0 N0) := (hr.call b1).call b2
 have r5 : Row (W4.setCell ⟨g, 7, none⟩ N) g 28 (jvC k b d t L0 N) := by simpa [jvC] using r4.set_ 7 N
 have r6 : Row ((W4.setCell ⟨g, 7, none⟩ N).setCell ⟨g, 6, none⟩ L) g 28 (jvC k b d t L N) := by simpa [jvC] using r5.set_ 6 L
 have kk : Kept (· = g) W4 ((W4.setCell ⟨g, 7, none⟩ N).setCell ⟨g, 6, none⟩ L) := ((Kept.refl (· = g) W4).setCell (grow.old rfl) N).setCell (grow.old rfl) L
 refine ⟨r4.free 7, r4.cell (i := 7) rfl, r5.free 6, r5.cell (i := 6) rfl, fun q => if q < W.heap.size then 1 else if q < W3.heap.size then 3 else 2, r6, ?_, ?_, ?_, trivial, ?_, ?_, ?_, hg⟩
 · exact ((h0.call b1).call b2).kept kk (fun e => by omega)
 · show (if g < W.heap.size then 1 else _) = 1
   rw [if_pos hr.lt]
 · show (if w0.heap.size < W.heap.size then 1 else _) = 1
   rw [if_pos h0.lt]
 · refine (hL.there.kept kk (fun q hq e => ?_)).mono fun q hq => ⟨?_, ?_⟩
   · have := hq.1; have := hr.lt; have := b1.size; omega
   · show (if q < W.heap.size then 1 else if q < W3.heap.size then 3 else 2) = 2
     have := hq.1; have := b1.size
     rw [if_neg (by omega), if_neg (by omega)]
   · have := hq.1; have := b1.size; have := hb.size; omega
 · refine ((hN.there.below b2).kept kk (fun q hq e => ?_)).mono fun q hq => ⟨?_, ?_⟩
   · have := hq.1; have := hr.lt; omega
   · show (if q < W.heap.size then 1 else if q < W3.heap.size then 3 else 2) = 3
     rw [if_neg (by have := hq.1; omega), if_pos hq.2]
   · have := hq.1; have := hb.size; omega
 · exact ((hb.call b1).call b2).trans (kk.below (by have := hb.size; have := b1.size; have := b2.size; omega) fun q e => by omega)
end
end Go.Proofs.YtmhbkjjkalnggaaGreatDoor
