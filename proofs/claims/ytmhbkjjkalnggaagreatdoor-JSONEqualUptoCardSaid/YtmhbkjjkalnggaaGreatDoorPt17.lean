import Derived.Test.YtmhbkjjkalnggaaGreatDoorPt16
namespace Go.Proofs.YtmhbkjjkalnggaaGreatDoor
open Go.RowKit
set_option maxRecDepth 1000000
set_option maxHeartbeats 40000000
def MeaI (gr : Nat) (own : Nat -> Prop) (t : List UInt8) (W : World) : Prop := (∀ q, own q ↔ q = gr) /\ Row W gr 3 #[.int .i64 (1048576 - (t.length : Int))] /\ t.length <= 1048576
def MeaBad (π : List PanicEntry) (t : List UInt8) : Prop := π = panicOf 3 /\ 1048576 < t.length
theorem mea_lay (gr : Nat) : LayC 62 #[.pointer (some ⟨gr, 0, none⟩)] (MeaI gr) MeaBad (fun _ => True) where
 call own t p W h hp _ := by
   obtain ⟨h1, h2, h3⟩ := h
   refine (jroom_ok gr p (1048576 - (t.length : Int)) 3 W h2 (by omega) (by omega) hp).mono ?_
   rintro e w' ⟨hc, hr, hk⟩
   have hko : Kept own W w' := kept_mono hk fun q e => (h1 q).2 e
   rcases hc with ⟨hle, rfl⟩ | ⟨hlt, rfl⟩
   · refine .inl ⟨rfl, own, ⟨h1, ?_, ?_⟩, hko, fun q => .inl⟩
     · have e9 : (1048576 - (t.length : Int)) - (p.length : Int) = 1048576 - ((t ++ p).length : Int) := by rw [List.length_append]; omega
       rwa [e9] at hr
     · rw [List.length_append]; omega
   · exact .inr ⟨_, rfl, ⟨rfl, by rw [List.length_append]; omega⟩, hko⟩
 stay own t W W' h hk := by
   obtain ⟨h1, h2, h3⟩ := h
   exact ⟨h1, h2.kept hk (fun hn => hn ((h1 gr).2 rfl)), h3⟩
 lt own t W q h hq := by
   obtain ⟨h1, h2, _⟩ := h
   rw [(h1 q).1 hq]
   exact h2.lt
 ok _ _ _ := trivial
 mono π a b h := ⟨h.1, by rw [List.length_append]; have := h.2; omega⟩
theorem jmeasure_ok (F0 : Nat -> Prop) (g off : Nat) (v : JV) (w : World) (h : JAtP w F0 g off v) (hf : FineJ v) (hT : PowTab w) :
   Calls Tryz.prog 34 #[.pointer (some ⟨g, off, none⟩)] w fun e w' => (((tellJ v).length <= 1048576 /\ e = .returned (.tuple #[])) ∨ (1048576 < (tellJ v).length /\ e = .panicked (panicOf 3))) /\ Below w.heap.size w w' := by
 obtain ⟨w1, hw1⟩ : ∃ w1, w1 = w.alloc (.cells #[.int .i64 1048576] 3) := ⟨_, rfl⟩
 have hrow : Row w1 w.heap.size 3 #[.int .i64 1048576] := by
   rw [hw1]; exact Row.new _ _ _
 have hb1 : Below w.heap.size w w1 := by rw [hw1]; exact (Below.refl _ _).alloc (Nat.le_refl _) _
 have hI : MeaI w.heap.size (· = w.heap.size) [] w1 := ⟨fun q => Iff.rfl, by simpa using hrow, by simp⟩
 have hj : JAtP w1 (fun q => (F0 q ∨ q = g) /\ q < w.heap.size) g off v := by
   obtain ⟨a1, cs, a2, a3⟩ := h
   refine ⟨Nat.lt_of_lt_of_le a1 hb1.size, cs, fun q u hu => (hb1.cell (p := ⟨g, off + q, none⟩) a1).trans (a2 q u hu), ?_⟩
   exact (JIs.mono (G := fun q => (F0 q ∨ q = g) /\ q < w.heap.size) (fun q b1 b2 => ⟨.inl b1, b2⟩) _ _ a3).below hb1
 have HT := hid (jtell_ok 62 #[.pointer (some ⟨w.heap.size, 0, none⟩)] (MeaI w.heap.size) MeaBad (fun _ => True) (mea_lay w.heap.size) (fun _ _ => rfl) _ v (Nat.le_refl _) hf _ g off (· = w.heap.size) [] w1 hI trivial hj ⟨.inr rfl, h.1⟩ ⟨fun q hq => Nat.lt_of_lt_of_le hq.2 hb1.size, fun q hq e => by have := hq.2; omega⟩ (fun V hV => hT.below (hb1.trans (hV.below hb1.size (fun q e => by rw [e]; exact Nat.le_refl _)))))
 rw [List.nil_append] at HT
 have HB1 := hid hb1
 have HW1 := hid hw1
 have hmf : ∀ (fn : Fn) (first cap : Array Value) (W : World), (Instr.makeFunc fn first cap).run Tryz.prog W = .ok (.func fn first cap) W := fun _ _ _ _ => rfl
 clear hrow hb1 hI hj h hf hT hw1
 go_enter Tryz.func34, Tryz.ntmps34
 go_upto_region 1 with fail
 rw [<- HW1.out]
 go_wp2_with fail
 refine HT.out.mono ?_
 rintro e w2 (⟨rfl, o, ⟨i1, i2, i3⟩, hk, ho⟩ | ⟨π, rfl, ⟨rfl, hb⟩, hk⟩)
 · have HF : Hid (Below w.heap.size w w2) := hid (HB1.out.trans (hk.below HB1.out.size (fun q e => by rw [e]; exact Nat.le_refl _)))
   have HL := hid i3
   clear i1 i2 i3 hk ho
   go_wp2_with fail
   go_end0
   exact ⟨.inl ⟨HL.out, rfl⟩, HF.out⟩
 · have HF : Hid (Below w.heap.size w w2) := hid (HB1.out.trans (hk.below HB1.out.size (fun q e => by rw [e]; exact Nat.le_refl _)))
   have HL := hid hb
   clear hb hk
   go_wp2_with fail
   exact ⟨rfl, .inr ⟨HL.out, rfl⟩, HF.out⟩
open Go Go.RowKit
section
variable {P : Program} {md : Region.Mode} {ops : Array Oper} {Q : Exit -> Act -> World -> Prop} {S : World -> Prop} {z : Nat}
def wpTill (P : Program) (md : Region.Mode) (ops : Array Oper) (Q : Exit -> Act -> World -> Prop) (z : Nat) (S : World -> Prop) : Nat -> Array Bool -> Act -> World -> Prop
 | 0, listed, a, w => Region.ready md ops listed = [] /\ Q .normal a w
 | fuel + 1, listed, a, w => (Region.ready md ops listed = [] -> Q .normal a w) /\
   ∀ i ∈ Region.ready md ops listed, wpOp P ops Q i (fun a' w' => ((listed.setIfInBounds i true).getD z true = false -> S w') /\ wpTill P md ops Q z S fuel (listed.setIfInBounds i true) a' w') a w
theorem wpAny_of_till : ∀ (fuel : Nat) (listed : Array Bool) (a : Act) (w : World), wpTill P md ops Q z S fuel listed a w -> wpAny P md ops Q fuel listed a w
 | 0, _, _, _, h => h
 | fuel + 1, _, _, _, h => ⟨h.1, fun i hi => wpOp_mono (fun a' w' h' => wpAny_of_till fuel _ a' w' h'.2) (h.2 i hi)⟩
theorem getD_still {l : Array Bool} {i z : Nat} (h : l.getD z true = true) : (l.setIfInBounds i true).getD z true = true := by
 by_cases e : i = z
 · subst e
   by_cases hb : i < l.size
   · simp [Array.getD, hb]
   · simp [Array.getD, hb]
 · rw [getD_set_ne true e]; exact h
theorem wpTill_past : ∀ (fuel : Nat) (listed : Array Bool) (a : Act) (w : World), listed.getD z true = true -> wpAny P md ops Q fuel listed a w -> wpTill P md ops Q z S fuel listed a w
 | 0, _, _, _, _, h => h
 | fuel + 1, listed, a, w, hz, h => ⟨h.1, fun i hi => wpOp_mono (fun a' w' h' => ⟨fun h9 => (by rw [getD_still hz] at h9; cases h9), wpTill_past fuel _ a' w' (getD_still hz) h'⟩) (h.2 i hi)⟩
def waitsB (md : Region.Mode) (ops : Array Oper) (z i : Nat) : Bool := ((ops[z]?).map fun o => o.after.any fun e => Region.binds md e && e.on == i).getD false
theorem waits_not {listed : Array Bool} {i : Nat} (hw : waitsB md ops z i = true) (hi : listed.getD i false = false) : z ∉ Region.ready md ops listed := fun hz => by
 obtain ⟨_, oz, hoz, hall⟩ := mem_ready.1 hz
 unfold waitsB at hw
 rw [hoz] at hw
 simp only [Option.map_some, Option.getD_some] at hw
 obtain ⟨e, he, hb⟩ := Array.any_eq_true'.1 hw
 rw [Bool.and_eq_true, beq_iff_eq] at hb
 have := hall e he hb.1
 rw [hb.2, hi] at this
 cases this
theorem wpTill_first {i : Nat} {oi : Oper} {v : Value} (hi : ops[i]? = some oi) (hsel : ∀ (j : Nat) (o : Oper) cs b, ops[j]? = some o -> o.op ≠ .select cs b)
   (hQ : ∀ c a w, Q (.panic c) (a.put oi.dst v) w -> Q (.panic c) a w) (hzi : waitsB md ops z i = true) :
   ∀ (fuel : Nat) (listed : Array Bool) (a : Act) (w : World),
     (∀ j oj, ops[j]? = some oj -> j ≠ i -> listed.getD j true = false -> (∀ e ∈ oj.after, Region.binds md e = true -> e.on ≠ i) -> oi.apart ops oj = true) ->
     i ∈ Region.ready md ops listed -> listed.getD z true = false -> YieldsIf P ops S oi v a -> S w ->
     wpTill P md ops Q z S fuel (listed.setIfInBounds i true) (a.put oi.dst v) w -> wpTill P md ops Q z S (fuel + 1) listed a w := by
 intro fuel
 induction fuel with
 | zero =>
   intro listed a w _ hr _ hy hS H
   refine ⟨fun h => (by rw [h] at hr; cases hr), fun j hj => ?_⟩
   by_cases hji : j = i
   · subst hji; exact hy.wpOp hi hS ⟨fun _ => hS, H⟩
   · have h0 := ready_mono hj hji
     rw [H.1] at h0
     cases h0
 | succ fuel ih =>
   intro listed a w hfree hr hz hy hS H
   refine ⟨fun h => (by rw [h] at hr; cases hr), fun j hj => ?_⟩
   by_cases hji : j = i
   · subst hji; exact hy.wpOp hi hS ⟨fun _ => hS, H⟩
   · have hlj := (mem_ready.1 hr).1
     have hli : listed.getD i false = false := by
       rcases Nat.lt_or_ge i listed.size with h9 | h9
       · simp [Array.getD, h9] at hlj ⊢; exact hlj
       · simp [Array.getD, Nat.not_lt.2 h9]
     have hjz : j ≠ z := fun e => by subst e; exact waits_not hzi hli hj
     have hz2 : (listed.setIfInBounds j true).getD z true = false := by rw [getD_set_ne true hjz]; exact hz
     have hz3 : ((listed.setIfInBounds i true).setIfInBounds j true).getD z true = false -> True := fun _ => trivial
     obtain ⟨hjun, oj, hoj, hall⟩ := mem_ready.1 hj
     have hnot : ∀ e ∈ oj.after, Region.binds md e = true -> e.on ≠ i := fun e he hb heq => by
       have := hall e he hb
       rw [heq, hli] at this
       cases this
     have h1 := H.2 j (ready_mono hj hji)
     have h2 := wpOp_putIf hoj (hfree j oj hoj hji hjun hnot) (fun cs b => hsel i oi cs b hi) (fun cs b => hsel j oj cs b hoj) hQ hy h1
     have hfree' : ∀ k ok, ops[k]? = some ok -> k ≠ i -> (listed.setIfInBounds j true).getD k true = false ->
         (∀ e ∈ ok.after, Region.binds md e = true -> e.on ≠ i) -> oi.apart ops ok = true := fun k ok hk hki hun hno => by
       refine hfree k ok hk hki ?_ hno
       by_cases hjk : j = k
       · subst hjk; exact hjun
       · rw [getD_set_ne true hjk] at hun; exact hun
     have hiz : i ≠ z := fun e => by
       subst e
       exact waits_not hzi hli hr
     refine wpOp_mono (fun a' w' h3 => ?_) h2
     have hSw : S w' := h3.2.1 (by rw [getD_set_ne true hjz, getD_set_ne true hiz]; exact hz)
     refine ⟨fun _ => hSw, ih (listed.setIfInBounds j true) a' w' hfree' (ready_mono hr (Ne.symm hji)) hz2 h3.1 hSw ?_⟩
     rw [Array.setIfInBounds_comm _ _ hji]
     exact h3.2.2
theorem wpTill_take {i : Nat} {oi : Oper} {v : Value} {fuel : Nat} {listed : Array Bool} {a : Act} {w : World} (hi : ops[i]? = some oi)
   (hs : Region.noSelect ops = true) (hf : Region.free md ops listed i = true) (hr : (Region.ready md ops listed).contains i = true) (hw : waitsB md ops z i = true) (hz : listed.getD z true = false)
   (hQ : ∀ c a w, Q (.panic c) (a.put oi.dst v) w -> Q (.panic c) a w) (hy : YieldsIf P ops S oi v a) (hS : S w)
   (h : wpTill P md ops Q z S fuel (listed.setIfInBounds i true) (a.put oi.dst v) w) : wpTill P md ops Q z S (fuel + 1) listed a w :=
 wpTill_first hi (Region.noSelect_spec hs) hQ hw fuel listed a w (Region.free_spec hi hf) (by simpa using hr) hz hy hS h
theorem wpTill_one {i : Nat} {o : Oper} {fuel : Nat} {listed : Array Bool} {a : Act} {w : World} (hr : Region.ready md ops listed = [i]) (ho : ops[i]? = some o) (hg : o.guard = none)
   (h : ∀ K : Act -> World -> Prop, (∀ a' w', ((listed.setIfInBounds i true).getD z true = false -> S w') -> wpTill P md ops Q z S fuel (listed.setIfInBounds i true) a' w' -> K a' w') -> Oper.wp P o a w K Q) : wpTill P md ops Q z S (fuel + 1) listed a w :=
 ⟨fun h0 => (by rw [hr] at h0; cases h0), fun j hj => by
   rw [hr] at hj
   obtain rfl : j = i := by simpa using hj
   refine wpOp_step ho fun K hK => ?_
   rw [if_pos (by simp [Region.wanted, hg])]
   exact h K fun a' w' h1 h2 => hK a' w' ⟨h1, h2⟩⟩
theorem wp_region_till {id : Nat} {a : Act} {w : World} (z : Nat) (S : World -> Prop) (hm : P.follows .mixedOrders = true)
   (h : wpTill P .any ops Q z S ops.size (Array.replicate ops.size false) a w.drew) : (Code.region id ops true).wp P Q a w :=
 wp_region_any hm (wpAny_of_till _ _ _ _ h)
end
section
variable {P : Program} {md : Region.Mode} {ops : Array Oper} {Q : Exit -> Act -> World -> Prop} {S : World -> Prop} {z : Nat}
open Go
theorem wpTill_t (i : Nat) {oi : Oper} {v : Value} {fuel : Nat} {listed : Array Bool} {a : Act} {w : World} (hy : YieldsIf P ops S oi v a) (h : wpTill P md ops Q z S fuel (listed.setIfInBounds i true) (a.put oi.dst v) w)
   (hi : ops[i]? = some oi := by (simp only [gA, gB, gC]; with_reducible rfl))
   (hc : (Region.noSelect ops && Region.free md ops listed i && (Region.ready md ops listed).contains i && waitsB md ops z i && !listed.getD z true) = true := by kernel_rfl)
   (hS : S w := by assumption) (hQ : ∀ c a w, Q (.panic c) (a.put oi.dst v) w -> Q (.panic c) a w := by exact fun _ _ _ h => h) : wpTill P md ops Q z S (fuel + 1) listed a w := by
 simp only [Bool.and_eq_true, Bool.not_eq_true'] at hc
 exact wpTill_take hi hc.1.1.1.1 hc.1.1.1.2 hc.1.1.2 hc.1.2 hc.2 hQ hy hS h
theorem wpTill_y (i : Nat) {oi : Oper} (v : Value) {fuel : Nat} {listed : Array Bool} {a : Act} {w : World} (hy : ∀ w, S w -> (execOp a.eval oi).run P w = .ok (.value v) w)
   (h : wpTill P md ops Q z S fuel (listed.setIfInBounds i true) (a.put oi.dst v) w)
   (hi : ops[i]? = some oi := by (simp only [gA, gB, gC]; with_reducible rfl)) (hg : Region.wanted oi (yielded ops a.tmps) = true := by rfl)
   (hc : (Region.noSelect ops && Region.free md ops listed i && (Region.ready md ops listed).contains i && waitsB md ops z i && !listed.getD z true) = true := by kernel_rfl)
   (hS : S w := by assumption) (hQ : ∀ c a w, Q (.panic c) (a.put oi.dst v) w -> Q (.panic c) a w := by exact fun _ _ _ h => h) : wpTill P md ops Q z S (fuel + 1) listed a w :=
 wpTill_t i (.inl ⟨hg, hy⟩) h hi hc hS hQ
theorem wpTill_z (i : Nat) {oi : Oper} {v : Value} {fuel : Nat} {listed : Array Bool} {a : Act} {w : World}
   (h : wpTill P md ops Q z S fuel (listed.setIfInBounds i true) (a.put oi.dst v) w)
   (hi : ops[i]? = some oi := by (simp only [gA, gB, gC]; with_reducible rfl)) (hg : Region.wanted oi (yielded ops a.tmps) = true := by rfl)
   (hy : ∀ w, S w -> (execOp a.eval oi).run P w = .ok (.value v) w := by (intro W hSw; go_simp; try with_reducible rfl))
   (hc : (Region.noSelect ops && Region.free md ops listed i && (Region.ready md ops listed).contains i && waitsB md ops z i && !listed.getD z true) = true := by kernel_rfl)
   (hS : S w := by assumption) (hQ : ∀ c a w, Q (.panic c) (a.put oi.dst v) w -> Q (.panic c) a w := by exact fun _ _ _ h => h) : wpTill P md ops Q z S (fuel + 1) listed a w :=
 wpTill_t i (.inl ⟨hg, hy⟩) h hi hc hS hQ
theorem wpTill_o (i : Nat) {o : Oper} {fuel : Nat} {listed : Array Bool} {a : Act} {w : World}
   (h : ∀ K : Act -> World -> Prop, Hid (∀ a' w', ((listed.setIfInBounds i true).getD z true = false -> S w') -> wpTill P md ops Q z S fuel (listed.setIfInBounds i true) a' w' -> K a' w') -> Oper.wp P o a w K Q)
   (ho : ops[i]? = some o := by (simp only [gA, gB, gC]; with_reducible rfl)) (hr : Region.ready md ops listed = [i] := by kernel_rfl) (hg : o.guard = none := by rfl) : wpTill P md ops Q z S (fuel + 1) listed a w :=
 wpTill_one hr ho hg fun K hK => h K (hid hK)
end
def StkF (own : Nat -> Nat) (base q : Nat) : Prop := base <= q /\ own q ≠ 0 /\ own q ≠ 3
theorem infoJV : (Tryz.prog.info? 28).map (fun i => (i.zero, i.size, i.bytes)) = some (some (.agg zeroJ), 8, 112) := by kernel_rfl
theorem Lies.thereAt {W : World} {F : Nat -> Prop} {e : TypeId} {size g off cap n : Nat} {xs : List Value} (h : Lies W F e size (.slice (some ⟨g, off, none⟩) n cap) n xs) {j m : Nat} (hj : j + m <= n * size) : W.there g (off + j) m := by
 rcases h.2 with ⟨A, hv, rfl⟩ | ⟨g', off', cap', cur, hv, hF, hg, h1, h2, h3, h4⟩
 · intro i hi; omega
 · injection hv with e1 _ e3
   injection e1 with e1
   injection e1 with e1 e2
   subst e1 e2 e3
   intro i hi
   have hm : n * size <= cap * size := Nat.mul_le_mul_right _ h1
   refine ⟨?_, frozen_of_row W g _ cur e hg⟩
   rw [cell_of_row W g (off + j + i) cur e (0, 0) hg]
   simp; omega
theorem Lies.setCells {F : Nat -> Prop} {e : TypeId} {size g off cap n : Nat} : ∀ (vs : List Value) (W : World) (xs ys : List Value), Lies W F e size (.slice (some ⟨g, off, none⟩) n cap) n (xs ++ ys) -> ys.length = vs.length -> Lies (W.setCells g (off + xs.length) vs) F e size (.slice (some ⟨g, off, none⟩) n cap) n (xs ++ vs)
 | [], W, xs, ys, h, hl => by
   obtain rfl : ys = [] := List.eq_nil_of_length_eq_zero hl
   exact h
 | v :: vs, W, xs, ys, h, hl => by
   obtain ⟨y, ys, rfl⟩ : ∃ y t, ys = y :: t := by
     cases ys with
     | nil => cases hl
     | cons y t => exact ⟨y, t, rfl⟩
   have hlen := h.1
   simp only [List.length_append, List.length_cons] at hlen hl
   have h1 := h.set (j := xs.length) (by omega) v
   have e1 : (xs ++ y :: ys).set xs.length v = (xs ++ [v]) ++ ys := by rw [List.set_append_right _ _ (Nat.le_refl _)]; simp
   rw [e1] at h1
   have h2 := Lies.setCells vs _ (xs ++ [v]) ys h1 (by omega)
   rw [List.length_append, List.length_singleton, <- Nat.add_assoc] at h2
   rw [World.setCells]
   simpa using h2
theorem kept_setCells (W : World) (g : Nat) : ∀ (vs : List Value) (o : Nat) (V : World), Kept (· = g) W V -> Kept (· = g) W (V.setCells g o vs)
 | [], _, _, h => h
 | _ :: vs, o, V, h => by
   rw [World.setCells]
   exact kept_setCells W g vs (o + 1) _ (h.trans' (Kept.cell _ _ _ _))
theorem jv_one {W : World} {F : Nat -> Prop} {v : JV} {cs : List Value} (h : JIs W F v cs) : ∀ u ∈ cs, u.oneCell' = true := by
 obtain ⟨k, b, d, t, l, ns⟩ := v
 unfold JIs at h
 obtain ⟨A, c, A', c', rfl, _⟩ := h
 intro u hu
 simp only [jvC, List.mem_cons, List.not_mem_nil, or_false] at hu
 rcases hu with rfl | rfl | rfl | rfl | rfl | rfl | rfl | rfl <;> rfl
theorem setCell_apart (w : World) (a b : Addr) (h : a.block ≠ b.block) (u v : Value) : (w.setCell a u).setCell b v = (w.setCell b v).setCell a u := by
 unfold World.setCell
 congr 1
 refine Array.ext_getElem? fun i => ?_
 simp only [Array.getElem?_modify]
 by_cases h1 : b.block = i
 · have h2 : ¬ a.block = i := fun e => h (e.trans h1.symm)
   simp only [if_pos h1, if_neg h2]
 · by_cases h2 : a.block = i
   · simp only [if_neg h1, if_pos h2]
   · simp only [if_neg h1, if_neg h2]
theorem setCells_apart (a : Addr) (u : Value) (g : Nat) (h : a.block ≠ g) : ∀ (vs : List Value) (o : Nat) (w : World), (w.setCell a u).setCells g o vs = (w.setCells g o vs).setCell a u
 | [], _, _ => rfl
 | v :: vs, o, w => by
   rw [World.setCells, World.setCells, setCell_apart w a ⟨g, o, none⟩ h u v, setCells_apart a u g h vs (o + 1)]
section
variable {W W' : World} {G : Nat -> Prop} {own own' : Nat -> Nat} {base : Nat} {t : Fr} {r : List Fr} {g off cap : Nat} {cs0 : List (List Value)} {L N M : Value} {css : List (List Value)}
theorem TopW.still (h : TopW W own base t r g off cap cs0 L N M css) (s : Still W W' G own own') (hd : ∀ q, G q -> base <= q -> own q = 3 ∨ own q = 6 + 3 * r.length) : TopW W' own' base t r g off cap cs0 L N M css :=
 ⟨h.all.still s fun q hg hb => by have := hd q hg hb; omega, LvsAt.still s 0 _ _ h.rest fun q hg hb => by have := hd q hg hb; rw [List.length_reverse]; omega, h.vals.still s fun q hg hb => by have := hd q hg hb; omega,
  h.list.still s fun q hg hb => by have := hd q hg hb; omega, h.names.still s fun q hg hb => by have := hd q hg hb; omega⟩
theorem Top.still (h : Top W own base t r g off cap cs0 L N M css) (s : Still W W' G own own') (hd : ∀ q, G q -> base <= q -> own q = 3) : Top W' own' base t r g off cap cs0 L N M css :=
 ⟨h.toTopW.still s fun q hg hb => .inl (hd q hg hb), h.set_.still s fun q hg hb => by have := hd q hg hb; omega⟩
theorem cell_still (W : World) (own : Nat -> Nat) (g i : Nat) (u : Value) : Still W (W.setCell ⟨g, i, none⟩ u) (· = g) own own := ⟨Kept.cell _ _ _ _, fun _ _ => rfl⟩
theorem all_set {F : Nat -> Prop} {m : Nat} {c c' : List Value} (h : Lies W F 120 9 (.slice (some ⟨g, off, none⟩) (m + 1) cap) (m + 1) (cs0.flatten ++ c)) (hl : cs0.flatten.length = m * 9) (j : Nat) (hj : j < 9) (u : Value) (hc : c.set j u = c') :
   Lies (W.setCell ⟨g, off + m * 9 + j, none⟩ u) F 120 9 (.slice (some ⟨g, off, none⟩) (m + 1) cap) (m + 1) (cs0.flatten ++ c') := by
 have h1 := h.set (j := m * 9 + j) (by omega) u
 rw [List.set_append_right _ _ (by rw [hl]; omega), hl, Nat.add_sub_cancel_left, hc, <- Nat.add_assoc] at h1
 exact h1
theorem all_cell {F : Nat -> Prop} {m : Nat} {c : List Value} (h : Lies W F 120 9 (.slice (some ⟨g, off, none⟩) (m + 1) cap) (m + 1) (cs0.flatten ++ c)) (hl : cs0.flatten.length = m * 9) {j : Nat} {u : Value} (hu : c[j]? = some u) :
   W.cell? ⟨g, off + m * 9 + j, none⟩ = some u /\ W.frozen? ⟨g, off + m * 9 + j, none⟩ = false := by
 rcases h.2 with ⟨A, hv, h0⟩ | ⟨g', off', cap', cur, hv, hF, hg, h1, h2, h3, h4⟩
 · omega
 · injection hv with e1 _ e3
   injection e1 with e1
   injection e1 with e1 e2
   subst e1 e2 e3
   refine ⟨?_, frozen_of_row W g _ cur _ hg⟩
   obtain ⟨g', off', cap', hv, _, _, _, _, hr⟩ := h.cells (by omega)
   injection hv with e1 _ _
   injection e1 with e1
   injection e1 with e1 e2 _
   subst e1 e2
   have := hr (m * 9 + j) u (by rw [List.getElem?_append_right (by rw [hl]; omega), hl, Nat.add_sub_cancel_left]; exact hu)
   rwa [<- Nat.add_assoc] at this
theorem Top.more (h : Top W own base t r g off cap cs0 L N M css) (s : Still W W' (FB own base (4 + 3 * r.length)) own own') {v : JV} {cs : List Value} (hv : JIs W (FB own base 0) v cs) {L' : Value}
   (hl : Lies W' (FB own' base (4 + 3 * r.length)) 28 8 L' (t.list.length + 1) (css.flatten ++ cs)) :
   Top (W'.setCell ⟨g, off + r.length * 9 + 6, none⟩ L') own' base ⟨t.obj, t.list ++ [v], t.names⟩ r g off cap cs0 L' N M (css ++ [cs]) := by
 have hg : own' g = 2 := (s.own g h.block.2).trans h.block.1.1
 have s2 := cell_still W' own' g (off + r.length * 9 + 6) L'
 have hd : ∀ i, i ≠ 4 + 3 * r.length -> ∀ q, FB own base (4 + 3 * r.length) q -> base <= q -> own q ≠ i := fun i hi q hq _ e => hi (e.symm.trans hq.1)
 have hd2 : ∀ i, i ≠ 2 -> ∀ q, q = g -> base <= q -> own' q ≠ i := fun i hi q hq _ e => hi (by rw [<- e, hq, hg])
 refine ⟨⟨all_set (h.all.still s (hd 2 (by omega))) h.len 6 (by omega) L' rfl, ?_, ?_, ?_, ?_⟩, ?_⟩
 · exact LvsAt.still s2 0 _ _ (LvsAt.still s 0 _ _ h.rest fun q hq _ => by rw [hq.1, List.length_reverse]; omega) fun q hq _ => by rw [hq, hg]; omega
 · exact (JsAt.snoc (hv.still s (hd 0 (by omega))) _ _ (h.vals.still s (hd 0 (by omega)))).still s2 (hd2 0 (by omega))
 · have := hl.still s2 (hd2 (4 + 3 * r.length) (by omega))
   simpa using this
 · exact (h.names.still s (hd _ (by omega))).still s2 (hd2 _ (by omega))
 · exact (h.set_.still s (hd _ (by omega))).still s2 (hd2 _ (by omega))
theorem TopW.setM (h : TopW W own base t r g off cap cs0 L N M css) (M' : Value) : TopW (W.setCell ⟨g, off + r.length * 9 + 8, none⟩ M') own base t r g off cap cs0 L N M' css := by
 have hg := h.block.1.1
 have s2 := cell_still W own g (off + r.length * 9 + 8) M'
 have hd2 : ∀ i, i ≠ 2 -> ∀ q, q = g -> base <= q -> own q ≠ i := fun i hi q hq _ e => hi (by rw [<- e, hq, hg])
 refine ⟨all_set h.all h.len 8 (by omega) M' rfl, ?_, ?_, ?_, ?_⟩
 · exact LvsAt.still s2 0 _ _ h.rest fun q hq _ => by rw [hq, hg]; omega
 · exact h.vals.still s2 (hd2 0 (by omega))
 · exact h.list.still s2 (hd2 _ (by omega))
 · exact h.names.still s2 (hd2 _ (by omega))
theorem TopW.named (h : TopW W own base t r g off cap cs0 L N M css) (s : Still W W' (FB own base (5 + 3 * r.length)) own own') {l : List UInt8} {N' : Value}
   (hl : Lies W' (FB own' base (5 + 3 * r.length)) 9 1 N' (t.names.length + 1) (t.names.map keyV ++ [keyV l])) (hs : SetAt W own base (6 + 3 * r.length) M (t.names ++ [l])) :
   Top (W'.setCell ⟨g, off + r.length * 9 + 7, none⟩ N') own' base ⟨t.obj, t.list, t.names ++ [l]⟩ r g off cap cs0 L N' M css := by
 have hg : own' g = 2 := (s.own g h.block.2).trans h.block.1.1
 have s2 := cell_still W' own' g (off + r.length * 9 + 7) N'
 have hd : ∀ i, i ≠ 5 + 3 * r.length -> ∀ q, FB own base (5 + 3 * r.length) q -> base <= q -> own q ≠ i := fun i hi q hq _ e => hi (e.symm.trans hq.1)
 have hd2 : ∀ i, i ≠ 2 -> ∀ q, q = g -> base <= q -> own' q ≠ i := fun i hi q hq _ e => hi (by rw [<- e, hq, hg])
 refine ⟨⟨all_set (h.all.still s (hd 2 (by omega))) h.len 7 (by omega) N' rfl, ?_, ?_, ?_, ?_⟩, ?_⟩
 · exact LvsAt.still s2 0 _ _ (LvsAt.still s 0 _ _ h.rest fun q hq _ => by rw [hq.1, List.length_reverse]; omega) fun q hq _ => by rw [hq, hg]; omega
 · exact (h.vals.still s (hd 0 (by omega))).still s2 (hd2 0 (by omega))
 · exact (h.list.still s (hd _ (by omega))).still s2 (hd2 _ (by omega))
 · have := hl.still s2 (hd2 (5 + 3 * r.length) (by omega))
   simpa using this
 · exact (hs.still s (hd _ (by omega))).still s2 (hd2 _ (by omega))
end
theorem jput_ok (p : Nat) (X : Txt) (s s0 : List UInt8) (E O E0 O0 : Value) (f f0 : Fl) (w0 w : World) (own : Nat -> Nat) (t : Fr) (r : List Fr) (v : JV) (cs : List Value)
   (h0 : JAt w0 p X s0 E0 O0 f0) (h : JAt w p X s E O f) (hs : Stk w own w0.heap.size (t :: r) E O) (hv : JIs w (FB own w0.heap.size 0) v cs) (hb : w0.heap.size <= w.heap.size) (hl : t.list.length <= 1048576) :
   Calls Tryz.prog 83 #[.pointer (some ⟨p, 0, none⟩), .agg cs.toArray] w fun e w' => e = .returned (.tuple #[]) /\
     ∃ own', Stk w' own' w0.heap.size (putK v (t :: r)) E O /\ JAt w' p X s E O f /\ Still w w' (StkF own w0.heap.size) own own' := by
 obtain ⟨w1, hw1⟩ : ∃ w1, w1 = w.alloc (.cells cs.toArray 28) := ⟨_, rfl⟩
 have hb1 : Below w.heap.size w w1 := by subst hw1; exact (Below.refl _ _).alloc (Nat.le_refl _) _
 obtain ⟨A, c, hE, hc1, hc2⟩ := hs.ends.form
 subst hE
 obtain ⟨hl2, k, hr, hk, hkl⟩ := h
 have HD := hid (jisDeep_ok p X k A (t :: r).length c O f w1 (hr.below hb1))
 obtain ⟨K2, hK2⟩ : ∃ K2, K2 = putK v (t :: r) := ⟨_, rfl⟩
 rw [<- hK2]
 have HK2 := hid hK2
 clear hK2
 go_enter Tryz.func83, Tryz.ntmps83
 go_upto_region 1 with fail
 rw [<- hw1]
 have hlen : (t :: r).length = r.length + 1 := rfl
 have hcs : cs.length = 8 := hv.len
 have H := hid (And.intro hl2 (And.intro hr (And.intro hk hkl)))
 have HS := hid hs
 have HV := hid hv
 have H0 := hid h0
 have HB := hid hb
 have HW := hid hw1
 have HL := hid hl
 have HB1 := hid hb1
 have c3 := (hr.below hb1).row.cell (i := 3) (v := O) rfl
 clear hl2 hr hk hkl hs hv h0 hb hw1 hb1 hl
 by_cases hd : 64 < (t :: r).length
 · obtain rfl : K2 = t :: r := by rw [HK2.out]; unfold putK isDeepK maxDeep; rw [decide_eq_true hd]; rfl
   rw [decide_eq_true hd] at HD
   clear HK2
   go_wp2_with fail
   refine HD.out.mono ?_
   rintro e w2 ⟨rfl, rfl⟩
   go_wp2_with fail
   refine bodyPost_ret (results_none rfl _ _ _) rfl ?_
   refine ⟨rfl, own, ?_, ?_, ?_⟩
   · exact HS.out.still (G := fun _ => False) ⟨keptOf_below HB1.out, fun _ _ => rfl⟩ (fun _ h => h.elim)
   · exact ⟨H.out.1, k, H.out.2.1.below HB1.out, H.out.2.2⟩
   · exact ⟨keptOf_below HB1.out, fun _ _ => rfl⟩
 · have hr64 : r.length < 64 := by rw [hlen] at hd; omega
   rw [decide_eq_false hd] at HD
   obtain ⟨g, off, cap, cs0, L, N, M, css, rfl, ht⟩ := HS.out.top hr64
   have HT := hid ht
   have h9 : ((r.length + 1 : Nat) : Int) - 1 = (r.length : Int) := by omega
   have hlt : r.length < r.length + 1 := by omega
   clear ht hd
   go_wp2_with fail
   refine HD.out.mono ?_
   rintro e w2 ⟨rfl, rfl⟩
   clear HD
   generalize hn1 : r.length + 1 = n1 at *
   have HN1 := hid hn1
   have HN2 := hid hlen
   generalize hm : r.length = m at *
   have HM := hid hm
   clear hn1 hlen hm hc1 hc2
   go_wp2_with fail
   go_quiet (fail)
   go_upto_region 3 with fail
   obtain ⟨w9, hw9⟩ : ∃ w9, w9 = w1.drewN nq := ⟨_, rfl⟩
   rw [<- hw9]
   have HW9 := hid hw9
   have hb9 : Below w.heap.size w w9 := by rw [hw9]; exact below_drewN HB1.out _
   have HB9 := hid hb9
   have HT9 : Hid (Top w9 own w0.heap.size t r g off cap cs0 L N M css) := hid (HT.out.still (G := fun _ => False) ⟨keptOf_below hb9, fun _ _ => rfl⟩ (fun _ h => h.elim))
   have HL9 : Hid (∀ W, Below w9.heap.size w9 W -> W.cell? ⟨g, off + m * 9 + 6, none⟩ = some L) := hid fun W hb => by
     rw [<- HM.out]
     exact (hb.cell (p := ⟨g, off + r.length * 9 + 6, none⟩) HT9.out.block.2).trans (HT9.out.cell 6 L rfl)
   have HV9 : Hid (∀ W, Below w9.heap.size w9 W -> W.rangeAt w.heap.size 0 cs) := hid fun W hb => by
     have hrow : Row w9 w.heap.size 28 cs.toArray := by rw [hw9]; refine Row.drewN ?_ _; rw [HW.out]; exact Row.new _ _ _
     intro j u hu
     rw [Nat.zero_add]
     exact (hrow.call hb).cell (by simpa using hu)
   clear hw9 hb9
   refine wp_region_till 7 (fun W => Below w9.heap.size w9 W) (by kernel_rfl) ?_
   have hS0 : Below w9.heap.size w9 w9.drew := (Below.refl _ _).drew
   obtain ⟨A0, c0, hL0, hc1, hc2⟩ := HT9.out.list.form
   subst hL0
   generalize hn : t.list.length = n at *
   have HN := hid hn
   clear hn
   refine wpTill_z 0 ?_
   try simp only [Act.put, sA, sB, sC]
   refine wpTill_z 1 ?_
   try simp only [Act.put, sA, sB, sC]
   refine wpTill_z 2 ?_
   try simp only [Act.put, sA, sB, sC]
   refine wpTill_y 3 ?_ ?_ ?_
   rotate_left
   · intro W hSw; have q := HL9.out W hSw; go_simp; try with_reducible rfl
   try simp only [Act.put, sA, sB, sC]
   refine wpTill_t 4 (v := ?_) ?_ ?_
   rotate_left
   · refine yieldsIf_load_mid ?_ 28 (.tmp 3) ?_ w.heap.size 0 ?_ cs _ HV9.out Tryz.underlying28 rfl (by rw [hcs]; exact infoJ) <;> rfl
   try simp only [Act.put, sA, sB, sC]
   refine wpTill_z 5 ?_
   try simp only [Act.put, sA, sB, sC]
   refine wpTill_one (i := 6) (o := ?_) (by kernel_rfl) ?_ ?_ ?_
   rotate_left 1
   · simp only [gA, gB, gC]; with_reducible rfl
   · rfl
   intro K1 hK1
   go_simp
   obtain ⟨w10, hw10⟩ : ∃ w10, w10 = (w9.alloc (.cells zeroJ 28)).drew := ⟨_, rfl⟩
   have HA : Hid (Below w9.heap.size w9 w10) := hid (by rw [hw10]; exact ((Below.refl w9.heap.size w9).alloc (Nat.le_refl _) (.cells zeroJ 28)).drew)
   have HS10 : Hid (Lies w10 (FB own w0.heap.size (4 + 3 * m)) 28 8 (.slice A0 n c0) n css.flatten) := hid (by have := HT9.out.list.below HA.out; rw [HM.out, HN.out] at this; exact this)
   have HZ : Hid (Source w10 (some ⟨w9.heap.size, 0, none⟩) 1 zeroJ.toList) := hid (.inr ⟨_, rfl, fun j u hu => by
     rw [Addr.add_lit, Nat.zero_add, hw10]
     exact (Row.new w9 28 zeroJ).cell (by simpa using hu)⟩)
   unfold zeroJ at hw10
   rw [<- hw10]
   clear hw10
   refine hK1 _ _ (fun _ => HA.out) ?_
   clear hK1 K1 hS0
   refine wpTill_one (i := 7) (o := ?_) (by kernel_rfl) ?_ ?_ ?_
   rotate_left 1
   · simp only [gA, gB, gC]; with_reducible rfl
   · rfl
   intro K1 hK1
   refine wp_append_any (FB own w0.heap.size (4 + 3 * m)) _ _ _ rfl 28 8 112 (.agg zeroJ) Tryz.underlying25 infoJV rfl (by omega) _ n css.flatten rfl HS10.out _ 1 1 zeroJ.toList rfl rfl HZ.out (by decide) ?_ (by omega) ?_
   · have := HL.out; omega
   intro v11 w11 hl11 hk11
   refine hK1 _ _ (fun h => by cases h) ?_
   clear hK1 K1
   refine wpTill_past _ _ _ _ (by kernel_rfl) ?_
   obtain ⟨g2, off2, cap2, rfl, hF2, hnc, hcm, hglt, hrg⟩ := hl11.cells (by omega)
   have hn2 : n < n + 1 := by omega
   have hfl : css.flatten.length = n * 8 := HS10.out.1
   have T10 : Top w10 own w0.heap.size t r g off cap cs0 (.slice A0 n c0) N M css := HT9.out.still (G := fun _ => False) ⟨keptOf_below HA.out, fun _ _ => rfl⟩ (fun _ h => h.elim)
   have hg2 : own g = 2 /\ w0.heap.size <= g := T10.block.1
   have hgl : g < w10.heap.size := T10.block.2
   have hne : ∀ q, grow (FB own w0.heap.size (4 + 3 * m)) w10 q -> q ≠ g := fun q hq e => by
     subst e
     rcases hq with hq | hq
     · have := hq.1; omega
     · omega
   obtain ⟨W1, hW1⟩ : ∃ W1, W1 = w11.setCells g2 (off2 + n * 8) cs := ⟨_, rfl⟩
   obtain ⟨Wf, hWf⟩ : ∃ Wf, Wf = W1.setCell ⟨g, off + m * 9 + 6, none⟩ (.slice (some ⟨g2, off2, none⟩) (n + 1) cap2) := ⟨_, rfl⟩
   have FI : Hid (∃ own', Stk Wf own' w0.heap.size K2 (.slice A (t :: r).length c) (.slice (some ⟨g, off, none⟩) n1 cap) /\ JAt Wf p X s (.slice A (t :: r).length c) (.slice (some ⟨g, off, none⟩) n1 cap) f /\ Still w Wf (StkF own w0.heap.size) own own') := hid (by
     obtain ⟨own', ho'⟩ : ∃ own' : Nat -> Nat, ∀ q, own' q = if q < w10.heap.size then own q else 4 + 3 * m := ⟨_, fun _ => rfl⟩
     have hbw : Below w.heap.size w w10 := HB9.out.call HA.out
     have k1 : Kept (FB own w0.heap.size (4 + 3 * m)) w10 W1 := by
       rw [hW1]
       exact (kept_mono hk11 fun _ h => h.1).trans (kept_mono (kept_setCells w11 g2 cs _ w11 (Kept.refl _ _)) fun q e => by rw [e]; exact hF2)
     have s1 : Still w10 W1 (FB own w0.heap.size (4 + 3 * r.length)) own own' := ⟨by rw [HM.out]; exact k1, fun q hq => by rw [ho', if_pos hq]⟩
     have hl12 : Lies W1 (FB own' w0.heap.size (4 + 3 * r.length)) 28 8 (.slice (some ⟨g2, off2, none⟩) (n + 1) cap2) (t.list.length + 1) (css.flatten ++ cs) := by
       have h9 := Lies.setCells cs w11 css.flatten zeroJ.toList hl11 (by rw [hcs]; rfl)
       rw [hfl, <- hW1] at h9
       rw [HN.out, HM.out]
       refine h9.mono fun q hq => ⟨?_, ?_⟩
       · rw [ho']
         split
         · rename_i hlt
           rcases hq with hq | hq
           · exact hq.1
           · omega
         · rfl
       · rcases hq with hq | hq
         · exact hq.2
         · exact Nat.le_trans HB.out (Nat.le_trans hbw.size hq)
     have TF := T10.more s1 ((HV.out).below hbw) hl12
     rw [HM.out, <- hWf] at TF
     have hK : K2 = ⟨t.obj, t.list ++ [v], t.names⟩ :: r := by
       rw [HK2.out]
       have : isDeepK (t :: r) = false := by unfold isDeepK maxDeep; simp only [List.length_cons]; rw [decide_eq_false (by have := HM.out; omega)]
       unfold putK
       rw [this]
       rfl
     have kC : Kept (· = g) W1 Wf := by rw [hWf]; exact Kept.cell _ _ _ _
     have kAll : Kept (StkF own w0.heap.size) w Wf :=
       ((keptOf_below hbw).trans' (kept_mono k1 fun q hq => ⟨hq.2, by rw [hq.1]; omega, by rw [hq.1]; omega⟩)).trans' (kept_mono kC fun q e => by rw [e]; exact ⟨hg2.2, by rw [hg2.1]; omega, by rw [hg2.1]; omega⟩)
     refine ⟨own', ?_, ?_, ⟨kAll, fun q hq => by rw [ho', if_pos (Nat.lt_of_lt_of_le hq hbw.size)]⟩⟩
     · rw [hK, <- HN1.out, <- HM.out]
       refine TF.stk (by rw [HM.out]; exact hr64) ?_
       have e1 := HS.out.ends.below hbw
       have e2 := Lies.still (own' := own') e1 ⟨k1, fun q hq => by rw [ho', if_pos hq]⟩ (fun q hq _ => by rw [hq.1]; omega)
       have e3 := Lies.still (own' := own') e2 ⟨kC, fun _ _ => rfl⟩ (fun q hq _ => by rw [hq, ho', if_pos hgl, hg2.1]; omega)
       have e4 : ((⟨t.obj, t.list ++ [v], t.names⟩ : Fr) :: r).reverse.map endB = (t :: r).reverse.map endB := by simp [endB]
       rw [e4]
       exact e3
     · exact H0.out.above ⟨H.out.1, k, H.out.2.1, H.out.2.2⟩ (kept_mono kAll fun q hq => hq.1))
   have hcell : Hid (∀ V, V = w11 ∨ V = W1 -> V.cell? ⟨g, off + m * 9 + 6, none⟩ = some (.slice A0 n c0) /\ V.frozen? ⟨g, off + m * 9 + 6, none⟩ = false) := hid (fun V hV => by
     have a1 := T10.all.there.kept (hk11) (fun q hq hq2 => by have := hq.1.1; have := hq2.1.1; omega)
     have hlen := T10.len
     rw [HM.out] at hlen a1
     rcases hV with rfl | rfl
     · exact all_cell a1 hlen rfl
     · rw [hW1]
       exact all_cell (a1.kept (kept_setCells w11 g2 cs _ w11 (Kept.refl _ _)) (fun q hq e => by
         subst e
         have := hq.1.1
         rcases hF2 with h9 | h9
         · have := h9.1; omega
         · have := hq.2; omega)) hlen rfl)
   have hthere : Hid (∀ V, V = w11 ∨ V = w11.setCell ⟨g, off + m * 9 + 6, none⟩ (.slice (some ⟨g2, off2, none⟩) (n + 1) cap2) -> V.there g2 (off2 + n * 8) cs.toArray.size) := hid (fun V hV => by
     rw [List.size_toArray, hcs]
     rcases hV with rfl | rfl
     · exact hl11.thereAt (by omega)
     · exact (hl11.kept (Kept.cell _ _ _ _) hne).thereAt (by omega))
   have hone := hid (all_oneCell_toArray (jv_one HV.out))
   have hswap : Hid ((w11.setCell ⟨g, off + m * 9 + 6, none⟩ (.slice (some ⟨g2, off2, none⟩) (n + 1) cap2)).setCells g2 (off2 + n * 8) cs = Wf) := hid (by
     rw [hWf, hW1]
     exact setCells_apart _ _ _ (fun e => hne g2 hF2 e.symm) _ _ _)
   have HW1 := hid hW1
   have HWf := hid hWf
   clear hl11 hk11 hF2 hnc hcm hrg hfl hW1 hWf
   generalize hN1 : n + 1 = N1 at *
   clear hN1
   refine wpAny_take (i := 8) (oi := ?_) (v := ?_) ?_ (by kernel_rfl) (by kernel_rfl) (by kernel_rfl) ?_ ?_ ?_
   rotate_left 2
   · simp only [gA, gB, gC]; with_reducible rfl
   · exact fun _ _ _ h => h
   · refine Or.inl ⟨by rfl, ?_⟩; intro W; go_simp; try with_reducible rfl
   try simp only [Act.put, sA, sB, sC]
   refine wpAny_take (i := 10) (oi := ?_) (v := ?_) ?_ (by kernel_rfl) (by kernel_rfl) (by kernel_rfl) ?_ ?_ ?_
   rotate_left 2
   · simp only [gA, gB, gC]; with_reducible rfl
   · exact fun _ _ _ h => h
   · refine Or.inl ⟨by rfl, ?_⟩; intro W; go_simp; try with_reducible rfl
   try simp only [Act.put, sA, sB, sC]
   refine wpAny_take (i := 11) (oi := ?_) (v := ?_) ?_ (by kernel_rfl) (by kernel_rfl) (by kernel_rfl) ?_ ?_ ?_
   rotate_left 2
   · simp only [gA, gB, gC]; with_reducible rfl
   · exact fun _ _ _ h => h
   · refine Or.inl ⟨by rfl, ?_⟩; intro W; go_simp; try with_reducible rfl
   try simp only [Act.put, sA, sB, sC]
   have hi8 : (Tryz.prog.info? 28).map (·.size) = some cs.toArray.size := by rw [List.size_toArray, hcs]; exact infoJ
   refine wpAny_ready (rs := [9, 12]) (by kernel_rfl) (by simp) ?_
   refine AllReady.cons (o := ?o9) ?g9 (fun K1 hK1 => ?s9) (AllReady.cons (o := ?o12) ?g12 (fun K3 hK3 => ?s12) AllReady.nil)
   case g9 => simp only [gA, gB, gC]; with_reducible rfl
   case g12 => simp only [gA, gB, gC]; with_reducible rfl
   case s9 =>
     rw [if_pos (by rfl)]
     refine wp_store_mid 28 (.tmp 27) (.tmp 23) rfl g2 (off2 + n * 8) cs.toArray rfl rfl (hthere.out _ (.inl rfl)) hi8 hone.out ?_
     rw [<- HW1.out]
     refine hK1 _ _ ?_
     clear hK1 K1
     try simp only [Act.put]
     obtain ⟨q1, q2⟩ := hcell.out _ (.inr rfl)
     refine wpAny_ready (rs := [12]) (by kernel_rfl) (by simp) ?_
     refine AllReady.cons (o := ?_) ?_ (fun K1 hK1 => ?_) AllReady.nil
     rotate_left 1
     · simp only [gA, gB, gC]; with_reducible rfl
     rw [if_pos (by rfl)]
     go_simp
     refine hK1 _ _ ?_
     clear hK1 K1
     try simp only [Act.put]
     refine wpAny_done (by kernel_rfl) ?_ _
     rw [<- HWf.out]
     go_end0
     have e9 := FI.out
     rw [<- HN1.out, <- HM.out] at e9
     exact ⟨rfl, e9⟩
   case s12 =>
     obtain ⟨q1, q2⟩ := hcell.out _ (.inl rfl)
     rw [if_pos (by rfl)]
     go_simp
     refine hK3 _ _ ?_
     clear hK3 K3
     try simp only [Act.put, sA, sB, sC]
     refine wpAny_ready (rs := [9]) (by kernel_rfl) (by simp) ?_
     refine AllReady.cons (o := ?_) ?_ (fun K1 hK1 => ?_) AllReady.nil
     rotate_left 1
     · simp only [gA, gB, gC]; with_reducible rfl
     rw [if_pos (by rfl)]
     refine wp_store_mid 28 (.tmp 27) (.tmp 23) rfl g2 (off2 + n * 8) cs.toArray rfl rfl (hthere.out _ (.inr rfl)) hi8 hone.out ?_
     rw [hswap.out]
     refine hK1 _ _ ?_
     clear hK1 K1
     try simp only [Act.put]
     refine wpAny_done (by kernel_rfl) ?_ _
     go_end0
     have e9 := FI.out
     rw [<- HN1.out, <- HM.out] at e9
     exact ⟨rfl, e9⟩
def lvZ : Array Value := #[.int .i64 0, .bool false, .bool false, .string ⟨#[]⟩, .int .i64 0, .string ⟨#[]⟩, .slice none 0 0, .slice none 0 0, .map none]
theorem infoLv : (Tryz.prog.info? 120).map (fun i => (i.zero, i.size, i.bytes)) = some (some (.agg lvZ), 9, 120) := by kernel_rfl
def StkG (own : Nat -> Nat) (base p q : Nat) : Prop := q = p ∨ StkF own base q
theorem JAt.turn {w w' : World} {p : Nat} {X : Txt} {s : List UInt8} {E O E' O' : Value} {f f' : Fl} (h : JAt w p X s E O f) (hk : Kept (· = p) w w') (hr : ∀ k, Row w p 67 (rdCells X k E O f) -> Row w' p 67 (rdCells X k E' O' f')) : JAt w' p X s E' O' f' := by
 obtain ⟨hl, k, hrd, hs, hk2⟩ := h
 exact ⟨hl, k, hrd.step hk (hr k hrd.row), hs, hk2⟩
theorem JAt.row {w : World} {p : Nat} {X : Txt} {s : List UInt8} {E O : Value} {f : Fl} (h : JAt w p X s E O f) : ∃ k, Row w p 67 (rdCells X k E O f) := by
 obtain ⟨_, k, hrd, _, _⟩ := h
 exact ⟨k, hrd.row⟩
def ownNew (own : Nat -> Nat) (n i q : Nat) : Nat := if q < n then own q else i
theorem still_new {w w' : World} {own : Nat -> Nat} {i : Nat} {G : Nat -> Prop} (hk : Kept G w w') : Still w w' G own (ownNew own w.heap.size i) := ⟨hk, fun q hq => by unfold ownNew; rw [if_pos hq]⟩
theorem lies_new {w w' : World} {own : Nat -> Nat} {base i : Nat} {e : TypeId} {size n : Nat} {v : Value} {xs : List Value} (h : Lies w' (grow (FB own base i) w) e size v n xs) (hb : base <= w.heap.size) : Lies w' (FB (ownNew own w.heap.size i) base i) e size v n xs :=
 h.mono fun q hq => by
   rcases hq with hq | hq
   · refine ⟨?_, hq.2⟩
     show (if q < w.heap.size then own q else i) = i
     split
     · exact hq.1
     · rfl
   · exact ⟨if_neg (by omega), Nat.le_trans hb hq⟩
theorem still_trans {w w1 w2 : World} {G : Nat -> Prop} {own own1 own2 : Nat -> Nat} (h : Still w w1 G own own1) (k : Still w1 w2 (grow G w) own1 own2) : Still w w2 G own own2 := ⟨h.kept.trans k.kept, fun q hq => (k.own q (Nat.lt_of_lt_of_le hq h.kept.size)).trans (h.own q hq)⟩
theorem still_mono {w w1 : World} {G H : Nat -> Prop} {own own1 : Nat -> Nat} (h : Still w w1 G own own1) (hg : ∀ q, G q -> H q) : Still w w1 H own own1 := ⟨kept_mono h.kept hg, h.own⟩
theorem jenter_ok (p : Nat) (X : Txt) (s s0 : List UInt8) (E O E0 O0 : Value) (f f0 : Fl) (w0 w : World) (own : Nat -> Nat) (K : List Fr) (obj : Bool)
   (h0 : JAt w0 p X s0 E0 O0 f0) (h : JAt w p X s E O f) (hs : Stk w own w0.heap.size K E O) (hb : w0.heap.size <= w.heap.size) (hl : K.length <= 1048576) :
   Calls Tryz.prog 77 #[.pointer (some ⟨p, 0, none⟩), .int .i64 (if obj then 5 else 4), .int .u8 (if obj then 125 else 93)] w fun e w' => e = .returned (.tuple #[]) /\
     ∃ own' E' O', Stk w' own' w0.heap.size (enterK obj K) E' O' /\ JAt w' p X s E' O' (enterF (enterK obj K) f) /\ Still w w' (StkG own w0.heap.size p) own own' := by
 obtain ⟨A, c, hE, hc1, hc2⟩ := hs.ends.form
 subst hE
 obtain ⟨k, hrow⟩ := h.row
 have c2 := hrow.cell (i := 2) (v := .slice A K.length c) rfl
 have hp0 := h0.lt
 obtain ⟨eb, heb⟩ : ∃ eb : Int, eb = if obj then 125 else 93 := ⟨_, rfl⟩
 obtain ⟨kd, hkd⟩ : ∃ kd : Int, kd = if obj then 5 else 4 := ⟨_, rfl⟩
 rw [<- heb, <- hkd]
 have hb1 : Below w.heap.size w (w.alloc (.cells #[.int .u8 eb] 5)) := (Below.refl _ _).alloc (Nat.le_refl _) _
 have HB1 := hid hb1
 have HL1 := hid (hs.ends.below hb1)
 have hsrc : Hid (Source (w.alloc (.cells #[.int .u8 eb] 5)) (some ⟨w.heap.size, 0, none⟩) 1 [.int .u8 eb]) := hid (.inr ⟨_, rfl, World.news_of_block (w := w.alloc (.cells #[.int .u8 eb] 5)) (heap_alloc_new w _)⟩)
 have H := hid h
 have H0 := hid h0
 have HS := hid hs
 have HB := hid hb
 have HEB := hid heb
 have HKD := hid hkd
 have HL := hid hl
 have HROW := hid hrow
 clear hb1 h h0 hs hb heb hkd hl hrow hc1 hc2
 go_enter Tryz.func77, Tryz.ntmps77
 go_upto_region 1 with (
   at_builtin
   refine wpList_append_any ?_ (FB own w0.heap.size 1) (.tmp 10) (.tmp 12) 35 ?_ 5 1 1 (.int .u8 0) Tryz.underlying35 infoByte rfl (by decide) (.slice A K.length c) K.length (u8s (K.reverse.map endB)) ?_ HL1.out _ 1 1 [.int .u8 eb] ?_ rfl hsrc.out ?_ (by have := HL.out; omega) (by decide) ?_
   · with_reducible rfl
   · with_reducible rfl
   · rfl
   · rfl
   · intro u hu; simp at hu; subst hu; rfl
   intro v2 w2 hl2 hk2
   have hr2 : Row w2 p 67 (rdCells X k (.slice A K.length c) O f) := Row.kept (HROW.out.call HB1.out) hk2 (fun h9 => by have := h9.1.2; omega)
   have d2 := hr2.cell (i := 2) (v := .slice A K.length c) rfl
   have z2 := hr2.free 2
   obtain ⟨A2, c3, rfl, _, _⟩ := hl2.form
   have HL2 := hid hl2
   have HK2 := hid hk2
   have HR2 := hid hr2
   clear hl2 hk2 hr2)
 clear d2 z2
 obtain ⟨w3, hw3⟩ : ∃ w3, w3 = w2.setCell ⟨p, 2, none⟩ (.slice A2 (K.length + 1) c3) := ⟨_, rfl⟩
 rw [<- hw3]
 have hrow3 : Row w3 p 67 (rdCells X k (.slice A2 (K.length + 1) c3) O f) := by rw [hw3]; simpa [rdCells] using HR2.out.set_ 2 (.slice A2 (K.length + 1) c3)
 obtain ⟨own1, ho1⟩ : ∃ own1, own1 = ownNew own (w.alloc (.cells #[.int .u8 eb] 5)).heap.size 1 := ⟨_, rfl⟩
 have hkA : Kept (StkG own w0.heap.size p) w w2 := (keptOf_below HB1.out).trans' (kept_mono HK2.out fun q hq => .inr ⟨hq.1.2, by rw [hq.1.1]; omega, by rw [hq.1.1]; omega⟩)
 have hkp : Kept (· = p) w2 w3 := by rw [hw3]; exact Kept.cell _ _ _ _
 have ho1' : ∀ q, q < w.heap.size -> own1 q = own q := fun q hq => by rw [ho1]; unfold ownNew; rw [if_pos (Nat.lt_of_lt_of_le hq HB1.out.size)]
 have HS3 : Hid (Still w w3 (StkG own w0.heap.size p) own own1) := hid ⟨hkA.trans' (kept_mono hkp fun q e => .inl e), ho1'⟩
 have hE3 : Lies w3 (FB own1 w0.heap.size 1) 5 1 (.slice A2 (K.length + 1) c3) (K.length + 1) (u8s ((enterK obj K).reverse.map endB)) := by
   have h1 := lies_new HL2.out (Nat.le_trans HB.out HB1.out.size)
   rw [<- ho1] at h1
   have h2 := Lies.still (own' := own1) h1 ⟨hkp, fun _ _ => rfl⟩ (fun q e hq => by omega)
   have e1 : u8s ((enterK obj K).reverse.map endB) = u8s (K.reverse.map endB) ++ [.int .u8 eb] := by
     unfold enterK u8s
     rw [List.reverse_cons, List.map_append, List.map_append, HEB.out]
     cases obj <;> rfl
   rw [e1]
   exact h2
 have hO3 : ∃ css, Lies w3 (FB own1 w0.heap.size 2) 120 9 O (keptK K).length css.flatten /\ LvsAt w3 own1 w0.heap.size 0 (keptK K) css := by
   obtain ⟨css, h1, h2⟩ := HS.out.open_
   have sB : Still w (w.alloc (.cells #[.int .u8 eb] 5)) (fun _ => False) own own := ⟨keptOf_below HB1.out, fun _ _ => rfl⟩
   have sC : Still (w.alloc (.cells #[.int .u8 eb] 5)) w3 (fun q => FB own w0.heap.size 1 q ∨ q = p) own own1 := ⟨(kept_mono HK2.out fun q hq => .inl hq.1).trans' (kept_mono hkp fun q e => .inr e), fun q hq => by rw [ho1]; unfold ownNew; rw [if_pos hq]⟩
   refine ⟨css, (h1.still sB (fun _ h => h.elim)).still sC (fun q hq hb => ?_), LvsAt.still sC 0 _ _ (LvsAt.still sB 0 _ _ h2 fun _ h => h.elim) fun q hq hb => ?_⟩
   · rcases hq with hq | hq
     · rw [hq.1]; omega
     · omega
   · rcases hq with hq | hq
     · rw [hq.1]; omega
     · omega
 have hJ3 : JAt w3 p X s (.slice A2 (K.length + 1) c3) O f := by
   have h1 := H0.out.above H.out (w' := w2) ((keptOf_below HB1.out).trans' (kept_mono HK2.out fun q hq => hq.1.2))
   refine h1.turn hkp fun k' hr' => ?_
   rw [hw3]
   simpa [rdCells] using hr'.set_ 2 (.slice A2 (K.length + 1) c3)
 have HE3 := hid hE3
 have HO3 := hid hO3
 have HJ3 := hid hJ3
 have HSZ : Hid (w.heap.size <= w3.heap.size) := hid HS3.out.kept.size
 have HD := hid (jisDeep_ok p X k A2 (K.length + 1) c3 O f w3 (by
   obtain ⟨_, k', hr', hs', hk'⟩ := hJ3
   exact ⟨hrow3, hr'.txt⟩))
 have c4 := hrow3.cell (i := 4) (v := .bool f.deep) rfl
 have c5 := hrow3.cell (i := 3) (v := O) rfl
 have z4 := hrow3.free 4
 have HR3 := hid hrow3
 clear hw3 hrow3 ho1 hkA hkp ho1' hE3 hO3 hJ3 HL2 HK2 HR2
 by_cases hd : 64 < K.length + 1
 · rw [decide_eq_true hd] at HD
   have hF : enterF (enterK obj K) f = { f with deep := true } := if_pos (by unfold isDeepK maxDeep enterK; exact decide_eq_true hd)
   have FI : Hid (∃ own' E' O', Stk (w3.setCell ⟨p, 4, none⟩ (.bool true)) own' w0.heap.size (enterK obj K) E' O' /\ JAt (w3.setCell ⟨p, 4, none⟩ (.bool true)) p X s E' O' (enterF (enterK obj K) f) /\ Still w (w3.setCell ⟨p, 4, none⟩ (.bool true)) (StkG own w0.heap.size p) own own') := hid (by
     have s4 : Still w3 (w3.setCell ⟨p, 4, none⟩ (.bool true)) (· = p) own1 own1 := ⟨Kept.cell _ _ _ _, fun _ _ => rfl⟩
     refine ⟨own1, _, O, ⟨HE3.out.still s4 (fun q e hq => by omega), ?_⟩, ?_, still_trans HS3.out (still_mono s4 fun q e => .inl (.inl e))⟩
     · obtain ⟨css, h1, h2⟩ := HO3.out
       have hkk : keptK (enterK obj K) = keptK K := keptK_deep (by omega)
       rw [hkk]
       exact ⟨css, h1.still s4 (fun q e hq => by omega), LvsAt.still s4 0 _ _ h2 fun q e hq => by omega⟩
     · rw [hF]
       exact HJ3.out.turn (Kept.cell _ _ _ _) fun k' hr' => by simpa [rdCells] using hr'.set_ 4 (.bool true))
   clear hd hF
   go_wp2_with fail
   refine HD.out.mono ?_
   rintro e w4 ⟨rfl, rfl⟩
   go_wp2_with fail
   refine bodyPost_ret (results_none rfl _ _ _) rfl ?_
   exact ⟨rfl, FI.out⟩
 · rw [decide_eq_false hd] at HD
   have hF : enterF (enterK obj K) f = f := if_neg (by unfold isDeepK maxDeep enterK; rw [Bool.not_eq_true]; exact decide_eq_false hd)
   have hk1 : keptK K = K.reverse := keptK_all (by omega)
   have hk2 : keptK (enterK obj K) = K.reverse ++ [⟨obj, [], []⟩] := keptK_cons (by omega)
   obtain ⟨css, hO1, hO2⟩ := HO3.out
   rw [hk1, List.length_reverse] at hO1
   rw [hk1] at hO2
   have hb5 : Below w3.heap.size w3 (w3.alloc (.cells #[.int .i64 kd, .bool false, .bool false, .string ⟨#[]⟩, .int .i64 0, .string ⟨#[]⟩, .slice none 0 0, .slice none 0 0, .map none] 120)) := (Below.refl _ _).alloc (Nat.le_refl _) _
   have HB5 := hid hb5
   have HO5 := hid (hO1.below hb5)
   have hsr5 : Hid (Source (w3.alloc (.cells #[.int .i64 kd, .bool false, .bool false, .string ⟨#[]⟩, .int .i64 0, .string ⟨#[]⟩, .slice none 0 0, .slice none 0 0, .map none] 120)) (some ⟨w3.heap.size, 0, none⟩) 1 [.int .i64 kd, .bool false, .bool false, .string ⟨#[]⟩, .int .i64 0, .string ⟨#[]⟩, .slice none 0 0, .slice none 0 0, .map none]) := hid (.inr ⟨_, rfl, World.news_of_block (heap_alloc_new w3 _)⟩)
   obtain ⟨AO, cO, hvO, _, _⟩ := hO1.form
   subst hvO
   have HLV := hid hO2
   have HF := hid hF
   have HKK := hid hk2
   have hm : K.length <= 63 := by omega
   clear hd hF hk1 hk2 hO1 hO2 hb5 HO3
   go_wp2_with fail
   refine HD.out.mono ?_
   rintro e w4 ⟨rfl, rfl⟩
   go_upto_region 4 with (
     at_builtin
     refine wpList_append_any ?_ (FB own1 w0.heap.size 2) (.tmp 25) (.tmp 29) 65 ?_ 120 9 120 (.agg lvZ) Tryz.underlying65 infoLv rfl (by decide) (.slice AO K.length cO) K.length css.flatten ?_ HO5.out _ 1 1 [.int .i64 kd, .bool false, .bool false, .string ⟨#[]⟩, .int .i64 0, .string ⟨#[]⟩, .slice none 0 0, .slice none 0 0, .map none] ?_ rfl hsr5.out ?_ (by omega) (by decide) ?_
     · with_reducible rfl
     · with_reducible rfl
     · rfl
     · rfl
     · intro u hu; simp at hu; rcases hu with rfl | rfl | rfl | rfl | rfl | rfl | rfl | rfl | rfl <;> rfl
     intro v6 w6 hl6 hk6
     have hr6 : Row w6 p 67 (rdCells X k (.slice A2 (K.length + 1) c3) (.slice AO K.length cO) f) := Row.kept (HR3.out.call HB5.out) hk6 (fun h9 => by have := h9.1.2; omega)
     have d3 := hr6.cell (i := 3) (v := .slice AO K.length cO) rfl
     have z3 := hr6.free 3
     obtain ⟨A6, c6, rfl, _, _⟩ := hl6.form
     have HL6 := hid hl6
     have HK6 := hid hk6
     clear hl6 hk6 hr6)
   go_end0
   obtain ⟨w5, hw5⟩ : ∃ w5, w5 = w3.alloc (.cells #[.int .i64 kd, .bool false, .bool false, .string ⟨#[]⟩, .int .i64 0, .string ⟨#[]⟩, .slice none 0 0, .slice none 0 0, .map none] 120) := ⟨_, rfl⟩
   rw [<- hw5] at HB5 HK6 HL6
   obtain ⟨w7, hw7⟩ : ∃ w7, w7 = w6.setCell ⟨p, 3, none⟩ (.slice A6 (K.length + 1) c6) := ⟨_, rfl⟩
   rw [<- hw7]
   obtain ⟨own2, ho2⟩ : ∃ own2, own2 = ownNew own1 w5.heap.size 2 := ⟨_, rfl⟩
   have hkp : Kept (· = p) w6 w7 := by rw [hw7]; exact Kept.cell _ _ _ _
   have sB : Still w3 w5 (fun _ => False) own1 own1 := ⟨keptOf_below HB5.out, fun _ _ => rfl⟩
   have sC : Still w5 w7 (fun q => FB own1 w0.heap.size 2 q ∨ q = p) own1 own2 := ⟨(kept_mono HK6.out fun q hq => .inl hq.1).trans' (kept_mono hkp fun q e => .inr e), fun q hq => by rw [ho2]; unfold ownNew; rw [if_pos hq]⟩
   have hd2 : ∀ i, i ≠ 2 -> ∀ q, (FB own1 w0.heap.size 2 q ∨ q = p) -> w0.heap.size <= q -> own1 q ≠ i := fun i hi q hq hb e => by
     rcases hq with hq | hq
     · exact hi (e.symm.trans hq.1)
     · omega
   have hs5 := HSZ.out
   have hbs := HB.out
   refine ⟨rfl, own2, .slice A2 (K.length + 1) c3, .slice A6 (K.length + 1) c6, ⟨(HE3.out.still sB (fun _ h => h.elim)).still sC (hd2 1 (by omega)), ?_⟩, ?_, ?_⟩
   · rw [HKK.out, List.length_append, List.length_reverse, List.length_singleton]
     refine ⟨css ++ [lvC obj (.slice none 0 0) (.slice none 0 0) (.map none)], ?_, ?_⟩
     · have h1 := lies_new HL6.out (by have := HB5.out.size; omega)
       rw [<- ho2] at h1
       have h2 := Lies.still (own' := own2) h1 ⟨hkp, fun _ _ => rfl⟩ (fun q e hq => by omega)
       have e1 : (css ++ [lvC obj (.slice none 0 0) (.slice none 0 0) (.map none)]).flatten = css.flatten ++ [.int .i64 kd, .bool false, .bool false, .string ⟨#[]⟩, .int .i64 0, .string ⟨#[]⟩, .slice none 0 0, .slice none 0 0, .map none] := by
         rw [HKD.out]; simp [lvC]
       rw [e1]
       exact h2
     · refine LvsAt.snoc 0 _ css (LvsAt.still sC 0 _ _ (LvsAt.still sB 0 _ _ HLV.out fun _ h => h.elim) fun q hq hb => ?_) ⟨_, _, _, [], rfl, trivial, Lies.empty _ _ _ _ _, Lies.empty _ _ _ _ _, .inl ⟨rfl, rfl⟩⟩
       rcases hq with hq | hq
       · rw [hq.1]; omega
       · omega
   · rw [HF.out]
     have h1 := H0.out.above HJ3.out (w' := w6) ((keptOf_below HB5.out).trans' (kept_mono HK6.out fun q hq => hq.1.2))
     refine h1.turn hkp fun k' hr' => ?_
     rw [hw7]
     simpa [rdCells] using hr'.set_ 3 (.slice A6 (K.length + 1) c6)
   · refine still_trans HS3.out (still_trans (still_mono sB fun _ h => h.elim) (still_mono sC fun q hq => .inl ?_))
     rcases hq with hq | hq
     · by_cases hlt : q < w.heap.size
       · have h9 := HS3.out.own q hlt
         have h8 := hq.1
         exact .inl (.inr ⟨hq.2, by omega, by omega⟩)
       · exact .inr (by omega)
     · exact .inl (.inl hq)
end Go.Proofs.YtmhbkjjkalnggaaGreatDoor
