import Derived.Test.YtmhbkjjkalnggaaGreatDoorPt31
namespace Go.Proofs.YtmhbkjjkalnggaaGreatDoor
open Go.RowKit
set_option maxRecDepth 1000000
set_option maxHeartbeats 8000000
section
open Go
variable {P : Program} {md : Region.Mode} {ops : Array Oper} {Q : Exit -> Act -> World -> Prop} {S : World -> Prop} {z : Nat}
theorem wpTill_two {i j : Nat} {o o' : Oper} {fuel : Nat} {listed : Array Bool} {a : Act} {w : World} (hr : Region.ready md ops listed = [i, j]) (ho : ops[i]? = some o) (ho' : ops[j]? = some o') (hg : o.guard = none) (hg' : o'.guard = none)
   (h : ∀ K : Act -> World -> Prop, (∀ a' w', ((listed.setIfInBounds i true).getD z true = false -> S w') -> wpTill P md ops Q z S fuel (listed.setIfInBounds i true) a' w' -> K a' w') -> Oper.wp P o a w K Q)
   (h' : ∀ K : Act -> World -> Prop, (∀ a' w', ((listed.setIfInBounds j true).getD z true = false -> S w') -> wpTill P md ops Q z S fuel (listed.setIfInBounds j true) a' w' -> K a' w') -> Oper.wp P o' a w K Q) : wpTill P md ops Q z S (fuel + 1) listed a w :=
 ⟨fun h0 => (by rw [hr] at h0; cases h0), fun q hq => by
   rw [hr] at hq
   have hq2 : q = i ∨ q = j := by simpa using hq
   rcases hq2 with rfl | rfl
   · refine wpOp_step ho fun K hK => ?_
     rw [if_pos (by simp [Region.wanted, hg])]
     exact h K fun a' w' h1 h2 => hK a' w' ⟨h1, h2⟩
   · refine wpOp_step ho' fun K hK => ?_
     rw [if_pos (by simp [Region.wanted, hg'])]
     exact h' K fun a' w' h1 h2 => hK a' w' ⟨h1, h2⟩⟩
end
theorem Lies.only {W : World} {F : Nat -> Prop} {e : TypeId} {size g off c n : Nat} {xs : List Value} (h : Lies W F e size (.slice (some ⟨g, off, none⟩) n c) n xs) (_hn : 0 < n) : Lies W (· = g) e size (.slice (some ⟨g, off, none⟩) n c) n xs := by
 refine ⟨h.1, h.2.imp (fun ⟨A, e1, e2⟩ => by omega) ?_⟩
 rintro ⟨g', off', cap, cur, hv, hF, h3⟩
 injection hv with e1 _ e3
 injection e1 with e1
 injection e1 with e1 e2
 subst e1 e2 e3
 exact ⟨g, off, c, cur, rfl, rfl, h3⟩
theorem Lies.lay {F : Nat -> Prop} {e : TypeId} {size g off cap n : Nat} : ∀ (vs : List Value) (W : World) (xs : List Value) (j : Nat), Lies W F e size (.slice (some ⟨g, off, none⟩) n cap) n xs -> j + vs.length <= n * size ->
   Lies (W.setCells g (off + j) vs) F e size (.slice (some ⟨g, off, none⟩) n cap) n (xs.take j ++ vs ++ xs.drop (j + vs.length))
 | [], W, xs, j, h, _ => by
   rw [World.setCells]
   simpa using h
 | v :: vs, W, xs, j, h, hl => by
   simp only [List.length_cons] at hl
   have hlen := h.1
   have h1 := h.set (j := j) (by omega) v
   have h2 := Lies.lay vs _ (xs.set j v) (j + 1) h1 (by omega)
   rw [World.setCells]
   have e1 : (xs.set j v).take (j + 1) = xs.take j ++ [v] := by
     rw [List.take_add_one, List.take_set_of_le (Nat.le_refl _), List.getElem?_set_self (by omega)]
     rfl
   have e2 : (xs.set j v).drop (j + 1 + vs.length) = xs.drop (j + 1 + vs.length) := List.drop_set_of_lt (by omega)
   rw [e1, e2] at h2
   have e3 : j + (v :: vs).length = j + 1 + vs.length := by simp only [List.length_cons]; omega
   rw [e3]
   simpa [Nat.add_assoc] using h2
structure Two (W : World) (nb no cn lb lo cl : Nat) (x y : ByteArray) (c0 c1 : List Value) : Prop where
 ne : nb ≠ lb
 names : Lies W (· = nb) 9 1 (.slice (some ⟨nb, no, none⟩) 2 cn) 2 [.string x, .string y]
 list : Lies W (· = lb) 28 8 (.slice (some ⟨lb, lo, none⟩) 2 cl) 2 (c0 ++ c1)
 s0 : c0.length = 8
 s1 : c1.length = 8
section
variable {W W' : World} {nb no cn lb lo cl : Nat} {x y : ByteArray} {c0 c1 : List Value}
theorem Two.below (h : Two W nb no cn lb lo cl x y c0 c1) (hb : Below W.heap.size W W') : Two W' nb no cn lb lo cl x y c0 c1 := ⟨h.ne, h.names.below hb, h.list.below hb, h.s0, h.s1⟩
theorem Two.nlt (h : Two W nb no cn lb lo cl x y c0 c1) : nb < W.heap.size := h.names.spare ⟨no, 2, cn, rfl, by obtain ⟨_, _, e, h1, _⟩ := h.names.form; injection e with _ _ e; omega⟩
theorem Two.llt (h : Two W nb no cn lb lo cl x y c0 c1) : lb < W.heap.size := h.list.spare ⟨lo, 2, cl, rfl, by obtain ⟨_, _, e, h1, _⟩ := h.list.form; injection e with _ _ e; omega⟩
theorem Two.cells (h : Two W nb no cn lb lo cl x y c0 c1) : W.cell? ⟨nb, no, none⟩ = some (.string x) /\ W.cell? ⟨nb, no + 1, none⟩ = some (.string y) /\ W.frozen? ⟨nb, no, none⟩ = false /\ W.frozen? ⟨nb, no + 1, none⟩ = false := by
 obtain ⟨g, off, cap, e, _, _, _, _, hr⟩ := h.names.cells (by decide)
 injection e with e _ _
 injection e with e
 injection e with e1 e2
 subst e1 e2
 exact ⟨hr 0 _ rfl, hr 1 _ rfl, ((h.names.thereAt (j := 0) (m := 2) (by decide)) 0 (by decide)).2, ((h.names.thereAt (j := 0) (m := 2) (by decide)) 1 (by decide)).2⟩
theorem Two.ranges (h : Two W nb no cn lb lo cl x y c0 c1) : W.rangeAt lb lo c0 /\ W.rangeAt lb (lo + 8) c1 /\ W.there lb lo 8 /\ W.there lb (lo + 8) 8 := by
 obtain ⟨g, off, cap, e, _, _, _, _, hr⟩ := h.list.cells (by decide)
 injection e with e _ _
 injection e with e
 injection e with e1 e2
 subst e1 e2
 refine ⟨fun j v hv => hr j v ?_, fun j v hv => ?_, h.list.thereAt (j := 0) (m := 8) (by decide), h.list.thereAt (j := 8) (m := 8) (by decide)⟩
 · rw [List.getElem?_append_left (List.getElem?_eq_some_iff.1 hv).1]; exact hv
 · have := hr (8 + j) v (by rw [List.getElem?_append_right (by rw [h.s0]; omega), h.s0, Nat.add_sub_cancel_left]; exact hv)
   rwa [<- Nat.add_assoc] at this
theorem Two.swapNames (h : Two W nb no cn lb lo cl x y c0 c1) : Two (((W.setCell ⟨nb, no + 1, none⟩ (.string x)).setCell ⟨nb, no, none⟩ (.string y)).drew) nb no cn lb lo cl y x c0 c1 := by
 have a1 := (h.names.set (j := 1) (by decide) (.string x)).set (j := 0) (by decide) (.string y)
 have k1 : Kept (· = nb) W ((W.setCell ⟨nb, no + 1, none⟩ (.string x)).setCell ⟨nb, no, none⟩ (.string y)) := ((Kept.refl (· = nb) W).setCell (grow.old rfl) _).setCell (grow.old rfl) _
 exact ⟨h.ne, a1.below (Below.refl _ _).drew, (h.list.kept k1 (fun q e1 e2 => h.ne (e2.symm.trans e1))).below (Below.refl _ _).drew, h.s0, h.s1⟩
theorem Two.swapList (h : Two W nb no cn lb lo cl x y c0 c1) : Two ((W.setCells lb (lo + 8) c0).setCells lb lo c1) nb no cn lb lo cl x y c1 c0 := by
 have a1 := Lies.lay c0 W (c0 ++ c1) 8 h.list (by rw [h.s0]; decide)
 have e1 : (c0 ++ c1).take 8 ++ c0 ++ (c0 ++ c1).drop (8 + c0.length) = c0 ++ c0 := by
   rw [List.take_append_of_le_length (by rw [h.s0]; decide), List.take_of_length_le (by rw [h.s0]; decide), List.drop_of_length_le (by rw [List.length_append, h.s0, h.s1]; decide), List.append_nil]
 rw [e1] at a1
 have a2 := Lies.lay c1 _ (c0 ++ c0) 0 a1 (by rw [h.s1]; decide)
 have e2 : (c0 ++ c0).take 0 ++ c1 ++ (c0 ++ c0).drop (0 + c1.length) = c1 ++ c0 := by
   rw [List.take_zero, List.nil_append, Nat.zero_add, List.drop_append_of_le_length (by rw [h.s0, h.s1]; decide), List.drop_of_length_le (by rw [h.s0, h.s1]; decide), List.nil_append]
 rw [e2, Nat.add_zero] at a2
 have k1 : Kept (· = lb) W ((W.setCells lb (lo + 8) c0).setCells lb lo c1) := (kept_setCells _ _ _ _ _ (Kept.refl _ _)).trans' (kept_setCells _ _ _ _ _ (Kept.refl _ _))
 exact ⟨h.ne, h.names.kept k1 (fun q e1 e2 => h.ne (e1.symm.trans e2)), a2, h.s1, h.s0⟩
end
def twoV (nb no cn lb lo cl : Nat) : Value := .agg #[.slice (some ⟨nb, no, none⟩) 2 cn, .slice (some ⟨lb, lo, none⟩) 2 cl]
theorem two_len (nb no cn lb lo cl : Nat) (W : World) :
   Calls Tryz.prog 215 #[twoV nb no cn lb lo cl] W fun e w' => e = .returned (.int .i64 2) /\ Below W.heap.size W w' := by
 unfold twoV
 go_enter Tryz.func215, Tryz.ntmps215
 go_wp2
 go_ret
 exact ⟨rfl, (Below.refl _ _).alloc (Nat.le_refl _) _⟩
theorem two_less (nb no cn lb lo cl : Nat) (c0 c1 : List Value) (W : World) (h : Two W nb no cn lb lo cl ⟨#[98]⟩ ⟨#[97]⟩ c0 c1) :
   Calls Tryz.prog 216 #[twoV nb no cn lb lo cl, .int .i64 1, .int .i64 0] W fun e w' => e = .returned (.bool true) /\ Below W.heap.size W w' := by
 unfold twoV
 obtain ⟨W1, hW1⟩ : ∃ W1, W1 = W.alloc (.cells #[.slice (some ⟨nb, no, none⟩) 2 cn, .slice (some ⟨lb, lo, none⟩) 2 cl] 86) := ⟨_, rfl⟩
 have b1 : Below W.heap.size W W1 := by rw [hW1]; exact (Below.refl _ _).alloc (Nat.le_refl _) _
 have r1 : Row W1 W.heap.size 86 #[.slice (some ⟨nb, no, none⟩) 2 cn, .slice (some ⟨lb, lo, none⟩) 2 cl] := by rw [hW1]; exact Row.new _ _ _
 have x0 := r1.cell (i := 0) rfl
 obtain ⟨y0, y1, _, _⟩ := (h.below b1).cells
 have HB := hid b1
 clear h b1 r1
 go_enter Tryz.func216, Tryz.ntmps216
 go_upto_region 1 with fail
 rw [<- hW1]
 clear hW1
 go_quiet (fail)
 go_wp2
 go_ret
 exact ⟨rfl, below_drewN HB.out _⟩
theorem two_swap (nb no cn lb lo cl : Nat) (c0 c1 : Array Value) (W : World) (h : Two W nb no cn lb lo cl ⟨#[98]⟩ ⟨#[97]⟩ c0.toList c1.toList) (ho0 : c0.all (·.oneCell') = true) (ho1 : c1.all (·.oneCell') = true) :
   Calls Tryz.prog 217 #[twoV nb no cn lb lo cl, .int .i64 1, .int .i64 0] W fun e w' => e = .returned (.tuple #[]) /\ Two w' nb no cn lb lo cl ⟨#[97]⟩ ⟨#[98]⟩ c1.toList c0.toList /\ Kept (fun q => q = nb ∨ q = lb) W w' := by
 unfold twoV
 obtain ⟨W1, hW1⟩ : ∃ W1, W1 = W.alloc (.cells #[.slice (some ⟨nb, no, none⟩) 2 cn, .slice (some ⟨lb, lo, none⟩) 2 cl] 86) := ⟨_, rfl⟩
 have b1 : Below W.heap.size W W1 := by rw [hW1]; exact (Below.refl _ _).alloc (Nat.le_refl _) _
 have r1 : Row W1 W.heap.size 86 #[.slice (some ⟨nb, no, none⟩) 2 cn, .slice (some ⟨lb, lo, none⟩) 2 cl] := by rw [hW1]; exact Row.new _ _ _
 have x0 : W1.cell? ⟨W.heap.size, 0, none⟩ = some (.slice (some ⟨nb, no, none⟩) 2 cn) := r1.cell (i := 0) rfl
 have h1 := h.below b1
 obtain ⟨y0, y1, f0, f1⟩ := h1.cells
 have H1 := hid h1
 have R1 := hid r1
 have e9 : nb ≠ W.heap.size := by have := h.nlt; omega
 have e8 := hid (show lb ≠ W.heap.size by have := h.llt; omega)
 have HK1 : Hid (Kept (fun q => q = nb ∨ q = lb) W W1) := hid (kept_mono (F := fun _ => False) (keptOf_below b1) fun _ e => e.elim)
 clear h b1 r1 h1
 go_enter Tryz.func217, Tryz.ntmps217
 go_upto_region 1 with fail
 rw [<- hW1]
 clear hW1
 go_region
 have h2 := H1.out.swapNames
 obtain ⟨W2, hW2⟩ : ∃ W2, W2 = ((W1.setCell ⟨nb, no + 1, none⟩ (.string ⟨#[98]⟩)).setCell ⟨nb, no, none⟩ (.string ⟨#[97]⟩)).drew := ⟨_, rfl⟩
 rw [<- hW2] at h2 ⊢
 have k2 : Kept (· = nb) W1 W2 := by rw [hW2]; exact (((Kept.refl (· = nb) W1).setCell (grow.old rfl) _).setCell (grow.old rfl) _).drew
 have r2 : Row W2 W.heap.size 86 #[.slice (some ⟨nb, no, none⟩) 2 cn, .slice (some ⟨lb, lo, none⟩) 2 cl] := R1.out.kept k2 (fun e => e9 e.symm)
 have HK2 : Hid (Kept (fun q => q = nb ∨ q = lb) W W2) := hid (HK1.out.trans' (kept_mono k2 fun q e => .inl e))
 have H2 : Hid (Two W2.drew nb no cn lb lo cl ⟨#[97]⟩ ⟨#[98]⟩ c0.toList c1.toList) := hid (h2.below (Below.refl _ _).drew)
 have hS : Row W2.drew W.heap.size 86 #[.slice (some ⟨nb, no, none⟩) 2 cn, .slice (some ⟨lb, lo, none⟩) 2 cl] := r2.call (Below.refl _ _).drew
 have HS := hid hS
 have s0 : c0.size = 8 := by have := H2.out.s0; rwa [Array.length_toList] at this
 have s1 : c1.size = 8 := by have := H2.out.s1; rwa [Array.length_toList] at this
 have HI0 : Hid ((Tryz.prog.info? 28).map (·.size) = some c0.size) := hid (by rw [s0]; exact infoJ)
 have HI1 : Hid ((Tryz.prog.info? 28).map (·.size) = some c1.size) := hid (by rw [s1]; exact infoJ)
 have HO0 := hid ho0
 have HO1 := hid ho1
 have HS0 := hid s0
 have HS1 := hid s1
 clear y0 y1 f0 f1 x0 hW2 k2 r2 h2 HK1 R1 H1 e9 s0 s1 ho0 ho1
 go_upto_region 2 with fail
 refine wp_region_till 19 (fun W' => Row W' W.heap.size 86 #[.slice (some ⟨nb, no, none⟩) 2 cn, .slice (some ⟨lb, lo, none⟩) 2 cl]) (by kernel_rfl) ?_
 refine wpTill_z 0 ?_
 try simp only [Act.put, sA, sB, sC]
 refine wpTill_y 1 ?_ ?_ ?_
 rotate_left
 · intro W hSw; have q := hSw.cell (i := 1) rfl; go_simp; try with_reducible rfl
 try simp only [Act.put, sA, sB, sC]
 refine wpTill_z 2 ?_
 try simp only [Act.put, sA, sB, sC]
 refine wpTill_z 3 ?_
 try simp only [Act.put, sA, sB, sC]
 refine wpTill_y 4 ?_ ?_ ?_
 rotate_left
 · intro W hSw; have q := hSw.cell (i := 1) rfl; go_simp; try with_reducible rfl
 try simp only [Act.put, sA, sB, sC]
 refine wpTill_z 5 ?_
 try simp only [Act.put, sA, sB, sC]
 refine wpTill_z 6 ?_
 try simp only [Act.put, sA, sB, sC]
 refine wpTill_y 7 ?_ ?_ ?_
 rotate_left
 · intro W hSw; have q := hSw.cell (i := 1) rfl; go_simp; try with_reducible rfl
 try simp only [Act.put, sA, sB, sC]
 refine wpTill_z 8 ?_
 try simp only [Act.put, sA, sB, sC]
 refine wpTill_z 9 ?_
 try simp only [Act.put, sA, sB, sC]
 refine wpTill_z 11 ?_
 try simp only [Act.put, sA, sB, sC]
 refine wpTill_y 12 ?_ ?_ ?_
 rotate_left
 · intro W hSw; have q := hSw.cell (i := 1) rfl; go_simp; try with_reducible rfl
 try simp only [Act.put, sA, sB, sC]
 refine wpTill_z 13 ?_
 try simp only [Act.put, sA, sB, sC]
 refine wpTill_z 14 ?_
 try simp only [Act.put, sA, sB, sC]
 refine wpTill_two (i := 10) (j := 15) (o := ?o10) (o' := ?o15) (by kernel_rfl) ?g10 ?g15 ?p10 ?p15 ?q10 ?q15
 case g10 => simp only [gA, gB, gC]; with_reducible rfl
 case g15 => simp only [gA, gB, gC]; with_reducible rfl
 case p10 => rfl
 case p15 => rfl
 case q10 =>
   intro K1 hK1
   replace hK1 := hid hK1
   refine wp_load_mid 28 (.tmp 33) rfl lb lo ?_ c0.toList _ H2.out.ranges.1 Tryz.underlying28 rfl (by rw [Array.length_toList]; exact HI0.out) ?_
   · kernel_rfl
   refine hK1.out _ _ (fun _ => hS) ?_
   clear hK1 K1
   try simp only [Act.put, sA, sB, sC]
   refine wpTill_o 15 ?_
   intro K1 hK1
   refine wp_load_mid 28 (.tmp 38) rfl lb (lo + 8) ?_ c1.toList _ H2.out.ranges.2.1 Tryz.underlying28 rfl (by rw [Array.length_toList]; exact HI1.out) ?_
   · kernel_rfl
   refine hK1.out _ _ (fun _ => hS) ?_
   clear hK1 K1
   try simp only [Act.put, sA, sB, sC]
   refine wpTill_o 16 ?_
   intro K1 hK1
   go_simp
   refine hK1.out _ _ (fun _ => hS) ?_
   clear hK1 K1
   try simp only [Act.put, sA, sB, sC]
   refine wpTill_o 17 ?_
   intro K1 hK1
   refine wp_store_mid 28 (.tmp 40) (.tmp 34) rfl lb (lo + 8) c0 ?_ ?_ (by rw [HS0.out]; exact H2.out.ranges.2.2.2) HI0.out HO0.out ?_
   · kernel_rfl
   · kernel_rfl
   have hS2 := HS.out.kept (kept_setCells W2.drew lb c0.toList (lo + 8) W2.drew (Kept.refl _ _)) (fun e => e8.out e.symm)
   refine hK1.out _ _ (fun _ => hS2) ?_
   clear hK1 K1
   try simp only [Act.put]
   refine wpTill_o 18 ?_
   intro K1 hK1
   go_simp
   refine hK1.out _ _ (fun _ => hS2) ?_
   clear hK1 K1
   try simp only [Act.put, sA, sB, sC]
   refine wpTill_o 19 ?_
   intro K1 hK1
   refine wp_store_mid 28 (.tmp 41) (.tmp 39) rfl lb lo c1 ?_ ?_ ?_ HI1.out HO1.out ?_
   · kernel_rfl
   · kernel_rfl
   · have a1 := Lies.lay c0.toList W2.drew (c0.toList ++ c1.toList) 8 H2.out.list (by rw [Array.length_toList, HS0.out]; decide)
     have a2 := a1.thereAt (j := 0) (m := 8) (by decide)
     rw [HS1.out]
     simpa using a2
   refine hK1.out _ _ (fun h => by cases h) ?_
   clear hK1 K1
   try simp only [Act.put]
   refine wpTill_past _ _ _ _ (by kernel_rfl) ?_
   refine wpAny_done (by kernel_rfl) ?_ _
   go_end0
   exact ⟨rfl, H2.out.swapList, (HK2.out.drew.trans' (kept_mono (kept_setCells W2.drew lb c0.toList (lo + 8) W2.drew (Kept.refl _ _)) fun q e => .inr e)).trans' (kept_mono (kept_setCells _ lb c1.toList lo _ (Kept.refl _ _)) fun q e => .inr e)⟩
 case q15 =>
   intro K1 hK1
   replace hK1 := hid hK1
   refine wp_load_mid 28 (.tmp 38) rfl lb (lo + 8) ?_ c1.toList _ H2.out.ranges.2.1 Tryz.underlying28 rfl (by rw [Array.length_toList]; exact HI1.out) ?_
   · kernel_rfl
   refine hK1.out _ _ (fun _ => hS) ?_
   clear hK1 K1
   try simp only [Act.put, sA, sB, sC]
   refine wpTill_o 10 ?_
   intro K1 hK1
   refine wp_load_mid 28 (.tmp 33) rfl lb lo ?_ c0.toList _ H2.out.ranges.1 Tryz.underlying28 rfl (by rw [Array.length_toList]; exact HI0.out) ?_
   · kernel_rfl
   refine hK1.out _ _ (fun _ => hS) ?_
   clear hK1 K1
   try simp only [Act.put, sA, sB, sC]
   refine wpTill_o 16 ?_
   intro K1 hK1
   go_simp
   refine hK1.out _ _ (fun _ => hS) ?_
   clear hK1 K1
   try simp only [Act.put, sA, sB, sC]
   refine wpTill_o 17 ?_
   intro K1 hK1
   refine wp_store_mid 28 (.tmp 40) (.tmp 34) rfl lb (lo + 8) c0 ?_ ?_ (by rw [HS0.out]; exact H2.out.ranges.2.2.2) HI0.out HO0.out ?_
   · kernel_rfl
   · kernel_rfl
   have hS2 := HS.out.kept (kept_setCells W2.drew lb c0.toList (lo + 8) W2.drew (Kept.refl _ _)) (fun e => e8.out e.symm)
   refine hK1.out _ _ (fun _ => hS2) ?_
   clear hK1 K1
   try simp only [Act.put]
   refine wpTill_o 18 ?_
   intro K1 hK1
   go_simp
   refine hK1.out _ _ (fun _ => hS2) ?_
   clear hK1 K1
   try simp only [Act.put, sA, sB, sC]
   refine wpTill_o 19 ?_
   intro K1 hK1
   refine wp_store_mid 28 (.tmp 41) (.tmp 39) rfl lb lo c1 ?_ ?_ ?_ HI1.out HO1.out ?_
   · kernel_rfl
   · kernel_rfl
   · have a1 := Lies.lay c0.toList W2.drew (c0.toList ++ c1.toList) 8 H2.out.list (by rw [Array.length_toList, HS0.out]; decide)
     have a2 := a1.thereAt (j := 0) (m := 8) (by decide)
     rw [HS1.out]
     simpa using a2
   refine hK1.out _ _ (fun h => by cases h) ?_
   clear hK1 K1
   try simp only [Act.put]
   refine wpTill_past _ _ _ _ (by kernel_rfl) ?_
   refine wpAny_done (by kernel_rfl) ?_ _
   go_end0
   exact ⟨rfl, H2.out.swapList, (HK2.out.drew.trans' (kept_mono (kept_setCells W2.drew lb c0.toList (lo + 8) W2.drew (Kept.refl _ _)) fun q e => .inr e)).trans' (kept_mono (kept_setCells _ lb c1.toList lo _ (Kept.refl _ _)) fun q e => .inr e)⟩
end Go.Proofs.YtmhbkjjkalnggaaGreatDoor
