import Derived.Test.YtmhbkjjkalnggaaGreatDoorPt38
import Derived.Test.YtmhbkjjkalnggaaGreatDoorPt40
set_option maxRecDepth 1000000
set_option maxHeartbeats 8000000
namespace Go.Proofs.YtmhbkjjkalnggaaGreatDoor
open Go.RowKit
end Go.Proofs.YtmhbkjjkalnggaaGreatDoor
namespace Go.Proofs.YtmhbkjjkalnggaaGreatDoor
open Go.Lib
end Go.Proofs.YtmhbkjjkalnggaaGreatDoor
namespace Go.Proofs.YtmhbkjjkalnggaaGreatDoor
open Go.RowKit
theorem zB_iff {b : Bool} {d : Dec} {t : List UInt8} {n m : Nat} : zB b d t n m = true ↔ b = false /\ d = Dec.zero /\ t = [] /\ n = 0 /\ m = 0 := by
 obtain ⟨dn, dl, dx⟩ := d
 unfold zB Dec.zero
 simp only [Bool.and_eq_true, Bool.not_eq_true', decide_eq_true_eq, List.isEmpty_iff, Dec.mk.injEq]
 constructor
 · rintro ⟨⟨⟨⟨h1, ⟨h2, h3⟩, h4⟩, h5⟩, h6⟩, h7⟩; exact ⟨h1, ⟨h2, h3, h4⟩, h5, h6, h7⟩
 · rintro ⟨h1, ⟨h2, h3, h4⟩, h5, h6, h7⟩; exact ⟨⟨⟨⟨h1, ⟨h2, h3⟩, h4⟩, h5⟩, h6⟩, h7⟩
theorem foldl_addS_le : ∀ (ns S : List (List UInt8)), (ns.foldl addS S).length <= S.length + ns.length
 | [], S => by simp
 | l :: ns, S => by
   rw [List.foldl_cons]
   have := foldl_addS_le ns (addS S l)
   have h2 : (addS S l).length <= S.length + 1 := by unfold addS; split <;> simp
   simp only [List.length_cons]
   omega
theorem foldl_addS_nodup : ∀ (ns S : List (List UInt8)), (ns.foldl addS S).length = S.length + ns.length -> ns.Nodup /\ ∀ x ∈ ns, x ∉ S
 | [], S, _ => ⟨List.nodup_nil, fun x hx => by cases hx⟩
 | l :: ns, S, h => by
   rw [List.foldl_cons] at h
   have h1 := foldl_addS_le ns (addS S l)
   have hn : l ∉ S := fun hm => by
     have e : addS S l = S := by unfold addS; rw [if_pos (List.contains_iff_mem.2 hm)]
     rw [e] at h h1
     simp only [List.length_cons] at h
     omega
   have e : addS S l = S ++ [l] := by unfold addS; rw [if_neg (fun e => hn (List.contains_iff_mem.1 e))]
   rw [e] at h
   obtain ⟨h2, h3⟩ := foldl_addS_nodup ns (S ++ [l]) (by rw [h]; simp only [List.length_append, List.length_cons, List.length_nil]; omega)
   refine ⟨List.nodup_cons.2 ⟨fun hm => h3 l hm (by simp), h2⟩, fun x hx => ?_⟩
   rcases List.mem_cons.1 hx with rfl | hx
   · exact hn
   · exact fun hS => h3 x hx (List.mem_append.2 (.inl hS))
theorem foldl_addS_of : ∀ (ns S : List (List UInt8)), ns.Nodup -> (∀ x ∈ ns, x ∉ S) -> ns.foldl addS S = S ++ ns
 | [], S, _, _ => by simp
 | l :: ns, S, h, h2 => by
   obtain ⟨h3, h4⟩ := List.nodup_cons.1 h
   have e : addS S l = S ++ [l] := by unfold addS; rw [if_neg (fun e => h2 l List.mem_cons_self (List.contains_iff_mem.1 e))]
   rw [List.foldl_cons, e, foldl_addS_of ns _ h4 (fun x hx hm => by
     rcases List.mem_append.1 hm with hm | hm
     · exact h2 x (List.mem_cons_of_mem _ hx) hm
     · rw [List.mem_singleton.1 hm] at hx; exact h3 hx), List.append_assoc]
   rfl
theorem fitN_iff (ns : List (List UInt8)) : fitN ns = true ↔ (∀ x ∈ ns, Lib.validD x = true) /\ ns.Nodup := by
 unfold fitN
 simp only [Bool.and_eq_true, List.all_eq_true, beq_iff_eq]
 constructor
 · rintro ⟨h1, h2⟩
   exact ⟨h1, (foldl_addS_nodup ns [] (by unfold setL at h2; rw [h2]; simp)).1⟩
 · rintro ⟨h1, h2⟩
   exact ⟨h1, by unfold setL; rw [foldl_addS_of ns [] h2 (by simp)]; simp⟩
theorem ask_cases {k : Int} {b : Bool} {d : Dec} {t : List UInt8} {l : List JV} {ns : List (List UInt8)} (h : askJ (.mk k b d t l ns) = true) :
   (k = 0 /\ b = false /\ d = Dec.zero /\ t = [] /\ l = [] /\ ns = []) ∨ (k = 1 /\ d = Dec.zero /\ t = [] /\ l = [] /\ ns = []) ∨
   (k = 2 /\ b = false /\ mayB d = true /\ t = [] /\ l = [] /\ ns = []) ∨ (k = 3 /\ b = false /\ d = Dec.zero /\ Lib.validD t = true /\ l = [] /\ ns = []) ∨
   (k = 4 /\ b = false /\ d = Dec.zero /\ t = [] /\ ns = [] /\ askKids l = true) ∨
   (k = 5 /\ b = false /\ d = Dec.zero /\ t = [] /\ ns.length = l.length /\ ns.Nodup /\ (∀ x ∈ ns, Lib.validD x = true) /\ askKids l = true) := by
 rw [askJ] at h
 split at h
 · rename_i e
   obtain ⟨h1, h2, h3, h4, h5⟩ := zB_iff.1 h
   exact .inl ⟨e, h1, h2, h3, List.eq_nil_of_length_eq_zero h4, List.eq_nil_of_length_eq_zero h5⟩
 · split at h
   · rename_i e
     obtain ⟨_, h2, h3, h4, h5⟩ := zB_iff.1 h
     exact .inr (.inl ⟨e, h2, h3, List.eq_nil_of_length_eq_zero h4, List.eq_nil_of_length_eq_zero h5⟩)
   · split at h
     · rename_i e
       rw [Bool.and_eq_true, beq_iff_eq] at h
       obtain ⟨h1, _, h3, h4, h5⟩ := zB_iff.1 h.2
       have hm : mayB d = true := by
         have := h.1
         unfold checkE at this
         split at this
         · assumption
         · cases this
       exact .inr (.inr (.inl ⟨e, h1, hm, h3, List.eq_nil_of_length_eq_zero h4, List.eq_nil_of_length_eq_zero h5⟩))
     · split at h
       · rename_i e
         rw [Bool.and_eq_true] at h
         obtain ⟨h1, h2, _, h4, h5⟩ := zB_iff.1 h.2
         exact .inr (.inr (.inr (.inl ⟨e, h1, h2, h.1, List.eq_nil_of_length_eq_zero h4, List.eq_nil_of_length_eq_zero h5⟩)))
       · split at h
         · rename_i e
           rw [Bool.and_eq_true] at h
           obtain ⟨h1, h2, h3, _, h5⟩ := zB_iff.1 h.2
           exact .inr (.inr (.inr (.inr (.inl ⟨e, h1, h2, h3, List.eq_nil_of_length_eq_zero h5, h.1⟩))))
         · split at h
           · rename_i e
             simp only [Bool.and_eq_true, beq_iff_eq] at h
             obtain ⟨h1, h2, h3, _, _⟩ := zB_iff.1 h.2
             obtain ⟨h5, h6⟩ := (fitN_iff ns).1 h.1.1.2
             exact .inr (.inr (.inr (.inr (.inr ⟨e, h1, h2, h3, h.1.1.1, h6, h5, h.1.2⟩))))
           · cases h
theorem askKids_mem : ∀ {l : List JV}, askKids l = true ↔ ∀ x ∈ l, askJ x = true
 | [] => by rw [askKids]; simp
 | y :: l => by
   rw [askKids, Bool.and_eq_true, askKids_mem (l := l)]
   simp
theorem check_parts {v : JV} (h : checkJ v = 0) : askJ v = true /\ depthJ v <= 64 /\ (tellJ v).length <= 1048576 := by
 unfold checkJ at h
 split at h
 · cases h
 · rename_i ha
   split at h
   · cases h
   · split at h
     · cases h
     · exact ⟨by simpa using ha, by omega, by omega⟩
def JV.kind : JV -> Int | .mk k _ _ _ _ _ => k
def JV.bool : JV -> Bool | .mk _ b _ _ _ _ => b
def JV.num : JV -> Dec | .mk _ _ d _ _ _ => d
def JV.text : JV -> List UInt8 | .mk _ _ _ t _ _ => t
def JV.list : JV -> List JV | .mk _ _ _ _ l _ => l
def JV.names : JV -> List (List UInt8) | .mk _ _ _ _ _ ns => ns
def placeJ (obj : Bool) (ns ns' : List (List UInt8)) (i : Nat) : Option Nat := if obj = true then (if ns'.contains (ns.getD i []) = true then some (ns'.idxOf (ns.getD i [])) else none) else some i
mutual
def eqJ : JV -> JV -> Bool
 | .mk k b d t l ns, v => (k == v.kind && b == v.bool && (d.neg == v.num.neg && d.digits == v.num.digits && d.exp == v.num.exp) && t == v.text && l.length == v.list.length) && eqKids (k == 5) ns v.names v.list 0 l
def eqKids (obj : Bool) (ns ns' : List (List UInt8)) (l' : List JV) : Nat -> List JV -> Bool
 | _, [] => true
 | i, x :: l => (match placeJ obj ns ns' i with | none => false | some j => eqJ x (l'.getD j JV.null)) && eqKids obj ns ns' l' (i + 1) l
end
def atJ (obj : Bool) (ns ns' : List (List UInt8)) (l l' : List JV) (i : Nat) : Bool := match placeJ obj ns ns' i with
 | none => false
 | some j => eqJ (l.getD i JV.null) (l'.getD j JV.null)
theorem eqKids_iff (obj : Bool) (ns ns' : List (List UInt8)) (l' : List JV) : ∀ (l : List JV) (s : Nat), eqKids obj ns ns' l' s l = true ↔ ∀ i, i < l.length -> (match placeJ obj ns ns' (s + i) with | none => false | some j => eqJ (l.getD i JV.null) (l'.getD j JV.null)) = true
 | [], s => by rw [eqKids]; simp
 | x :: l, s => by
   rw [eqKids, Bool.and_eq_true, eqKids_iff obj ns ns' l' l (s + 1)]
   constructor
   · rintro ⟨h1, h2⟩ i hi
     cases i with
     | zero => rw [Nat.add_zero, List.getD_cons_zero]; exact h1
     | succ i =>
       have := h2 i (by simpa using hi)
       rw [show s + 1 + i = s + (i + 1) by omega] at this
       rw [List.getD_cons_succ]
       exact this
   · intro h
     refine ⟨?_, fun i hi => ?_⟩
     · have := h 0 (by simp)
       rw [Nat.add_zero, List.getD_cons_zero] at this
       exact this
     · have := h (i + 1) (by simpa using hi)
       rw [List.getD_cons_succ, show s + (i + 1) = s + 1 + i by omega] at this
       exact this
theorem eqKids_at (obj : Bool) (ns ns' : List (List UInt8)) (l l' : List JV) : eqKids obj ns ns' l' 0 l = true ↔ ∀ i, i < l.length -> atJ obj ns ns' l l' i = true := by
 rw [eqKids_iff]
 simp only [Nat.zero_add]
 exact Iff.rfl
theorem eqKids_no {obj : Bool} {ns ns' : List (List UInt8)} {l l' : List JV} {i : Nat} (hi : i < l.length) (h : atJ obj ns ns' l l' i = false) : eqKids obj ns ns' l' 0 l = false := by
 rw [<- Bool.not_eq_true, eqKids_at]
 intro hh
 rw [hh i hi] at h
 cases h
theorem place_self {obj : Bool} {ns : List (List UInt8)} {i : Nat} (hn : ns.Nodup) (hi : obj = true -> i < ns.length) : placeJ obj ns ns i = some i := by
 unfold placeJ
 split
 · rename_i ho
   have h := hi ho
   have e : ns.getD i [] = ns[i] := by rw [List.getD_eq_getElem?_getD, List.getElem?_eq_getElem h]; rfl
   rw [e, if_pos (List.contains_iff_mem.2 (List.getElem_mem h)), hn.idxOf_getElem i h]
 · rfl
theorem ask_facts {k : Int} {b : Bool} {d : Dec} {t : List UInt8} {l : List JV} {ns : List (List UInt8)} (h : askJ (.mk k b d t l ns) = true) :
   ns.Nodup /\ (k = 5 -> ns.length = l.length) /\ (∀ x ∈ l, askJ x = true) /\ (k ≠ 5 -> ns = []) /\ (k ≠ 4 -> k ≠ 5 -> l = []) := by
 have z : ∀ x ∈ ([] : List JV), askJ x = true := fun x hx => by cases hx
 rcases ask_cases h with ⟨e, _, _, _, rfl, rfl⟩ | ⟨e, _, _, rfl, rfl⟩ | ⟨e, _, _, _, rfl, rfl⟩ | ⟨e, _, _, _, rfl, rfl⟩ | ⟨e, _, _, _, rfl, h5⟩ | ⟨e, _, _, _, h4, h5, _, h6⟩
 · exact ⟨List.nodup_nil, fun _ => rfl, z, fun _ => rfl, fun _ _ => rfl⟩
 · exact ⟨List.nodup_nil, fun _ => rfl, z, fun _ => rfl, fun _ _ => rfl⟩
 · exact ⟨List.nodup_nil, fun _ => rfl, z, fun _ => rfl, fun _ _ => rfl⟩
 · exact ⟨List.nodup_nil, fun _ => rfl, z, fun _ => rfl, fun _ _ => rfl⟩
 · exact ⟨List.nodup_nil, fun e2 => by omega, askKids_mem.1 h5, fun _ => rfl, fun e2 => absurd e e2⟩
 · exact ⟨h5, fun _ => h4, askKids_mem.1 h6, fun e2 => absurd e e2, fun _ e2 => absurd e e2⟩
theorem eqJ_self : ∀ (n : Nat) (v : JV), SizeOf.sizeOf v <= n -> askJ v = true -> eqJ v v = true := by
 intro n
 induction n with
 | zero => intro v hv; cases v; simp at hv
 | succ n ih =>
   intro v hv h
   obtain ⟨k, b, d, t, l, ns⟩ := v
   have key : askKids l = true -> ns.Nodup -> (k = 5 -> ns.length = l.length) -> eqJ (.mk k b d t l ns) (.mk k b d t l ns) = true := by
     intro hk hn hl
     rw [eqJ]
     simp only [JV.kind, JV.bool, JV.num, JV.text, JV.list, JV.names, beq_self_eq_true, Bool.and_self, Bool.true_and]
     rw [eqKids_at]
     intro i hi
     unfold atJ
     rw [place_self hn (fun e => by rw [hl (by simpa using e)]; exact hi)]
     have hm : l.getD i JV.null ∈ l := by rw [List.getD_eq_getElem?_getD, List.getElem?_eq_getElem hi]; exact List.getElem_mem _
     refine ih _ ?_ (askKids_mem.1 hk _ hm)
     have := List.sizeOf_lt_of_mem hm
     simp only [JV.mk.sizeOf_spec] at hv
     omega
   have k0 : askKids [] = true := by rw [askKids]
   rcases ask_cases h with ⟨rfl, h1, h2, h3, rfl, rfl⟩ | ⟨rfl, h1, h2, rfl, rfl⟩ | ⟨rfl, h1, h2, h3, rfl, rfl⟩ | ⟨rfl, h1, h2, _, rfl, rfl⟩ | ⟨rfl, h1, h2, h3, rfl, h5⟩ | ⟨rfl, h1, h2, h3, h4, h5, _, h6⟩
   · exact key k0 List.nodup_nil (fun _ => rfl)
   · exact key k0 List.nodup_nil (fun _ => rfl)
   · exact key k0 List.nodup_nil (fun _ => rfl)
   · exact key k0 List.nodup_nil (fun _ => rfl)
   · exact key h5 List.nodup_nil (fun e => by cases e)
   · exact key h6 h5 (fun _ => h4)
open Go.RowKit
theorem text0 (w : World) (b : Bool) (d : Dec) (t : List UInt8) (A A' : Option Addr) (nl c nn c' : Nat) :
   Calls Tryz.prog 18 #[.agg (jvC 0 b d t (.slice A nl c) (.slice A' nn c'))] w fun e w' => e = .returned (.string (bs wNull)) /\ Below w.heap.size w w' := by
 obtain ⟨w1, hw1⟩ : ∃ w1, w1 = w.alloc (.cells (jvC 0 b d t (.slice A nl c) (.slice A' nn c')) 28) := ⟨_, rfl⟩
 have HBX : Hid (BoxJ w w1 A A' nl c nn c' (0) b d t) := hid ⟨by rw [hw1]; exact Row.new _ _ _, by rw [hw1]; exact (Below.refl _ _).alloc (Nat.le_refl _) _⟩
 have x0 : w1.cell? ⟨w.heap.size, 0, none⟩ = some (.int .i64 (0)) := HBX.out.row.cell (i := 0) rfl
 go_enter Tryz.func18, Tryz.ntmps18
 go_upto_region 1 with fail
 rw [<- hw1]
 clear hw1
 go_wp2
 go_ret
 exact ⟨rfl, HBX.out.below⟩
theorem text1 (w : World) (b : Bool) (d : Dec) (t : List UInt8) (A A' : Option Addr) (nl c nn c' : Nat) :
   Calls Tryz.prog 18 #[.agg (jvC 1 b d t (.slice A nl c) (.slice A' nn c'))] w fun e w' => e = .returned (.string (bs (if b then wTrue else wFalse))) /\ Below w.heap.size w w' := by
 obtain ⟨w1, hw1⟩ : ∃ w1, w1 = w.alloc (.cells (jvC 1 b d t (.slice A nl c) (.slice A' nn c')) 28) := ⟨_, rfl⟩
 have HBX : Hid (BoxJ w w1 A A' nl c nn c' (1) b d t) := hid ⟨by rw [hw1]; exact Row.new _ _ _, by rw [hw1]; exact (Below.refl _ _).alloc (Nat.le_refl _) _⟩
 have x0 : w1.cell? ⟨w.heap.size, 0, none⟩ = some (.int .i64 (1)) := HBX.out.row.cell (i := 0) rfl
 have x1 : w1.cell? ⟨w.heap.size, 1, none⟩ = some (.bool b) := HBX.out.row.cell (i := 1) rfl
 cases b with
 | false =>
   go_enter Tryz.func18, Tryz.ntmps18
   go_upto_region 1 with fail
   rw [<- hw1]
   clear hw1
   go_wp2
   go_ret
   exact ⟨rfl, HBX.out.below⟩
 | true =>
   go_enter Tryz.func18, Tryz.ntmps18
   go_upto_region 1 with fail
   rw [<- hw1]
   clear hw1
   go_wp2
   go_ret
   exact ⟨rfl, HBX.out.below⟩
theorem text2 (w : World) (b : Bool) (dn : Bool) (dl : List UInt8) (dx : Int) (t : List UInt8) (A A' : Option Addr) (nl c nn c' : Nat) (hT : PowTab w) (hm : May ⟨dn, dl, dx⟩) :
   Calls Tryz.prog 18 #[.agg (jvC 2 b ⟨dn, dl, dx⟩ t (.slice A nl c) (.slice A' nn c'))] w fun e w' => e = .returned (.string (bs (textL ⟨dn, dl, dx⟩))) /\ Below w.heap.size w w' := by
 obtain ⟨w1, hw1⟩ : ∃ w1, w1 = w.alloc (.cells (jvC 2 b ⟨dn, dl, dx⟩ t (.slice A nl c) (.slice A' nn c')) 28) := ⟨_, rfl⟩
 have HBX : Hid (BoxJ w w1 A A' nl c nn c' (2) b ⟨dn, dl, dx⟩ t) := hid ⟨by rw [hw1]; exact Row.new _ _ _, by rw [hw1]; exact (Below.refl _ _).alloc (Nat.le_refl _) _⟩
 have x0 : w1.cell? ⟨w.heap.size, 0, none⟩ = some (.int .i64 (2)) := HBX.out.row.cell (i := 0) rfl
 have x2 : w1.cell? ⟨w.heap.size, 2, none⟩ = some (.bool dn) := HBX.out.row.cell (i := 2) rfl
 have x3 : w1.cell? ⟨w.heap.size, 3, none⟩ = some (.string (bs dl)) := HBX.out.row.cell (i := 3) rfl
 have x4 : w1.cell? ⟨w.heap.size, 4, none⟩ = some (.int .i64 dx) := HBX.out.row.cell (i := 4) rfl
 have htx : Calls Tryz.prog 42 #[.agg #[.bool dn, .string (bs dl), .int .i64 dx]] w1 fun e w' => e = .returned (.string (bs (textL ⟨dn, dl, dx⟩))) /\ Below w1.heap.size w1 w' := reftext_ok ⟨dn, dl, dx⟩ w1 (hT.below HBX.out.below) hm
 have HTX := hid htx
 clear htx hm hT
 generalize textL ⟨dn, dl, dx⟩ = tx at *
 go_enter Tryz.func18, Tryz.ntmps18
 go_upto_region 1 with fail
 rw [<- hw1]
 clear hw1
 go_wp2_with fail
 refine HTX.out.mono ?_
 rintro e w2 ⟨rfl, hb⟩
 have HB2 := hid (HBX.out.below.call hb)
 clear hb x0 x2 x3 x4
 go_wp2
 go_ret
 exact ⟨rfl, HB2.out⟩
theorem text3 (w : World) (b : Bool) (d : Dec) (t : List UInt8) (A A' : Option Addr) (nl c nn c' : Nat) (ht : t.length <= 2000000) :
   Calls Tryz.prog 18 #[.agg (jvC 3 b d t (.slice A nl c) (.slice A' nn c'))] w fun e w' => e = .returned (.string (bs (quoteL t))) /\ Below w.heap.size w w' := by
 obtain ⟨w1, hw1⟩ : ∃ w1, w1 = w.alloc (.cells (jvC 3 b d t (.slice A nl c) (.slice A' nn c')) 28) := ⟨_, rfl⟩
 have HBX : Hid (BoxJ w w1 A A' nl c nn c' (3) b d t) := hid ⟨by rw [hw1]; exact Row.new _ _ _, by rw [hw1]; exact (Below.refl _ _).alloc (Nat.le_refl _) _⟩
 have x0 : w1.cell? ⟨w.heap.size, 0, none⟩ = some (.int .i64 (3)) := HBX.out.row.cell (i := 0) rfl
 have x5 : w1.cell? ⟨w.heap.size, 5, none⟩ = some (.string (bs t)) := HBX.out.row.cell (i := 5) rfl
 have HQ := hid (dquote_ok t w1 ht)
 generalize quoteL t = q at *
 clear ht
 go_enter Tryz.func18, Tryz.ntmps18
 go_upto_region 1 with fail
 rw [<- hw1]
 clear hw1
 go_wp2_with fail
 refine HQ.out.mono ?_
 rintro e w2 ⟨rfl, hb⟩
 have HB2 := hid (HBX.out.below.call hb)
 clear hb x0 x5
 go_wp2
 go_ret
 exact ⟨rfl, HB2.out⟩
theorem add_ok {a b c : List UInt8} (h : c = a ++ b) (hl : c.length <= 20000000000) (W : World) : (Op.stringOp .add (bs a) (bs b)).run Tryz.prog W = .ok (.string (bs c)) W := by
 rw [h] at hl ⊢
 rw [List.length_append] at hl
 exact run_add_bs (P := Tryz.prog) (W := W) a b (by omega)
theorem text4 (w : World) (F : Nat -> Prop) (b : Bool) (dn : Bool) (dl : List UInt8) (dx : Int) (t : List UInt8) (l : List JV) (ns : List (List UInt8)) (A A' : Option Addr) (c c' : Nat)
   (h1 : l.length <= c) (h2 : c <= maxLen) (h3 : ns.length <= c') (h4 : c' <= maxLen) (hnm : NamesAt w F A' ns) (hkd : KidsAt w F A 0 l) (hwj : wKids l + wNames ns <= 2000000)
   (IH0 : ∀ x ∈ l, ∀ (cs : Array Value) (V : World), Below w.heap.size w V -> JIs V F x cs.toList -> Calls Tryz.prog 18 #[.agg cs] V fun e w' => e = .returned (.string (bs (tellJ x))) /\ Below V.heap.size V w') :
   Calls Tryz.prog 18 #[.agg (jvC 4 b ⟨dn, dl, dx⟩ t (.slice A l.length c) (.slice A' ns.length c'))] w fun e w' => e = .returned (.string (bs ([91] ++ tellKids 4 0 l ns ++ [93]))) /\ Below w.heap.size w w' := by
 obtain ⟨w1, hw1⟩ : ∃ w1, w1 = w.alloc (.cells (jvC 4 b ⟨dn, dl, dx⟩ t (.slice A l.length c) (.slice A' ns.length c')) 28) := ⟨_, rfl⟩
 have HBOX : Hid (BoxJ w w1 A A' l.length c ns.length c' 4 b ⟨dn, dl, dx⟩ t) := hid ⟨by rw [hw1]; exact Row.new _ _ _, by rw [hw1]; exact (Below.refl _ _).alloc (Nat.le_refl _) _⟩
 have HBX : Hid (∀ V, BoxJ w V A A' l.length c ns.length c' 4 b ⟨dn, dl, dx⟩ t -> V.cell? ⟨w.heap.size, 0, none⟩ = some (.int .i64 4) /\ V.cell? ⟨w.heap.size, 6, none⟩ = some (.slice A l.length c) /\ V.cell? ⟨w.heap.size, 7, none⟩ = some (.slice A' ns.length c')) := hid fun V hV => ⟨hV.row.cell (i := 0) rfl, hV.row.cell (i := 6) rfl, hV.row.cell (i := 7) rfl⟩
 have HIN : Hid (∀ x : Array Value, x.size = 8 -> (Tryz.prog.info? 28).map (·.size) = some x.size) := hid fun x hx => by rw [hx]; exact infoJ
 have IH : Hid (∀ i, i < l.length -> ∀ V, Below w.heap.size w V -> ∃ g2 off2, ∃ cs2 : Array Value, A = some ⟨g2, off2, none⟩ /\ cs2.size = 8 /\ V.rangeAt g2 (off2 + i * 8) cs2.toList /\ (∀ U, Below w.heap.size w U -> U.rangeAt g2 (off2 + i * 8) cs2.toList) /\
     ∀ U, Below w.heap.size w U -> Calls Tryz.prog 18 #[.agg cs2] U fun e w' => e = .returned (.string (bs (tellJ (l.getD i JV.null)))) /\ Below U.heap.size U w') := hid fun i hi V hb => by
   obtain ⟨g2, off2, cs2, hA, h8, hj, hr⟩ := kids_cells hkd i hi
   have hm : l.getD i JV.null ∈ l := by rw [List.getD_eq_getElem?_getD, List.getElem?_eq_getElem hi]; exact List.getElem_mem _
   exact ⟨g2, off2, cs2, hA, h8, hr V hb, hr, fun U hU => IH0 _ hm cs2 U hU (hj.below hU)⟩
 have HTK := hid (fun i (hi : i < l.length) => tellKids_take 4 l 0 i ns hi)
 have HLE := hid (fun i => Nat.le_trans (tellKids_take_w 4 l ns i) (show 6001 * (wKids l + wNames ns) <= 13000000000 by omega))
 have HALL : Hid (tellKids 4 0 (l.take l.length) ns = tellKids 4 0 l ns) := hid (by rw [List.take_length])
 have HT0 : Hid (tellKids 4 0 (l.take 0) ns = []) := hid (by rw [List.take_zero, tellKids])
 clear hnm hkd hwj IH0
 unfold maxLen at h2 h4
 obtain ⟨tk, htk⟩ : ∃ tk : Nat -> List UInt8, tk = fun i => tellKids 4 0 (l.take i) ns := ⟨_, rfl⟩
 have HTD : Hid (∀ i, tellKids 4 0 (l.take i) ns = tk i) := hid fun i => by rw [htk]
 rw [HTD.out] at HT0
 rw [<- HALL.out, HTD.out]
 simp only [HTD.out] at HTK HLE
 clear htk HALL HTD
 generalize l.length = m at *
 generalize ns.length = nn at *
 go_enter Tryz.func18, Tryz.ntmps18
 go_upto_region 1 with fail
 rw [<- hw1]
 clear hw1
 obtain ⟨x0, x6, x7⟩ := HBX.out w1 HBOX.out
 go_wp2_with fail
 clear x0 x6 x7
 go_loopw [3, 4] (fun v3 v4 wr => ∃ (i : Nat) (acc : List UInt8), i <= m /\ v4 = .int .i64 (i : Int) /\ v3 = .string (bs acc) /\ Hid (acc = tk i) /\ Hid (BoxJ w wr A A' m c nn c' 4 b ⟨dn, dl, dx⟩ t)) (fun _ v4 _ => m - (intOf v4).toNat)
 case atStart => exact ⟨0, [], Nat.zero_le _, rfl, rfl, hid HT0.out.symm, HBOX⟩
 case round =>
   clear HBOX
   obtain ⟨i, acc, hi, rfl, rfl, HACC, HBOX⟩ := hrel
   obtain ⟨x0, x6, x7⟩ := HBX.out wr HBOX.out
   by_cases hlt : i < m
   · have hiz : (i : Int) < (m : Int) := by omega
     have HT3 := hid (HTK.out i hlt)
     have HL3 := HLE.out (i + 1)
     rw [<- HACC.out] at HT3
     obtain ⟨a4, ha4⟩ : ∃ a4, a4 = tk (i + 1) := ⟨_, rfl⟩
     rw [<- ha4] at HL3 HT3
     have HA4 := hid ha4
     clear ha4
     obtain ⟨g2, off2, cs2, rfl, h8, _, hrg, hcall⟩ := IH.out i hlt wr HBOX.out.below
     have HK := hid hcall
     have HRG := hid hrg
     have HI2 := hid (HIN.out cs2 h8)
     clear hcall hrg h8
     generalize tellJ (l.getD i JV.null) = tl at *
     by_cases hz : i = 0
     · have HZ0 := hid hz
       have hgt : ¬ (i : Int) > 0 := by omega
       obtain ⟨a1, ha1⟩ : ∃ a1, a1 = acc := ⟨_, rfl⟩
       have e4 : a4 = a1 ++ tl := by
         rw [HT3.out, ha1]
         simp [hz]
       have l4 := congrArg List.length e4
       simp only [List.length_append] at l4
       have r4 := add_ok e4 (by omega)
       have HI0 := hid hi
       clear e4 l4 hz HT3 HL3
       subst ha1
       have HB3 := HBOX
       obtain ⟨w3, hw3⟩ : ∃ w3, w3 = wr := ⟨_, rfl⟩
       subst hw3
       have hrg := hid (HRG.out _ HB3.out.below)
       go_wp2_with (first
         | (refine ldJ (.tmp 51) g2 (off2 + i * 8) cs2 hrg.out HI2.out ?_))
       refine (HK.out _ HB3.out.below).mono ?_
       rintro e w5 ⟨rfl, hb⟩
       have HB5 := hid (HB3.out.call hb)
       clear hb x0 x6 x7
       go_wp2_with fail
       exact ⟨⟨i + 1, a4, by omega, by go_num, rfl, HA4, HB5⟩, by simp [intOf]; omega⟩
     · have HZ0 := hid hz
       have hgt : (i : Int) > 0 := by omega
       obtain ⟨a1, ha1⟩ : ∃ a1, a1 = acc ++ [44] := ⟨_, rfl⟩
       have e4 : a4 = a1 ++ tl := by
         rw [HT3.out, ha1]
         simp [hz]
       have l4 := congrArg List.length e4
       simp only [List.length_append] at l4
       have r4 := add_ok e4 (by omega)
       have r1 : ∀ W, (Op.stringOp .add (bs acc) ⟨#[44]⟩).run Tryz.prog W = .ok (.string (bs a1)) W := fun W => add_ok (b := [44]) ha1 (by omega) W
       have HI0 := hid hi
       clear e4 l4 hz ha1 HT3 HL3
       have HB3 := HBOX
       obtain ⟨w3, hw3⟩ : ∃ w3, w3 = wr := ⟨_, rfl⟩
       subst hw3
       have hrg := hid (HRG.out _ HB3.out.below)
       go_wp2_with (first
         | (refine ldJ (.tmp 51) g2 (off2 + i * 8) cs2 hrg.out HI2.out ?_))
       refine (HK.out _ HB3.out.below).mono ?_
       rintro e w5 ⟨rfl, hb⟩
       have HB5 := hid (HB3.out.call hb)
       clear hb x0 x6 x7
       go_wp2_with fail
       exact ⟨⟨i + 1, a4, by omega, by go_num, rfl, HA4, HB5⟩, by simp [intOf]; omega⟩
   · obtain rfl : i = m := by omega
     have HL3 := HLE.out i
     rw [<- HACC.out] at HL3
     obtain ⟨b1, hb1⟩ : ∃ b1, b1 = [91] ++ acc := ⟨_, rfl⟩
     obtain ⟨b2, hb2⟩ : ∃ b2, b2 = b1 ++ [93] := ⟨_, rfl⟩
     have HE2 : Hid (b2 = 91 :: (tk i ++ [93])) := hid (by rw [hb2, hb1, HACC.out]; rfl)
     have l1 := congrArg List.length hb1
     have l2 := congrArg List.length hb2
     simp only [List.length_append, List.length_cons, List.length_nil] at l1 l2
     have r1 : ∀ W, (Op.stringOp .add ⟨#[91]⟩ (bs acc)).run Tryz.prog W = .ok (.string (bs b1)) W := fun W => add_ok (a := [91]) hb1 (by omega) W
     have r2 : ∀ W, (Op.stringOp .add (bs b1) ⟨#[93]⟩).run Tryz.prog W = .ok (.string (bs b2)) W := fun W => add_ok (b := [93]) hb2 (by omega) W
     clear l1 l2 hb1 hb2 HL3
     go_wp2_with fail
     go_ret
     exact ⟨by rw [HE2.out] <;> rfl, HBOX.out.below⟩
theorem text5 (w : World) (F : Nat -> Prop) (b : Bool) (dn : Bool) (dl : List UInt8) (dx : Int) (t : List UInt8) (l : List JV) (ns : List (List UInt8)) (A A' : Option Addr) (c c' : Nat)
   (h1 : l.length <= c) (h2 : c <= maxLen) (h3 : ns.length <= c') (h4 : c' <= maxLen) (hnm : NamesAt w F A' ns) (hkd : KidsAt w F A 0 l) (hwj : wKids l + wNames ns <= 2000000) (hnl : ns.length = l.length)
   (IH0 : ∀ x ∈ l, ∀ (cs : Array Value) (V : World), Below w.heap.size w V -> JIs V F x cs.toList -> Calls Tryz.prog 18 #[.agg cs] V fun e w' => e = .returned (.string (bs (tellJ x))) /\ Below V.heap.size V w') :
   Calls Tryz.prog 18 #[.agg (jvC 5 b ⟨dn, dl, dx⟩ t (.slice A l.length c) (.slice A' ns.length c'))] w fun e w' => e = .returned (.string (bs ([123] ++ tellKids 5 0 l ns ++ [125]))) /\ Below w.heap.size w w' := by
 obtain ⟨w1, hw1⟩ : ∃ w1, w1 = w.alloc (.cells (jvC 5 b ⟨dn, dl, dx⟩ t (.slice A l.length c) (.slice A' ns.length c')) 28) := ⟨_, rfl⟩
 have HBOX : Hid (BoxJ w w1 A A' l.length c ns.length c' 5 b ⟨dn, dl, dx⟩ t) := hid ⟨by rw [hw1]; exact Row.new _ _ _, by rw [hw1]; exact (Below.refl _ _).alloc (Nat.le_refl _) _⟩
 have HBX : Hid (∀ V, BoxJ w V A A' l.length c ns.length c' 5 b ⟨dn, dl, dx⟩ t -> V.cell? ⟨w.heap.size, 0, none⟩ = some (.int .i64 5) /\ V.cell? ⟨w.heap.size, 6, none⟩ = some (.slice A l.length c) /\ V.cell? ⟨w.heap.size, 7, none⟩ = some (.slice A' ns.length c')) := hid fun V hV => ⟨hV.row.cell (i := 0) rfl, hV.row.cell (i := 6) rfl, hV.row.cell (i := 7) rfl⟩
 have HIN : Hid (∀ x : Array Value, x.size = 8 -> (Tryz.prog.info? 28).map (·.size) = some x.size) := hid fun x hx => by rw [hx]; exact infoJ
 have IH : Hid (∀ i, i < l.length -> ∀ V, Below w.heap.size w V -> ∃ g2 off2, ∃ cs2 : Array Value, A = some ⟨g2, off2, none⟩ /\ cs2.size = 8 /\ V.rangeAt g2 (off2 + i * 8) cs2.toList /\ (∀ U, Below w.heap.size w U -> U.rangeAt g2 (off2 + i * 8) cs2.toList) /\
     ∀ U, Below w.heap.size w U -> Calls Tryz.prog 18 #[.agg cs2] U fun e w' => e = .returned (.string (bs (tellJ (l.getD i JV.null)))) /\ Below U.heap.size U w') := hid fun i hi V hb => by
   obtain ⟨g2, off2, cs2, hA, h8, hj, hr⟩ := kids_cells hkd i hi
   have hm : l.getD i JV.null ∈ l := by rw [List.getD_eq_getElem?_getD, List.getElem?_eq_getElem hi]; exact List.getElem_mem _
   exact ⟨g2, off2, cs2, hA, h8, hr V hb, hr, fun U hU => IH0 _ hm cs2 U hU (hj.below hU)⟩
 have HTK := hid (fun i (hi : i < l.length) => tellKids_take 5 l 0 i ns hi)
 have HLE := hid (fun i => Nat.le_trans (tellKids_take_w 5 l ns i) (show 6001 * (wKids l + wNames ns) <= 13000000000 by omega))
 have HQN : Hid (∀ i, i < l.length -> ∃ g2 off2, A' = some ⟨g2, off2, none⟩ /\ (∀ V, Below w.heap.size w V -> V.cell? ⟨g2, off2 + i, none⟩ = some (.string (bs (ns.getD i [])))) /\ ∀ V, Calls Tryz.prog 43 #[.string (bs (ns.getD i []))] V fun e w' => e = .returned (.string (bs (quoteL (ns.getD i [])))) /\ Below V.heap.size V w') := hid fun i hi => by
   obtain ⟨g2, off2, hA, _, hlt, hcl⟩ := hnm i (by omega)
   have h5 := wNames_take ns i (by omega)
   have h6 := wNames_le_all ns (i + 1)
   exact ⟨g2, off2, hA, fun V hb => (hb.cell (p := ⟨g2, off2 + i, none⟩) hlt).trans hcl, fun V => dquote_ok _ V (by omega)⟩
 have HALL : Hid (tellKids 5 0 (l.take l.length) ns = tellKids 5 0 l ns) := hid (by rw [List.take_length])
 have HT0 : Hid (tellKids 5 0 (l.take 0) ns = []) := hid (by rw [List.take_zero, tellKids])
 clear hnm hkd hwj IH0
 unfold maxLen at h2 h4
 rw [hnl] at *; clear hnl
 obtain ⟨tk, htk⟩ : ∃ tk : Nat -> List UInt8, tk = fun i => tellKids 5 0 (l.take i) ns := ⟨_, rfl⟩
 have HTD : Hid (∀ i, tellKids 5 0 (l.take i) ns = tk i) := hid fun i => by rw [htk]
 rw [HTD.out] at HT0
 rw [<- HALL.out, HTD.out]
 simp only [HTD.out] at HTK HLE
 clear htk HALL HTD
 generalize l.length = m at *
 go_enter Tryz.func18, Tryz.ntmps18
 go_upto_region 1 with fail
 rw [<- hw1]
 clear hw1
 obtain ⟨x0, x6, x7⟩ := HBX.out w1 HBOX.out
 go_wp2_with fail
 clear x0 x6 x7
 go_loopw [3, 4] (fun v3 v4 wr => ∃ (i : Nat) (acc : List UInt8), i <= m /\ v4 = .int .i64 (i : Int) /\ v3 = .string (bs acc) /\ Hid (acc = tk i) /\ Hid (BoxJ w wr A A' m c m c' 5 b ⟨dn, dl, dx⟩ t)) (fun _ v4 _ => m - (intOf v4).toNat)
 case atStart => exact ⟨0, [], Nat.zero_le _, rfl, rfl, hid HT0.out.symm, HBOX⟩
 case round =>
   clear HBOX
   obtain ⟨i, acc, hi, rfl, rfl, HACC, HBOX⟩ := hrel
   obtain ⟨x0, x6, x7⟩ := HBX.out wr HBOX.out
   by_cases hlt : i < m
   · have hiz : (i : Int) < (m : Int) := by omega
     have HT3 := hid (HTK.out i hlt)
     have HL3 := HLE.out (i + 1)
     rw [<- HACC.out] at HT3
     obtain ⟨a4, ha4⟩ : ∃ a4, a4 = tk (i + 1) := ⟨_, rfl⟩
     rw [<- ha4] at HL3 HT3
     have HA4 := hid ha4
     clear ha4
     obtain ⟨gq, oq, rfl, hqc, hq⟩ := HQN.out i hlt
     have HQC := hid hqc
     have HQ := hid hq
     clear hqc hq
     generalize ns.getD i [] = nm at *
     generalize quoteL nm = q at *
     obtain ⟨g2, off2, cs2, rfl, h8, _, hrg, hcall⟩ := IH.out i hlt wr HBOX.out.below
     have HK := hid hcall
     have HRG := hid hrg
     have HI2 := hid (HIN.out cs2 h8)
     clear hcall hrg h8
     generalize tellJ (l.getD i JV.null) = tl at *
     by_cases hz : i = 0
     · have HZ0 := hid hz
       have hgt : ¬ (i : Int) > 0 := by omega
       obtain ⟨a1, ha1⟩ : ∃ a1, a1 = acc := ⟨_, rfl⟩
       have e4 : a4 = a1 ++ q ++ [58] ++ tl := by
         rw [HT3.out, ha1]
         simp [hz]
       obtain ⟨a2, ha2⟩ : ∃ a2, a2 = a1 ++ q := ⟨_, rfl⟩
       obtain ⟨a3, ha3⟩ : ∃ a3, a3 = a2 ++ [58] := ⟨_, rfl⟩
       rw [<- ha2, <- ha3] at e4
       have l4 := congrArg List.length e4
       have l3 := congrArg List.length ha3
       have l2 := congrArg List.length ha2
       simp only [List.length_append] at l4 l3 l2
       have r2 := add_ok ha2 (by omega)
       have r3 : ∀ W, (Op.stringOp .add (bs a2) ⟨#[58]⟩).run Tryz.prog W = .ok (.string (bs a3)) W := fun W => add_ok (b := [58]) ha3 (by omega) W
       have r4 := add_ok e4 (by omega)
       have HI0 := hid hi
       clear e4 l4 hz l3 l2 ha2 ha3 HT3 HL3
       subst ha1
       have y0 := HQC.out wr HBOX.out.below
       go_wp2_with fail
       refine (HQ.out _).mono ?_
       rintro e w3 ⟨rfl, hb⟩
       have HB3 := hid (HBOX.out.call hb)
       clear hb y0 x0 x6 x7
       obtain ⟨x0, x6, x7⟩ := HBX.out w3 HB3.out
       have hrg := hid (HRG.out _ HB3.out.below)
       go_wp2_with (first
         | (refine ldJ (.tmp 51) g2 (off2 + i * 8) cs2 hrg.out HI2.out ?_))
       refine (HK.out _ HB3.out.below).mono ?_
       rintro e w5 ⟨rfl, hb⟩
       have HB5 := hid (HB3.out.call hb)
       clear hb x0 x6 x7
       go_wp2_with fail
       exact ⟨⟨i + 1, a4, by omega, by go_num, rfl, HA4, HB5⟩, by simp [intOf]; omega⟩
     · have HZ0 := hid hz
       have hgt : (i : Int) > 0 := by omega
       obtain ⟨a1, ha1⟩ : ∃ a1, a1 = acc ++ [44] := ⟨_, rfl⟩
       have e4 : a4 = a1 ++ q ++ [58] ++ tl := by
         rw [HT3.out, ha1]
         simp [hz]
       obtain ⟨a2, ha2⟩ : ∃ a2, a2 = a1 ++ q := ⟨_, rfl⟩
       obtain ⟨a3, ha3⟩ : ∃ a3, a3 = a2 ++ [58] := ⟨_, rfl⟩
       rw [<- ha2, <- ha3] at e4
       have l4 := congrArg List.length e4
       have l3 := congrArg List.length ha3
       have l2 := congrArg List.length ha2
       simp only [List.length_append] at l4 l3 l2
       have r2 := add_ok ha2 (by omega)
       have r3 : ∀ W, (Op.stringOp .add (bs a2) ⟨#[58]⟩).run Tryz.prog W = .ok (.string (bs a3)) W := fun W => add_ok (b := [58]) ha3 (by omega) W
       have r4 := add_ok e4 (by omega)
       have r1 : ∀ W, (Op.stringOp .add (bs acc) ⟨#[44]⟩).run Tryz.prog W = .ok (.string (bs a1)) W := fun W => add_ok (b := [44]) ha1 (by omega) W
       have HI0 := hid hi
       clear e4 l4 hz l3 l2 ha2 ha3 ha1 HT3 HL3
       have y0 := HQC.out wr HBOX.out.below
       go_wp2_with fail
       refine (HQ.out _).mono ?_
       rintro e w3 ⟨rfl, hb⟩
       have HB3 := hid (HBOX.out.call hb)
       clear hb y0 x0 x6 x7
       obtain ⟨x0, x6, x7⟩ := HBX.out w3 HB3.out
       have hrg := hid (HRG.out _ HB3.out.below)
       go_wp2_with (first
         | (refine ldJ (.tmp 51) g2 (off2 + i * 8) cs2 hrg.out HI2.out ?_))
       refine (HK.out _ HB3.out.below).mono ?_
       rintro e w5 ⟨rfl, hb⟩
       have HB5 := hid (HB3.out.call hb)
       clear hb x0 x6 x7
       go_wp2_with fail
       exact ⟨⟨i + 1, a4, by omega, by go_num, rfl, HA4, HB5⟩, by simp [intOf]; omega⟩
   · obtain rfl : i = m := by omega
     have HL3 := HLE.out i
     rw [<- HACC.out] at HL3
     obtain ⟨b1, hb1⟩ : ∃ b1, b1 = [123] ++ acc := ⟨_, rfl⟩
     obtain ⟨b2, hb2⟩ : ∃ b2, b2 = b1 ++ [125] := ⟨_, rfl⟩
     have HE2 : Hid (b2 = 123 :: (tk i ++ [125])) := hid (by rw [hb2, hb1, HACC.out]; rfl)
     have l1 := congrArg List.length hb1
     have l2 := congrArg List.length hb2
     simp only [List.length_append, List.length_cons, List.length_nil] at l1 l2
     have r1 : ∀ W, (Op.stringOp .add ⟨#[123]⟩ (bs acc)).run Tryz.prog W = .ok (.string (bs b1)) W := fun W => add_ok (a := [123]) hb1 (by omega) W
     have r2 : ∀ W, (Op.stringOp .add (bs b1) ⟨#[125]⟩).run Tryz.prog W = .ok (.string (bs b2)) W := fun W => add_ok (b := [125]) hb2 (by omega) W
     clear l1 l2 hb1 hb2 HL3
     go_wp2_with fail
     go_ret
     exact ⟨by rw [HE2.out] <;> rfl, HBOX.out.below⟩
theorem dtext_ok : ∀ (n : Nat) (v : JV), SizeOf.sizeOf v <= n -> askJ v = true -> wJ v <= 2000000 -> ∀ (F : Nat -> Prop) (cs : Array Value) (w : World), JIs w F v cs.toList -> PowTab w ->
   Calls Tryz.prog 18 #[.agg cs] w fun e w' => e = .returned (.string (bs (tellJ v))) /\ Below w.heap.size w w' := by
 intro n
 induction n with
 | zero => intro v hv; cases v; simp at hv
 | succ n ih =>
   intro v hv ha hwj F cs w h hT
   obtain ⟨k, b, d, t, l, ns⟩ := v
   have hsz : ∀ x ∈ l, SizeOf.sizeOf x <= n := fun x hx => by
     have := List.sizeOf_lt_of_mem hx
     simp only [JV.mk.sizeOf_spec] at hv
     omega
   obtain ⟨_, hnl, hak, hn4, _⟩ := ask_facts ha
   unfold JIs at h
   obtain ⟨A, c, A', c', hcs, h1, h2, h3, h4, hnm, hkd⟩ := h
   have hcs' := Array.toList_inj.1 hcs
   subst hcs'
   rw [wJ] at hwj
   obtain ⟨dn, dl, dx⟩ := d
   have IH0 : ∀ x ∈ l, ∀ (cs : Array Value) (V : World), Below w.heap.size w V -> JIs V F x cs.toList -> Calls Tryz.prog 18 #[.agg cs] V fun e w' => e = .returned (.string (bs (tellJ x))) /\ Below V.heap.size V w' := fun x hx cs V hb hj =>
     ih x (hsz x hx) (hak x hx) (by have := wKids_mem hx; omega) F cs V hj (hT.below hb)
   rcases ask_cases ha with hc | hc | hc | hc | hc | hc
   · obtain rfl := hc.1
     rw [tellJ, if_pos rfl]
     exact text0 w b _ t A A' l.length c ns.length c'
   · obtain rfl := hc.1
     rw [tellJ, if_neg (by decide), if_pos rfl]
     exact text1 w b _ t A A' l.length c ns.length c'
   · obtain rfl := hc.1
     have hm : mayB ⟨dn, dl, dx⟩ = true := hc.2.2.1
     have he : tellJ (.mk 2 b ⟨dn, dl, dx⟩ t l ns) = textL ⟨dn, dl, dx⟩ := by
       rw [tellJ, if_neg (by decide), if_neg (by decide), if_pos rfl]
       unfold txL
       rw [if_pos hm]
     rw [he]
     exact text2 w b dn dl dx t A A' l.length c ns.length c' hT ((mayB_iff _).1 hm)
   · obtain rfl := hc.1
     rw [tellJ, if_neg (by decide), if_neg (by decide), if_neg (by decide), if_pos rfl]
     exact text3 w b _ t A A' l.length c ns.length c' (by omega)
   · obtain rfl := hc.1
     rw [tellJ, if_neg (by decide), if_neg (by decide), if_neg (by decide), if_neg (by decide), if_pos rfl]
     have e0 : ns = [] := hn4 (by decide)
     subst e0
     exact text4 w F b dn dl dx t l [] A A' c c' h1 h2 h3 h4 hnm hkd (by omega) IH0
   · obtain rfl := hc.1
     rw [tellJ, if_neg (by decide), if_neg (by decide), if_neg (by decide), if_neg (by decide), if_neg (by decide)]
     exact text5 w F b dn dl dx t l ns A A' c c' h1 h2 h3 h4 hnm hkd (by omega) (hnl rfl) IH0
end Go.Proofs.YtmhbkjjkalnggaaGreatDoor
