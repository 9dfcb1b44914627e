/- Layer 3: the sectors of a batch. -/
import Derived.Test.YtdaefhlfalhfnaaDoorPt14
import Derived.Test.YtdaefhlfalhfnaaDoorPt17
namespace Go.Proofs.YtdaefhlfalhfnaaDoor
open Go.RowKit Go.Shelf
attribute [local go_sem] Oper.semAt_some

/-- A sector of the body. -/
def secL (r j : Nat) (part : List Nat) : List Nat := over (over (over zsec 0 (leB 8 r ++ leB 4 j)) 12 part) 500 (leB 8 r ++ leB 4 j)
def partL (x : List Nat) (i : Nat) : List Nat := (x.drop (i * 488)).take 488
def cutP (r j0 : Nat) (x : List Nat) {N : Nat} (pre : List (Fin N)) : List Nat := pre.zipIdx.flatMap fun p => secL r (j0 + p.2) (partL x p.1.val)
theorem cutP_snoc (r j0 : Nat) (x : List Nat) {N : Nat} (pre : List (Fin N)) (i : Fin N) : cutP r j0 x (pre ++ [i]) = cutP r j0 x pre ++ secL r (j0 + pre.length) (partL x i.val) := by
  unfold cutP
  rw [List.zipIdx_append, List.flatMap_append]
  simp
theorem partL_len (x : List Nat) (i : Nat) : (partL x i).length = min 488 (x.length - i * 488) := by simp [partL]
theorem secL_len (r j : Nat) {part : List Nat} (h : part.length ≤ 488) : (secL r j part).length = 512 := by
  have hz := Sec.zero.1
  have h1 : (over zsec 0 (leB 8 r ++ leB 4 j)).length = 512 := by rw [over_length (by simp [leB_length, hz]), hz]
  have h2 : (over (over zsec 0 (leB 8 r ++ leB 4 j)) 12 part).length = 512 := by rw [over_length (by omega), h1]
  unfold secL
  rw [over_length (by simp [leB_length, h2]), h2]
theorem secL_small (r j : Nat) {part : List Nat} (h : Small part) : Small (secL r j part) :=
  over_small (over_small (over_small Sec.zero.2 ((leB_small _ _).append (leB_small _ _))) h) ((leB_small _ _).append (leB_small _ _))
theorem cutP_len (r j0 : Nat) (x : List Nat) {N : Nat} (pre : List (Fin N)) : (cutP r j0 x pre).length = pre.length * 512 := by
  unfold cutP
  have key : ∀ (l : List (Fin N)) (k : Nat), ((l.zipIdx k).flatMap fun p => secL r (j0 + p.2) (partL x p.1.val)).length = l.length * 512 := by
    intro l
    induction l with
    | nil => intro k; simp
    | cons a l ih =>
      intro k
      rw [List.zipIdx_cons, List.flatMap_cons, List.length_append, ih, secL_len _ _ (by rw [partL_len]; omega), List.length_cons]
      omega
  exact key pre 0
theorem cutP_small (r j0 : Nat) {x : List Nat} (hx : Small x) {N : Nat} (pre : List (Fin N)) : Small (cutP r j0 x pre) := by
  intro y hy
  obtain ⟨p, _, hp⟩ := List.mem_flatMap.1 hy
  exact secL_small _ _ ((hx.drop _).take _) y hp
theorem partL_small {x : List Nat} (hx : Small x) (i : Nat) : Small (partL x i) := (hx.drop _).take _

/-- What a round of cut's keeps. -/
def CutX (gm gs n5 : Nat) (k : Nat) : Prop := k = gm ∨ k = gs ∨ n5 ≤ k
structure CutI (W5 : World) (gm gs gb r j0 : Nat) (x : List Nat) {N : Nat} (pre : List (Fin N)) (W : World) : Prop where
  m : Row W gm 108 #[.int .u64 r, .int .u64 (j0 + pre.length : Nat)]
  s : ∃ v, Row W gs 41 #[v] ∧ Lies W (fun k => W5.heap.size ≤ k) 5 1 v (pre.length * 512) (cellsOf (cutP r j0 x pre))
  b : Row W gb 5 (cellsOf x).toArray
  kept : Kept (CutX gm gs W5.heap.size) W5 W
theorem cut_own {W5 : World} {gm gs gb r j0 : Nat} {x : List Nat} {N : Nat} : OwnFrom W5.heap.size (fun (pre : List (Fin N)) W => CutI W5 gm gs gb r j0 x pre W) := by
  intro pre W W' row h hg hr
  have hr2 : ∀ r, row = some r → ∃ o : Obj, W.heap[r]? = some o ∧ o.isCells = false := fun r e => (hr r e).2
  obtain ⟨v, h1, h2⟩ := h.s
  exact ⟨h.m.grown hg hr2, ⟨v, h1.grown hg hr2, h2.grown hg hr2⟩, h.b.grown hg hr2, kept_grown h.kept hg fun r e => .inr (.inr (hr r e).1)⟩

/-- A round of cut's, its memory: a sector made, marked, filled, marked again. -/
structure SecAt (W : World) (s : Nat) (l : List Nat) (W' : World) : Prop where
  row : Row W' s 5 (cellsOf l).toArray
  kept : Below W.heap.size W W'
  new : W.heap.size ≤ s
theorem SecAt.put {W W1 W2 : World} {s off : Nat} {l xs : List Nat} (h : SecAt W s l W1) (hp : Put W1 s off l xs W2) : SecAt W s (over l off xs) W2 :=
  ⟨hp.row, h.kept.trans (hp.kept.below h.kept.size fun k hk => by rcases hk with rfl | hk; exact h.new; exact Nat.le_trans h.kept.size hk), h.new⟩
theorem SecAt.copy {W W1 W2 : World} {s off : Nat} {l xs : List Nat} (h : SecAt W s l W1) (hr : Row W2 s 5 (cellsOf (over l off xs)).toArray) (hk : Kept (· = s) W1 W2) : SecAt W s (over l off xs) W2 :=
  ⟨hr, h.kept.trans (hk.below h.kept.size fun k hk => by subst hk; exact h.new), h.new⟩
theorem SecAt.drew {W W1 : World} {s : Nat} {l : List Nat} (h : SecAt W s l W1) : SecAt W s l W1.drew := ⟨h.row, h.kept.drew, h.new⟩
/-- The sector goes behind the others, and the place is one more. -/
theorem cut_next {W5 W W4 W6 : World} {gm gs gb r j0 s : Nat} {x l : List Nat} {N : Nat} {pre : List (Fin N)} {i : Fin N} {v v6 : Value} (h : CutI W5 gm gs gb r j0 x pre W) (hs : SecAt W s l W4) (hl : l = secL r (j0 + pre.length) (partL x i.val))
    (hgm : gm < W5.heap.size) (hgs : gs < W5.heap.size) (hgb : gb < W5.heap.size) (hms : gm ≠ gs) (hmb : gm ≠ gb) (hsb : gs ≠ gb)
    (h6 : Lies W6 (grow (fun k => W5.heap.size ≤ k) W4) 5 1 v6 (pre.length * 512 + 512) (cellsOf (cutP r j0 x pre) ++ cellsOf l)) (hk6 : Kept (fun g => W5.heap.size ≤ g ∧ Spare v g ∧ ∃ cur, W4.heap[g]? = some (.cells cur 5 (0, 0))) W4 W6) :
    CutI W5 gm gs gb r j0 x (pre ++ [i]) ((W6.setCell ⟨gs, 0, none⟩ v6).setCell ⟨gm, 1, none⟩ (.int .u64 (j0 + pre.length + 1 : Nat))) ∧
      Kept (CutX gm gs W5.heap.size) W ((W6.setCell ⟨gs, 0, none⟩ v6).setCell ⟨gm, 1, none⟩ (.int .u64 (j0 + pre.length + 1 : Nat))) ∧ KeepsOthers W ((W6.setCell ⟨gs, 0, none⟩ v6).setCell ⟨gm, 1, none⟩ (.int .u64 (j0 + pre.length + 1 : Nat))) := by
  have hsz : W5.heap.size ≤ W.heap.size := h.kept.size
  have hb4 := hs.kept
  have hm6 : Row W6 gm _ _ := (h.m.call hb4).kept hk6 (fun hx => by have := hx.1; omega)
  obtain ⟨v0, hv0, _⟩ := h.s
  have hs6 : Row W6 gs _ _ := (hv0.call hb4).kept hk6 (fun hx => by have := hx.1; omega)
  have hb6 : Row W6 gb _ _ := (h.b.call hb4).kept hk6 (fun hx => by have := hx.1; omega)
  have hkx : Kept (CutX gm gs W5.heap.size) W ((W6.setCell ⟨gs, 0, none⟩ v6).setCell ⟨gm, 1, none⟩ (.int .u64 (j0 + pre.length + 1 : Nat))) :=
    (((hb4.kept (F := CutX gm gs W5.heap.size)).trans' (hk6.mono fun k _ hk => .inr (.inr hk.1))).trans' ((Kept.cell W6 gs 0 v6).mono fun k _ e => .inr (.inl e))).trans' ((Kept.cell _ gm 1 _).mono fun k _ e => .inl e)
  refine ⟨⟨?_, ⟨v6, ?_, ?_⟩, ?_, h.kept.trans' hkx⟩, hkx, ((KeepsOthers.of_below hb4).trans (KeepsOthers.of_spare hk6)).trans ((KeepsOthers.setCell _ _ _).trans (KeepsOthers.setCell _ _ _))⟩
  · have h9 := (hm6.far (p := ⟨gs, 0, none⟩) hms v6).set_ 1 (.int .u64 (j0 + pre.length + 1 : Nat))
    rw [List.length_append, List.length_singleton, ← Nat.add_assoc]
    simpa using h9
  · have h9 := (hs6.set_ 0 v6).far (p := ⟨gm, 1, none⟩) (fun e => hms e.symm) (.int .u64 (j0 + pre.length + 1 : Nat))
    simpa using h9
  · rw [cutP_snoc, ← hl, cellsOf_append, List.length_append, List.length_singleton, Nat.add_mul, Nat.one_mul]
    refine ((h6.mono fun k hk => ?_).row hs6 (by decide) (Kept.cell _ _ _ _)).row ((hm6.far (p := ⟨gs, 0, none⟩) hms v6)) (by decide) (Kept.cell _ _ _ _)
    rcases hk with hk | hk
    · exact hk
    · exact Nat.le_trans hsz (Nat.le_trans hb4.size hk)
  · exact (hb6.far (p := ⟨gs, 0, none⟩) (fun e => hsb e.symm) v6).far (p := ⟨gm, 1, none⟩) (fun e => hmb e.symm) _
theorem partL_min (x : List Nat) (i : Nat) : (x.drop (i * 488)).take (min 488 (x.length - i * 488)) = partL x i := by
  unfold partL
  rcases Nat.le_total 488 (x.length - i * 488) with h | h
  · rw [Nat.min_eq_left h]
  · rw [Nat.min_eq_right h, List.take_of_length_le (by simp), List.take_of_length_le (by simp; omega)]
theorem Bytes.source {w : World} {A : Option Addr} {n : Nat} {l : List Nat} (h : Bytes w A n l) : Source w A n (cellsOf l) := by
  rcases Nat.eq_zero_or_pos n with h0 | h0
  · exact .inl h0
  · obtain ⟨b, off, e, _, hc⟩ := h.at_ h0
    exact .inr ⟨_, e, hc⟩
theorem Bytes.of_holds {w : World} {A : Option Addr} {n : Nat} {l : List Nat} (h : Holds w A n 1 (cellsOf l)) (hs : Small l) : Bytes w A n l := by
  have hl : l.length = n := by have := h.1; rw [cellsOf_length] at this; omega
  refine ⟨hl, hs, fun h0 => ?_⟩
  obtain ⟨b, off, e, hb, hr⟩ := h.2 h0
  exact ⟨b, off, e, hb, fun i hi => hr i _ (cellsOf_get l (by omega))⟩
end Go.Proofs.YtdaefhlfalhfnaaDoor
/- Layer 3: slices.Clone of bytes, and of batches. -/
namespace Go.Proofs.YtdaefhlfalhfnaaDoor
open Go.RowKit

/-- The Clone's value: bytes of its own. -/
def ByteClone (w : World) (l : List Nat) (en : Ending) (w' : World) : Prop :=
  ∃ A c, en = .returned (.slice A l.length c) ∧ Lies w' (grow noBlock w) 5 1 (.slice A l.length c) l.length (cellsOf l) ∧ Below w.heap.size w w'
theorem lies_bytes {w : World} {F : Nat → Prop} {v : Value} {n : Nat} {l : List Nat} (h : Lies w F 5 1 v n (cellsOf l)) (hs : Small l) : ∃ A c, v = .slice A n c ∧ Bytes w A n l ∧ n ≤ c ∧ c ≤ maxLen ∧ ∀ a, 0 < n → A = some a → F a.block := by
  obtain ⟨A, c, rfl, h1, h2, hh⟩ := h.holds
  refine ⟨A, c, rfl, Bytes.of_holds hh hs, h1, h2, fun a h0 e => ?_⟩
  obtain ⟨g, off, cap, hv, hg, _⟩ := h.cells h0
  injection hv with hv _ _
  rw [e] at hv
  injection hv with hv
  subst hv
  exact hg
theorem cloneBytes (A : Option Addr) (c : Nat) (l : List Nat) (w : World) (h : Bytes w A l.length l) (hn : l.length ≤ 140737488355328) :
    Calls Tryd.prog 40 #[.slice A l.length c] w (ByteClone w l) := by
  have hq := fun (w : World) (a : Option Addr) (n c : Nat) => Lib.run_eql_slice_nil (P := Tryd.prog) w 41 5 a n c 0 0 Tryd.underlying41
  rcases A with _ | a
  · have hl : Hid (l.length = 0) := Lib.hid (by
      rcases Nat.eq_zero_or_pos l.length with h0 | h0
      · exact h0
      · obtain ⟨_, _, h1, _⟩ := h.2.2 h0; cases h1)
    clear h
    go_enter Tryd.func40, Tryd.ntmps40
    go_wp2
    go_ret
    obtain rfl : l = [] := List.eq_nil_of_length_eq_zero hl.out
    exact ⟨none, 0, rfl, Lies.empty _ _ _ _ _, Below.refl _ _⟩
  · have hsrc : Hid (Source (w.alloc (.cells #[] 5)) (some a) l.length (cellsOf l)) := Lib.hid (h.below ((Below.refl _ _).alloc (Nat.le_refl _) _)).source
    have hcl : (cellsOf l).length = l.length * 1 := by rw [cellsOf_length, Nat.mul_one]
    clear h
    go_enter Tryd.func40, Tryd.ntmps40
    go_wp2_with (first
      | (at_builtin
         refine wpList_append_any ?_ (grow noBlock w) (.tmp 5) (.tmp 6) 41 ?_ 5 1 1 (.int .u8 0) Tryd.underlying41 infoU8s rfl (by decide) _ 0 [] ?_ (Lies.empty _ _ _ _ (some ⟨w.heap.size, 0, none⟩)) (some a) l.length c (cellsOf l) ?_ hcl hsrc.out (cellsOf_one l) (by omega) (by decide) ?_
         · with_reducible rfl
         · with_reducible rfl
         · rfl
         · rfl
         intro v' w' hl' hk'))
    go_ret
    have hl2 : Lies w' (grow noBlock w) 5 1 v' l.length (cellsOf l) := by
      simpa using hl'.mono fun k hk => by
        rcases hk with hk | hk
        · exact hk
        · exact .inr (by simp at hk; omega)
    obtain ⟨A', c', rfl, _, _⟩ := hl2.form
    exact ⟨A', c', rfl, hl2, ((Below.refl _ _).alloc (Nat.le_refl _) _).trans (hk'.below (by simp) fun k hk => by
        rcases hk.1 with h1 | h1
        · exact h1.elim
        · exact h1)⟩
theorem infoBats : (Tryd.prog.info? 41).map (fun i => (i.zero, i.size, i.bytes)) = some (some (.slice none 0 0), 1, 24) := by kernel_rfl
theorem cloneBats (A : Option Addr) (c : Nat) (xs : List Bat) (w : World) (h : Holds w A xs.length 1 (bvs xs)) (hn : xs.length ≤ 1000000) :
    Calls Tryd.prog 58 #[.slice A xs.length c] w (CloneOf w 41 1 xs.length (bvs xs)) := by
  have hq := fun (w : World) (a : Option Addr) (n c : Nat) => Lib.run_eql_slice_nil (P := Tryd.prog) w 36 41 a n c 0 0 Tryd.underlying36
  rcases A with _ | a
  · have hl : Hid (xs.length = 0) := Lib.hid (by
      rcases Nat.eq_zero_or_pos xs.length with h0 | h0
      · exact h0
      · obtain ⟨_, _, h1, _⟩ := h.2 h0; cases h1)
    clear h
    go_enter Tryd.func58, Tryd.ntmps58
    go_wp2
    go_ret
    obtain rfl : xs = [] := List.eq_nil_of_length_eq_zero hl.out
    exact ⟨_, rfl, Lies.empty _ _ _ _ _, Below.refl _ _⟩
  · have hsrc : Hid (Source (w.alloc (.cells #[] 41)) (some a) xs.length (bvs xs)) := Lib.hid (h.below ((Below.refl _ _).alloc (Nat.le_refl _) _)).source
    have hcl : (bvs xs).length = xs.length * 1 := by simp [bvs]
    clear h
    go_enter Tryd.func58, Tryd.ntmps58
    go_wp2_with (first
      | (at_builtin
         refine wpList_append_any ?_ (grow noBlock w) (.tmp 5) (.tmp 6) 36 ?_ 41 1 24 (.slice none 0 0) Tryd.underlying36 infoBats rfl (by decide) _ 0 [] ?_ (Lies.empty _ _ _ _ (some ⟨w.heap.size, 0, none⟩)) (some a) xs.length c (bvs xs) ?_ hcl hsrc.out (bvs_one xs) (by omega) (by decide) ?_
         · with_reducible rfl
         · with_reducible rfl
         · rfl
         · rfl
         intro v' w' hl' hk'))
    go_ret
    refine ⟨v', rfl, ?_, ?_⟩
    · simpa using hl'.mono fun k hk => by
        rcases hk with hk | hk
        · exact hk
        · exact .inr (by simp at hk; omega)
    · exact ((Below.refl _ _).alloc (Nat.le_refl _) _).trans (hk'.below (by simp) fun k hk => by
        rcases hk.1 with h1 | h1
        · exact h1.elim
        · exact h1)
end Go.Proofs.YtdaefhlfalhfnaaDoor
