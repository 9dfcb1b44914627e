/- Layer 3: the sectors of a batch. -/
import Derived.Test.YtljlkmmeedlaiaaDoorPt13
import Derived.Test.YtljlkmmeedlaiaaDoorPt16
import Derived.Test.YtljlkmmeedlaiaaDoorPt03
namespace Go.Proofs.YtljlkmmeedlaiaaDoor
open Go.RowKit Go.Shelf
attribute [local go_sem] Oper.semAt_some

/-- A sector of the body. -/
def secL (r j : Nat) (part : List Nat) : List Nat := over (over (over zsec 0 (leB 8 r ++ leB 4 j)) 12 part) 500 (leB 8 r ++ leB 4 j)
def partL (x : List Nat) (i : Nat) : List Nat := (x.drop (i * 488)).take 488
def cutP (r j0 : Nat) (x : List Nat) {N : Nat} (pre : List (Fin N)) : List Nat := pre.zipIdx.flatMap fun p => secL r (j0 + p.2) (partL x p.1.val)
theorem cutP_snoc (r j0 : Nat) (x : List Nat) {N : Nat} (pre : List (Fin N)) (i : Fin N) : cutP r j0 x (pre ++ [i]) = cutP r j0 x pre ++ secL r (j0 + pre.length) (partL x i.val) := by
  unfold cutP
  rw [List.zipIdx_append, List.flatMap_append]
  simp
theorem partL_len (x : List Nat) (i : Nat) : (partL x i).length = min 488 (x.length - i * 488) := by simp [partL]
theorem secL_len (r j : Nat) {part : List Nat} (h : part.length ≤ 488) : (secL r j part).length = 512 := by
  have hz := Sec.zero.1
  have h1 : (over zsec 0 (leB 8 r ++ leB 4 j)).length = 512 := by rw [over_length (by simp [leB_length, hz]), hz]
  have h2 : (over (over zsec 0 (leB 8 r ++ leB 4 j)) 12 part).length = 512 := by rw [over_length (by omega), h1]
  unfold secL
  rw [over_length (by simp [leB_length, h2]), h2]
theorem secL_small (r j : Nat) {part : List Nat} (h : Small part) : Small (secL r j part) :=
  over_small (over_small (over_small Sec.zero.2 ((leB_small _ _).append (leB_small _ _))) h) ((leB_small _ _).append (leB_small _ _))
theorem cutP_len (r j0 : Nat) (x : List Nat) {N : Nat} (pre : List (Fin N)) : (cutP r j0 x pre).length = pre.length * 512 := by
  unfold cutP
  have key : ∀ (l : List (Fin N)) (k : Nat), ((l.zipIdx k).flatMap fun p => secL r (j0 + p.2) (partL x p.1.val)).length = l.length * 512 := by
    intro l
    induction l with
    | nil => intro k; simp
    | cons a l ih =>
      intro k
      rw [List.zipIdx_cons, List.flatMap_cons, List.length_append, ih, secL_len _ _ (by rw [partL_len]; omega), List.length_cons]
      omega
  exact key pre 0
theorem cutP_small (r j0 : Nat) {x : List Nat} (hx : Small x) {N : Nat} (pre : List (Fin N)) : Small (cutP r j0 x pre) := by
  intro y hy
  obtain ⟨p, _, hp⟩ := List.mem_flatMap.1 hy
  exact secL_small _ _ ((hx.drop _).take _) y hp
theorem partL_small {x : List Nat} (hx : Small x) (i : Nat) : Small (partL x i) := (hx.drop _).take _

/-- What a round of cut's keeps. -/
def CutX (gm gs n5 : Nat) (k : Nat) : Prop := k = gm ∨ k = gs ∨ n5 ≤ k
structure CutI (W5 : World) (gm gs gb r j0 : Nat) (x : List Nat) {N : Nat} (pre : List (Fin N)) (W : World) : Prop where
  m : Row W gm 108 #[.int .u64 r, .int .u64 (j0 + pre.length : Nat)]
  s : ∃ v, Row W gs 41 #[v] ∧ Lies W (fun k => W5.heap.size ≤ k) 5 1 v (pre.length * 512) (cellsOf (cutP r j0 x pre))
  b : Row W gb 5 (cellsOf x).toArray
  kept : Kept (CutX gm gs W5.heap.size) W5 W
theorem cut_own {W5 : World} {gm gs gb r j0 : Nat} {x : List Nat} {N : Nat} : OwnFrom W5.heap.size (fun (pre : List (Fin N)) W => CutI W5 gm gs gb r j0 x pre W) := by
  intro pre W W' row h hg hr
  have hr2 : ∀ r, row = some r → ∃ o : Obj, W.heap[r]? = some o ∧ o.isCells = false := fun r e => (hr r e).2
  obtain ⟨v, h1, h2⟩ := h.s
  exact ⟨h.m.grown hg hr2, ⟨v, h1.grown hg hr2, h2.grown hg hr2⟩, h.b.grown hg hr2, kept_grown h.kept hg fun r e => .inr (.inr (hr r e).1)⟩

/-- A round of cut's, its memory: a sector made, marked, filled, marked again. -/
structure SecAt (W : World) (s : Nat) (l : List Nat) (W' : World) : Prop where
  row : Row W' s 5 (cellsOf l).toArray
  kept : Below W.heap.size W W'
  new : W.heap.size ≤ s
theorem SecAt.put {W W1 W2 : World} {s off : Nat} {l xs : List Nat} (h : SecAt W s l W1) (hp : Put W1 s off l xs W2) : SecAt W s (over l off xs) W2 :=
  ⟨hp.row, h.kept.trans (hp.kept.below h.kept.size fun k hk => by rcases hk with rfl | hk; exact h.new; exact Nat.le_trans h.kept.size hk), h.new⟩
theorem SecAt.copy {W W1 W2 : World} {s off : Nat} {l xs : List Nat} (h : SecAt W s l W1) (hr : Row W2 s 5 (cellsOf (over l off xs)).toArray) (hk : Kept (· = s) W1 W2) : SecAt W s (over l off xs) W2 :=
  ⟨hr, h.kept.trans (hk.below h.kept.size fun k hk => by subst hk; exact h.new), h.new⟩
theorem SecAt.drew {W W1 : World} {s : Nat} {l : List Nat} (h : SecAt W s l W1) : SecAt W s l W1.drew := ⟨h.row, h.kept.drew, h.new⟩
/-- The sector goes behind the others, and the place is one more. -/
theorem cut_next {W5 W W4 W6 : World} {gm gs gb r j0 s : Nat} {x l : List Nat} {N : Nat} {pre : List (Fin N)} {i : Fin N} {v v6 : Value} (h : CutI W5 gm gs gb r j0 x pre W) (hs : SecAt W s l W4) (hl : l = secL r (j0 + pre.length) (partL x i.val))
    (hgm : gm < W5.heap.size) (hgs : gs < W5.heap.size) (hgb : gb < W5.heap.size) (hms : gm ≠ gs) (hmb : gm ≠ gb) (hsb : gs ≠ gb)
    (h6 : Lies W6 (grow (fun k => W5.heap.size ≤ k) W4) 5 1 v6 (pre.length * 512 + 512) (cellsOf (cutP r j0 x pre) ++ cellsOf l)) (hk6 : Kept (fun g => W5.heap.size ≤ g ∧ Spare v g ∧ ∃ cur, W4.heap[g]? = some (.cells cur 5 (0, 0))) W4 W6) :
    CutI W5 gm gs gb r j0 x (pre ++ [i]) ((W6.setCell ⟨gs, 0, none⟩ v6).setCell ⟨gm, 1, none⟩ (.int .u64 (j0 + pre.length + 1 : Nat))) ∧
      Kept (CutX gm gs W5.heap.size) W ((W6.setCell ⟨gs, 0, none⟩ v6).setCell ⟨gm, 1, none⟩ (.int .u64 (j0 + pre.length + 1 : Nat))) ∧ KeepsOthers W ((W6.setCell ⟨gs, 0, none⟩ v6).setCell ⟨gm, 1, none⟩ (.int .u64 (j0 + pre.length + 1 : Nat))) := by
  have hsz : W5.heap.size ≤ W.heap.size := h.kept.size
  have hb4 := hs.kept
  have hm6 : Row W6 gm _ _ := (h.m.call hb4).kept hk6 (fun hx => by have := hx.1; omega)
  obtain ⟨v0, hv0, _⟩ := h.s
  have hs6 : Row W6 gs _ _ := (hv0.call hb4).kept hk6 (fun hx => by have := hx.1; omega)
  have hb6 : Row W6 gb _ _ := (h.b.call hb4).kept hk6 (fun hx => by have := hx.1; omega)
  have hkx : Kept (CutX gm gs W5.heap.size) W ((W6.setCell ⟨gs, 0, none⟩ v6).setCell ⟨gm, 1, none⟩ (.int .u64 (j0 + pre.length + 1 : Nat))) :=
    (((hb4.kept (F := CutX gm gs W5.heap.size)).trans' (hk6.mono fun k _ hk => .inr (.inr hk.1))).trans' ((Kept.cell W6 gs 0 v6).mono fun k _ e => .inr (.inl e))).trans' ((Kept.cell _ gm 1 _).mono fun k _ e => .inl e)
  refine ⟨⟨?_, ⟨v6, ?_, ?_⟩, ?_, h.kept.trans' hkx⟩, hkx, ((KeepsOthers.of_below hb4).trans (KeepsOthers.of_spare hk6)).trans ((KeepsOthers.setCell _ _ _).trans (KeepsOthers.setCell _ _ _))⟩
  · have h9 := (hm6.far (p := ⟨gs, 0, none⟩) hms v6).set_ 1 (.int .u64 (j0 + pre.length + 1 : Nat))
    rw [List.length_append, List.length_singleton, ← Nat.add_assoc]
    simpa using h9
  · have h9 := (hs6.set_ 0 v6).far (p := ⟨gm, 1, none⟩) (fun e => hms e.symm) (.int .u64 (j0 + pre.length + 1 : Nat))
    simpa using h9
  · rw [cutP_snoc, ← hl, cellsOf_append, List.length_append, List.length_singleton, Nat.add_mul, Nat.one_mul]
    refine ((h6.mono fun k hk => ?_).row hs6 (by decide) (Kept.cell _ _ _ _)).row ((hm6.far (p := ⟨gs, 0, none⟩) hms v6)) (by decide) (Kept.cell _ _ _ _)
    rcases hk with hk | hk
    · exact hk
    · exact Nat.le_trans hsz (Nat.le_trans hb4.size hk)
  · exact (hb6.far (p := ⟨gs, 0, none⟩) (fun e => hsb e.symm) v6).far (p := ⟨gm, 1, none⟩) (fun e => hmb e.symm) _
theorem partL_min (x : List Nat) (i : Nat) : (x.drop (i * 488)).take (min 488 (x.length - i * 488)) = partL x i := by
  unfold partL
  rcases Nat.le_total 488 (x.length - i * 488) with h | h
  · rw [Nat.min_eq_left h]
  · rw [Nat.min_eq_right h, List.take_of_length_le (by simp), List.take_of_length_le (by simp; omega)]
theorem Bytes.source {w : World} {A : Option Addr} {n : Nat} {l : List Nat} (h : Bytes w A n l) : Source w A n (cellsOf l) := by
  rcases Nat.eq_zero_or_pos n with h0 | h0
  · exact .inl h0
  · obtain ⟨b, off, e, _, hc⟩ := h.at_ h0
    exact .inr ⟨_, e, hc⟩
theorem Bytes.of_holds {w : World} {A : Option Addr} {n : Nat} {l : List Nat} (h : Holds w A n 1 (cellsOf l)) (hs : Small l) : Bytes w A n l := by
  have hl : l.length = n := by have := h.1; rw [cellsOf_length] at this; omega
  refine ⟨hl, hs, fun h0 => ?_⟩
  obtain ⟨b, off, e, hb, hr⟩ := h.2 h0
  exact ⟨b, off, e, hb, fun i hi => hr i _ (cellsOf_get l (by omega))⟩
end Go.Proofs.YtljlkmmeedlaiaaDoor
/- Layer 2: are all fates of a kind that is (Right of package lexiconref02)? -/
namespace Go.Proofs.YtljlkmmeedlaiaaDoor
open Go.RowKit

set_option maxHeartbeats 1000000 in
theorem right_ok (A : Option Addr) (c : Nat) (l : List (Int × Int)) (w : World) (h : Holds w A l.length 2 (fcs l)) (hc : l.length ≤ c) (hcm : c ≤ 9223372036854775807) :
    Calls Tryd.prog 21 #[.slice A l.length c] w fun e w' => e = .returned (.bool (kindsB l)) ∧ w = w' := by
  have H := Lib.hid h
  clear h
  go_enter Tryd.func21, Tryd.ntmps21
  go_wp2_with fail
  go_loop [3] (fun v3 => ∃ k : Nat, k ≤ l.length ∧ v3 = .int .i64 k ∧ kindsB (l.take k) = true) (fun v3 => l.length - (intOf v3).toNat)
  case atStart => exact ⟨0, Nat.zero_le _, rfl, by simp [kindsB]⟩
  case round =>
    obtain ⟨k, hk, rfl, hkb⟩ := hrel
    by_cases hlt : k < l.length
    · obtain ⟨b, off, rfl, hbl, hc0, hc1⟩ := fate_cells H.out hlt
      have HT := Lib.hid (kinds_take l k hlt)
      have HF := Lib.hid (kinds_false l k hlt)
      have HK := Lib.hid hkb
      clear hkb
      generalize hp : l.getD k (0, 0) = q at *
      obtain ⟨x, y⟩ := q
      clear hp
      simp only at hc0
      rcases (by omega : x < 0 ∨ x = 0 ∨ x = 1 ∨ 1 < x) with hx | rfl | rfl | hx
      · have HK2 : Hid (kindsB l = false) := Lib.hid (HF.out (by simp [kindOk]; omega))
        clear HT HF HK
        go_wp2
        go_ret
        exact ⟨ret_val (by rw [HK2.out]; rfl), rfl⟩
      · have HK2 : Hid (kindsB (l.take (k + 1)) = true) := Lib.hid (by rw [HT.out, HK.out]; rfl)
        clear HT HF HK
        go_wp2
        go_round
        case rel => exact ⟨k + 1, by omega, by go_num, HK2.out⟩
        case measure => simp [intOf]; omega
      · have HK2 : Hid (kindsB (l.take (k + 1)) = true) := Lib.hid (by rw [HT.out, HK.out]; rfl)
        clear HT HF HK
        go_wp2
        go_round
        case rel => exact ⟨k + 1, by omega, by go_num, HK2.out⟩
        case measure => simp [intOf]; omega
      · have HK2 : Hid (kindsB l = false) := Lib.hid (HF.out (by simp [kindOk]; omega))
        clear HT HF HK
        go_wp2
        go_ret
        exact ⟨ret_val (by rw [HK2.out]; rfl), rfl⟩
    · obtain rfl : k = l.length := by omega
      rw [List.take_length] at hkb
      have HK := Lib.hid hkb
      clear hkb
      go_wp2
      go_ret
      exact ⟨ret_val (by rw [HK.out]; rfl), rfl⟩
end Go.Proofs.YtljlkmmeedlaiaaDoor
