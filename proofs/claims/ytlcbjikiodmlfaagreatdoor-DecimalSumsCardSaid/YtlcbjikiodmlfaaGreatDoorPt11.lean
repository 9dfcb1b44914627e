/- Layer 7: which number is the greater one. -/
import Derived.Test.YtlcbjikiodmlfaaGreatDoorPt10
namespace Go.Proofs.YtlcbjikiodmlfaaGreatDoor
open Go.RowKit Go.Shelf
attribute [local go_sem] Oper.semAt_some

theorem lessAt_skip (a b : List Nat) (N : Nat) : ∀ j, j ≤ N → (∀ y ∈ frBack N j, wat a y.val = wat b y.val) → lessAt a b N = lessAt a b (N - j)
  | 0, _, _ => rfl
  | j + 1, hj, h => by
    rw [frBack_succ (by omega)] at h
    rw [lessAt_skip a b N j (by omega) fun y hy => h y (List.mem_append.2 (.inl hy))]
    have he := h ⟨N - 1 - j, by omega⟩ (by simp)
    have e : N - j = (N - (j + 1)) + 1 := by omega
    rw [e]
    have e2 : N - (j + 1) = N - 1 - j := by omega
    conv => lhs; unfold lessAt
    rw [e2, if_neg (by simpa using he)]
theorem lessAt_hit (a b : List Nat) (N : Nat) (j : Nat) (hj : j < N) (h : ∀ y ∈ frBack N j, wat a y.val = wat b y.val) (hx : wat a (N - 1 - j) ≠ wat b (N - 1 - j)) : lessAt a b N = decide (wat a (N - 1 - j) < wat b (N - 1 - j)) := by
  rw [lessAt_skip a b N j (by omega) h, show N - j = (N - 1 - j) + 1 by omega]
  unfold lessAt
  rw [if_pos hx]

/-- What a round of less leaves when it returns. -/
def LessX (w : World) (a b : List Nat) {N : Nat} (c : Code) (pre : List (Fin N)) (W : World) : Prop :=
  c = .ret ∧ (∃ pre' x, pre = pre' ++ [x] ∧ (∀ y ∈ pre', wat a y.val = wat b y.val) ∧ wat a x.val ≠ wat b x.val ∧ Row W (w.heap.size + 1) 4 #[.bool (decide (wat a x.val < wat b x.val))]) ∧ Below w.heap.size w W
theorem frBack_snoc {N j : Nat} (hj : j ≤ N) {pre : List (Fin N)} {x : Fin N} (h : pre ++ [x] = frBack N j) : ∃ k, j = k + 1 ∧ pre = frBack N k ∧ x.val = N - 1 - k := by
  have hl := congrArg List.length h
  rw [frBack_length hj, List.length_append, List.length_singleton] at hl
  refine ⟨pre.length, by omega, ?_⟩
  rw [← hl, frBack_succ (by omega)] at h
  have h2 := List.append_inj' h rfl
  refine ⟨h2.1, ?_⟩
  have h3 := h2.2
  injection h3 with h3 _
  rw [h3]

set_option maxRecDepth 100000 in
set_option maxHeartbeats 2000000 in
theorem less_at (A B : Option Addr) (c d N M : Nat) (a b : List Nat) (w : World) (hN : a.length = N) (hM : b.length = M) (ha : Wds w (.slice A N c) a) (hb : Wds w (.slice B M d) b) (hd1 : M ≤ d) (hn : N ≤ 2000000) (hn2 : M ≤ 2000000) :
    Calls Tryz.prog 43 #[.slice A N c, .slice B M d] w fun e w' => e = .returned (.bool (lessL a b)) ∧ Below w.heap.size w w' := by
  have HA := Lib.hid ha
  have HB := Lib.hid hb
  clear ha hb
  have HN := Lib.hid hN
  have HM := Lib.hid hM
  clear hN hM
  obtain ⟨w0, hw0⟩ : ∃ w0, w0 = (w.alloc (.cells #[.slice B M d] 46)).alloc (.cells #[.bool false] 4) := ⟨_, rfl⟩
  have hb0 : Below w.heap.size w w0 := by subst hw0; exact ((Below.refl _ _).alloc (Nat.le_refl _) _).alloc (by simp) _
  have hr0 : Row w0 w.heap.size 46 #[.slice B M d] := by subst hw0; exact (Row.new _ _ _).alloc _
  have hr1 : Row w0 (w.heap.size + 1) 4 #[.bool false] := by
    subst hw0
    have := Row.new (w.alloc (.cells #[.slice B M d] 46)) 4 #[.bool false]
    rwa [show (w.alloc (.cells #[.slice B M d] 46)).heap.size = w.heap.size + 1 by simp] at this
  have hz0 : w0.heap.size = w.heap.size + 2 := by subst hw0; simp
  have c0 := hr0.cell (i := 0) (v := .slice B M d) rfl
  have c1 := hr1.cell (i := 0) (v := .bool false) rfl
  have f1 := hr1.free 0
  have HB0 := Lib.hid hb0
  have HR0 := Lib.hid hr0
  have HR1 := Lib.hid hr1
  have HZ0 := Lib.hid hz0
  clear hb0 hr0 hr1 hz0
  refine (callsIn_wide (n := 3)).1 ?_
  refine callsIn_of_wp_marks Tryz.func43 rfl trivial ?_ rfl
  simp only [Tryz.ntmps43, List.size_toArray, List.length_cons, List.length_nil, Nat.reduceAdd, Nat.reduceSub, Array.replicate_succ, Array.replicate_zero, List.push_toArray, List.append_toArray, List.nil_append, List.cons_append]
  refine wpIn_wide.2 ?_
  go_upto_region 1 with fail
  rw [← hw0]
  clear hw0
  by_cases hlen : N = M
  · subst hlen
    go_wp2_with fail
    refine (back_ok (.slice A N c) a w w0 HA.out HB0.out).mono ?_
    rintro e w7 ⟨rfl, hk7, hb7, hz7⟩
    have HK7 := Lib.hid hk7
    have HR07 := Lib.hid (HR0.out.call hb7)
    have HR17 := Lib.hid (HR1.out.call hb7)
    have HB7 := Lib.hid (HB0.out.call hb7)
    have HZ7 := Lib.hid (show w7.heap.size = w.heap.size + 3 by rw [hz7, HZ0.out])
    have HBW := Lib.hid (HB.out.below (HB7.out))
    clear hk7 hb7 hz7 HR0 HR1 HB0 HB c0 c1 f1
    go_wp2_with fail
    refine (wpIn_wide (n := 4)).1 ?_
    refine wpIn_rangeFunc_ownF rfl (by omega) (gf := 77) (lb := #[.pointer (some ⟨w0.heap.size, 0, none⟩)]) rfl trivial (enters_of Tryz.func77 (by kernel_rfl) rfl)
      (back_stops w.heap.size w0.heap.size a N HN.out.symm (by omega) (Below w7.heap.size) (fun W W' hk hB => hB.below hk (by have := HZ7.out; have := HZ0.out; omega) (by have := HZ7.out; omega)) w7 (by have := HZ7.out; have := HZ0.out; omega) (by have := HZ7.out; omega) HK7.out)
      belowK_t (belowK_b (Nat.le_refl _)) (Below.refl _ _) (fun _ => rfl)
      (fun (pre : List (Fin N)) W => Below w7.heap.size w7 W ∧ ∀ x ∈ pre, wat a x.val = wat b x.val) (fun c pre W => LessX w a b c pre W) ?hI ?hIx ?h0 ?a1 ?assign ?body ?done ?stop
    case assign =>
      intro l' i W K hK
      simp only [oneWord]
      gi_wp2
      exact hK
    case hI =>
      rintro s W W' row ⟨h1, h2⟩ hg hr
      exact ⟨(ownFrom_below (Nat.le_refl _) (Nat.le_refl _) : OwnFrom w7.heap.size (fun (_ : List (Fin N)) W => Below w7.heap.size w7 W)) s W W' row h1 hg hr, h2⟩
    case hIx =>
      rintro c s W W' row ⟨h1, ⟨p', x, e1, e2, e3, e4⟩, h3⟩ hg hr
      exact ⟨h1, ⟨p', x, e1, e2, e3, e4.grown hg fun r e => (hr r e).2⟩, h3.grown hg (by have := h3.size; have := HZ7.out; omega) fun r e => by have := (hr r e).1; have := HZ7.out; omega⟩
    case h0 => exact ⟨Below.refl _ _, fun x hx => by cases hx⟩
    case stop =>
      rintro Dk c pre W hD ⟨j, hj, hpre⟩ ⟨rfl, ⟨p', x, rfl, hall, hne, hrow⟩, hbw⟩ hK
      obtain ⟨k, rfl, rfl, hx⟩ := frBack_snoc hj hpre
      have HL : Hid (lessL a b = decide (wat a x.val < wat b x.val)) := Lib.hid (by
        unfold lessL
        rw [HN.out, HM.out, if_neg (by simp), hx]
        rw [hx] at hne
        exact lessAt_hit a b N k (by omega) hall hne)
      have hc2 := cell_kept (hrow.cell (i := 0) (v := .bool (decide (wat a x.val < wat b x.val))) rfl) (grownBy_putObj' W Dk (.deferred none)) (fun r e => by cases e; exact ⟨_, hK, rfl⟩)
      have hbe : Below w.heap.size w (W.putObj Dk (.deferred none)) := hbw.trans (belowK_b (w := w) (Nat.le_refl _) W Dk _ (.deferred none) (by have := HZ7.out; omega) hK rfl rfl)
      have HKK := Lib.hid hK
      have HBE := Lib.hid hbe
      clear hrow hbw hK hbe hall hne
      refine wpIn_ret ?_
      simp only [Exit.inBlock, Exit.then]
      refine ⟨by simp, .inl ⟨_, _, rfl, run_takeDeferred HKK.out, ?_⟩⟩
      refine ⟨.bool (decide (wat a x.val < wat b x.val)), ?_, by rw [HL.out], HBE.out⟩
      simp [results, Tryz.f43, go_sem, hc2]
    case done =>
      rintro Dk ys W hD rfl ⟨hbx, hall⟩ hK
      have HL : Hid (lessL a b = false) := Lib.hid (by
        unfold lessL
        rw [HN.out, HM.out, if_neg (by simp), lessAt_skip a b N N (Nat.le_refl _) hall, Nat.sub_self]
        rfl)
      have hbw : Below w.heap.size w W := HB7.out.trans (hbx.mono HB7.out.size)
      have hrow := HR17.out.below hbx HR17.out.lt
      simp only [Exit.inBlock, Exit.then]
      have c9 := hrow.cell (i := 0) (v := .bool false) rfl
      have f9 := hrow.free 0
      have hne : w.heap.size + 1 ≠ Dk := by have := HZ7.out; omega
      have hK9 : (W.setCell ⟨w.heap.size + 1, 0, none⟩ (.bool false)).heap[Dk]? = some (.deferred (some [])) := (heap_setCell_other W ⟨w.heap.size + 1, 0, none⟩ Dk _ (by simpa using fun e => hne e.symm)).trans hK
      have hrow9 := hrow.set_ 0 (.bool false)
      have hc2 := cell_kept (hrow9.cell (i := 0) (v := .bool false) (by simp)) (grownBy_putObj' (W.setCell ⟨w.heap.size + 1, 0, none⟩ (.bool false)) Dk (.deferred none)) (fun r e => by cases e; exact ⟨_, hK9, rfl⟩)
      have hbe : Below w.heap.size w ((W.setCell ⟨w.heap.size + 1, 0, none⟩ (.bool false)).putObj Dk (.deferred none)) := (hbw.setCell (p := ⟨w.heap.size + 1, 0, none⟩) (Nat.le_succ _) _).trans (belowK_b (w := w) (Nat.le_refl _) _ Dk _ (.deferred none) (by have := HZ7.out; omega) hK9 rfl rfl)
      have HKK := Lib.hid hK9
      have HBE := Lib.hid hbe
      clear hrow hbw hK hbe hall hbx hrow9 hK9
      go_wp2_with fail
      refine ⟨by simp, .inl ⟨_, _, rfl, run_takeDeferred HKK.out, ?_⟩⟩
      refine ⟨.bool false, ?_, by rw [HL.out], HBE.out⟩
      simp [results, Tryz.f43, go_sem, hc2]
    case body =>
      rintro l' pre x W ⟨hI, hpre⟩ hlen
      have hxN := x.isLt
      obtain ⟨bb, off, cap, e1, _, hcap2, hbb, hcell⟩ := (HBW.out.below hI).at_ (by rw [HM.out]; omega)
      rw [HM.out] at e1
      injection e1 with e1 _ e3
      subst e1
      subst e3
      have k0 := (HR07.out.below hI HR07.out.lt).cell (i := 0) (v := .slice (some ⟨bb, off, none⟩) N d) rfl
      have kx := hcell x.val (by rw [HM.out]; omega)
      have hR1 := HR17.out.below hI HR17.out.lt
      have c1 := hR1.cell (i := 0) (v := .bool false) rfl
      have f1 := hR1.free 0
      have HI := Lib.hid hI
      have HR1 := Lib.hid hR1
      have hbnd := (HBW.out.1 x.val)
      have hbnda := HA.out.1 x.val
      clear hcell hI hR1
      by_cases he : wat a x.val = wat b x.val
      · have HP : Hid (∀ y ∈ pre ++ [x], wat a y.val = wat b y.val) := Lib.hid fun y hy => by
          rcases List.mem_append.1 hy with h | h
          · exact hpre y h
          · rw [List.mem_singleton.1 h]; exact he
        rw [he]
        clear hpre he
        generalize wat b x.val = y at *
        generalize x.val = i at *
        gi_wp2_with fail
        exact ⟨KeepsOthers.of_below (Below.refl _ _), Below.refl _ _, HI.out, HP.out⟩
      · have hRow := HR1.out.set_ 0 (.bool (decide (wat a x.val < wat b x.val)))
        have hbw : Below w.heap.size w (W.setCell ⟨w.heap.size + 1, 0, none⟩ (.bool (decide (wat a x.val < wat b x.val)))) := (HB7.out.trans (HI.out.mono HB7.out.size)).setCell (p := ⟨w.heap.size + 1, 0, none⟩) (Nat.le_succ _) _
        have HX : Hid (LessX w a b .ret (pre ++ [x]) (W.setCell ⟨w.heap.size + 1, 0, none⟩ (.bool (decide (wat a x.val < wat b x.val))))) := Lib.hid ⟨rfl, ⟨pre, x, rfl, hpre, he, by simpa using hRow⟩, hbw⟩
        have hne : ((wat a x.val : Int) == (wat b x.val : Int)) = false := by rw [beq_eq_false_iff_ne]; omega
        clear hRow hbw hpre he
        generalize wat b x.val = y at *
        generalize wat a x.val = z at *
        generalize x.val = i at *
        gi_wp2_with fail
        exact ⟨KeepsOthers.setCell _ _ _, HX.out⟩
  · have HL : Hid (lessL a b = decide (N < M)) := Lib.hid (by unfold lessL; rw [HN.out, HM.out, if_pos hlen])
    have hne : ((N : Int) == (M : Int)) = false := by rw [beq_eq_false_iff_ne]; omega
    have hrow9 := HR1.out.set_ 0 (.bool (decide (N < M)))
    have hc9 := hrow9.cell (i := 0) (v := .bool (decide (N < M))) (by simp)
    have hbe := HB0.out.setCell (p := ⟨w.heap.size + 1, 0, none⟩) (Nat.le_succ _) (.bool (decide (N < M)))
    have HBE := Lib.hid hbe
    clear hrow9 hbe
    go_wp2_with fail
    refine ⟨.bool (decide (N < M)), ?_, by rw [HL.out], HBE.out⟩
    simp [results, Tryz.f43, go_sem, hc9]
theorem less_ok (va vb : Value) (m n : Nat) (w : World) (ha : Wds w va (wds m)) (hb : Wds w vb (wds n)) (hn : (wds m).length ≤ 2000000) (hn2 : (wds n).length ≤ 2000000) :
    Calls Tryz.prog 43 #[va, vb] w fun e w' => e = .returned (.bool (decide (m < n))) ∧ Below w.heap.size w w' := by
  rw [← lessL_wds]
  have ha' := ha
  have hb' := hb
  obtain ⟨_, A, c, rfl, _⟩ := ha'
  obtain ⟨_, B, d, rfl, hd1, _⟩ := hb'
  exact less_at A B c d _ _ _ _ w rfl rfl ha hb hd1 hn hn2
end Go.Proofs.YtlcbjikiodmlfaaGreatDoor
