/- Layer 8: sort.Sort over two members, b ahead of a. -/
import Derived.Test.YtjckojedafajeaaGreatDoorPt28
import Derived.Shelf.Abstract
import Derived.Test.YtjckojedafajeaaGreatDoorPt22
import Derived.Test.YtjckojedafajeaaGreatDoorPt15
namespace Go.Proofs.YtjckojedafajeaaGreatDoor
open Go.RowKit
/-- A method of a value in an interface: which function it is, and that it is entered. -/
structure Meth (T : TypeId) (rv : Value) (name : String) (f : Nat) : Prop where
  finds : ∀ w, (method (Tryz.prog.types.size + Made.depth) T rv name).run Tryz.prog w = .ok (f, rv) w
  enters : ∀ args w, (callFunc f args).run Tryz.prog w = .ok (.enter f args) w
theorem two_reachN (nb no cn lb lo cl : Nat) : Meth 112 (twoV nb no cn lb lo cl) "Len" 218 := ⟨fun _ => by kernel_rfl, enters_of Tryz.func218 (by kernel_rfl) rfl⟩
theorem two_reachL (nb no cn lb lo cl : Nat) : Meth 112 (twoV nb no cn lb lo cl) "Less" 219 := ⟨fun _ => by kernel_rfl, enters_of Tryz.func219 (by kernel_rfl) rfl⟩
theorem two_reachS (nb no cn lb lo cl : Nat) : Meth 112 (twoV nb no cn lb lo cl) "Swap" 220 := ⟨fun _ => by kernel_rfl, enters_of Tryz.func220 (by kernel_rfl) rfl⟩
def TwoPost (nb no cn lb lo cl : Nat) (c0 c1 : Array Value) (W : World) (e : Ending) (w' : World) : Prop := e = .returned (.tuple #[]) ∧ Two w' nb no cn lb lo cl ⟨#[97]⟩ ⟨#[98]⟩ c1.toList c0.toList ∧ Kept (fun q => q = nb ∨ q = lb) W w'
set_option maxRecDepth 1000000 in
set_option maxHeartbeats 8000000 in
theorem two_ins (nb no cn lb lo cl : Nat) (c0 c1 : Array Value) (W : World) (h : Two W nb no cn lb lo cl ⟨#[98]⟩ ⟨#[97]⟩ c0.toList c1.toList) (ho0 : c0.all (·.oneCell') = true) (ho1 : c1.all (·.oneCell') = true) :
    Calls Tryz.prog 129 #[.iface 112 (twoV nb no cn lb lo cl), .int .i64 0, .int .i64 2] W (TwoPost nb no cn lb lo cl c0 c1 W) := by
  obtain ⟨rv, hrv⟩ : ∃ rv, rv = twoV nb no cn lb lo cl := ⟨_, rfl⟩
  have HL := Lib.hid (two_less nb no cn lb lo cl c0.toList c1.toList W h)
  have HS := Lib.hid (fun V (hb : Below W.heap.size W V) => two_swap nb no cn lb lo cl c0 c1 V (h.below hb) ho0 ho1)
  have rL := two_reachL nb no cn lb lo cl
  have rS := two_reachS nb no cn lb lo cl
  rw [← hrv] at rL rS HL HS ⊢
  have mL := rL.finds
  simp [Made.depth] at mL
  have mS := rS.finds
  simp [Made.depth] at mS
  have eL := rL.enters
  have eS := rS.enters
  clear hrv h ho0 ho1 rL rS
  go_enter Tryz.func129, Tryz.ntmps129
  go_wp2
  go_loopw [6] (fun v6 wr => (v6 = .int .i64 1 ∧ Hid (wr = W)) ∨ (v6 = .int .i64 2 ∧ Hid (TwoPost nb no cn lb lo cl c0 c1 W (.returned (.tuple #[])) wr))) (fun v6 _ => 2 - (intOf v6).toNat)
  case atStart => exact .inl ⟨rfl, Lib.hid rfl⟩
  case round =>
    rcases hrel with ⟨rfl, hw⟩ | ⟨rfl, HF⟩
    · obtain rfl := hw.out
      go_wp2_with fail
      go_loopw [7] (fun v7 wq => (v7 = .int .i64 1 ∧ Hid (wq = wr)) ∨ (v7 = .int .i64 0 ∧ Hid (TwoPost nb no cn lb lo cl c0 c1 wr (.returned (.tuple #[])) wq))) (fun v7 _ => (intOf v7).toNat)
      case atStart => exact .inl ⟨rfl, Lib.hid rfl⟩
      case round =>
        rcases hrel with ⟨rfl, hw2⟩ | ⟨rfl, HF⟩
        · obtain rfl := hw2.out
          go_wp2_with fail
          refine HL.out.mono ?_
          rintro e w1 ⟨rfl, hb⟩
          have HSW := Lib.hid (HS.out w1 hb)
          have HKB : Hid (Kept (fun q => q = nb ∨ q = lb) wr w1) := Lib.hid (kept_mono (F := fun _ => False) (keptOf_below hb) fun _ e => e.elim)
          clear hb
          go_wp2_with fail
          refine HSW.out.mono ?_
          rintro e w2 ⟨rfl, ht, hk⟩
          have HF : Hid (TwoPost nb no cn lb lo cl c0 c1 wr (.returned (.tuple #[])) w2) := Lib.hid ⟨rfl, ht, HKB.out.trans' hk⟩
          clear ht hk
          go_wp2_with fail
          exact ⟨.inr ⟨rfl, HF⟩, by simp [intOf]⟩
        · go_wp2_with fail
          exact ⟨.inr ⟨rfl, HF⟩, by simp [intOf]⟩
    · go_wp2_with fail
      go_end0
      exact HF.out
set_option maxRecDepth 1000000 in
set_option maxHeartbeats 8000000 in
theorem two_pdq (nb no cn lb lo cl : Nat) (lim : Int) (c0 c1 : Array Value) (W : World) (h : Two W nb no cn lb lo cl ⟨#[98]⟩ ⟨#[97]⟩ c0.toList c1.toList) (ho0 : c0.all (·.oneCell') = true) (ho1 : c1.all (·.oneCell') = true) :
    Calls Tryz.prog 105 #[.iface 112 (twoV nb no cn lb lo cl), .int .i64 0, .int .i64 2, .int .i64 lim] W (TwoPost nb no cn lb lo cl c0 c1 W) := by
  have HI := Lib.hid (two_ins nb no cn lb lo cl c0 c1 W h ho0 ho1)
  generalize twoV nb no cn lb lo cl = rv at *
  clear h ho0 ho1
  go_enter Tryz.func105, Tryz.ntmps105
  go_wp2
  go_loopw [1, 2] (fun v1 v2 wr => v1 = .int .i64 0 ∧ v2 = .int .i64 2 ∧ Hid (wr = W)) (fun _ _ _ => 0)
  case atStart => exact ⟨rfl, rfl, Lib.hid rfl⟩
  case round =>
    obtain ⟨rfl, rfl, hw⟩ := hrel
    obtain rfl := hw.out
    go_wp2_with fail
    refine HI.out.mono ?_
    rintro e w1 ⟨rfl, h1, h2⟩
    have HF : Hid (TwoPost nb no cn lb lo cl c0 c1 wr (.returned (.tuple #[])) w1) := Lib.hid ⟨rfl, h1, h2⟩
    clear h1 h2
    go_wp2_with fail
    go_end0
    exact HF.out
set_option maxRecDepth 1000000 in
set_option maxHeartbeats 8000000 in
theorem len_two (w : World) : Calls Tryz.prog 104 #[.int .u64 2] w fun e w' => e = .returned (.int .i64 2) ∧ w = w' := by
  have e8 : Lib.len8 2 = 2 := by decide
  go_enter Tryz.func104, Tryz.ntmps104
  go_wp2
  go_ret
  exact ⟨rfl, rfl⟩
set_option maxRecDepth 1000000 in
set_option maxHeartbeats 8000000 in
theorem two_sort (nb no cn lb lo cl : Nat) (c0 c1 : Array Value) (W : World) (h : Two W nb no cn lb lo cl ⟨#[98]⟩ ⟨#[97]⟩ c0.toList c1.toList) (ho0 : c0.all (·.oneCell') = true) (ho1 : c1.all (·.oneCell') = true) :
    Calls Tryz.prog 82 #[.iface 112 (twoV nb no cn lb lo cl)] W (TwoPost nb no cn lb lo cl c0 c1 W) := by
  have HN := Lib.hid (two_len nb no cn lb lo cl W)
  have HP : Hid (∀ V lim, Below W.heap.size W V → Calls Tryz.prog 105 #[.iface 112 (twoV nb no cn lb lo cl), .int .i64 0, .int .i64 2, .int .i64 lim] V (TwoPost nb no cn lb lo cl c0 c1 V)) := Lib.hid fun V lim hb => two_pdq nb no cn lb lo cl lim c0 c1 V (h.below hb) ho0 ho1
  have rN := two_reachN nb no cn lb lo cl
  generalize twoV nb no cn lb lo cl = rv at *
  have mN := rN.finds
  simp [Made.depth] at mN
  have eN := rN.enters
  clear h ho0 ho1 rN
  go_enter Tryz.func82, Tryz.ntmps82
  go_wp2_with fail
  refine HN.out.mono ?_
  rintro e w1 ⟨rfl, hb⟩
  have HKB : Hid (Kept (fun q => q = nb ∨ q = lb) W w1) := Lib.hid (kept_mono (F := fun _ => False) (keptOf_below hb) fun _ e => e.elim)
  have HP1 := Lib.hid (fun lim => HP.out w1 lim hb)
  clear hb HP
  go_wp2_with fail
  refine (len_two w1).mono ?_
  rintro e w2 ⟨rfl, rfl⟩
  go_wp2_with fail
  refine (HP1.out 2).mono ?_
  rintro e w3 ⟨rfl, h1, h2⟩
  have HF : Hid (TwoPost nb no cn lb lo cl c0 c1 W (.returned (.tuple #[])) w3) := Lib.hid ⟨rfl, h1, HKB.out.trans' h2⟩
  clear h1 h2
  go_wp2_with fail
  go_end0
  exact HF.out
end Go.Proofs.YtjckojedafajeaaGreatDoor
/- Layer 8: arrange, where no object is; at an object of two members, b ahead of a. (Written by wip/genjsarr.py.) -/
namespace Go.Proofs.YtjckojedafajeaaGreatDoor
open Go.RowKit
mutual
/-- No object is in it. -/
def NoObj : JV → Prop
  | .mk k _ _ _ l _ => k ≠ 5 ∧ NoObjs l
def NoObjs : List JV → Prop
  | [] => True
  | x :: l => NoObj x ∧ NoObjs l
end
theorem NoObjs.get : ∀ {l : List JV}, NoObjs l → ∀ x ∈ l, NoObj x
  | [], _, x, hx => by simp at hx
  | y :: l, h, x, hx => by
    unfold NoObjs at h
    rcases List.mem_cons.1 hx with rfl | hx
    · exact h.1
    · exact NoObjs.get h.2 x hx
set_option maxRecDepth 100000 in
set_option maxHeartbeats 4000000 in
theorem jarr_no : ∀ (n : Nat) (v : JV), SizeOf.sizeOf v ≤ n → NoObj v → ∀ (F : Nat → Prop) (g off : Nat) (w : World), JAtP w F g off v →
    Calls Tryz.prog 47 #[.pointer (some ⟨g, off, none⟩)] w fun e w' => e = .returned (.tuple #[]) ∧ Below w.heap.size w w' := by
  intro n
  induction n with
  | zero => intro v hv; cases v; simp at hv
  | succ n ih =>
    intro v hv hn F g off w h
    obtain ⟨k, b, d, t, l, ns⟩ := v
    have hsz : ∀ x ∈ l, SizeOf.sizeOf x ≤ n := fun x hx => by
      have := List.sizeOf_lt_of_mem hx
      simp only [JV.mk.sizeOf_spec] at hv
      omega
    unfold NoObj at hn
    obtain ⟨A, c, A', c', q0, _, _, _, _, _, q6, _, h1, h2, _, _, _, h8⟩ := h.open_
    have IH : Hid (∀ i, i < l.length → ∀ V, Below w.heap.size w V → ∃ g2 off2, A = some ⟨g2, off2, none⟩ ∧ Calls Tryz.prog 47 #[.pointer (some ⟨g2, off2 + i * 8, none⟩)] V fun e w' => e = .returned (.tuple #[]) ∧ Below V.heap.size V w') := Lib.hid fun i hi V hb => by
      obtain ⟨g2, off2, hA, hj⟩ := h8 i hi
      have hm : l.getD i JV.null ∈ l := by rw [List.getD_eq_getElem?_getD, List.getElem?_eq_getElem hi]; exact List.getElem_mem _
      exact ⟨g2, off2, hA, ih _ (hsz _ hm) (hn.2.get _ hm) F g2 (off2 + i * 8) V (hj.below hb)⟩
    have e5 : (k == 5) = false := by rw [beq_eq_false_iff_ne]; exact hn.1
    have hgl := h.1
    have HC := Lib.hid (fun (V : World) (hb : Below w.heap.size w V) => (hb.cell (p := ⟨g, off + 6, none⟩) hgl).trans q6)
    clear hsz h8 h hv ih hn
    generalize hm : l.length = m at *
    have HM := Lib.hid hm
    clear hm
    unfold maxLen at h2
    go_enter Tryz.func47, Tryz.ntmps47
    go_wp2_with fail
    clear q0 q6
    go_loopw [24, 2] (fun v24 _ wr => ∃ (i : Nat), i ≤ m ∧ v24 = .int .i64 (i : Int) ∧ Hid (Below w.heap.size w wr)) (fun v24 _ _ => m - (intOf v24).toNat)
    case atStart => exact ⟨0, Nat.zero_le _, rfl, Lib.hid (Below.refl _ _)⟩
    case round =>
      obtain ⟨i, hi, rfl, HB⟩ := hrel
      by_cases hlt : i < m
      · have q9 := HC.out wr HB.out
        obtain ⟨g2, off2, rfl, hcall⟩ := IH.out i hlt wr HB.out
        have HK := Lib.hid hcall
        clear hcall
        go_wp2_with fail
        refine HK.out.mono ?_
        rintro e w2 ⟨rfl, hb⟩
        have HB2 := Lib.hid (HB.out.call hb)
        clear hb
        go_wp2_with fail
        exact ⟨⟨i + 1, by omega, by go_num, HB2⟩, by simp [intOf]; omega⟩
      · obtain rfl : i = m := by omega
        go_wp2_with fail
        go_end0
        exact ⟨rfl, HB.out⟩
set_option maxRecDepth 1000000 in
set_option maxHeartbeats 8000000 in
theorem jarr_two (g nb no cn lb lo cl : Nat) (b : Bool) (d : Dec) (t : List UInt8) (x y : JV) (F : Nat → Prop) (c0 c1 : Array Value) (W : World) (hr : Row W g 30 (jvC 5 b d t (.slice (some ⟨lb, lo, none⟩) 2 cl) (.slice (some ⟨nb, no, none⟩) 2 cn)))
    (h : Two W nb no cn lb lo cl ⟨#[98]⟩ ⟨#[97]⟩ c0.toList c1.toList) (hx : JIs W F x c0.toList) (hy : JIs W F y c1.toList) (hgn : g ≠ nb) (hgl : g ≠ lb) (hF : ∀ q, F q → q ≠ nb ∧ q ≠ lb) (nx : NoObj x) (ny : NoObj y) :
    Calls Tryz.prog 47 #[.pointer (some ⟨g, 0, none⟩)] W (TwoPost nb no cn lb lo cl c0 c1 W) := by
  have ho0 : c0.all (·.oneCell') = true := by rw [Array.all_eq_true_iff_forall_mem]; intro u hu; exact jv_one hx u (Array.mem_toList_iff.2 hu)
  have ho1 : c1.all (·.oneCell') = true := by rw [Array.all_eq_true_iff_forall_mem]; intro u hu; exact jv_one hy u (Array.mem_toList_iff.2 hu)
  have HS := Lib.hid (fun V (hb : Below W.heap.size W V) => two_sort nb no cn lb lo cl c0 c1 V (h.below hb) ho0 ho1)
  have FK : Hid (∀ V V', Below W.heap.size W V → TwoPost nb no cn lb lo cl c0 c1 V (.returned (.tuple #[])) V' → Row V' g 30 (jvC 5 b d t (.slice (some ⟨lb, lo, none⟩) 2 cl) (.slice (some ⟨nb, no, none⟩) 2 cn)) ∧ TwoPost nb no cn lb lo cl c0 c1 W (.returned (.tuple #[])) V' ∧
      (∀ U, Below V'.heap.size V' U → ∀ i, i < 2 → Calls Tryz.prog 47 #[.pointer (some ⟨lb, lo + i * 8, none⟩)] U fun e w' => e = .returned (.tuple #[]) ∧ Below U.heap.size U w')) := Lib.hid (by
    rintro V V' hb ⟨_, h2, h3⟩
    have kk : Kept (fun q => q = nb ∨ q = lb) W V' := (kept_mono (F := fun _ => False) (keptOf_below hb) fun _ e => e.elim).trans' h3
    refine ⟨hr.kept kk (fun e => e.elim hgn hgl), ⟨rfl, h2, kk⟩, fun U hU i hi => ?_⟩
    have jx : JIs V' F x c0.toList := JIs.kept kk (fun q hq e => e.elim (hF q hq).1 (hF q hq).2) _ _ hx
    have jy : JIs V' F y c1.toList := JIs.kept kk (fun q hq e => e.elim (hF q hq).1 (hF q hq).2) _ _ hy
    obtain ⟨r0, r1, _, _⟩ := h2.ranges
    rcases (show i = 0 ∨ i = 1 by omega) with rfl | rfl
    · exact jarr_no _ y (Nat.le_refl _) ny F lb (lo + 0 * 8) U (JAtP.below ⟨h2.llt, c1.toList, fun q u hu => by have := r0 q u hu; simpa using this, jy⟩ hU)
    · exact jarr_no _ x (Nat.le_refl _) nx F lb (lo + 1 * 8) U (JAtP.below ⟨h2.llt, c0.toList, fun q u hu => by have := r1 q u hu; simpa using this, jx⟩ hU))
  have q0 := hr.cell (i := 0) (v := .int .i64 5) rfl
  have HR := Lib.hid hr
  clear h hx hy hF nx ny ho0 ho1 hr
  go_enter Tryz.func47, Tryz.ntmps47
  go_wp2_with fail
  clear q0
  have hS : Row W.drew g 30 (jvC 5 b d t (.slice (some ⟨lb, lo, none⟩) 2 cl) (.slice (some ⟨nb, no, none⟩) 2 cn)) := HR.out.call (Below.refl _ _).drew
  refine wp_region_held_drew (S := fun V => Row V g 30 (jvC 5 b d t (.slice (some ⟨lb, lo, none⟩) 2 cl) (.slice (some ⟨nb, no, none⟩) 2 cn))) (by kernel_rfl) hS (fun hHeld => ?_)
  refine wpAnyH_take (i := 0) (oi := ?_) (v := ?_) ?_ (by kernel_rfl) (by kernel_rfl) (by kernel_rfl) ?_ ?_ (by assumption) ?_
  rotate_left 2
  · simp only [List.getElem?_toArray, List.getElem?_cons_zero]; with_reducible rfl
  · exact fun _ _ _ h => h
  · refine Or.inl ⟨by rfl, ?_⟩; intro W hSw; go_simp; try with_reducible rfl
  try simp only [Act.put, List.setIfInBounds_toArray, List.set_cons_zero, List.set_cons_succ]
  refine wpAnyH_take (i := 1) (oi := ?_) (v := ?_) ?_ (by kernel_rfl) (by kernel_rfl) (by kernel_rfl) ?_ ?_ (by assumption) ?_
  rotate_left 2
  · simp only [List.getElem?_toArray, List.getElem?_cons_succ, List.getElem?_cons_zero]; with_reducible rfl
  · exact fun _ _ _ h => h
  · refine Or.inl ⟨by rfl, ?_⟩; intro W hSw; go_simp; try with_reducible rfl
  try simp only [Act.put, List.setIfInBounds_toArray, List.set_cons_zero, List.set_cons_succ]
  refine wpAnyH_take (i := 2) (oi := ?_) (v := ?_) ?_ (by kernel_rfl) (by kernel_rfl) (by kernel_rfl) ?_ ?_ (by assumption) ?_
  rotate_left 2
  · simp only [List.getElem?_toArray, List.getElem?_cons_succ, List.getElem?_cons_zero]; with_reducible rfl
  · exact fun _ _ _ h => h
  · refine Or.inl ⟨by rfl, ?_⟩; intro W hSw; go_simp; try with_reducible rfl
  try simp only [Act.put, List.setIfInBounds_toArray, List.set_cons_zero, List.set_cons_succ]
  refine wpAnyH_take (i := 3) (oi := ?_) (v := ?_) ?_ (by kernel_rfl) (by kernel_rfl) (by kernel_rfl) ?_ ?_ (by assumption) ?_
  rotate_left 2
  · simp only [List.getElem?_toArray, List.getElem?_cons_succ, List.getElem?_cons_zero]; with_reducible rfl
  · exact fun _ _ _ h => h
  · refine Or.inl ⟨by rfl, ?_⟩; intro W hSw; have q := (show Row W g 30 (jvC 5 b d t (.slice (some ⟨lb, lo, none⟩) 2 cl) (.slice (some ⟨nb, no, none⟩) 2 cn)) from hSw).cell (i := 7) (v := .slice (some ⟨nb, no, none⟩) 2 cn) rfl; go_simp; try with_reducible rfl
  try simp only [Act.put, List.setIfInBounds_toArray, List.set_cons_zero, List.set_cons_succ]
  refine wpAnyH_take (i := 4) (oi := ?_) (v := ?_) ?_ (by kernel_rfl) (by kernel_rfl) (by kernel_rfl) ?_ ?_ (by assumption) ?_
  rotate_left 2
  · simp only [List.getElem?_toArray, List.getElem?_cons_succ, List.getElem?_cons_zero]; with_reducible rfl
  · exact fun _ _ _ h => h
  · refine Or.inl ⟨by rfl, ?_⟩; intro W hSw; go_simp; try with_reducible rfl
  try simp only [Act.put, List.setIfInBounds_toArray, List.set_cons_zero, List.set_cons_succ]
  refine wpAnyH_take (i := 5) (oi := ?_) (v := ?_) ?_ (by kernel_rfl) (by kernel_rfl) (by kernel_rfl) ?_ ?_ (by assumption) ?_
  rotate_left 2
  · simp only [List.getElem?_toArray, List.getElem?_cons_succ, List.getElem?_cons_zero]; with_reducible rfl
  · exact fun _ _ _ h => h
  · refine Or.inl ⟨by rfl, ?_⟩; intro W hSw; go_simp; try with_reducible rfl
  try simp only [Act.put, List.setIfInBounds_toArray, List.set_cons_zero, List.set_cons_succ]
  refine wpAnyH_take (i := 6) (oi := ?_) (v := ?_) ?_ (by kernel_rfl) (by kernel_rfl) (by kernel_rfl) ?_ ?_ (by assumption) ?_
  rotate_left 2
  · simp only [List.getElem?_toArray, List.getElem?_cons_succ, List.getElem?_cons_zero]; with_reducible rfl
  · exact fun _ _ _ h => h
  · refine Or.inl ⟨by rfl, ?_⟩; intro W hSw; go_simp; try with_reducible rfl
  try simp only [Act.put, List.setIfInBounds_toArray, List.set_cons_zero, List.set_cons_succ]
  refine wpAnyH_take (i := 7) (oi := ?_) (v := ?_) ?_ (by kernel_rfl) (by kernel_rfl) (by kernel_rfl) ?_ ?_ (by assumption) ?_
  rotate_left 2
  · simp only [List.getElem?_toArray, List.getElem?_cons_succ, List.getElem?_cons_zero]; with_reducible rfl
  · exact fun _ _ _ h => h
  · refine Or.inl ⟨by rfl, ?_⟩; intro W hSw; have q := (show Row W g 30 (jvC 5 b d t (.slice (some ⟨lb, lo, none⟩) 2 cl) (.slice (some ⟨nb, no, none⟩) 2 cn)) from hSw).cell (i := 6) (v := .slice (some ⟨lb, lo, none⟩) 2 cl) rfl; go_simp; try with_reducible rfl
  try simp only [Act.put, List.setIfInBounds_toArray, List.set_cons_zero, List.set_cons_succ]
  refine wpAnyH_take (i := 8) (oi := ?_) (v := ?_) ?_ (by kernel_rfl) (by kernel_rfl) (by kernel_rfl) ?_ ?_ (by assumption) ?_
  rotate_left 2
  · simp only [List.getElem?_toArray, List.getElem?_cons_succ, List.getElem?_cons_zero]; with_reducible rfl
  · exact fun _ _ _ h => h
  · refine Or.inl ⟨by rfl, ?_⟩; intro W hSw; go_simp; try with_reducible rfl
  try simp only [Act.put, List.setIfInBounds_toArray, List.set_cons_zero, List.set_cons_succ]
  refine wpAnyH_take (i := 9) (oi := ?_) (v := ?_) ?_ (by kernel_rfl) (by kernel_rfl) (by kernel_rfl) ?_ ?_ (by assumption) ?_
  rotate_left 2
  · simp only [List.getElem?_toArray, List.getElem?_cons_succ, List.getElem?_cons_zero]; with_reducible rfl
  · exact fun _ _ _ h => h
  · refine Or.inl ⟨by rfl, ?_⟩; intro W hSw; go_simp; try with_reducible rfl
  try simp only [Act.put, List.setIfInBounds_toArray, List.set_cons_zero, List.set_cons_succ]
  refine wpAnyH_ready (rs := [10]) (by kernel_rfl) (by simp) ?_
  refine AllReadyH.cons (o := ?_) ?_ (fun K1 hK1 => ?_) AllReadyH.nil
  rotate_left 1
  · simp only [List.getElem?_toArray, List.getElem?_cons_succ, List.getElem?_cons_zero]; with_reducible rfl
  rw [if_pos (by rfl)]
  go_simp
  have hsv : Hid (Calls Tryz.prog 82 #[.iface 112 (.agg #[.slice (some ⟨nb, no, none⟩) 2 cn, .slice (some ⟨lb, lo, none⟩) 2 cl])] W.drew (TwoPost nb no cn lb lo cl c0 c1 W.drew)) := Lib.hid (HS.out W.drew (Below.refl _ _).drew)
  (with_reducible refine hsv.out.mono ?_)
  rintro e1 w1 ⟨rfl, h2, h3⟩
  obtain ⟨r2, HF, HA⟩ := FK.out W.drew w1 (Below.refl _ _).drew ⟨rfl, h2, h3⟩
  have HR2 := Lib.hid r2
  have HF := Lib.hid HF
  have HA := Lib.hid HA
  clear h2 h3 hsv HS FK
  go_wp2_with fail
  refine hK1.out _ _ r2 (fun hHeld1 => ?_)
  clear hK1 K1
  try simp only [Act.put, List.setIfInBounds_toArray, List.set_cons_zero, List.set_cons_succ]
  refine wpAnyH_done (by kernel_rfl) ?_ _
  clear hHeld1 hHeld hS
  have q6 := HR2.out.cell (i := 6) (v := .slice (some ⟨lb, lo, none⟩) 2 cl) rfl
  clear r2
  go_wp2_with fail
  clear q6
  go_loopw [24, 2] (fun v24 _ wr => ∃ (i : Nat), i ≤ 2 ∧ v24 = .int .i64 (i : Int) ∧ Hid (Below w1.heap.size w1 wr)) (fun v24 _ _ => 2 - (intOf v24).toNat)
  case atStart => exact ⟨0, Nat.zero_le _, rfl, Lib.hid (Below.refl _ _)⟩
  case round =>
    obtain ⟨i, hi, rfl, HB⟩ := hrel
    by_cases hlt : i < 2
    · have q9 := (HR2.out.call HB.out).cell (i := 6) (v := .slice (some ⟨lb, lo, none⟩) 2 cl) rfl
      have HK := Lib.hid (HA.out wr HB.out i hlt)
      go_wp2_with fail
      refine HK.out.mono ?_
      rintro e w2 ⟨rfl, hb⟩
      have HB2 := Lib.hid (HB.out.call hb)
      clear hb
      go_wp2_with fail
      exact ⟨⟨i + 1, by omega, by go_num, HB2⟩, by simp [intOf]; omega⟩
    · obtain rfl : i = 2 := by omega
      go_wp2_with fail
      go_end0
      have h9 := HF.out
      exact ⟨rfl, h9.2.1.below HB.out, h9.2.2.trans' (kept_mono (F := fun _ => False) (keptOf_below HB.out) fun _ e => e.elim)⟩
end Go.Proofs.YtjckojedafajeaaGreatDoor
