/- Layer 3's laws: what tells finds out of a log: each batch, twice over, whatever is done to what was handed over. -/
import Derived.Test.YtljlkmmeedlaiaaDoorPt42
import Derived.Test.YtljlkmmeedlaiaaDoorPt37
import Derived.Test.YtljlkmmeedlaiaaDoorPt31
import Derived.Sort.CutIn
namespace Go.Proofs.YtljlkmmeedlaiaaDoor
open Go.RowKit Go.Shelf
attribute [local go_sem] Oper.semAt_some

/-- What tells has at hand: the texts, its answer, the sequence; all below the block m. -/
structure TellS (w : World) (xs : List Bat) (Aw : Option Addr) (cw q m : Nat) (vq : Value) (W : World) : Prop where
  want : Row W w.heap.size 39 #[.slice Aw xs.length cw]
  res : Row W (w.heap.size + 1) 4 #[.bool false]
  seq : Row W q 36 #[vq]
  list : Lies W (fun k => k < m) 41 1 vq xs.length (bvs xs)
  bats : ∀ b ∈ xs, BatOk W (fun k => k < m) b
  texts : Holds w Aw xs.length 1 (txts (xs.map (·.l)))
  below : Below w.heap.size w W
  low : w.heap.size + 1 < q ∧ q < m ∧ m ≤ W.heap.size
section
variable {w W W' : World} {xs : List Bat} {Aw : Option Addr} {cw q m : Nat} {vq : Value}
theorem TellS.under (h : TellS w xs Aw cw q m vq W) (hb : Below m W W') : TellS w xs Aw cw q m vq W' := by
  obtain ⟨l1, l2, l3⟩ := h.low
  exact ⟨h.want.below hb (by omega), h.res.below hb (by omega), h.seq.below hb (by omega), h.list.same fun g cur hg hh => (hb.block g hg).trans hh,
    fun b hx => ⟨(h.bats b hx).lies.same fun g cur hg hh => (hb.block g hg).trans hh, (h.bats b hx).small⟩, h.texts, h.below.trans (hb.mono (by omega)), l1, l2, Nat.le_trans l3 hb.size⟩
theorem TellS.call (h : TellS w xs Aw cw q m vq W) (hb : Below W.heap.size W W') : TellS w xs Aw cw q m vq W' := h.under (hb.mono h.low.2.2)
theorem TellS.text (h : TellS w xs Aw cw q m vq W) {k : Nat} (hk : k < xs.length) : ∃ g off, Aw = some ⟨g, off, none⟩ ∧ W.cell? ⟨g, off + k, none⟩ = some (.string (textOf (xs.getD k noBat).l)) := by
  have h1 : Holds W Aw (xs.map (·.l)).length 1 (txts (xs.map (·.l))) := by
    rw [List.length_map]
    exact h.texts.below h.below
  obtain ⟨g, off, e, hc⟩ := h1.txt (k := k) (by rw [List.length_map]; exact hk)
  refine ⟨g, off, e, ?_⟩
  rw [hc]
  congr 2
  simp [List.getD_eq_getElem?_getD, hk]
/-- A turn's two boxes: its number, and how many batches were told. -/
theorem TellS.turn (h : TellS w xs Aw cw q m vq W) (tv : Int) : TellS w xs Aw cw q m vq ((W.alloc (.cells #[.int .i64 tv] 3)).alloc (.cells #[.int .i64 0] 3)) ∧
    Row ((W.alloc (.cells #[.int .i64 tv] 3)).alloc (.cells #[.int .i64 0] 3)) W.heap.size 3 #[.int .i64 tv] ∧
    Row ((W.alloc (.cells #[.int .i64 tv] 3)).alloc (.cells #[.int .i64 0] 3)) (W.heap.size + 1) 3 #[.int .i64 0] ∧
    ((W.alloc (.cells #[.int .i64 tv] 3)).alloc (.cells #[.int .i64 0] 3)).heap.size = W.heap.size + 1 + 1 := by
  refine ⟨h.call (((Below.refl _ _).alloc (Nat.le_refl _) _).alloc (by simp) _), (Row.new _ _ _).alloc _, ?_, by simp⟩
  have := Row.new (W.alloc (.cells #[.int .i64 tv] 3)) 3 #[.int .i64 0]
  rwa [World.size_alloc] at this
end
/-- Bytes that are changed one by one: nothing else is. -/
structure IncI (W₀ : World) (g off m : Nat) (W : World) : Prop where
  row : 0 < m → ∃ cs, Row W g 5 cs ∧ ∀ j, j < m → ∃ u : Nat, cs[off + j]? = some (.int .u8 u)
  kept : Kept (· = g) W₀ W
  others : KeepsOthers W₀ W
theorem inc_of {W : World} {F : Nat → Prop} {A : Option Addr} {c : Nat} {l : List Nat} (h : BatOk W F ⟨A, c, l⟩) {n₀ : Nat} (hF : ∀ k, F k → n₀ ≤ k) (hn : n₀ ≤ W.heap.size) :
    ∃ g off, n₀ ≤ g ∧ (0 < l.length → A = some ⟨g, off, none⟩) ∧ l.length ≤ c ∧ c ≤ maxLen ∧ IncI W g off l.length W := by
  obtain ⟨A2, c2, hv, h1, h2⟩ := h.lies.form
  have hv : Value.slice A l.length c = .slice A2 l.length c2 := hv
  injection hv with e1 _ e2
  subst e1; subst e2
  rcases Nat.eq_zero_or_pos l.length with h0 | h0
  · exact ⟨W.heap.size, 0, hn, fun h => by omega, h1, h2, fun h => by omega, Kept.refl _ _, KeepsOthers.refl _⟩
  · rcases h.lies.2 with ⟨A3, _, h9⟩ | ⟨g, off, cap, cur, hv, hg, hb, hcap, _, hsz, hx⟩
    · exact absurd h9 (Nat.pos_iff_ne_zero.1 h0)
    · have hv : Value.slice A l.length c = .slice (some ⟨g, off, none⟩) l.length cap := hv
      injection hv with e1 _ e2
      subst e1; subst e2
      refine ⟨g, off, hF g hg, fun _ => rfl, h1, h2, fun _ => ⟨cur, hb, fun j hj => ⟨l.getD j 0, ?_⟩⟩, Kept.refl _ _, KeepsOthers.refl _⟩
      have h9 : ((cur.toList.drop off).take (l.length * 1))[j]? = (cellsOf l)[j]? := by rw [hx]
      rw [List.getElem?_take_of_lt (by omega), List.getElem?_drop] at h9
      rw [← Array.getElem?_toList, h9]
      simp [cellsOf, List.getD_eq_getElem?_getD, hj]
theorem IncI.cell {W₀ W : World} {g off m j : Nat} (h : IncI W₀ g off m W) (hj : j < m) : ∃ u : Nat, W.cell? ⟨g, off + j, none⟩ = some (.int .u8 u) ∧ W.frozen? ⟨g, off + j, none⟩ = false ∧ IncI W₀ g off m (W.setCell ⟨g, off + j, none⟩ (.int .u8 (((u : Int) + 1) % 256))) := by
  obtain ⟨cs, hr, hc⟩ := h.row (by omega)
  obtain ⟨u, hu⟩ := hc j hj
  refine ⟨u, hr.cell hu, hr.free _, fun _ => ⟨_, hr.set_ (off + j) _, fun i hi => ?_⟩, h.kept.trans' (Kept.cell _ g (off + j) _), h.others.trans (KeepsOthers.setCell _ _ _)⟩
  by_cases e : off + j = off + i
  · rw [← e]
    obtain ⟨hb, _⟩ := Array.getElem?_eq_some_iff.1 hu
    exact ⟨(u + 1) % 256, by rw [Array.getElem?_setIfInBounds_self_of_lt hb]; congr 2⟩
  · obtain ⟨v, hv⟩ := hc i hi
    exact ⟨v, by rw [Array.getElem?_setIfInBounds_ne e]; exact hv⟩
/-- A turn under way: so many batches were told. -/
def TellI (Wl : World) (gn : Nat) (tv : Int) (pre : List (Nat × Bat)) (W : World) : Prop :=
  Row W gn 3 #[.int .i64 (pre.length : Nat)] ∧ (tv = 0 → pre.length < 2) ∧ KB gn Wl.heap.size Wl W
def TellX (Wl : World) (gn : Nat) (tv : Int) (id : Nat) (c : Code) (pre : List (Nat × Bat)) (W : World) : Prop :=
  c = .exit id ∧ tv = 0 ∧ pre.length = 2 ∧ KB gn Wl.heap.size Wl W
theorem tell_own {Wl : World} {gn B : Nat} {tv : Int} (hB : Wl.heap.size ≤ B) : OwnFrom B (fun pre W => TellI Wl gn tv pre W) := by
  intro pre W W' row h hg hr
  exact ⟨(grownBy_keeps_cells hg (fun r e => (hr r e).2) (k := gn) (o := .cells _ 3 (0, 0)) h.1 rfl).trans h.1, h.2.1, h.2.2.grown hg fun r e => Nat.le_trans hB (hr r e).1⟩
theorem tell_ownX {Wl : World} {gn B id : Nat} {tv : Int} (hB : Wl.heap.size ≤ B) (c : Code) : OwnFrom B (fun pre W => TellX Wl gn tv id c pre W) := by
  intro pre W W' row h hg hr
  exact ⟨h.1, h.2.1, h.2.2.1, h.2.2.2.grown hg fun r e => Nat.le_trans hB (hr r e).1⟩
set_option maxRecDepth 100000 in
set_option maxHeartbeats 2000000 in
theorem tells_run (p : Nat) (w : World) (xs : List Bat) (Aw : Option Addr) (cw : Nat) (hld : Loaded w (.pointer (some ⟨p, 0, none⟩)) xs)
    (hst : ∀ W, Below w.heap.size w W → Calls Tryd.prog 19 #[.pointer (some ⟨p, 0, none⟩)] W fun e w' => (∃ x y z, e = .returned (.tuple #[.int .i64 xs.length, x, y, z])) ∧ Below W.heap.size W w')
    (hw : Holds w Aw xs.length 1 (txts (xs.map (·.l)))) :
    Calls Tryd.prog 20 #[.pointer (some ⟨p, 0, none⟩), .slice Aw xs.length cw] w fun e w' => e = .returned (.bool true) ∧ Below w.heap.size w w' := by
  have HLD := Lib.hid hld
  have HST := Lib.hid hst
  have HW := Lib.hid hw
  clear hst hw hld
  have hfew : xs.length ≤ 1000000 := HLD.out.few
  obtain ⟨w2, hw2⟩ : ∃ w2, w2 = (w.alloc (.cells #[.slice Aw xs.length cw] 39)).alloc (.cells #[.bool false] 4) := ⟨_, rfl⟩
  have hb2 : Below w.heap.size w w2 := by subst hw2; exact ((Below.refl _ _).alloc (Nat.le_refl _) _).alloc (by simp) _
  have hr2 : Row w2 w.heap.size 39 #[.slice Aw xs.length cw] := by subst hw2; exact (Row.new _ _ _).alloc _
  have hr3 : Row w2 (w.heap.size + 1) 4 #[.bool false] := by
    subst hw2
    have := Row.new (w.alloc (.cells #[.slice Aw xs.length cw] 39)) 4 #[.bool false]
    rwa [World.size_alloc] at this
  have HB2 := Lib.hid hb2
  have HR2 := Lib.hid hr2
  have HR3 := Lib.hid hr3
  clear hb2 hr2 hr3
  refine (callsIn_wide (n := 4)).1 ?_
  refine callsIn_of_wp_marks Tryd.func20 rfl trivial ?_ rfl
  simp only [Tryd.ntmps20, List.size_toArray, List.length_cons, List.length_nil, Nat.reduceAdd, Nat.reduceSub, Array.replicate_succ, Array.replicate_zero, List.push_toArray, List.append_toArray, List.nil_append, List.cons_append]
  refine wpIn_wide.2 ?_
  go_wp2_with fail
  rw [← hw2]
  clear hw2
  refine (HLD.out.batches w2 HB2.out).mono ?_
  rintro e w3 ⟨q, vq, rfl, hq, hrq, hlq, hb3⟩
  have hq2 : w.heap.size + 1 < q := Nat.lt_of_lt_of_le HR3.out.lt hq
  have hqm : q < w3.heap.size := hrq.lt
  have hS3 : TellS w xs Aw cw q w3.heap.size vq w3 := ⟨HR2.out.call hb3, HR3.out.call hb3, hrq, hlq.there.mono fun k hk => hk.2,
    fun b hb => ((HLD.out.bats b hb).below (HB2.out.trans (hb3.mono HB2.out.size))).mono fun k hk => Nat.lt_of_lt_of_le hk (Nat.le_trans HB2.out.size hb3.size), HW.out, HB2.out.trans (hb3.mono HB2.out.size), hq2, hqm, Nat.le_refl _⟩
  have hfn : ∀ (W : World), (binOp BinOp.eql 84 (.func (.func 59) #[] #[.pointer (some ⟨q, 0, none⟩)]) .nilFunc).run Tryd.prog W = .ok (.bool false) W := fun _ => rfl
  obtain ⟨m, hm0⟩ : ∃ m, m = w3.heap.size := ⟨_, rfl⟩
  rw [← hm0] at hS3
  have hmw : m ≤ w3.heap.size := Nat.le_of_eq hm0
  rw [← hm0] at hqm
  have HS3 := Lib.hid hS3
  clear hrq hlq hb3 hq HR2 HR3 HB2 HW hS3 hm0
  go_wp2_with fail
  refine wp_loop_rounds 3 ?_
  rw [rounds_succ]
  go_wp2_with fail
  obtain ⟨hS4, hturn0, hnum0, hsz0⟩ := HS3.out.turn 0
  obtain ⟨g0, hg0⟩ : ∃ g0, g0 = w3.heap.size := ⟨_, rfl⟩
  rw [← hg0] at hturn0 hnum0 hsz0 hmw ⊢
  generalize (w3.alloc (.cells #[.int .i64 0] 3)).alloc (.cells #[.int .i64 0] 3) = Wl at *
  clear HS3 hg0
  refine (wpIn_wide (n := 4)).1 ?_
  refine wpIn_rangeP rfl (by omega) (gf := 59) (lb := #[.pointer (some ⟨q, 0, none⟩)]) rfl trivial (enters_of Tryd.func59 (by kernel_rfl) rfl)
    (batches_seq (fun k => k < m) Wl q Wl.heap.size xs vq HLD.out.few HLD.out.small (KB (g0 + 1) Wl.heap.size) ?hKl0 (Nat.le_refl _) (hS4.seq.cell (i := 0) rfl) hS4.list hS4.bats)
    KB.trans (fun W l o o' h1 h2 h3 h4 => KB.turn (Nat.le_refl _) W l o o' h1 h2 h3 h4) ?hPb0 (Below.refl _ _) (fun _ => rfl)
    (TellI Wl (g0 + 1) 0) (TellX Wl (g0 + 1) 0 2) (tell_own (Nat.le_refl _)) (tell_ownX (Nat.le_refl _)) ?h00 ?a10 ?assign0 ?body0 ?done0 ?stop0
  case hKl0 =>
    intro W W' hk hs
    refine ⟨Nat.le_trans hs hk.size, fun hc => hk.cell hc (by show q < _; omega) (by show q ≠ _; omega), fun hl => hl.kept hk fun k h1 h2 => ?_, fun b _ hb => hb.kept hk fun k h1 h2 => ?_⟩
    all_goals rcases h2 with h2 | h2 <;> omega
  case hPb0 =>
    rintro pre x W l o o' hl hc ⟨h1, h2, h3⟩
    refine ⟨h1, h2, h3.lies.same fun g cur _ hg => ?_, h3.small⟩
    refine (World.putObj_heap_other ?_).trans hg
    rintro rfl
    rw [hl] at hg
    cases hg
    cases hc
  case h00 => exact ⟨hnum0, fun _ => (by decide), KB.refl _ _ _⟩
  case assign0 =>
    intro l' x W K hK
    simp only [oneBat]
    gi_wp2
    exact hK
  case body0 =>
    rintro l' pre ⟨i, xA, xc, xl⟩ W ⟨hrn, htv, hkb⟩ ⟨hx1a, hx2a, hx3a⟩ hlen
    have hx1 : i = pre.length := hx1a
    have hx2 : xl = (xs.getD pre.length noBat).l := hx2a
    have HLP := Lib.hid (show (pre ++ [((i : Nat), (⟨xA, xc, xl⟩ : Bat))]).length = pre.length + 1 by simp)
    subst hx1
    have hbm : Below m Wl W := hkb.below (by omega) (by rintro k (hk | hk) <;> omega)
    have hd : Below W.heap.size W W.drew := (Below.refl _ _).drew
    have hS1 := (hS4.under hbm).call hd
    have hT1 : Row W.drew g0 3 #[.int .i64 0] := (hturn0.kept hkb (by rintro (hk | hk) <;> omega)).call hd
    have hN1 : Row W.drew (g0 + 1) 3 #[.int .i64 (pre.length : Nat)] := hrn.call hd
    have hkb1 : KB (g0 + 1) Wl.heap.size W W.drew := KB.under ((Below.refl _ _).drew) (Nat.le_refl _)
    have hko1 : KeepsOthers W W.drew := KeepsOthers.drew W
    obtain ⟨g, off, hA, hct⟩ := hS1.text hlen
    rw [← hx2] at hct
    have hx3 : BatOk W.drew (fun k => Wl.heap.size ≤ k) ⟨xA, xc, xl⟩ := hx3a.below hd
    have hsm : Small xl := hx3.small
    obtain ⟨bA, bc, hbv, hbb, _, _, _⟩ := lies_bytes hx3.lies hsm
    have hbv : Value.slice xA xl.length xc = .slice bA xl.length bc := hbv
    have hconv : (convert 41 9 (.slice xA xl.length xc)).run Tryd.prog W.drew = .ok (.string (textOf xl)) W.drew := by rw [hbv]; exact run_text hbb 41 9 5 bc Tryd.underlying41 Tryd.underlying5 Tryd.underlying9
    obtain ⟨gc, oc, hgc, hcA, hcl, hcm, hinc⟩ := inc_of hx3 (fun _ h => h) (Nat.le_trans hkb.size hd.size)
    have hmx : xl.length ≤ 9223372036854775807 := by unfold maxLen at hcm; omega
    have hcw := hS1.want.cell (i := 0) (v := .slice Aw xs.length cw) rfl
    have hcn := hN1.cell (i := 0) (v := .int .i64 (pre.length : Nat)) rfl
    rw [hA] at hcw
    have HN1 := Lib.hid hN1
    have HT1 := Lib.hid hT1
    have HINC := Lib.hid hinc
    have HKB := Lib.hid hkb
    have HKB1 := Lib.hid hkb1
    have HKO := Lib.hid hko1
    have HCA := Lib.hid hcA
    have HTV := Lib.hid htv
    have hmix : Tryd.prog.follows .mixedOrders = true := by kernel_rfl
    clear hrn hbm hd hS1 hT1 hN1 hkb hkb1 hko1 hA hx3 hbb hbv hinc hcA htv hsm hx2 hx1a hx2a hx3a
    generalize textOf xl = tx at *
    generalize pre ++ [(pre.length, (⟨xA, xc, xl⟩ : Bat))] = pre2 at *
    generalize pre.length = k at *
    have hne : (((k : Nat) : Int) != ((k : Nat) : Int)) = false := by simp
    have hge : decide (((k : Nat) : Int) ≥ ((xs.length : Nat) : Int)) = false := by simp; omega
    simp only [Bat.v]
    gi_upto_region 11 with fail
    refine wpIn_region_held (S := fun Wy => Wy = W.drew) hmix (by kernel_rfl) ?_
    generalize W.drew = W1 at *
    refine wpP_take (i := 0) (oi := ?ot0_0) (v := .int .i64 (k : Nat)) ?gt0_0 (by kernel_rfl) ?ft0_0 (by kernel_rfl) ⟨?nt0_0, ?yt0_0, ?bt0_0⟩ rfl ?_
    case gt0_0 => simp only [List.getElem?_toArray, List.getElem?_cons_zero]; with_reducible rfl
    case ft0_0 => kernel_rfl
    case nt0_0 => kernel_rfl
    case yt0_0 => rintro _ rfl; go_simp
    case bt0_0 => exact fun _ => rfl
    simp only [Act.put, List.setIfInBounds_toArray, List.set_cons_zero, List.set_cons_succ]
    refine wpP_take (i := 1) (oi := ?ot0_1) (v := .int .i64 (k : Nat)) ?gt0_1 (by kernel_rfl) ?ft0_1 (by kernel_rfl) ⟨?nt0_1, ?yt0_1, ?bt0_1⟩ rfl ?_
    case gt0_1 => simp only [List.getElem?_toArray, List.getElem?_cons_succ, List.getElem?_cons_zero]; with_reducible rfl
    case ft0_1 => kernel_rfl
    case nt0_1 => kernel_rfl
    case yt0_1 => rintro _ rfl; go_simp
    case bt0_1 => exact fun _ => rfl
    simp only [Act.put, List.setIfInBounds_toArray, List.set_cons_zero, List.set_cons_succ]
    refine wpP_take (i := 2) (oi := ?ot0_2) (v := .bool false) ?gt0_2 (by kernel_rfl) ?ft0_2 (by kernel_rfl) ⟨?nt0_2, ?yt0_2, ?bt0_2⟩ rfl ?_
    case gt0_2 => simp only [List.getElem?_toArray, List.getElem?_cons_succ, List.getElem?_cons_zero]; with_reducible rfl
    case ft0_2 => kernel_rfl
    case nt0_2 => kernel_rfl
    case yt0_2 => rintro _ rfl; go_simp
    case bt0_2 => exact fun _ => rfl
    simp only [Act.put, List.setIfInBounds_toArray, List.set_cons_zero, List.set_cons_succ]
    refine wpP_take (i := 3) (oi := ?ot0_3) (v := .bool false) ?gt0_3 (by kernel_rfl) ?ft0_3 (by kernel_rfl) ⟨?nt0_3, ?yt0_3, ?bt0_3⟩ rfl ?_
    case gt0_3 => simp only [List.getElem?_toArray, List.getElem?_cons_succ, List.getElem?_cons_zero]; with_reducible rfl
    case ft0_3 => kernel_rfl
    case nt0_3 => kernel_rfl
    case yt0_3 => rintro _ rfl; go_simp
    case bt0_3 => exact fun _ => rfl
    simp only [Act.put, List.setIfInBounds_toArray, List.set_cons_zero, List.set_cons_succ]
    refine wpP_take (i := 4) (oi := ?ot0_4) (v := .int .i64 (k : Nat)) ?gt0_4 (by kernel_rfl) ?ft0_4 (by kernel_rfl) ⟨?nt0_4, ?yt0_4, ?bt0_4⟩ rfl ?_
    case gt0_4 => simp only [List.getElem?_toArray, List.getElem?_cons_succ, List.getElem?_cons_zero]; with_reducible rfl
    case ft0_4 => kernel_rfl
    case nt0_4 => kernel_rfl
    case yt0_4 => rintro _ rfl; go_simp
    case bt0_4 => exact fun _ => rfl
    simp only [Act.put, List.setIfInBounds_toArray, List.set_cons_zero, List.set_cons_succ]
    refine wpP_take (i := 5) (oi := ?ot0_5) (v := .slice (some ⟨g, off, none⟩) xs.length cw) ?gt0_5 (by kernel_rfl) ?ft0_5 (by kernel_rfl) ⟨?nt0_5, ?yt0_5, ?bt0_5⟩ rfl ?_
    case gt0_5 => simp only [List.getElem?_toArray, List.getElem?_cons_succ, List.getElem?_cons_zero]; with_reducible rfl
    case ft0_5 => kernel_rfl
    case nt0_5 => kernel_rfl
    case yt0_5 => rintro _ rfl; go_simp
    case bt0_5 => exact fun _ => rfl
    simp only [Act.put, List.setIfInBounds_toArray, List.set_cons_zero, List.set_cons_succ]
    refine wpP_take (i := 6) (oi := ?ot0_6) (v := .int .i64 (xs.length : Nat)) ?gt0_6 (by kernel_rfl) ?ft0_6 (by kernel_rfl) ⟨?nt0_6, ?yt0_6, ?bt0_6⟩ rfl ?_
    case gt0_6 => simp only [List.getElem?_toArray, List.getElem?_cons_succ, List.getElem?_cons_zero]; with_reducible rfl
    case ft0_6 => kernel_rfl
    case nt0_6 => kernel_rfl
    case yt0_6 => rintro _ rfl; go_simp
    case bt0_6 => exact fun _ => rfl
    simp only [Act.put, List.setIfInBounds_toArray, List.set_cons_zero, List.set_cons_succ]
    refine wpP_take (i := 7) (oi := ?ot0_7) (v := .bool false) ?gt0_7 (by kernel_rfl) ?ft0_7 (by kernel_rfl) ⟨?nt0_7, ?yt0_7, ?bt0_7⟩ rfl ?_
    case gt0_7 => simp only [List.getElem?_toArray, List.getElem?_cons_succ, List.getElem?_cons_zero]; with_reducible rfl
    case ft0_7 => kernel_rfl
    case nt0_7 => kernel_rfl
    case yt0_7 => rintro _ rfl; go_simp
    case bt0_7 => exact fun _ => rfl
    simp only [Act.put, List.setIfInBounds_toArray, List.set_cons_zero, List.set_cons_succ]
    refine wpP_take (i := 8) (oi := ?ot0_8) (v := .bool false) ?gt0_8 (by kernel_rfl) ?ft0_8 (by kernel_rfl) ⟨?nt0_8, ?yt0_8, ?bt0_8⟩ rfl ?_
    case gt0_8 => simp only [List.getElem?_toArray, List.getElem?_cons_succ, List.getElem?_cons_zero]; with_reducible rfl
    case ft0_8 => kernel_rfl
    case nt0_8 => kernel_rfl
    case yt0_8 => rintro _ rfl; go_simp
    case bt0_8 => exact fun _ => rfl
    simp only [Act.put, List.setIfInBounds_toArray, List.set_cons_zero, List.set_cons_succ]
    refine wpP_take (i := 9) (oi := ?ot0_9) (v := .bool false) ?gt0_9 (by kernel_rfl) ?ft0_9 (by kernel_rfl) ⟨?nt0_9, ?yt0_9, ?bt0_9⟩ rfl ?_
    case gt0_9 => simp only [List.getElem?_toArray, List.getElem?_cons_succ, List.getElem?_cons_zero]; with_reducible rfl
    case ft0_9 => kernel_rfl
    case nt0_9 => kernel_rfl
    case yt0_9 => rintro _ rfl; go_simp
    case bt0_9 => exact fun _ => rfl
    simp only [Act.put, List.setIfInBounds_toArray, List.set_cons_zero, List.set_cons_succ]
    refine wpP_take (i := 10) (oi := ?ot0_10) (v := .slice xA xl.length xc) ?gt0_10 (by kernel_rfl) ?ft0_10 (by kernel_rfl) ⟨?nt0_10, ?yt0_10, ?bt0_10⟩ rfl ?_
    case gt0_10 => simp only [List.getElem?_toArray, List.getElem?_cons_succ, List.getElem?_cons_zero]; with_reducible rfl
    case ft0_10 => kernel_rfl
    case nt0_10 => kernel_rfl
    case yt0_10 => rintro _ rfl; go_simp
    case bt0_10 => exact fun _ => rfl
    simp only [Act.put, List.setIfInBounds_toArray, List.set_cons_zero, List.set_cons_succ]
    refine wpP_take (i := 11) (oi := ?ot0_11) (v := .string tx) ?gt0_11 (by kernel_rfl) ?ft0_11 (by kernel_rfl) ⟨?nt0_11, ?yt0_11, ?bt0_11⟩ rfl ?_
    case gt0_11 => simp only [List.getElem?_toArray, List.getElem?_cons_succ, List.getElem?_cons_zero]; with_reducible rfl
    case ft0_11 => kernel_rfl
    case nt0_11 => kernel_rfl
    case yt0_11 => rintro _ rfl; go_simp
    case bt0_11 => exact fun _ => rfl
    simp only [Act.put, List.setIfInBounds_toArray, List.set_cons_zero, List.set_cons_succ]
    refine wpP_take (i := 12) (oi := ?ot0_12) (v := .slice (some ⟨g, off, none⟩) xs.length cw) ?gt0_12 (by kernel_rfl) ?ft0_12 (by kernel_rfl) ⟨?nt0_12, ?yt0_12, ?bt0_12⟩ rfl ?_
    case gt0_12 => simp only [List.getElem?_toArray, List.getElem?_cons_succ, List.getElem?_cons_zero]; with_reducible rfl
    case ft0_12 => kernel_rfl
    case nt0_12 => kernel_rfl
    case yt0_12 => rintro _ rfl; go_simp
    case bt0_12 => exact fun _ => rfl
    simp only [Act.put, List.setIfInBounds_toArray, List.set_cons_zero, List.set_cons_succ]
    refine wpP_take (i := 13) (oi := ?ot0_13) (v := .int .i64 (k : Nat)) ?gt0_13 (by kernel_rfl) ?ft0_13 (by kernel_rfl) ⟨?nt0_13, ?yt0_13, ?bt0_13⟩ rfl ?_
    case gt0_13 => simp only [List.getElem?_toArray, List.getElem?_cons_succ, List.getElem?_cons_zero]; with_reducible rfl
    case ft0_13 => kernel_rfl
    case nt0_13 => kernel_rfl
    case yt0_13 => rintro _ rfl; go_simp
    case bt0_13 => exact fun _ => rfl
    simp only [Act.put, List.setIfInBounds_toArray, List.set_cons_zero, List.set_cons_succ]
    refine wpP_take (i := 14) (oi := ?ot0_14) (v := .pointer (some ⟨g, off + k, none⟩)) ?gt0_14 (by kernel_rfl) ?ft0_14 (by kernel_rfl) ⟨?nt0_14, ?yt0_14, ?bt0_14⟩ rfl ?_
    case gt0_14 => simp only [List.getElem?_toArray, List.getElem?_cons_succ, List.getElem?_cons_zero]; with_reducible rfl
    case ft0_14 => kernel_rfl
    case nt0_14 => kernel_rfl
    case yt0_14 => rintro _ rfl; go_simp
    case bt0_14 => exact fun _ => rfl
    simp only [Act.put, List.setIfInBounds_toArray, List.set_cons_zero, List.set_cons_succ]
    refine wpP_take (i := 15) (oi := ?ot0_15) (v := .string tx) ?gt0_15 (by kernel_rfl) ?ft0_15 (by kernel_rfl) ⟨?nt0_15, ?yt0_15, ?bt0_15⟩ rfl ?_
    case gt0_15 => simp only [List.getElem?_toArray, List.getElem?_cons_succ, List.getElem?_cons_zero]; with_reducible rfl
    case ft0_15 => kernel_rfl
    case nt0_15 => kernel_rfl
    case yt0_15 => rintro _ rfl; go_simp
    case bt0_15 => exact fun _ => rfl
    simp only [Act.put, List.setIfInBounds_toArray, List.set_cons_zero, List.set_cons_succ]
    refine wpP_take (i := 16) (oi := ?ot0_16) (v := .bool false) ?gt0_16 (by kernel_rfl) ?ft0_16 (by kernel_rfl) ⟨?nt0_16, ?yt0_16, ?bt0_16⟩ rfl ?_
    case gt0_16 => simp only [List.getElem?_toArray, List.getElem?_cons_succ, List.getElem?_cons_zero]; with_reducible rfl
    case ft0_16 => kernel_rfl
    case nt0_16 => kernel_rfl
    case yt0_16 => rintro _ rfl; go_simp
    case bt0_16 => exact fun _ => rfl
    simp only [Act.put, List.setIfInBounds_toArray, List.set_cons_zero, List.set_cons_succ]
    refine wpP_take (i := 17) (oi := ?ot0_17) (v := .bool false) ?gt0_17 (by kernel_rfl) ?ft0_17 (by kernel_rfl) ⟨?nt0_17, ?yt0_17, ?bt0_17⟩ rfl ?_
    case gt0_17 => simp only [List.getElem?_toArray, List.getElem?_cons_succ, List.getElem?_cons_zero]; with_reducible rfl
    case ft0_17 => kernel_rfl
    case nt0_17 => kernel_rfl
    case yt0_17 => rintro _ rfl; go_simp
    case bt0_17 => exact fun _ => rfl
    simp only [Act.put, List.setIfInBounds_toArray, List.set_cons_zero, List.set_cons_succ]
    refine wpP_done (by kernel_rfl) ?_
    gi_wp2_with fail
    gi_loopw [10] (fun v10 wr => ∃ j : Nat, j ≤ xl.length ∧ v10 = .int .i64 j ∧ IncI W1 gc oc xl.length wr) (fun v10 _ => xl.length - (intOf v10).toNat)
    case atStart => exact ⟨0, Nat.zero_le _, rfl, HINC.out⟩
    case round =>
      obtain ⟨j, hj, rfl, hI⟩ := hrel
      by_cases hlt : j < xl.length
      · obtain rfl := HCA.out (by omega)
        obtain ⟨u, hcu, hfu, hI2⟩ := hI.cell hlt
        clear hI
        gi_wp2
        go_roundw
        case rel => exact ⟨j + 1, by omega, by go_num, hI2⟩
        case measure => simp [intOf]; omega
      · obtain rfl : j = xl.length := by omega
        have hnr : Row wr (g0 + 1) 3 #[.int .i64 (k : Nat)] := HN1.out.kept hI.kept (by omega)
        have htr : Row wr g0 3 #[.int .i64 0] := HT1.out.kept hI.kept (by omega)
        have hc1 := hnr.cell (i := 0) (v := .int .i64 (k : Nat)) rfl
        have hf1 := hnr.free 0
        have hr2 : Row (wr.setCell ⟨g0 + 1, 0, none⟩ (.int .i64 ((k : Int) + 1))) (g0 + 1) 3 #[.int .i64 ((k + 1 : Nat) : Int)] := hnr.set_ 0 _
        have hc2 : (wr.setCell ⟨g0 + 1, 0, none⟩ (.int .i64 ((k : Int) + 1))).cell? ⟨g0 + 1, 0, none⟩ = some (.int .i64 ((k : Int) + 1)) := hr2.cell (i := 0) rfl
        have hc3 : (wr.setCell ⟨g0 + 1, 0, none⟩ (.int .i64 ((k : Int) + 1))).cell? ⟨g0, 0, none⟩ = some (.int .i64 0) := (htr.far (p := ⟨g0 + 1, 0, none⟩) (by simp) _).cell (i := 0) rfl
        have hKO : KeepsOthers W (wr.setCell ⟨g0 + 1, 0, none⟩ (.int .i64 ((k : Int) + 1))) := (HKO.out.trans hI.others).trans (KeepsOthers.setCell _ _ _)
        have hKB : KB (g0 + 1) Wl.heap.size W (wr.setCell ⟨g0 + 1, 0, none⟩ (.int .i64 ((k : Int) + 1))) := (HKB1.out.trans (hI.kept.mono fun k _ hk => .inr (by omega))).trans ((Kept.cell _ _ _ _).mono fun k _ hk => .inl hk)
        have HFIN := Lib.hid (show KeepsOthers W _ ∧ KB (g0 + 1) Wl.heap.size W _ ∧ KB (g0 + 1) Wl.heap.size Wl _ ∧ Row _ (g0 + 1) 3 #[.int .i64 ((k + 1 : Nat) : Int)] from ⟨hKO, hKB, HKB.out.trans hKB, hr2⟩)
        clear hKO hKB hr2 hnr htr hI
        by_cases h2 : k + 1 = 2
        · have hk1 : (((k : Int) + 1) == 2) = true := by simp; omega
          gi_wp2_with fail
          exact ⟨HFIN.out.1, rfl, rfl, by rw [HLP.out]; exact h2, HFIN.out.2.2.1⟩
        · have hk1 : (((k : Int) + 1) == 2) = false := by simp; omega
          have hk2 := HTV.out (by first | rfl | trivial)
          gi_wp2_with fail
          exact ⟨HFIN.out.1, HFIN.out.2.1, by rw [HLP.out]; exact HFIN.out.2.2.2, fun _ => (by rw [HLP.out]; omega), HFIN.out.2.2.1⟩
  case done0 =>
    rintro D ys W hD hys ⟨hrn, htv, hkb⟩ hK
    have hbm : Below m Wl W := hkb.below (by omega) (by rintro k (hk | hk) <;> omega)
    have hS5 := hS4.under hbm
    have hT5 : Row W g0 3 #[.int .i64 0] := hturn0.kept hkb (by rintro (hk | hk) <;> omega)
    have hct := hT5.cell (i := 0) (v := .int .i64 0) rfl
    clear hrn htv hbm
    go_wp2_with fail
    clear hct hT5 hturn0 hnum0 hS4
    have hKl : D < W.heap.size := lt_of_heap hK
    have hDm : m ≤ D := by omega
    have hWm : m ≤ W.heap.size := by omega
    rw [rounds_succ]
    go_wp2_with fail
    obtain ⟨hS6, hturn1, hnum1, hsz1⟩ := hS5.turn 1
    have hK1 : ((W.alloc (.cells #[.int .i64 1] 3)).alloc (.cells #[.int .i64 0] 3)).heap[D]? = some (.deferred (some [])) :=
      (Below.heap_alloc _ _ D (by simp; omega)).trans ((Below.heap_alloc _ _ D hKl).trans hK)
    obtain ⟨g1, hg1⟩ : ∃ g1, g1 = W.heap.size := ⟨_, rfl⟩
    rw [← hg1] at hturn1 hnum1 hsz1 hKl hWm ⊢
    generalize (W.alloc (.cells #[.int .i64 1] 3)).alloc (.cells #[.int .i64 0] 3) = Wm at *
    clear hS5 hK hkb hg1
    refine (wpIn_wide (n := 4)).1 ?_
    refine wpIn_rangeP rfl (by omega) (gf := 59) (lb := #[.pointer (some ⟨q, 0, none⟩)]) rfl trivial (enters_of Tryd.func59 (by kernel_rfl) rfl)
      (batches_seq (fun k => k < m) Wm q Wm.heap.size xs vq HLD.out.few HLD.out.small (KB (g1 + 1) Wm.heap.size) ?hKl1 (Nat.le_refl _) (hS6.seq.cell (i := 0) rfl) hS6.list hS6.bats)
      KB.trans (fun W l o o' h1 h2 h3 h4 => KB.turn (Nat.le_refl _) W l o o' h1 h2 h3 h4) ?hPb1 (Below.refl _ _) (fun _ => rfl)
      (TellI Wm (g1 + 1) 1) (TellX Wm (g1 + 1) 1 2) (tell_own (Nat.le_refl _)) (tell_ownX (Nat.le_refl _)) ?h01 ?a11 ?assign1 ?body1 ?done1 ?stop1
    case hKl1 =>
      intro W W' hk hs
      refine ⟨Nat.le_trans hs hk.size, fun hc => hk.cell hc (by show q < _; omega) (by show q ≠ _; omega), fun hl => hl.kept hk fun k h1 h2 => ?_, fun b _ hb => hb.kept hk fun k h1 h2 => ?_⟩
      all_goals rcases h2 with h2 | h2 <;> omega
    case hPb1 =>
      rintro pre x W l o o' hl hc ⟨h1, h2, h3⟩
      refine ⟨h1, h2, h3.lies.same fun g cur _ hg => ?_, h3.small⟩
      refine (World.putObj_heap_other ?_).trans hg
      rintro rfl
      rw [hl] at hg
      cases hg
      cases hc
    case h01 => exact ⟨hnum1, fun _ => (by decide), KB.refl _ _ _⟩
    case assign1 =>
      intro l' x W K hK
      simp only [oneBat]
      gi_wp2
      exact hK
    case body1 =>
      rintro l' pre ⟨i, xA, xc, xl⟩ W ⟨hrn, htv, hkb⟩ ⟨hx1a, hx2a, hx3a⟩ hlen
      have hx1 : i = pre.length := hx1a
      have hx2 : xl = (xs.getD pre.length noBat).l := hx2a
      have HLP := Lib.hid (show (pre ++ [((i : Nat), (⟨xA, xc, xl⟩ : Bat))]).length = pre.length + 1 by simp)
      subst hx1
      have hbm : Below m Wm W := hkb.below (by omega) (by rintro k (hk | hk) <;> omega)
      have hd : Below W.heap.size W W.drew := (Below.refl _ _).drew
      have hS1 := (hS6.under hbm).call hd
      have hT1 : Row W.drew g1 3 #[.int .i64 1] := (hturn1.kept hkb (by rintro (hk | hk) <;> omega)).call hd
      have hN1 : Row W.drew (g1 + 1) 3 #[.int .i64 (pre.length : Nat)] := hrn.call hd
      have hkb1 : KB (g1 + 1) Wm.heap.size W W.drew := KB.under ((Below.refl _ _).drew) (Nat.le_refl _)
      have hko1 : KeepsOthers W W.drew := KeepsOthers.drew W
      obtain ⟨g, off, hA, hct⟩ := hS1.text hlen
      rw [← hx2] at hct
      have hx3 : BatOk W.drew (fun k => Wm.heap.size ≤ k) ⟨xA, xc, xl⟩ := hx3a.below hd
      have hsm : Small xl := hx3.small
      obtain ⟨bA, bc, hbv, hbb, _, _, _⟩ := lies_bytes hx3.lies hsm
      have hbv : Value.slice xA xl.length xc = .slice bA xl.length bc := hbv
      have hconv : (convert 41 9 (.slice xA xl.length xc)).run Tryd.prog W.drew = .ok (.string (textOf xl)) W.drew := by rw [hbv]; exact run_text hbb 41 9 5 bc Tryd.underlying41 Tryd.underlying5 Tryd.underlying9
      obtain ⟨gc, oc, hgc, hcA, hcl, hcm, hinc⟩ := inc_of hx3 (fun _ h => h) (Nat.le_trans hkb.size hd.size)
      have hmx : xl.length ≤ 9223372036854775807 := by unfold maxLen at hcm; omega
      have hcw := hS1.want.cell (i := 0) (v := .slice Aw xs.length cw) rfl
      have hcn := hN1.cell (i := 0) (v := .int .i64 (pre.length : Nat)) rfl
      rw [hA] at hcw
      have HN1 := Lib.hid hN1
      have HT1 := Lib.hid hT1
      have HINC := Lib.hid hinc
      have HKB := Lib.hid hkb
      have HKB1 := Lib.hid hkb1
      have HKO := Lib.hid hko1
      have HCA := Lib.hid hcA
      have HTV := Lib.hid htv
      have hmix : Tryd.prog.follows .mixedOrders = true := by kernel_rfl
      clear hrn hbm hd hS1 hT1 hN1 hkb hkb1 hko1 hA hx3 hbb hbv hinc hcA htv hsm hx2 hx1a hx2a hx3a
      generalize textOf xl = tx at *
      generalize pre ++ [(pre.length, (⟨xA, xc, xl⟩ : Bat))] = pre2 at *
      generalize pre.length = k at *
      have hne : (((k : Nat) : Int) != ((k : Nat) : Int)) = false := by simp
      have hge : decide (((k : Nat) : Int) ≥ ((xs.length : Nat) : Int)) = false := by simp; omega
      simp only [Bat.v]
      gi_upto_region 11 with fail
      refine wpIn_region_held (S := fun Wy => Wy = W.drew) hmix (by kernel_rfl) ?_
      generalize W.drew = W1 at *
      refine wpP_take (i := 0) (oi := ?ot1_0) (v := .int .i64 (k : Nat)) ?gt1_0 (by kernel_rfl) ?ft1_0 (by kernel_rfl) ⟨?nt1_0, ?yt1_0, ?bt1_0⟩ rfl ?_
      case gt1_0 => simp only [List.getElem?_toArray, List.getElem?_cons_zero]; with_reducible rfl
      case ft1_0 => kernel_rfl
      case nt1_0 => kernel_rfl
      case yt1_0 => rintro _ rfl; go_simp
      case bt1_0 => exact fun _ => rfl
      simp only [Act.put, List.setIfInBounds_toArray, List.set_cons_zero, List.set_cons_succ]
      refine wpP_take (i := 1) (oi := ?ot1_1) (v := .int .i64 (k : Nat)) ?gt1_1 (by kernel_rfl) ?ft1_1 (by kernel_rfl) ⟨?nt1_1, ?yt1_1, ?bt1_1⟩ rfl ?_
      case gt1_1 => simp only [List.getElem?_toArray, List.getElem?_cons_succ, List.getElem?_cons_zero]; with_reducible rfl
      case ft1_1 => kernel_rfl
      case nt1_1 => kernel_rfl
      case yt1_1 => rintro _ rfl; go_simp
      case bt1_1 => exact fun _ => rfl
      simp only [Act.put, List.setIfInBounds_toArray, List.set_cons_zero, List.set_cons_succ]
      refine wpP_take (i := 2) (oi := ?ot1_2) (v := .bool false) ?gt1_2 (by kernel_rfl) ?ft1_2 (by kernel_rfl) ⟨?nt1_2, ?yt1_2, ?bt1_2⟩ rfl ?_
      case gt1_2 => simp only [List.getElem?_toArray, List.getElem?_cons_succ, List.getElem?_cons_zero]; with_reducible rfl
      case ft1_2 => kernel_rfl
      case nt1_2 => kernel_rfl
      case yt1_2 => rintro _ rfl; go_simp
      case bt1_2 => exact fun _ => rfl
      simp only [Act.put, List.setIfInBounds_toArray, List.set_cons_zero, List.set_cons_succ]
      refine wpP_take (i := 3) (oi := ?ot1_3) (v := .bool false) ?gt1_3 (by kernel_rfl) ?ft1_3 (by kernel_rfl) ⟨?nt1_3, ?yt1_3, ?bt1_3⟩ rfl ?_
      case gt1_3 => simp only [List.getElem?_toArray, List.getElem?_cons_succ, List.getElem?_cons_zero]; with_reducible rfl
      case ft1_3 => kernel_rfl
      case nt1_3 => kernel_rfl
      case yt1_3 => rintro _ rfl; go_simp
      case bt1_3 => exact fun _ => rfl
      simp only [Act.put, List.setIfInBounds_toArray, List.set_cons_zero, List.set_cons_succ]
      refine wpP_take (i := 4) (oi := ?ot1_4) (v := .int .i64 (k : Nat)) ?gt1_4 (by kernel_rfl) ?ft1_4 (by kernel_rfl) ⟨?nt1_4, ?yt1_4, ?bt1_4⟩ rfl ?_
      case gt1_4 => simp only [List.getElem?_toArray, List.getElem?_cons_succ, List.getElem?_cons_zero]; with_reducible rfl
      case ft1_4 => kernel_rfl
      case nt1_4 => kernel_rfl
      case yt1_4 => rintro _ rfl; go_simp
      case bt1_4 => exact fun _ => rfl
      simp only [Act.put, List.setIfInBounds_toArray, List.set_cons_zero, List.set_cons_succ]
      refine wpP_take (i := 5) (oi := ?ot1_5) (v := .slice (some ⟨g, off, none⟩) xs.length cw) ?gt1_5 (by kernel_rfl) ?ft1_5 (by kernel_rfl) ⟨?nt1_5, ?yt1_5, ?bt1_5⟩ rfl ?_
      case gt1_5 => simp only [List.getElem?_toArray, List.getElem?_cons_succ, List.getElem?_cons_zero]; with_reducible rfl
      case ft1_5 => kernel_rfl
      case nt1_5 => kernel_rfl
      case yt1_5 => rintro _ rfl; go_simp
      case bt1_5 => exact fun _ => rfl
      simp only [Act.put, List.setIfInBounds_toArray, List.set_cons_zero, List.set_cons_succ]
      refine wpP_take (i := 6) (oi := ?ot1_6) (v := .int .i64 (xs.length : Nat)) ?gt1_6 (by kernel_rfl) ?ft1_6 (by kernel_rfl) ⟨?nt1_6, ?yt1_6, ?bt1_6⟩ rfl ?_
      case gt1_6 => simp only [List.getElem?_toArray, List.getElem?_cons_succ, List.getElem?_cons_zero]; with_reducible rfl
      case ft1_6 => kernel_rfl
      case nt1_6 => kernel_rfl
      case yt1_6 => rintro _ rfl; go_simp
      case bt1_6 => exact fun _ => rfl
      simp only [Act.put, List.setIfInBounds_toArray, List.set_cons_zero, List.set_cons_succ]
      refine wpP_take (i := 7) (oi := ?ot1_7) (v := .bool false) ?gt1_7 (by kernel_rfl) ?ft1_7 (by kernel_rfl) ⟨?nt1_7, ?yt1_7, ?bt1_7⟩ rfl ?_
      case gt1_7 => simp only [List.getElem?_toArray, List.getElem?_cons_succ, List.getElem?_cons_zero]; with_reducible rfl
      case ft1_7 => kernel_rfl
      case nt1_7 => kernel_rfl
      case yt1_7 => rintro _ rfl; go_simp
      case bt1_7 => exact fun _ => rfl
      simp only [Act.put, List.setIfInBounds_toArray, List.set_cons_zero, List.set_cons_succ]
      refine wpP_take (i := 8) (oi := ?ot1_8) (v := .bool false) ?gt1_8 (by kernel_rfl) ?ft1_8 (by kernel_rfl) ⟨?nt1_8, ?yt1_8, ?bt1_8⟩ rfl ?_
      case gt1_8 => simp only [List.getElem?_toArray, List.getElem?_cons_succ, List.getElem?_cons_zero]; with_reducible rfl
      case ft1_8 => kernel_rfl
      case nt1_8 => kernel_rfl
      case yt1_8 => rintro _ rfl; go_simp
      case bt1_8 => exact fun _ => rfl
      simp only [Act.put, List.setIfInBounds_toArray, List.set_cons_zero, List.set_cons_succ]
      refine wpP_take (i := 9) (oi := ?ot1_9) (v := .bool false) ?gt1_9 (by kernel_rfl) ?ft1_9 (by kernel_rfl) ⟨?nt1_9, ?yt1_9, ?bt1_9⟩ rfl ?_
      case gt1_9 => simp only [List.getElem?_toArray, List.getElem?_cons_succ, List.getElem?_cons_zero]; with_reducible rfl
      case ft1_9 => kernel_rfl
      case nt1_9 => kernel_rfl
      case yt1_9 => rintro _ rfl; go_simp
      case bt1_9 => exact fun _ => rfl
      simp only [Act.put, List.setIfInBounds_toArray, List.set_cons_zero, List.set_cons_succ]
      refine wpP_take (i := 10) (oi := ?ot1_10) (v := .slice xA xl.length xc) ?gt1_10 (by kernel_rfl) ?ft1_10 (by kernel_rfl) ⟨?nt1_10, ?yt1_10, ?bt1_10⟩ rfl ?_
      case gt1_10 => simp only [List.getElem?_toArray, List.getElem?_cons_succ, List.getElem?_cons_zero]; with_reducible rfl
      case ft1_10 => kernel_rfl
      case nt1_10 => kernel_rfl
      case yt1_10 => rintro _ rfl; go_simp
      case bt1_10 => exact fun _ => rfl
      simp only [Act.put, List.setIfInBounds_toArray, List.set_cons_zero, List.set_cons_succ]
      refine wpP_take (i := 11) (oi := ?ot1_11) (v := .string tx) ?gt1_11 (by kernel_rfl) ?ft1_11 (by kernel_rfl) ⟨?nt1_11, ?yt1_11, ?bt1_11⟩ rfl ?_
      case gt1_11 => simp only [List.getElem?_toArray, List.getElem?_cons_succ, List.getElem?_cons_zero]; with_reducible rfl
      case ft1_11 => kernel_rfl
      case nt1_11 => kernel_rfl
      case yt1_11 => rintro _ rfl; go_simp
      case bt1_11 => exact fun _ => rfl
      simp only [Act.put, List.setIfInBounds_toArray, List.set_cons_zero, List.set_cons_succ]
      refine wpP_take (i := 12) (oi := ?ot1_12) (v := .slice (some ⟨g, off, none⟩) xs.length cw) ?gt1_12 (by kernel_rfl) ?ft1_12 (by kernel_rfl) ⟨?nt1_12, ?yt1_12, ?bt1_12⟩ rfl ?_
      case gt1_12 => simp only [List.getElem?_toArray, List.getElem?_cons_succ, List.getElem?_cons_zero]; with_reducible rfl
      case ft1_12 => kernel_rfl
      case nt1_12 => kernel_rfl
      case yt1_12 => rintro _ rfl; go_simp
      case bt1_12 => exact fun _ => rfl
      simp only [Act.put, List.setIfInBounds_toArray, List.set_cons_zero, List.set_cons_succ]
      refine wpP_take (i := 13) (oi := ?ot1_13) (v := .int .i64 (k : Nat)) ?gt1_13 (by kernel_rfl) ?ft1_13 (by kernel_rfl) ⟨?nt1_13, ?yt1_13, ?bt1_13⟩ rfl ?_
      case gt1_13 => simp only [List.getElem?_toArray, List.getElem?_cons_succ, List.getElem?_cons_zero]; with_reducible rfl
      case ft1_13 => kernel_rfl
      case nt1_13 => kernel_rfl
      case yt1_13 => rintro _ rfl; go_simp
      case bt1_13 => exact fun _ => rfl
      simp only [Act.put, List.setIfInBounds_toArray, List.set_cons_zero, List.set_cons_succ]
      refine wpP_take (i := 14) (oi := ?ot1_14) (v := .pointer (some ⟨g, off + k, none⟩)) ?gt1_14 (by kernel_rfl) ?ft1_14 (by kernel_rfl) ⟨?nt1_14, ?yt1_14, ?bt1_14⟩ rfl ?_
      case gt1_14 => simp only [List.getElem?_toArray, List.getElem?_cons_succ, List.getElem?_cons_zero]; with_reducible rfl
      case ft1_14 => kernel_rfl
      case nt1_14 => kernel_rfl
      case yt1_14 => rintro _ rfl; go_simp
      case bt1_14 => exact fun _ => rfl
      simp only [Act.put, List.setIfInBounds_toArray, List.set_cons_zero, List.set_cons_succ]
      refine wpP_take (i := 15) (oi := ?ot1_15) (v := .string tx) ?gt1_15 (by kernel_rfl) ?ft1_15 (by kernel_rfl) ⟨?nt1_15, ?yt1_15, ?bt1_15⟩ rfl ?_
      case gt1_15 => simp only [List.getElem?_toArray, List.getElem?_cons_succ, List.getElem?_cons_zero]; with_reducible rfl
      case ft1_15 => kernel_rfl
      case nt1_15 => kernel_rfl
      case yt1_15 => rintro _ rfl; go_simp
      case bt1_15 => exact fun _ => rfl
      simp only [Act.put, List.setIfInBounds_toArray, List.set_cons_zero, List.set_cons_succ]
      refine wpP_take (i := 16) (oi := ?ot1_16) (v := .bool false) ?gt1_16 (by kernel_rfl) ?ft1_16 (by kernel_rfl) ⟨?nt1_16, ?yt1_16, ?bt1_16⟩ rfl ?_
      case gt1_16 => simp only [List.getElem?_toArray, List.getElem?_cons_succ, List.getElem?_cons_zero]; with_reducible rfl
      case ft1_16 => kernel_rfl
      case nt1_16 => kernel_rfl
      case yt1_16 => rintro _ rfl; go_simp
      case bt1_16 => exact fun _ => rfl
      simp only [Act.put, List.setIfInBounds_toArray, List.set_cons_zero, List.set_cons_succ]
      refine wpP_take (i := 17) (oi := ?ot1_17) (v := .bool false) ?gt1_17 (by kernel_rfl) ?ft1_17 (by kernel_rfl) ⟨?nt1_17, ?yt1_17, ?bt1_17⟩ rfl ?_
      case gt1_17 => simp only [List.getElem?_toArray, List.getElem?_cons_succ, List.getElem?_cons_zero]; with_reducible rfl
      case ft1_17 => kernel_rfl
      case nt1_17 => kernel_rfl
      case yt1_17 => rintro _ rfl; go_simp
      case bt1_17 => exact fun _ => rfl
      simp only [Act.put, List.setIfInBounds_toArray, List.set_cons_zero, List.set_cons_succ]
      refine wpP_done (by kernel_rfl) ?_
      gi_wp2_with fail
      gi_loopw [10] (fun v10 wr => ∃ j : Nat, j ≤ xl.length ∧ v10 = .int .i64 j ∧ IncI W1 gc oc xl.length wr) (fun v10 _ => xl.length - (intOf v10).toNat)
      case atStart => exact ⟨0, Nat.zero_le _, rfl, HINC.out⟩
      case round =>
        obtain ⟨j, hj, rfl, hI⟩ := hrel
        by_cases hlt : j < xl.length
        · obtain rfl := HCA.out (by omega)
          obtain ⟨u, hcu, hfu, hI2⟩ := hI.cell hlt
          clear hI
          gi_wp2
          go_roundw
          case rel => exact ⟨j + 1, by omega, by go_num, hI2⟩
          case measure => simp [intOf]; omega
        · obtain rfl : j = xl.length := by omega
          have hnr : Row wr (g1 + 1) 3 #[.int .i64 (k : Nat)] := HN1.out.kept hI.kept (by omega)
          have htr : Row wr g1 3 #[.int .i64 1] := HT1.out.kept hI.kept (by omega)
          have hc1 := hnr.cell (i := 0) (v := .int .i64 (k : Nat)) rfl
          have hf1 := hnr.free 0
          have hr2 : Row (wr.setCell ⟨g1 + 1, 0, none⟩ (.int .i64 ((k : Int) + 1))) (g1 + 1) 3 #[.int .i64 ((k + 1 : Nat) : Int)] := hnr.set_ 0 _
          have hc2 : (wr.setCell ⟨g1 + 1, 0, none⟩ (.int .i64 ((k : Int) + 1))).cell? ⟨g1 + 1, 0, none⟩ = some (.int .i64 ((k : Int) + 1)) := hr2.cell (i := 0) rfl
          have hc3 : (wr.setCell ⟨g1 + 1, 0, none⟩ (.int .i64 ((k : Int) + 1))).cell? ⟨g1, 0, none⟩ = some (.int .i64 1) := (htr.far (p := ⟨g1 + 1, 0, none⟩) (by simp) _).cell (i := 0) rfl
          have hKO : KeepsOthers W (wr.setCell ⟨g1 + 1, 0, none⟩ (.int .i64 ((k : Int) + 1))) := (HKO.out.trans hI.others).trans (KeepsOthers.setCell _ _ _)
          have hKB : KB (g1 + 1) Wm.heap.size W (wr.setCell ⟨g1 + 1, 0, none⟩ (.int .i64 ((k : Int) + 1))) := (HKB1.out.trans (hI.kept.mono fun k _ hk => .inr (by omega))).trans ((Kept.cell _ _ _ _).mono fun k _ hk => .inl hk)
          have HFIN := Lib.hid (show KeepsOthers W _ ∧ KB (g1 + 1) Wm.heap.size W _ ∧ KB (g1 + 1) Wm.heap.size Wm _ ∧ Row _ (g1 + 1) 3 #[.int .i64 ((k + 1 : Nat) : Int)] from ⟨hKO, hKB, HKB.out.trans hKB, hr2⟩)
          clear hKO hKB hr2 hnr htr hI
          gi_wp2_with fail
          exact ⟨HFIN.out.1, HFIN.out.2.1, by rw [HLP.out]; exact HFIN.out.2.2.2, fun h => (by cases h), HFIN.out.2.2.1⟩
    case stop1 =>
      rintro E ex pre V _ _ ⟨_, h0, _⟩ _
      cases h0
    case done1 =>
      rintro E ys V hE hys ⟨hrn, _, hkb⟩ hK2
      rw [hys] at hrn
      have hbm : Below m Wm V := hkb.below (by omega) (by rintro k (hk | hk) <;> omega)
      have hS7 := hS6.under hbm
      have hT7 : Row V g1 3 #[.int .i64 1] := hturn1.kept hkb (by rintro (hk | hk) <;> omega)
      have hct := hT7.cell (i := 0) (v := .int .i64 1) rfl
      have hcn := hrn.cell (i := 0) (v := .int .i64 (xs.length : Nat)) rfl
      have hcw := hS7.want.cell (i := 0) (v := .slice Aw xs.length cw) rfl
      have hnn : (((xs.length : Nat) : Int) != ((xs.length : Nat) : Int)) = false := by simp
      have hK1' := hkb.heap hK1 (by rintro (hk | hk) <;> omega)
      have hED : D ≠ E := by omega
      clear hrn hbm hkb hT7 hS6 hturn1 hnum1 hK1
      go_wp2_with fail
      rw [rounds_succ]
      go_wp2_with fail
      have hS8 := hS7.call ((Below.refl _ _).alloc (Nat.le_refl _) (.cells #[.int .i64 2] 3))
      have hK3 : (V.alloc (.cells #[.int .i64 2] 3)).heap[E]? = some (.deferred (some [])) := (Below.heap_alloc _ _ E (lt_of_heap hK2)).trans hK2
      have hK4 : (V.alloc (.cells #[.int .i64 2] 3)).heap[D]? = some (.deferred (some [])) := (Below.heap_alloc _ _ D (lt_of_heap hK1')).trans hK1'
      generalize V.alloc (.cells #[.int .i64 2] 3) = Vn at *
      refine (HST.out Vn hS8.below).mono ?_
      rintro e V2 ⟨⟨x, y, z, rfl⟩, hB8⟩
      have h8 := hS8.call hB8
      have hEl : E < Vn.heap.size := lt_of_heap hK3
      have hDl : D < Vn.heap.size := lt_of_heap hK4
      have hE1 := (hB8.block E hEl).trans hK3
      have hD1 := (hB8.block D hDl).trans hK4
      have hcw8 := h8.want.cell (i := 0) (v := .slice Aw xs.length cw) rfl
      have hc8 := h8.res.cell (i := 0) (v := .bool false) rfl
      have hf8 := h8.res.free 0
      have hs8 := h8.res.set_ 0 (.bool true)
      have hc9 := hs8.cell (i := 0) (v := .bool true) rfl
      have hEr : E ≠ w.heap.size + 1 := by omega
      have hDr : D ≠ w.heap.size + 1 := by omega
      have hE2 : (V2.setCell ⟨w.heap.size + 1, 0, none⟩ (.bool true)).heap[E]? = some (.deferred (some [])) := (heap_setCell_other V2 ⟨w.heap.size + 1, 0, none⟩ E (.bool true) hEr).trans hE1
      have hD2 : (V2.setCell ⟨w.heap.size + 1, 0, none⟩ (.bool true)).heap[D]? = some (.deferred (some [])) := (heap_setCell_other V2 ⟨w.heap.size + 1, 0, none⟩ D (.bool true) hDr).trans hD1
      have hbe : Below w.heap.size w (V2.setCell ⟨w.heap.size + 1, 0, none⟩ (.bool true)) := h8.below.setCell (p := ⟨w.heap.size + 1, 0, none⟩) (by simp) (.bool true)
      have heq : (((xs.length : Nat) : Int) == ((xs.length : Nat) : Int)) = true := by simp
      have hwq : w.heap.size ≤ E ∧ w.heap.size ≤ D := by omega
      clear hB8 hS7 hS8 h8 hs8 hK2 hK1' hK3 hK4 hE1 hD1 hEl hDl hct hcn hcw hnn
      go_wp2
      generalize V2.setCell ⟨w.heap.size + 1, 0, none⟩ (.bool true) = V3 at *
      have hD3 : (V3.putObj E (.deferred none)).heap[D]? = some (.deferred (some [])) := (World.putObj_heap_other hED).trans hD2
      have hr1 := cell_kept hc9 (grownBy_putObj' V3 E (.deferred none)) (fun r e => by cases e; exact ⟨_, hE2, rfl⟩)
      have hr2 := cell_kept hr1 (grownBy_putObj' (V3.putObj E (.deferred none)) D (.deferred none)) (fun r e => by cases e; exact ⟨_, hD3, rfl⟩)
      have hbe2 := (hbe.trans (belowK_b (w := w) (Nat.le_refl _) V3 E _ (.deferred none) hwq.1 hE2 rfl rfl)).trans (belowK_b (w := w) (Nat.le_refl _) _ D _ (.deferred none) hwq.2 hD3 rfl rfl)
      refine ⟨by simp, .inl ⟨_, _, rfl, run_takeDeferred hE2, ⟨by simp, .inl ⟨_, _, rfl, run_takeDeferred hD3, ?_⟩⟩⟩⟩
      refine ⟨.bool true, ?_, rfl, hbe2⟩
      simp [results, Tryd.f20, go_sem, hr2]
  case stop0 =>
    rintro D ex pre W hD _ ⟨rfl, _, hl2, hkb⟩ hK
    have hbm : Below m Wl W := hkb.below (by omega) (by rintro k (hk | hk) <;> omega)
    have hS5 := hS4.under hbm
    have hT5 : Row W g0 3 #[.int .i64 0] := hturn0.kept hkb (by rintro (hk | hk) <;> omega)
    have hct := hT5.cell (i := 0) (v := .int .i64 0) rfl
    clear hl2 hbm
    refine wpIn_wide.2 ?_
    go_wp2_with fail
    clear hct hT5 hturn0 hnum0 hS4
    have hKl : D < W.heap.size := lt_of_heap hK
    have hDm : m ≤ D := by omega
    have hWm : m ≤ W.heap.size := by omega
    rw [rounds_succ]
    go_wp2_with fail
    obtain ⟨hS6, hturn2, hnum2, hsz1⟩ := hS5.turn 1
    have hK1 : ((W.alloc (.cells #[.int .i64 1] 3)).alloc (.cells #[.int .i64 0] 3)).heap[D]? = some (.deferred (some [])) :=
      (Below.heap_alloc _ _ D (by simp; omega)).trans ((Below.heap_alloc _ _ D hKl).trans hK)
    obtain ⟨g1, hg1⟩ : ∃ g1, g1 = W.heap.size := ⟨_, rfl⟩
    rw [← hg1] at hturn2 hnum2 hsz1 hKl hWm ⊢
    generalize (W.alloc (.cells #[.int .i64 1] 3)).alloc (.cells #[.int .i64 0] 3) = Wm at *
    clear hS5 hK hkb hg1
    refine (wpIn_wide (n := 4)).1 ?_
    refine wpIn_rangeP rfl (by omega) (gf := 59) (lb := #[.pointer (some ⟨q, 0, none⟩)]) rfl trivial (enters_of Tryd.func59 (by kernel_rfl) rfl)
      (batches_seq (fun k => k < m) Wm q Wm.heap.size xs vq HLD.out.few HLD.out.small (KB (g1 + 1) Wm.heap.size) ?hKl2 (Nat.le_refl _) (hS6.seq.cell (i := 0) rfl) hS6.list hS6.bats)
      KB.trans (fun W l o o' h1 h2 h3 h4 => KB.turn (Nat.le_refl _) W l o o' h1 h2 h3 h4) ?hPb2 (Below.refl _ _) (fun _ => rfl)
      (TellI Wm (g1 + 1) 1) (TellX Wm (g1 + 1) 1 2) (tell_own (Nat.le_refl _)) (tell_ownX (Nat.le_refl _)) ?h02 ?a12 ?assign2 ?body2 ?done2 ?stop2
    case hKl2 =>
      intro W W' hk hs
      refine ⟨Nat.le_trans hs hk.size, fun hc => hk.cell hc (by show q < _; omega) (by show q ≠ _; omega), fun hl => hl.kept hk fun k h1 h2 => ?_, fun b _ hb => hb.kept hk fun k h1 h2 => ?_⟩
      all_goals rcases h2 with h2 | h2 <;> omega
    case hPb2 =>
      rintro pre x W l o o' hl hc ⟨h1, h2, h3⟩
      refine ⟨h1, h2, h3.lies.same fun g cur _ hg => ?_, h3.small⟩
      refine (World.putObj_heap_other ?_).trans hg
      rintro rfl
      rw [hl] at hg
      cases hg
      cases hc
    case h02 => exact ⟨hnum2, fun _ => (by decide), KB.refl _ _ _⟩
    case assign2 =>
      intro l' x W K hK
      simp only [oneBat]
      gi_wp2
      exact hK
    case body2 =>
      rintro l' pre ⟨i, xA, xc, xl⟩ W ⟨hrn, htv, hkb⟩ ⟨hx1a, hx2a, hx3a⟩ hlen
      have hx1 : i = pre.length := hx1a
      have hx2 : xl = (xs.getD pre.length noBat).l := hx2a
      have HLP := Lib.hid (show (pre ++ [((i : Nat), (⟨xA, xc, xl⟩ : Bat))]).length = pre.length + 1 by simp)
      subst hx1
      have hbm : Below m Wm W := hkb.below (by omega) (by rintro k (hk | hk) <;> omega)
      have hd : Below W.heap.size W W.drew := (Below.refl _ _).drew
      have hS1 := (hS6.under hbm).call hd
      have hT1 : Row W.drew g1 3 #[.int .i64 1] := (hturn2.kept hkb (by rintro (hk | hk) <;> omega)).call hd
      have hN1 : Row W.drew (g1 + 1) 3 #[.int .i64 (pre.length : Nat)] := hrn.call hd
      have hkb1 : KB (g1 + 1) Wm.heap.size W W.drew := KB.under ((Below.refl _ _).drew) (Nat.le_refl _)
      have hko1 : KeepsOthers W W.drew := KeepsOthers.drew W
      obtain ⟨g, off, hA, hct⟩ := hS1.text hlen
      rw [← hx2] at hct
      have hx3 : BatOk W.drew (fun k => Wm.heap.size ≤ k) ⟨xA, xc, xl⟩ := hx3a.below hd
      have hsm : Small xl := hx3.small
      obtain ⟨bA, bc, hbv, hbb, _, _, _⟩ := lies_bytes hx3.lies hsm
      have hbv : Value.slice xA xl.length xc = .slice bA xl.length bc := hbv
      have hconv : (convert 41 9 (.slice xA xl.length xc)).run Tryd.prog W.drew = .ok (.string (textOf xl)) W.drew := by rw [hbv]; exact run_text hbb 41 9 5 bc Tryd.underlying41 Tryd.underlying5 Tryd.underlying9
      obtain ⟨gc, oc, hgc, hcA, hcl, hcm, hinc⟩ := inc_of hx3 (fun _ h => h) (Nat.le_trans hkb.size hd.size)
      have hmx : xl.length ≤ 9223372036854775807 := by unfold maxLen at hcm; omega
      have hcw := hS1.want.cell (i := 0) (v := .slice Aw xs.length cw) rfl
      have hcn := hN1.cell (i := 0) (v := .int .i64 (pre.length : Nat)) rfl
      rw [hA] at hcw
      have HN1 := Lib.hid hN1
      have HT1 := Lib.hid hT1
      have HINC := Lib.hid hinc
      have HKB := Lib.hid hkb
      have HKB1 := Lib.hid hkb1
      have HKO := Lib.hid hko1
      have HCA := Lib.hid hcA
      have HTV := Lib.hid htv
      have hmix : Tryd.prog.follows .mixedOrders = true := by kernel_rfl
      clear hrn hbm hd hS1 hT1 hN1 hkb hkb1 hko1 hA hx3 hbb hbv hinc hcA htv hsm hx2 hx1a hx2a hx3a
      generalize textOf xl = tx at *
      generalize pre ++ [(pre.length, (⟨xA, xc, xl⟩ : Bat))] = pre2 at *
      generalize pre.length = k at *
      have hne : (((k : Nat) : Int) != ((k : Nat) : Int)) = false := by simp
      have hge : decide (((k : Nat) : Int) ≥ ((xs.length : Nat) : Int)) = false := by simp; omega
      simp only [Bat.v]
      gi_upto_region 11 with fail
      refine wpIn_region_held (S := fun Wy => Wy = W.drew) hmix (by kernel_rfl) ?_
      generalize W.drew = W1 at *
      refine wpP_take (i := 0) (oi := ?ot2_0) (v := .int .i64 (k : Nat)) ?gt2_0 (by kernel_rfl) ?ft2_0 (by kernel_rfl) ⟨?nt2_0, ?yt2_0, ?bt2_0⟩ rfl ?_
      case gt2_0 => simp only [List.getElem?_toArray, List.getElem?_cons_zero]; with_reducible rfl
      case ft2_0 => kernel_rfl
      case nt2_0 => kernel_rfl
      case yt2_0 => rintro _ rfl; go_simp
      case bt2_0 => exact fun _ => rfl
      simp only [Act.put, List.setIfInBounds_toArray, List.set_cons_zero, List.set_cons_succ]
      refine wpP_take (i := 1) (oi := ?ot2_1) (v := .int .i64 (k : Nat)) ?gt2_1 (by kernel_rfl) ?ft2_1 (by kernel_rfl) ⟨?nt2_1, ?yt2_1, ?bt2_1⟩ rfl ?_
      case gt2_1 => simp only [List.getElem?_toArray, List.getElem?_cons_succ, List.getElem?_cons_zero]; with_reducible rfl
      case ft2_1 => kernel_rfl
      case nt2_1 => kernel_rfl
      case yt2_1 => rintro _ rfl; go_simp
      case bt2_1 => exact fun _ => rfl
      simp only [Act.put, List.setIfInBounds_toArray, List.set_cons_zero, List.set_cons_succ]
      refine wpP_take (i := 2) (oi := ?ot2_2) (v := .bool false) ?gt2_2 (by kernel_rfl) ?ft2_2 (by kernel_rfl) ⟨?nt2_2, ?yt2_2, ?bt2_2⟩ rfl ?_
      case gt2_2 => simp only [List.getElem?_toArray, List.getElem?_cons_succ, List.getElem?_cons_zero]; with_reducible rfl
      case ft2_2 => kernel_rfl
      case nt2_2 => kernel_rfl
      case yt2_2 => rintro _ rfl; go_simp
      case bt2_2 => exact fun _ => rfl
      simp only [Act.put, List.setIfInBounds_toArray, List.set_cons_zero, List.set_cons_succ]
      refine wpP_take (i := 3) (oi := ?ot2_3) (v := .bool false) ?gt2_3 (by kernel_rfl) ?ft2_3 (by kernel_rfl) ⟨?nt2_3, ?yt2_3, ?bt2_3⟩ rfl ?_
      case gt2_3 => simp only [List.getElem?_toArray, List.getElem?_cons_succ, List.getElem?_cons_zero]; with_reducible rfl
      case ft2_3 => kernel_rfl
      case nt2_3 => kernel_rfl
      case yt2_3 => rintro _ rfl; go_simp
      case bt2_3 => exact fun _ => rfl
      simp only [Act.put, List.setIfInBounds_toArray, List.set_cons_zero, List.set_cons_succ]
      refine wpP_take (i := 4) (oi := ?ot2_4) (v := .int .i64 (k : Nat)) ?gt2_4 (by kernel_rfl) ?ft2_4 (by kernel_rfl) ⟨?nt2_4, ?yt2_4, ?bt2_4⟩ rfl ?_
      case gt2_4 => simp only [List.getElem?_toArray, List.getElem?_cons_succ, List.getElem?_cons_zero]; with_reducible rfl
      case ft2_4 => kernel_rfl
      case nt2_4 => kernel_rfl
      case yt2_4 => rintro _ rfl; go_simp
      case bt2_4 => exact fun _ => rfl
      simp only [Act.put, List.setIfInBounds_toArray, List.set_cons_zero, List.set_cons_succ]
      refine wpP_take (i := 5) (oi := ?ot2_5) (v := .slice (some ⟨g, off, none⟩) xs.length cw) ?gt2_5 (by kernel_rfl) ?ft2_5 (by kernel_rfl) ⟨?nt2_5, ?yt2_5, ?bt2_5⟩ rfl ?_
      case gt2_5 => simp only [List.getElem?_toArray, List.getElem?_cons_succ, List.getElem?_cons_zero]; with_reducible rfl
      case ft2_5 => kernel_rfl
      case nt2_5 => kernel_rfl
      case yt2_5 => rintro _ rfl; go_simp
      case bt2_5 => exact fun _ => rfl
      simp only [Act.put, List.setIfInBounds_toArray, List.set_cons_zero, List.set_cons_succ]
      refine wpP_take (i := 6) (oi := ?ot2_6) (v := .int .i64 (xs.length : Nat)) ?gt2_6 (by kernel_rfl) ?ft2_6 (by kernel_rfl) ⟨?nt2_6, ?yt2_6, ?bt2_6⟩ rfl ?_
      case gt2_6 => simp only [List.getElem?_toArray, List.getElem?_cons_succ, List.getElem?_cons_zero]; with_reducible rfl
      case ft2_6 => kernel_rfl
      case nt2_6 => kernel_rfl
      case yt2_6 => rintro _ rfl; go_simp
      case bt2_6 => exact fun _ => rfl
      simp only [Act.put, List.setIfInBounds_toArray, List.set_cons_zero, List.set_cons_succ]
      refine wpP_take (i := 7) (oi := ?ot2_7) (v := .bool false) ?gt2_7 (by kernel_rfl) ?ft2_7 (by kernel_rfl) ⟨?nt2_7, ?yt2_7, ?bt2_7⟩ rfl ?_
      case gt2_7 => simp only [List.getElem?_toArray, List.getElem?_cons_succ, List.getElem?_cons_zero]; with_reducible rfl
      case ft2_7 => kernel_rfl
      case nt2_7 => kernel_rfl
      case yt2_7 => rintro _ rfl; go_simp
      case bt2_7 => exact fun _ => rfl
      simp only [Act.put, List.setIfInBounds_toArray, List.set_cons_zero, List.set_cons_succ]
      refine wpP_take (i := 8) (oi := ?ot2_8) (v := .bool false) ?gt2_8 (by kernel_rfl) ?ft2_8 (by kernel_rfl) ⟨?nt2_8, ?yt2_8, ?bt2_8⟩ rfl ?_
      case gt2_8 => simp only [List.getElem?_toArray, List.getElem?_cons_succ, List.getElem?_cons_zero]; with_reducible rfl
      case ft2_8 => kernel_rfl
      case nt2_8 => kernel_rfl
      case yt2_8 => rintro _ rfl; go_simp
      case bt2_8 => exact fun _ => rfl
      simp only [Act.put, List.setIfInBounds_toArray, List.set_cons_zero, List.set_cons_succ]
      refine wpP_take (i := 9) (oi := ?ot2_9) (v := .bool false) ?gt2_9 (by kernel_rfl) ?ft2_9 (by kernel_rfl) ⟨?nt2_9, ?yt2_9, ?bt2_9⟩ rfl ?_
      case gt2_9 => simp only [List.getElem?_toArray, List.getElem?_cons_succ, List.getElem?_cons_zero]; with_reducible rfl
      case ft2_9 => kernel_rfl
      case nt2_9 => kernel_rfl
      case yt2_9 => rintro _ rfl; go_simp
      case bt2_9 => exact fun _ => rfl
      simp only [Act.put, List.setIfInBounds_toArray, List.set_cons_zero, List.set_cons_succ]
      refine wpP_take (i := 10) (oi := ?ot2_10) (v := .slice xA xl.length xc) ?gt2_10 (by kernel_rfl) ?ft2_10 (by kernel_rfl) ⟨?nt2_10, ?yt2_10, ?bt2_10⟩ rfl ?_
      case gt2_10 => simp only [List.getElem?_toArray, List.getElem?_cons_succ, List.getElem?_cons_zero]; with_reducible rfl
      case ft2_10 => kernel_rfl
      case nt2_10 => kernel_rfl
      case yt2_10 => rintro _ rfl; go_simp
      case bt2_10 => exact fun _ => rfl
      simp only [Act.put, List.setIfInBounds_toArray, List.set_cons_zero, List.set_cons_succ]
      refine wpP_take (i := 11) (oi := ?ot2_11) (v := .string tx) ?gt2_11 (by kernel_rfl) ?ft2_11 (by kernel_rfl) ⟨?nt2_11, ?yt2_11, ?bt2_11⟩ rfl ?_
      case gt2_11 => simp only [List.getElem?_toArray, List.getElem?_cons_succ, List.getElem?_cons_zero]; with_reducible rfl
      case ft2_11 => kernel_rfl
      case nt2_11 => kernel_rfl
      case yt2_11 => rintro _ rfl; go_simp
      case bt2_11 => exact fun _ => rfl
      simp only [Act.put, List.setIfInBounds_toArray, List.set_cons_zero, List.set_cons_succ]
      refine wpP_take (i := 12) (oi := ?ot2_12) (v := .slice (some ⟨g, off, none⟩) xs.length cw) ?gt2_12 (by kernel_rfl) ?ft2_12 (by kernel_rfl) ⟨?nt2_12, ?yt2_12, ?bt2_12⟩ rfl ?_
      case gt2_12 => simp only [List.getElem?_toArray, List.getElem?_cons_succ, List.getElem?_cons_zero]; with_reducible rfl
      case ft2_12 => kernel_rfl
      case nt2_12 => kernel_rfl
      case yt2_12 => rintro _ rfl; go_simp
      case bt2_12 => exact fun _ => rfl
      simp only [Act.put, List.setIfInBounds_toArray, List.set_cons_zero, List.set_cons_succ]
      refine wpP_take (i := 13) (oi := ?ot2_13) (v := .int .i64 (k : Nat)) ?gt2_13 (by kernel_rfl) ?ft2_13 (by kernel_rfl) ⟨?nt2_13, ?yt2_13, ?bt2_13⟩ rfl ?_
      case gt2_13 => simp only [List.getElem?_toArray, List.getElem?_cons_succ, List.getElem?_cons_zero]; with_reducible rfl
      case ft2_13 => kernel_rfl
      case nt2_13 => kernel_rfl
      case yt2_13 => rintro _ rfl; go_simp
      case bt2_13 => exact fun _ => rfl
      simp only [Act.put, List.setIfInBounds_toArray, List.set_cons_zero, List.set_cons_succ]
      refine wpP_take (i := 14) (oi := ?ot2_14) (v := .pointer (some ⟨g, off + k, none⟩)) ?gt2_14 (by kernel_rfl) ?ft2_14 (by kernel_rfl) ⟨?nt2_14, ?yt2_14, ?bt2_14⟩ rfl ?_
      case gt2_14 => simp only [List.getElem?_toArray, List.getElem?_cons_succ, List.getElem?_cons_zero]; with_reducible rfl
      case ft2_14 => kernel_rfl
      case nt2_14 => kernel_rfl
      case yt2_14 => rintro _ rfl; go_simp
      case bt2_14 => exact fun _ => rfl
      simp only [Act.put, List.setIfInBounds_toArray, List.set_cons_zero, List.set_cons_succ]
      refine wpP_take (i := 15) (oi := ?ot2_15) (v := .string tx) ?gt2_15 (by kernel_rfl) ?ft2_15 (by kernel_rfl) ⟨?nt2_15, ?yt2_15, ?bt2_15⟩ rfl ?_
      case gt2_15 => simp only [List.getElem?_toArray, List.getElem?_cons_succ, List.getElem?_cons_zero]; with_reducible rfl
      case ft2_15 => kernel_rfl
      case nt2_15 => kernel_rfl
      case yt2_15 => rintro _ rfl; go_simp
      case bt2_15 => exact fun _ => rfl
      simp only [Act.put, List.setIfInBounds_toArray, List.set_cons_zero, List.set_cons_succ]
      refine wpP_take (i := 16) (oi := ?ot2_16) (v := .bool false) ?gt2_16 (by kernel_rfl) ?ft2_16 (by kernel_rfl) ⟨?nt2_16, ?yt2_16, ?bt2_16⟩ rfl ?_
      case gt2_16 => simp only [List.getElem?_toArray, List.getElem?_cons_succ, List.getElem?_cons_zero]; with_reducible rfl
      case ft2_16 => kernel_rfl
      case nt2_16 => kernel_rfl
      case yt2_16 => rintro _ rfl; go_simp
      case bt2_16 => exact fun _ => rfl
      simp only [Act.put, List.setIfInBounds_toArray, List.set_cons_zero, List.set_cons_succ]
      refine wpP_take (i := 17) (oi := ?ot2_17) (v := .bool false) ?gt2_17 (by kernel_rfl) ?ft2_17 (by kernel_rfl) ⟨?nt2_17, ?yt2_17, ?bt2_17⟩ rfl ?_
      case gt2_17 => simp only [List.getElem?_toArray, List.getElem?_cons_succ, List.getElem?_cons_zero]; with_reducible rfl
      case ft2_17 => kernel_rfl
      case nt2_17 => kernel_rfl
      case yt2_17 => rintro _ rfl; go_simp
      case bt2_17 => exact fun _ => rfl
      simp only [Act.put, List.setIfInBounds_toArray, List.set_cons_zero, List.set_cons_succ]
      refine wpP_done (by kernel_rfl) ?_
      gi_wp2_with fail
      gi_loopw [10] (fun v10 wr => ∃ j : Nat, j ≤ xl.length ∧ v10 = .int .i64 j ∧ IncI W1 gc oc xl.length wr) (fun v10 _ => xl.length - (intOf v10).toNat)
      case atStart => exact ⟨0, Nat.zero_le _, rfl, HINC.out⟩
      case round =>
        obtain ⟨j, hj, rfl, hI⟩ := hrel
        by_cases hlt : j < xl.length
        · obtain rfl := HCA.out (by omega)
          obtain ⟨u, hcu, hfu, hI2⟩ := hI.cell hlt
          clear hI
          gi_wp2
          go_roundw
          case rel => exact ⟨j + 1, by omega, by go_num, hI2⟩
          case measure => simp [intOf]; omega
        · obtain rfl : j = xl.length := by omega
          have hnr : Row wr (g1 + 1) 3 #[.int .i64 (k : Nat)] := HN1.out.kept hI.kept (by omega)
          have htr : Row wr g1 3 #[.int .i64 1] := HT1.out.kept hI.kept (by omega)
          have hc1 := hnr.cell (i := 0) (v := .int .i64 (k : Nat)) rfl
          have hf1 := hnr.free 0
          have hr2 : Row (wr.setCell ⟨g1 + 1, 0, none⟩ (.int .i64 ((k : Int) + 1))) (g1 + 1) 3 #[.int .i64 ((k + 1 : Nat) : Int)] := hnr.set_ 0 _
          have hc2 : (wr.setCell ⟨g1 + 1, 0, none⟩ (.int .i64 ((k : Int) + 1))).cell? ⟨g1 + 1, 0, none⟩ = some (.int .i64 ((k : Int) + 1)) := hr2.cell (i := 0) rfl
          have hc3 : (wr.setCell ⟨g1 + 1, 0, none⟩ (.int .i64 ((k : Int) + 1))).cell? ⟨g1, 0, none⟩ = some (.int .i64 1) := (htr.far (p := ⟨g1 + 1, 0, none⟩) (by simp) _).cell (i := 0) rfl
          have hKO : KeepsOthers W (wr.setCell ⟨g1 + 1, 0, none⟩ (.int .i64 ((k : Int) + 1))) := (HKO.out.trans hI.others).trans (KeepsOthers.setCell _ _ _)
          have hKB : KB (g1 + 1) Wm.heap.size W (wr.setCell ⟨g1 + 1, 0, none⟩ (.int .i64 ((k : Int) + 1))) := (HKB1.out.trans (hI.kept.mono fun k _ hk => .inr (by omega))).trans ((Kept.cell _ _ _ _).mono fun k _ hk => .inl hk)
          have HFIN := Lib.hid (show KeepsOthers W _ ∧ KB (g1 + 1) Wm.heap.size W _ ∧ KB (g1 + 1) Wm.heap.size Wm _ ∧ Row _ (g1 + 1) 3 #[.int .i64 ((k + 1 : Nat) : Int)] from ⟨hKO, hKB, HKB.out.trans hKB, hr2⟩)
          clear hKO hKB hr2 hnr htr hI
          gi_wp2_with fail
          exact ⟨HFIN.out.1, HFIN.out.2.1, by rw [HLP.out]; exact HFIN.out.2.2.2, fun h => (by cases h), HFIN.out.2.2.1⟩
    case stop2 =>
      rintro E ex pre V _ _ ⟨_, h0, _⟩ _
      cases h0
    case done2 =>
      rintro E ys V hE hys ⟨hrn, _, hkb⟩ hK2
      rw [hys] at hrn
      have hbm : Below m Wm V := hkb.below (by omega) (by rintro k (hk | hk) <;> omega)
      have hS7 := hS6.under hbm
      have hT7 : Row V g1 3 #[.int .i64 1] := hturn2.kept hkb (by rintro (hk | hk) <;> omega)
      have hct := hT7.cell (i := 0) (v := .int .i64 1) rfl
      have hcn := hrn.cell (i := 0) (v := .int .i64 (xs.length : Nat)) rfl
      have hcw := hS7.want.cell (i := 0) (v := .slice Aw xs.length cw) rfl
      have hnn : (((xs.length : Nat) : Int) != ((xs.length : Nat) : Int)) = false := by simp
      have hK1' := hkb.heap hK1 (by rintro (hk | hk) <;> omega)
      have hED : D ≠ E := by omega
      clear hrn hbm hkb hT7 hS6 hturn2 hnum2 hK1
      go_wp2_with fail
      rw [rounds_succ]
      go_wp2_with fail
      have hS8 := hS7.call ((Below.refl _ _).alloc (Nat.le_refl _) (.cells #[.int .i64 2] 3))
      have hK3 : (V.alloc (.cells #[.int .i64 2] 3)).heap[E]? = some (.deferred (some [])) := (Below.heap_alloc _ _ E (lt_of_heap hK2)).trans hK2
      have hK4 : (V.alloc (.cells #[.int .i64 2] 3)).heap[D]? = some (.deferred (some [])) := (Below.heap_alloc _ _ D (lt_of_heap hK1')).trans hK1'
      generalize V.alloc (.cells #[.int .i64 2] 3) = Vn at *
      refine (HST.out Vn hS8.below).mono ?_
      rintro e V2 ⟨⟨x, y, z, rfl⟩, hB8⟩
      have h8 := hS8.call hB8
      have hEl : E < Vn.heap.size := lt_of_heap hK3
      have hDl : D < Vn.heap.size := lt_of_heap hK4
      have hE1 := (hB8.block E hEl).trans hK3
      have hD1 := (hB8.block D hDl).trans hK4
      have hcw8 := h8.want.cell (i := 0) (v := .slice Aw xs.length cw) rfl
      have hc8 := h8.res.cell (i := 0) (v := .bool false) rfl
      have hf8 := h8.res.free 0
      have hs8 := h8.res.set_ 0 (.bool true)
      have hc9 := hs8.cell (i := 0) (v := .bool true) rfl
      have hEr : E ≠ w.heap.size + 1 := by omega
      have hDr : D ≠ w.heap.size + 1 := by omega
      have hE2 : (V2.setCell ⟨w.heap.size + 1, 0, none⟩ (.bool true)).heap[E]? = some (.deferred (some [])) := (heap_setCell_other V2 ⟨w.heap.size + 1, 0, none⟩ E (.bool true) hEr).trans hE1
      have hD2 : (V2.setCell ⟨w.heap.size + 1, 0, none⟩ (.bool true)).heap[D]? = some (.deferred (some [])) := (heap_setCell_other V2 ⟨w.heap.size + 1, 0, none⟩ D (.bool true) hDr).trans hD1
      have hbe : Below w.heap.size w (V2.setCell ⟨w.heap.size + 1, 0, none⟩ (.bool true)) := h8.below.setCell (p := ⟨w.heap.size + 1, 0, none⟩) (by simp) (.bool true)
      have heq : (((xs.length : Nat) : Int) == ((xs.length : Nat) : Int)) = true := by simp
      have hwq : w.heap.size ≤ E ∧ w.heap.size ≤ D := by omega
      clear hB8 hS7 hS8 h8 hs8 hK2 hK1' hK3 hK4 hE1 hD1 hEl hDl hct hcn hcw hnn
      go_wp2
      generalize V2.setCell ⟨w.heap.size + 1, 0, none⟩ (.bool true) = V3 at *
      have hD3 : (V3.putObj E (.deferred none)).heap[D]? = some (.deferred (some [])) := (World.putObj_heap_other hED).trans hD2
      have hr1 := cell_kept hc9 (grownBy_putObj' V3 E (.deferred none)) (fun r e => by cases e; exact ⟨_, hE2, rfl⟩)
      have hr2 := cell_kept hr1 (grownBy_putObj' (V3.putObj E (.deferred none)) D (.deferred none)) (fun r e => by cases e; exact ⟨_, hD3, rfl⟩)
      have hbe2 := (hbe.trans (belowK_b (w := w) (Nat.le_refl _) V3 E _ (.deferred none) hwq.1 hE2 rfl rfl)).trans (belowK_b (w := w) (Nat.le_refl _) _ D _ (.deferred none) hwq.2 hD3 rfl rfl)
      refine ⟨by simp, .inl ⟨_, _, rfl, run_takeDeferred hE2, ⟨by simp, .inl ⟨_, _, rfl, run_takeDeferred hD3, ?_⟩⟩⟩⟩
      refine ⟨.bool true, ?_, rfl, hbe2⟩
      simp [results, Tryd.f20, go_sem, hr2]
end Go.Proofs.YtljlkmmeedlaiaaDoor
