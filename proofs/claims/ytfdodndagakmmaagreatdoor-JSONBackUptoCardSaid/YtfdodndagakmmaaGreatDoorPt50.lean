/- Layer 8's laws: same, of one value twice. -/
import Derived.Test.YtfdodndagakmmaaGreatDoorPt16
import Derived.Test.YtfdodndagakmmaaGreatDoorPt23
import Derived.Test.YtfdodndagakmmaaGreatDoorPt25
import Derived.Deep.QuietTactic
import Derived.BigQuiet
import Derived.Deep.MidRow
import Derived.Test.YtfdodndagakmmaaGreatDoorPt49
import Derived.Test.YtfdodndagakmmaaGreatDoorPt38
namespace Go.Proofs.YtfdodndagakmmaaGreatDoor
open Go.RowKit
/-- Two values' cells, as their copies' rows show them. -/
structure BoxS (w W : World) (c1 c2 : Array Value) : Prop where
  row1 : Row W w.heap.size 30 c1
  row2 : Row W (w.heap.size + 1) 30 c2
  below : Below w.heap.size w W
theorem BoxS.call {w W W' : World} {c1 c2 : Array Value} (h : BoxS w W c1 c2) (hb : Below W.heap.size W W') : BoxS w W' c1 c2 := ⟨h.row1.call hb, h.row2.call hb, h.below.call hb⟩
theorem kid_form {w : World} {F : Nat → Prop} {A : Option Addr} {l : List JV} (h : KidsAt w F A 0 l) : ∀ j, j < l.length → ∃ g off, ∃ k b d t L N, A = some ⟨g, off, none⟩ ∧ JIs w F (l.getD j JV.null) (jvC k b d t L N).toList ∧ ∀ V, Below w.heap.size w V → ∀ q u, (jvC k b d t L N).toList[q]? = some u → V.cell? ⟨g, off + j * 8 + q, none⟩ = some u := fun j hj => by
  obtain ⟨g, off, cs, h1, h2, h3, h4, h5⟩ := KidsAt.get l 0 h j hj
  cases hx : l.getD j JV.null with
  | mk k b d t l' ns' =>
    rw [hx] at h5
    have h6 := h5
    unfold JIs at h6
    obtain ⟨A2, c, A', c', e, _⟩ := h6
    subst e
    refine ⟨g, off, k, b, d, t, _, _, h1, h5, fun V hb q u hu => ?_⟩
    have := h4 q u hu
    rw [Nat.zero_add, ← Nat.add_assoc] at this
    exact (hb.cell (p := ⟨g, off + j * 8 + q, none⟩) h3).trans this
set_option maxRecDepth 1000000 in
set_option maxHeartbeats 8000000 in
theorem jsameL_ok : ∀ (n : Nat) (v : JV), SizeOf.sizeOf v ≤ n → ∀ (F G : Nat → Prop) (c1 c2 : Array Value) (w : World), JIs w F v c1.toList → JIs w G v c2.toList →
    Calls Tryz.prog 36 #[.agg c1, .agg c2] w fun e w' => e = .returned (.bool true) ∧ Below w.heap.size w w' := by
  intro n
  induction n with
  | zero => intro v hv; cases v; simp at hv
  | succ n ih =>
    intro v hv F G c1 c2 w hA hB
    obtain ⟨k, b, d, t, l, ns⟩ := v
    have hsz : ∀ x ∈ l, SizeOf.sizeOf x ≤ n := fun x hx => by
      have := List.sizeOf_lt_of_mem hx
      simp only [JV.mk.sizeOf_spec] at hv
      omega
    unfold JIs at hA hB
    obtain ⟨A, c, A', c', e1, u1, u2, u3, u4, hna, hka⟩ := hA
    obtain ⟨B, e, B', e', e2, v1, v2, v3, v4, hnb, hkb⟩ := hB
    have e1' := Array.toList_inj.1 e1
    have e2' := Array.toList_inj.1 e2
    subst e1' e2'
    obtain ⟨w1, hw1⟩ : ∃ w1, w1 = w.alloc (.cells (jvC k b d t (.slice A l.length c) (.slice A' ns.length c')) 30) := ⟨_, rfl⟩
    obtain ⟨w2, hw2⟩ : ∃ w2, w2 = w1.alloc (.cells (jvC k b d t (.slice B l.length e) (.slice B' ns.length e')) 30) := ⟨_, rfl⟩
    have s1 : w1.heap.size = w.heap.size + 1 := by rw [hw1]; simp
    have b1 : Below w.heap.size w w1 := by rw [hw1]; exact (Below.refl _ _).alloc (Nat.le_refl _) _
    have b2 : Below w1.heap.size w1 w2 := by rw [hw2]; exact (Below.refl _ _).alloc (Nat.le_refl _) _
    have r1 : Row w1 w.heap.size 30 (jvC k b d t (.slice A l.length c) (.slice A' ns.length c')) := by rw [hw1]; exact Row.new _ _ _
    have r2 : Row w2 (w.heap.size + 1) 30 (jvC k b d t (.slice B l.length e) (.slice B' ns.length e')) := by rw [← s1, hw2]; exact Row.new _ _ _
    have HBX : Hid (BoxS w w2 (jvC k b d t (.slice A l.length c) (.slice A' ns.length c')) (jvC k b d t (.slice B l.length e) (.slice B' ns.length e'))) := Lib.hid ⟨r1.call b2, r2, b1.call b2⟩
    have HC : Hid (∀ V, BoxS w V (jvC k b d t (.slice A l.length c) (.slice A' ns.length c')) (jvC k b d t (.slice B l.length e) (.slice B' ns.length e')) →
        (V.cell? ⟨w.heap.size, 0, none⟩ = some (.int .i64 k) ∧ V.cell? ⟨w.heap.size, 1, none⟩ = some (.bool b) ∧ V.cell? ⟨w.heap.size, 2, none⟩ = some (.bool d.neg) ∧ V.cell? ⟨w.heap.size, 3, none⟩ = some (.string (bs d.digits)) ∧ V.cell? ⟨w.heap.size, 4, none⟩ = some (.int .i64 d.exp) ∧ V.cell? ⟨w.heap.size, 5, none⟩ = some (.string (bs t)) ∧ V.cell? ⟨w.heap.size, 6, none⟩ = some (.slice A l.length c) ∧ V.cell? ⟨w.heap.size, 7, none⟩ = some (.slice A' ns.length c')) ∧
        (V.cell? ⟨w.heap.size + 1, 0, none⟩ = some (.int .i64 k) ∧ V.cell? ⟨w.heap.size + 1, 1, none⟩ = some (.bool b) ∧ V.cell? ⟨w.heap.size + 1, 2, none⟩ = some (.bool d.neg) ∧ V.cell? ⟨w.heap.size + 1, 3, none⟩ = some (.string (bs d.digits)) ∧ V.cell? ⟨w.heap.size + 1, 4, none⟩ = some (.int .i64 d.exp) ∧ V.cell? ⟨w.heap.size + 1, 5, none⟩ = some (.string (bs t)) ∧ V.cell? ⟨w.heap.size + 1, 6, none⟩ = some (.slice B l.length e) ∧ V.cell? ⟨w.heap.size + 1, 7, none⟩ = some (.slice B' ns.length e'))) := Lib.hid fun V hV =>
      ⟨⟨hV.row1.cell (i := 0) rfl, hV.row1.cell (i := 1) rfl, hV.row1.cell (i := 2) rfl, hV.row1.cell (i := 3) rfl, hV.row1.cell (i := 4) rfl, hV.row1.cell (i := 5) rfl, hV.row1.cell (i := 6) rfl, hV.row1.cell (i := 7) rfl⟩,
       hV.row2.cell (i := 0) rfl, hV.row2.cell (i := 1) rfl, hV.row2.cell (i := 2) rfl, hV.row2.cell (i := 3) rfl, hV.row2.cell (i := 4) rfl, hV.row2.cell (i := 5) rfl, hV.row2.cell (i := 6) rfl, hV.row2.cell (i := 7) rfl⟩
    have IH : Hid (∀ i, i < l.length → ∀ V, Below w.heap.size w V → ∃ ga oa gb ob, ∃ k1 b1 d1 t1 L1 N1 k2 b2 d2 t2 L2 N2, A = some ⟨ga, oa, none⟩ ∧ B = some ⟨gb, ob, none⟩ ∧
        (∀ q u, (jvC k1 b1 d1 t1 L1 N1).toList[q]? = some u → V.cell? ⟨ga, oa + i * 8 + q, none⟩ = some u) ∧ (∀ q u, (jvC k2 b2 d2 t2 L2 N2).toList[q]? = some u → V.cell? ⟨gb, ob + i * 8 + q, none⟩ = some u) ∧
        ∀ U, Below V.heap.size V U → Calls Tryz.prog 36 #[.agg (jvC k1 b1 d1 t1 L1 N1), .agg (jvC k2 b2 d2 t2 L2 N2)] U fun e w' => e = .returned (.bool true) ∧ Below U.heap.size U w') := Lib.hid fun i hi V hb => by
      obtain ⟨ga, oa, k1, b1, d1, t1, L1, N1, x1, x2, x3⟩ := kid_form hka i hi
      obtain ⟨gb, ob, k2, b2, d2, t2, L2, N2, y1, y2, y3⟩ := kid_form hkb i hi
      have hm : l.getD i JV.null ∈ l := by rw [List.getD_eq_getElem?_getD, List.getElem?_eq_getElem hi]; exact List.getElem_mem _
      exact ⟨ga, oa, gb, ob, k1, b1, d1, t1, L1, N1, k2, b2, d2, t2, L2, N2, x1, y1, x3 V hb, y3 V hb, fun U hU => ih _ (hsz _ hm) F G _ _ U ((x2.below hb).below hU) ((y2.below hb).below hU)⟩
    have HNM : Hid (∀ i, i < ns.length → ∃ ga oa gb ob, A' = some ⟨ga, oa, none⟩ ∧ B' = some ⟨gb, ob, none⟩ ∧ ∀ V, Below w.heap.size w V → V.cell? ⟨ga, oa + i, none⟩ = some (.string (bs (ns.getD i []))) ∧ V.cell? ⟨gb, ob + i, none⟩ = some (.string (bs (ns.getD i [])))) := Lib.hid fun i hi => by
      obtain ⟨ga, oa, x1, _, x2, x3⟩ := hna i hi
      obtain ⟨gb, ob, y1, _, y2, y3⟩ := hnb i hi
      exact ⟨ga, oa, gb, ob, x1, y1, fun V hb => ⟨(hb.cell (p := ⟨ga, oa + i, none⟩) x2).trans x3, (hb.cell (p := ⟨gb, ob + i, none⟩) y2).trans y3⟩⟩
    have sk : (k != k) = false := by simp
    have sb : (b != b) = false := by simp
    clear ih hsz hv hna hka hnb hkb v3 v1 e1 e2 r1 r2 b1 b2
    unfold maxLen at u2 u4 v2 v4
    generalize hnl : l.length = nl at *
    generalize hnn : ns.length = nn at *
    have HL1 := Lib.hid hnl
    have HL3 := Lib.hid hnn
    clear hnl hnn
    obtain ⟨dn, dl, dx⟩ := d
    obtain ⟨⟨p0, p1, p2, p3, p4, p5, p6, p7⟩, q0, q1, q2, q3, q4, q5, q6, q7⟩ := HC.out w2 HBX.out
    simp only at p2 p3 p4 q2 q3 q4
    go_enter Tryz.func36, Tryz.ntmps36
    go_upto_region 1 with fail
    rw [← hw1, ← hw2]
    clear hw1 hw2 s1
    go_wp2_with fail
    clear p0 p1 p2 p3 p4 p5 p6 p7 q0 q1 q2 q3 q4 q5 q6 q7
    go_loopw [5] (fun v5 wr => ∃ i : Nat, i ≤ nl ∧ v5 = .int .i64 (i : Int) ∧ Hid (BoxS w wr (jvC k b ⟨dn, dl, dx⟩ t (.slice A nl c) (.slice A' nn c')) (jvC k b ⟨dn, dl, dx⟩ t (.slice B nl e) (.slice B' nn e')))) (fun v5 _ => nl - (intOf v5).toNat)
    case atStart => exact ⟨0, Nat.zero_le _, rfl, HBX⟩
    case round =>
      obtain ⟨i, hi, rfl, HW⟩ := hrel
      obtain ⟨⟨_, _, _, _, _, _, p6, p7⟩, _, _, _, _, _, _, q6, q7⟩ := HC.out wr HW.out
      by_cases hlt : i < nl
      · obtain ⟨ga, oa, gb, ob, k1, b1, d1, t1, L1, N1, k2, b2, d2, t2, L2, N2, rfl, rfl, x, y, hcall⟩ := IH.out i hlt wr HW.out.below
        have x0 := x 0 _ rfl
        have x1 := x 1 _ rfl
        have x2 := x 2 _ rfl
        have x3 := x 3 _ rfl
        have x4 := x 4 _ rfl
        have x5 := x 5 _ rfl
        have x6 := x 6 _ rfl
        have x7 := x 7 _ rfl
        have y0 := y 0 _ rfl
        have y1 := y 1 _ rfl
        have y2 := y 2 _ rfl
        have y3 := y 3 _ rfl
        have y4 := y 4 _ rfl
        have y5 := y 5 _ rfl
        have y6 := y 6 _ rfl
        have y7 := y 7 _ rfl
        simp only [Nat.add_zero] at x0 y0
        obtain ⟨a1, ha1⟩ : ∃ a1, a1 = jvC k1 b1 d1 t1 L1 N1 := ⟨_, rfl⟩
        obtain ⟨a2, ha2⟩ : ∃ a2, a2 = jvC k2 b2 d2 t2 L2 N2 := ⟨_, rfl⟩
        rw [← ha1, ← ha2] at hcall
        have HCL := Lib.hid hcall
        unfold jvC at ha1 ha2
        have HA1 := Lib.hid ha1
        have HA2 := Lib.hid ha2
        clear hcall x y ha1 ha2
        go_wp2_with fail
        go_still_tail 10, (by kernel_rfl)
        rw [← HA1.out, ← HA2.out]
        clear x0 x1 x2 x3 x4 x5 x6 x7 y0 y1 y2 y3 y4 y5 y6 y7
        change wpList _ _ _ _ _ wr.drew
        have hbd : Below wr.heap.size wr wr.drew := (Below.refl _ _).drew
        go_wp2_with fail
        refine (HCL.out _ hbd).mono ?_
        rintro e w3 ⟨rfl, hb⟩
        have HW3 := Lib.hid (HW.out.call (hbd.trans hb))
        clear hb hbd
        go_wp2_with fail
        exact ⟨⟨i + 1, by omega, by go_num, HW3⟩, by simp [intOf]; omega⟩
      · obtain rfl : i = nl := by omega
        go_wp2_with fail
        clear p6 p7 q6 q7
        go_loopw [6] (fun v6 wx => ∃ j : Nat, j ≤ nn ∧ v6 = .int .i64 (j : Int) ∧ Hid (BoxS w wx (jvC k b ⟨dn, dl, dx⟩ t (.slice A i c) (.slice A' nn c')) (jvC k b ⟨dn, dl, dx⟩ t (.slice B i e) (.slice B' nn e')))) (fun v6 _ => nn - (intOf v6).toNat)
        case atStart => exact ⟨0, Nat.zero_le _, rfl, HW⟩
        case round =>
          clear HW
          obtain ⟨j, hj, rfl, HW⟩ := hrel
          obtain ⟨⟨_, _, _, _, _, _, p6, p7⟩, _, _, _, _, _, _, q6, q7⟩ := HC.out _ HW.out
          by_cases hlt2 : j < nn
          · obtain ⟨ga, oa, gb, ob, rfl, rfl, hnmc⟩ := HNM.out j hlt2
            obtain ⟨x, y⟩ := hnmc _ HW.out.below
            clear hnmc
            generalize ns.getD j [] = nm at *
            have sn : ((bs nm).toList != (bs nm).toList) = false := by simp
            go_wp2_with fail
            go_quiet (fail)
            clear x y p6 p7 q6 q7
            go_wp2_with fail
            exact ⟨⟨j + 1, by omega, by go_num, Lib.hid (HW.out.call (below_drewN (Below.refl _ _) _))⟩, by simp [intOf]; omega⟩
          · obtain rfl : j = nn := by omega
            go_wp2_with fail
            go_ret
            exact ⟨rfl, HW.out.below⟩
end Go.Proofs.YtfdodndagakmmaaGreatDoor
/- Of no program: a region whose operations come in an order that is drawn, where only one may come up. -/
namespace Go.Proofs.YtfdodndagakmmaaGreatDoor
open Go Go.RowKit
section
variable {P : Program} {md : Region.Mode} {ops : Array Oper} {Q : Exit → Act → World → Prop}
/-- Till z has come up, S holds; just one may come up. -/
theorem wpTill_oneG {S : World → Prop} {z i : Nat} {o : Oper} {fuel : Nat} {listed : Array Bool} {a : Act} {w : World} (hr : Region.ready md ops listed = [i]) (ho : ops[i]? = some o) (hg : Region.wanted o (yielded ops a.tmps) = true)
    (h : ∀ K : Act → World → Prop, (∀ a' w', ((listed.setIfInBounds i true).getD z true = false → S w') → wpTill P md ops Q z S fuel (listed.setIfInBounds i true) a' w' → K a' w') → Oper.wp P o a w K Q) : wpTill P md ops Q z S (fuel + 1) listed a w :=
  ⟨fun h0 => (by rw [hr] at h0; cases h0), fun j hj => by
    rw [hr] at hj
    obtain rfl : j = i := by simpa using hj
    refine wpOp_step ho fun K hK => ?_
    rw [if_pos hg]
    exact h K fun a' w' h1 h2 => hK a' w' ⟨h1, h2⟩⟩
theorem Oper.wp_then {o : Oper} {a : Act} {w : World} {K next : Act → World → Prop} (hh : o.wp P a w next (Exit.then K Q)) : o.wp P a w next Q := by
  unfold Oper.wp at *
  generalize (execOp a.eval o).run P w = r at *
  cases r with
  | ok n w' =>
    cases n <;> simp only [Oper.upon] at hh ⊢ <;>
      first
        | exact hh
        | exact Calls.mono hh (fun e w'' he => by cases e <;> exact he)
  | halt x w' => cases x <;> simp only [Oper.upon] at hh ⊢ <;> exact hh
def segB (md : Region.Mode) (ops : Array Oper) : Nat → Array Bool → Nat → Bool
  | 0, _, _ => true
  | n + 1, listed, k => Region.ready md ops listed == [k] && segB md ops n (listed.setIfInBounds k true) (k + 1)
def setsB : Nat → Array Bool → Nat → Array Bool
  | 0, listed, _ => listed
  | n + 1, listed, k => setsB n (listed.setIfInBounds k true) (k + 1)
theorem wpAny_seg' (fuel : Nat) : ∀ (l : List Oper) (k : Nat) (listed : Array Bool) (a : Act) (w : World), (∀ j, j < l.length → l[j]? = ops[k + j]?) → segB md ops l.length listed k = true → wpList P ops (Exit.then (wpAny P md ops Q fuel (setsB l.length listed k)) Q) l a w → wpAny P md ops Q (fuel + l.length) listed a w
  | [], k, listed, a, w, _, _, h => h
  | o :: rest, k, listed, a, w, hs, hl, h => by
    simp only [List.length_cons] at hl ⊢
    unfold segB at hl
    rw [Bool.and_eq_true] at hl
    have hr : Region.ready md ops listed = [k] := by simpa using hl.1
    have ho : ops[k]? = some o := (hs 0 (by simp)).symm
    have hs' : ∀ j, j < rest.length → rest[j]? = ops[k + 1 + j]? := fun j hj => by have := hs (j + 1) (by simpa using hj); rw [List.getElem?_cons_succ] at this; rw [this]; congr 1; omega
    refine ⟨fun h0 => (by rw [hr] at h0; cases h0), fun j hj => ?_⟩
    rw [hr] at hj
    obtain rfl : j = k := by simpa using hj
    unfold wpOp
    rw [ho]
    unfold wpList at h
    have hm : ∀ a' w', wpList P ops (Exit.then (wpAny P md ops Q fuel (setsB (o :: rest).length listed j)) Q) rest a' w' → wpAny P md ops Q (fuel + rest.length) (listed.setIfInBounds j true) a' w' := fun a' w' h9 => wpAny_seg' fuel rest (j + 1) _ a' w' hs' hl.2 h9
    split at h
    · rename_i hg
      show if _ then _ else _
      rw [if_pos hg]
      exact h.imp (fun h9 => Oper.wp_then (Oper.wp_mono hm h9)) id
    · rename_i hg
      show if _ then _ else _
      rw [if_neg hg]
      exact hm _ _ h
theorem wpAny_seg (n fuel N : Nat) (hN : N = fuel + n) {k : Nat} {listed : Array Bool} {a : Act} {w : World} (hn : ((ops.toList.drop k).take n).length = n) (hs : segB md ops n listed k = true)
    (h : wpList P ops (Exit.then (wpAny P md ops Q fuel (setsB n listed k)) Q) ((ops.toList.drop k).take n) a w) : wpAny P md ops Q N listed a w := by
  subst hN
  have h9 := wpAny_seg' (P := P) (md := md) (Q := Q) fuel ((ops.toList.drop k).take n) k listed a w (fun j hj => by
    rw [hn] at hj
    rw [List.getElem?_take, if_pos hj, List.getElem?_drop, Array.getElem?_toList]) (by rw [hn]; exact hs) (by rw [hn]; exact h)
  rw [hn] at h9
  exact h9
/-- Each operation from place k on waits for the one ahead of it, and for none behind it. -/
def chainB (md : Region.Mode) (ops : Array Oper) (k : Nat) : Bool :=
  (List.range ops.size).all fun i => match ops[i]? with
    | none => true
    | some o => (decide (i ≤ k) || o.after.any fun e => Region.binds md e && e.on + 1 == i) && (decide (i < k) || o.after.all fun e => !Region.binds md e || decide (e.on < i))
/-- Just the first k have come up. -/
def firstB (ops : Array Oper) (listed : Array Bool) (k : Nat) : Bool :=
  listed.size == ops.size && (List.range ops.size).all fun i => listed.getD i false == decide (i < k)
theorem wpAny_chain' {k0 : Nat} (hc : chainB md ops k0 = true) : ∀ (rest : List Oper) (k : Nat) (listed : Array Bool) (a : Act) (w : World), k0 ≤ k → (∀ j, rest[j]? = ops[k + j]?) → k + rest.length = ops.size → listed.size = ops.size → (∀ i, i < ops.size → listed.getD i false = decide (i < k)) → wpList P ops Q rest a w → wpAny P md ops Q rest.length listed a w := by
  have hch : ∀ i o, ops[i]? = some o → (k0 < i → ∃ e ∈ o.after, Region.binds md e = true ∧ e.on + 1 = i) ∧ (k0 ≤ i → ∀ e ∈ o.after, Region.binds md e = true → e.on < i) := by
    intro i o ho
    have hi : i < ops.size := (Array.getElem?_eq_some_iff.1 ho).1
    have h1 := List.all_eq_true.1 hc i (List.mem_range.2 hi)
    rw [ho] at h1
    simp only [Bool.and_eq_true, Bool.or_eq_true, decide_eq_true_eq] at h1
    refine ⟨fun hk => ?_, fun hk e he hb => ?_⟩
    · rcases h1.1 with h2 | h2
      · omega
      · obtain ⟨e, he, hb⟩ := Array.any_eq_true'.1 h2
        rw [Bool.and_eq_true, beq_iff_eq] at hb
        exact ⟨e, he, hb⟩
    · rcases h1.2 with h2 | h2
      · omega
      · have := Array.all_eq_true'.1 h2 e he
        rw [hb] at this
        simpa using this
  have hgt : ∀ (l : Array Bool) (i : Nat), i < l.size → l.getD i true = l.getD i false := fun l i hi => by simp [Array.getD, hi]
  intro rest
  induction rest with
  | nil =>
    intro k listed a w hk0 _ hsz hls hin h
    refine ⟨?_, h⟩
    rw [List.eq_nil_iff_forall_not_mem]
    intro i hi
    obtain ⟨h1, o, ho, _⟩ := mem_ready.1 hi
    have hlt : i < ops.size := (Array.getElem?_eq_some_iff.1 ho).1
    rw [hgt _ _ (by omega), hin i hlt] at h1
    simp at hsz h1
    omega
  | cons o rest ih =>
    intro k listed a w hk0 hs hsz hls hin h
    simp only [List.length_cons] at hsz ⊢
    have ho : ops[k]? = some o := (hs 0).symm
    have hklt : k < ops.size := by omega
    have hk : k ∈ Region.ready md ops listed := mem_ready.2 ⟨by rw [hgt _ _ (by omega), hin k hklt]; simp, o, ho, fun e he hb => by
      have h2 := (hch k o ho).2 hk0 e he hb
      rw [hin _ (by omega)]; simpa using h2⟩
    have hs' : ∀ j, rest[j]? = ops[k + 1 + j]? := fun j => by have := hs (j + 1); rw [List.getElem?_cons_succ] at this; rw [this]; congr 1; omega
    refine ⟨fun h0 => (by rw [h0] at hk; cases hk), fun i hi => ?_⟩
    obtain ⟨h1, oi, hoi, hall⟩ := mem_ready.1 hi
    have hilt : i < ops.size := (Array.getElem?_eq_some_iff.1 hoi).1
    rw [hgt _ _ (by omega), hin i hilt] at h1
    have hge : k ≤ i := by simpa using h1
    obtain rfl : i = k := by
      rcases Nat.lt_or_eq_of_le hge with h2 | h2
      · obtain ⟨e, he, hb, hon⟩ := (hch i oi hoi).1 (by omega)
        have h3 := hall e he hb
        rw [hin _ (by omega)] at h3
        simp at h3
        omega
      · exact h2.symm
    unfold wpOp
    rw [ho]
    unfold wpList at h
    have hm : ∀ a' w', wpList P ops Q rest a' w' → wpAny P md ops Q rest.length (listed.setIfInBounds i true) a' w' := fun a' w' h9 => ih (i + 1) _ a' w' (by omega) hs' (by omega) (by rw [Array.size_setIfInBounds, hls]) (fun j hj => by
      by_cases e : j = i
      · subst e
        simp [Array.getD, hls, hj]
      · rw [getD_set_ne false (Ne.symm e), hin j hj]
        by_cases h5 : j < i
        · simp [h5, (by omega : j < i + 1)]
        · simp [h5]; omega) h9
    split at h
    · rename_i hg
      show if _ then _ else _
      rw [if_pos hg]
      exact h.imp (fun h9 => Oper.wp_mono hm h9) id
    · rename_i hg
      show if _ then _ else _
      rw [if_neg hg]
      exact hm _ _ h
theorem wpAny_chain (N : Nat) {k : Nat} {listed : Array Bool} {a : Act} {w : World} (hn : ops.size = k + N) (hc : chainB md ops k = true) (hf : firstB ops listed k = true)
    (h : wpList P ops Q (ops.toList.drop k) a w) : wpAny P md ops Q N listed a w := by
  unfold firstB at hf
  rw [Bool.and_eq_true] at hf
  have hl : (ops.toList.drop k).length = N := by rw [List.length_drop, Array.length_toList, hn]; omega
  have h9 := wpAny_chain' (P := P) (md := md) (Q := Q) hc (ops.toList.drop k) k listed a w (Nat.le_refl _) (fun j => by rw [List.getElem?_drop, Array.getElem?_toList]) (by rw [hl, hn]) (by simpa using hf.1) (fun i hi => by
    have := List.all_eq_true.1 hf.2 i (List.mem_range.2 hi)
    simpa using this) h
  rw [hl] at h9
  exact h9
theorem wpList_guarded {o : Oper} {rest : List Oper} {a : Act} {w : World} (hw : Region.wanted o (yielded ops a.tmps) = true) (h : ∀ K : Act → World → Prop, (∀ a' w', wpList P ops Q rest a' w' → K a' w') → Oper.wp P o a w K Q) : wpList P ops Q (o :: rest) a w := by
  unfold wpList
  rw [if_pos hw]
  exact .inl (h _ fun _ _ h => h)
/-- A load of a variable, guarded. -/
theorem wpList_load_midG {rest : List Oper} {op : Oper} {a : Act} {w : World} (hw : Region.wanted op (yielded ops a.tmps) = true) (ty : TypeId) (x : Operand) (ho : op.op = .load ty x)
    (b o : Nat) (hx : a.eval x = .pointer (some ⟨b, o, none⟩)) (cs : List Value) (d : TypeDesc) (hc : w.rangeAt b o cs)
    (hu : P.underlying ty = some d) (hd : d.isRow = true) (hi : (P.info? ty).map (·.size) = some cs.length)
    (h : wpList P ops Q rest (a.put op.dst (.agg cs.toArray)) w) : wpList P ops Q (op :: rest) a w :=
  wpList_guarded hw fun _ hK => wp_load_mid ty x ho b o hx cs d hc hu hd hi (hK _ _ h)
end
end Go.Proofs.YtfdodndagakmmaaGreatDoor
/- Layer 8: Equal. -/
namespace Go.Proofs.YtfdodndagakmmaaGreatDoor
open Go.RowKit
/-- What Equal tells. -/
def equalJ (a b : JV) : Bool := checkJ a == 0 && (checkJ b == 0 && eqJ a b)
set_option maxRecDepth 1000000 in
set_option maxHeartbeats 8000000 in
theorem jEqual_ok (F G : Nat → Prop) (c1 c2 : Array Value) (a b : JV) (w : World) (hA : JIs w F a c1.toList) (hB : JIs w G b c2.toList) (h1 : c1.size = 8) (h2 : c2.size = 8) (hsa : SmallJ a) (hsb : SmallJ b) (hfa : askJ a = true → FineJ a) (hfb : askJ b = true → FineJ b)
    (hda : depthJ a ≤ 1000000) (hdb : depthJ b ≤ 1000000) (hT : PowTab w) (hU : Lib.Utf8Tabs 0 1 w) :
    Calls Tryz.prog 29 #[.agg c1, .agg c2] w fun e w' => e = .returned (.bool (equalJ a b)) ∧ Below w.heap.size w w' := by
  obtain ⟨w1, hw1⟩ : ∃ w1, w1 = w.alloc (.cells c1 30) := ⟨_, rfl⟩
  obtain ⟨w2, hw2⟩ : ∃ w2, w2 = w1.alloc (.cells c2 30) := ⟨_, rfl⟩
  have s1 : w1.heap.size = w.heap.size + 1 := by rw [hw1]; simp
  have b1 : Below w.heap.size w w1 := by rw [hw1]; exact (Below.refl _ _).alloc (Nat.le_refl _) _
  have b2 : Below w1.heap.size w1 w2 := by rw [hw2]; exact (Below.refl _ _).alloc (Nat.le_refl _) _
  have r1 : Row w1 w.heap.size 30 c1 := by rw [hw1]; exact Row.new _ _ _
  have r2 : Row w2 (w.heap.size + 1) 30 c2 := by rw [← s1, hw2]; exact Row.new _ _ _
  have hbx : BoxS w w2 c1 c2 := ⟨r1.call b2, r2, b1.call b2⟩
  have b12 := b1.call b2
  have HRA : Hid (∀ V, BoxS w V c1 c2 → V.rangeAt w.heap.size 0 c1.toList ∧ V.rangeAt (w.heap.size + 1) 0 c2.toList) := Lib.hid fun V hV => ⟨fun j u hu => by rw [Nat.zero_add]; exact hV.row1.cell (by simpa using hu), fun j u hu => by rw [Nat.zero_add]; exact hV.row2.cell (by simpa using hu)⟩
  have HIN : Hid ((Tryz.prog.info? 30).map (·.size) = some c1.size ∧ (Tryz.prog.info? 30).map (·.size) = some c2.size) := Lib.hid ⟨by rw [h1]; exact infoJ, by rw [h2]; exact infoJ⟩
  have HM1 : Hid (∀ V, Below w.heap.size w V → Calls Tryz.prog 52 #[.agg c1] V fun e w' => e = .returned (.bool (checkJ a == 0)) ∧ Below V.heap.size V w') := Lib.hid fun V hb => jmayBe_ok F c1 a V (hA.below hb) h1 hsa hfa hda (hT.below hb) (Utf8Tabs_below hU hb)
  have HM2 : Hid (∀ V, Below w.heap.size w V → Calls Tryz.prog 52 #[.agg c2] V fun e w' => e = .returned (.bool (checkJ b == 0)) ∧ Below V.heap.size V w') := Lib.hid fun V hb => jmayBe_ok G c2 b V (hB.below hb) h2 hsb hfb hdb (hT.below hb) (Utf8Tabs_below hU hb)
  have HS : Hid (checkJ a = 0 → checkJ b = 0 → ∀ V, BoxS w V c1 c2 → Calls Tryz.prog 62 #[.pointer (some ⟨w.heap.size, 0, none⟩), .pointer (some ⟨w.heap.size + 1, 0, none⟩)] V fun e w' => e = .returned (.bool (eqJ a b)) ∧ Below V.heap.size V w') := Lib.hid fun q1 q2 V hV =>
    jsameP_ok _ a (Nat.le_refl _) b (check_parts q1).1 (check_parts q2).1 hsa hsb F G _ _ _ _ V
      ⟨hV.row1.lt, c1.toList, fun q u hu => by rw [Nat.zero_add]; exact hV.row1.cell (by simpa using hu), hA.below hV.below⟩
      ⟨hV.row2.lt, c2.toList, fun q u hu => by rw [Nat.zero_add]; exact hV.row2.cell (by simpa using hu), hB.below hV.below⟩
  have HBX := Lib.hid hbx
  have HQ : Hid (equalJ a b = (checkJ a == 0 && (checkJ b == 0 && eqJ a b))) := Lib.hid rfl
  clear hA hB h1 h2 hsa hsb hfa hfb hda hdb hT hU b1 b2 r1 r2 hbx b12
  generalize equalJ a b = R at *
  have arm : True := trivial
  go_enter Tryz.func29, Tryz.ntmps29
  go_upto_region 1 with fail
  rw [← hw1, ← hw2]
  clear hw1 hw2 s1
  obtain ⟨ra, _⟩ := HRA.out w2 HBX.out
  have HR1 := Lib.hid ra
  clear ra
  go_wp2_with (first
    | (refine wpList_load_mid ?_ 30 (.tmp 2) ?_ w.heap.size 0 ?_ c1.toList _ HR1.out Tryz.underlying30 rfl (by rw [Array.length_toList]; exact HIN.out.1) ?_
       · with_reducible rfl
       · with_reducible rfl
       · rfl))
  refine (HM1.out w2 HBX.out.below).mono ?_
  rintro e w3 ⟨rfl, hb⟩
  have HB3 := Lib.hid (HBX.out.call hb)
  clear hb HR1
  by_cases h1 : checkJ a = 0
  · have e1 : (checkJ a == 0) = true := by rw [h1]; rfl
    rw [e1]
    have HQ2 : Hid (R = (checkJ b == 0 && eqJ a b)) := Lib.hid (by rw [HQ.out, e1, Bool.true_and])
    have HS2 := Lib.hid (HS.out h1)
    clear HQ HS h1 e1
    obtain ⟨_, rb⟩ := HRA.out w3 HB3.out
    have HR2 := Lib.hid rb
    clear rb
    go_wp2_with (first
      | (refine wpList_load_midG ?_ 30 (.tmp 3) ?_ (w.heap.size + 1) 0 ?_ c2.toList _ HR2.out Tryz.underlying30 rfl (by rw [Array.length_toList]; exact HIN.out.2) ?_
         · kernel_rfl
         · with_reducible rfl
         · rfl))
    refine (HM2.out w3 HB3.out.below).mono ?_
    rintro e w4 ⟨rfl, hb⟩
    have HB4 := Lib.hid (HB3.out.call hb)
    clear hb HR2
    by_cases h2 : checkJ b = 0
    · have e2 : (checkJ b == 0) = true := by rw [h2]; rfl
      rw [e2]
      have HQ3 : Hid (R = eqJ a b) := Lib.hid (by rw [HQ2.out, e2, Bool.true_and])
      have HS3 := Lib.hid (HS2.out h2 w4 HB4.out)
      clear HQ2 HS2 h2 e2
      go_wp2_with fail
      refine HS3.out.mono ?_
      rintro e w5 ⟨rfl, hb⟩
      have HB5 := Lib.hid (HB4.out.call hb).below
      clear hb
      go_wp2_with fail
      go_ret
      exact ⟨by rw [HQ3.out]; rfl, HB5.out⟩
    · have e2 : (checkJ b == 0) = false := by rw [beq_eq_false_iff_ne]; exact h2
      rw [e2]
      have HQ3 : Hid (R = false) := Lib.hid (by rw [HQ2.out, e2, Bool.false_and])
      clear HQ2 HS2 h2 e2
      go_wp2_with fail
      go_ret
      exact ⟨by rw [HQ3.out]; rfl, HB4.out.below⟩
  · have e1 : (checkJ a == 0) = false := by rw [beq_eq_false_iff_ne]; exact h1
    rw [e1]
    have HQ3 : Hid (R = false) := Lib.hid (by rw [HQ.out, e1, Bool.false_and])
    clear HQ HS h1 e1
    go_wp2_with fail
    go_ret
    exact ⟨by rw [HQ3.out]; rfl, HB3.out.below⟩
end Go.Proofs.YtfdodndagakmmaaGreatDoor
