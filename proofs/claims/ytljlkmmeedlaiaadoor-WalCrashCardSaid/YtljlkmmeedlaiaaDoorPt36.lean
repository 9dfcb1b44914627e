/- Layer 3: Batches hands clones over, one by one. -/
import Derived.Test.YtljlkmmeedlaiaaDoorPt35
namespace Go.Proofs.YtljlkmmeedlaiaaDoor
open Go.RowKit Go.Shelf
attribute [local go_sem] Oper.semAt_some

/-- A batch's number and a clone of it, as they are handed over. -/
def oneBat (x : Nat × Bat) : Array Value := #[.int .i64 x.1, x.2.v]
def noBat : Bat := ⟨none, 0, []⟩
/-- What is handed over: the next batch's number, and bytes that are the batch's, in a block of their own. -/
def BatNext (xs : List Bat) (n₀ : Nat) (pre : List (Nat × Bat)) (x : Nat × Bat) (W : World) : Prop :=
  x.1 = pre.length ∧ x.2.l = (xs.getD pre.length noBat).l ∧ BatOk W (fun k => n₀ ≤ k) x.2
set_option maxRecDepth 100000 in
set_option maxHeartbeats 1000000 in
theorem batches1 (G : Nat → Prop) (l₁ q n₀ : Nat) (xs : List Bat) (v : Value) (hn : xs.length ≤ 1000000) (hbig : ∀ b ∈ xs, b.l.length ≤ 140737488355328) (Kp : World → World → Prop)
    (hKl : ∀ W W', Kp W W' → n₀ ≤ W.heap.size → n₀ ≤ W'.heap.size ∧ (W.cell? ⟨q, 0, none⟩ = some v → W'.cell? ⟨q, 0, none⟩ = some v) ∧ (Lies W G 41 1 v xs.length (bvs xs) → Lies W' G 41 1 v xs.length (bvs xs)) ∧ ∀ b ∈ xs, BatOk W G b → BatOk W' G b)
    (J Jx : List (Nat × Bat) → World → Prop) (hJ : ∀ pre W W', J pre W → Below W.heap.size W W' → J pre W')
    (hY : ∀ pre x W, J pre W → BatNext xs n₀ pre x W → pre.length < xs.length → YieldAt Fence.wide 2 Tryd.prog l₁ (oneBat x) W fun e W' =>
      (e = .returned (.bool true) ∧ J (pre ++ [x]) W' ∧ Kp W W') ∨ (e = .returned (.bool false) ∧ Jx (pre ++ [x]) W'))
    (W : World) (hsz : n₀ ≤ W.heap.size) (hq : W.cell? ⟨q, 0, none⟩ = some v) (hl : Lies W G 41 1 v xs.length (bvs xs)) (hb : ∀ b ∈ xs, BatOk W G b) (h0 : J [] W) :
    CallsIn Fence.wide 3 Tryd.prog 59 #[.func (.yield l₁) #[] #[], .pointer (some ⟨q, 0, none⟩)] W fun e W' => (∃ v, e = .returned v) ∧
      ((∃ ys, ys.length = xs.length ∧ J ys W') ∨ (∃ pre, pre.length ≤ xs.length ∧ Jx pre W')) := by
  obtain ⟨A, c, hv, hc1, hc2⟩ := hl.form
  subst hv
  refine callsIn_of_wp Tryd.func59 rfl trivial ?_ rfl
  simp only [Tryd.ntmps59, List.size_toArray, List.length_cons, List.length_nil, Nat.reduceAdd, Nat.reduceSub, Array.replicate_succ, Array.replicate_zero, List.push_toArray, List.append_toArray, List.nil_append, List.cons_append]
  gi_wp2
  gi_loopw [7] (fun v7 wr => ∃ (k : Nat) (ys : List (Nat × Bat)), k ≤ xs.length ∧ ys.length = k ∧ v7 = .int .i64 k ∧ J ys wr ∧ n₀ ≤ wr.heap.size ∧ Lies wr G 41 1 (.slice A xs.length c) xs.length (bvs xs) ∧ ∀ b ∈ xs, BatOk wr G b)
    (fun v7 _ => xs.length - (intOf v7).toNat)
  case atStart => exact ⟨0, [], Nat.zero_le _, rfl, rfl, h0, hsz, hl, hb⟩
  case round =>
    obtain ⟨k, ys, hk, hys, rfl, hJs, hsz2, hl2, hb2⟩ := hrel
    by_cases hlt : k < xs.length
    · obtain ⟨g, off, cap, hvv, _, _, _, _, hrng⟩ := hl2.cells (by omega)
      injection hvv with hA _ hcc
      subst hA
      subst hcc
      have hck : wr.cell? ⟨g, off + k, none⟩ = some (xs.getD k noBat).v := hrng k _ (by simp [bvs, List.getD_eq_getElem?_getD, hlt])
      have hmem : xs.getD k noBat ∈ xs := by rw [List.getD_eq_getElem?_getD, List.getElem?_eq_getElem hlt]; exact List.getElem_mem hlt
      have hbk := hb2 _ hmem
      have hbig2 := hbig _ hmem
      obtain ⟨bA, bc, hbv, hbb, _, _, _⟩ := lies_bytes hbk.lies hbk.small
      unfold Bat.v at hck
      have HCL : Hid (Calls Tryd.prog 40 #[.slice (xs.getD k noBat).A (xs.getD k noBat).l.length (xs.getD k noBat).c] wr (ByteClone wr (xs.getD k noBat).l)) := Lib.hid (cloneBytes _ _ _ wr (by
        unfold Bat.v at hbv
        injection hbv with h1 _ _
        rw [h1]; exact hbb) hbig2)
      have HSM := Lib.hid hbk.small
      have HJS := Lib.hid hJs
      have HL2 := Lib.hid hl2
      have HB2 := Lib.hid hb2
      have HBN : Hid (∀ (x : Nat × Bat) (W : World), x.1 = k → x.2.l = (xs.getD k noBat).l → BatOk W (fun k => n₀ ≤ k) x.2 → BatNext xs n₀ ys x W) := Lib.hid fun x W h1 h2 h3 => ⟨by rw [hys]; exact h1, by rw [hys]; exact h2, h3⟩
      clear hJs hl2 hb2 hbk hbb hbv hmem hrng
      generalize xs.getD k noBat = b at *
      gi_wp2_with fail
      refine ⟨trivial, ?_⟩
      refine (callsIn_wide.2 HCL.out).mono ?_
      rintro e w2 ⟨A2, c2, rfl, hl6, hb6⟩
      have hok : BatOk w2 (fun k => n₀ ≤ k) ⟨A2, c2, b.l⟩ := ⟨hl6.mono fun k hk => by
        rcases hk with hk | hk
        · exact hk.elim
        · exact Nat.le_trans hsz2 hk, HSM.out⟩
      obtain ⟨fn, tmps, assign, body, hy, hR⟩ := hY ys (k, ⟨A2, c2, b.l⟩) w2 (hJ _ _ _ HJS.out hb6) (HBN.out (k, ⟨A2, c2, b.l⟩) w2 rfl rfl hok) (by rw [hys]; exact hlt)
      have HK2 : Hid (∀ W3, Kp w2 W3 → n₀ ≤ W3.heap.size ∧ Lies W3 G 41 1 (.slice (some ⟨g, off, none⟩) xs.length c) xs.length (bvs xs) ∧ ∀ b ∈ xs, BatOk W3 G b) := Lib.hid fun W3 hk3 => by
        have h9 := hKl w2 W3 hk3 (Nat.le_trans hsz2 hb6.size)
        exact ⟨h9.1, h9.2.2.1 (HL2.out.below hb6), fun b hb => h9.2.2.2 b hb ((HB2.out b hb).below hb6)⟩
      have HYS : Hid ((ys ++ [(k, (⟨A2, c2, b.l⟩ : Bat))]).length = k + 1) := Lib.hid (by rw [List.length_append, hys]; rfl)
      unfold oneBat at hy
      simp only [Bat.v] at hy
      clear hl6 hb6 hok hck hq hl hb hY hKl hJ hbig hbig2
      generalize ys ++ [(k, (⟨A2, c2, b.l⟩ : Bat))] = zs at *
      gi_wp2
      refine hR.mono ?_
      rintro e W3 (⟨rfl, hJ3, hk3⟩ | ⟨rfl, hJx3⟩)
      · obtain ⟨e1, e2, e3⟩ := HK2.out W3 hk3
        clear hR hy hk3 HK2 HJS HL2 HB2
        gi_wp2
        go_roundw
        case rel => exact ⟨k + 1, zs, by omega, HYS.out, by go_num, hJ3, e1, e2, e3⟩
        case measure => simp [intOf]; omega
      · gi_wp2
        refine bodyPost_ret (results_none rfl _ _ _) rfl ?_
        exact ⟨⟨_, rfl⟩, .inr ⟨zs, by rw [HYS.out]; omega, hJx3⟩⟩
    · obtain rfl : k = xs.length := by omega
      gi_wp2
      go_end0
      exact ⟨⟨_, rfl⟩, .inl ⟨ys, hys, hJs⟩⟩
/-- Batches' iterator, as a law over ranges takes it. -/
theorem batches_seq (G : Nat → Prop) (w : World) (q n₀ : Nat) (xs : List Bat) (v : Value) (hn : xs.length ≤ 1000000) (hbig : ∀ b ∈ xs, b.l.length ≤ 140737488355328) (Kp : World → World → Prop)
    (hKl : ∀ W W', Kp W W' → n₀ ≤ W.heap.size → n₀ ≤ W'.heap.size ∧ (W.cell? ⟨q, 0, none⟩ = some v → W'.cell? ⟨q, 0, none⟩ = some v) ∧ (Lies W G 41 1 v xs.length (bvs xs) → Lies W' G 41 1 v xs.length (bvs xs)) ∧ ∀ b ∈ xs, BatOk W G b → BatOk W' G b)
    (hsz : n₀ ≤ w.heap.size) (hq : w.cell? ⟨q, 0, none⟩ = some v) (hl : Lies w G 41 1 v xs.length (bvs xs)) (hb : ∀ b ∈ xs, BatOk w G b) :
    SeqP Fence.wide 3 Tryd.prog 59 #[.pointer (some ⟨q, 0, none⟩)] oneBat Kp (BatNext xs n₀) (fun ys => ys.length = xs.length) (fun pre => pre.length ≤ xs.length) xs.length w := by
  intro l₁ J Jx W hW hJ _ hY h0
  exact batches1 G l₁ q n₀ xs v hn hbig Kp hKl J Jx (fun pre A B hj hb => hJ pre A B none hj ⟨hb.os, hb.tape, hb.output, hb.size, fun k hk _ => hb.block k hk⟩ (fun r e => by cases e)) hY W (Nat.le_trans hsz hW.size) ((hW.cell (p := ⟨q, 0, none⟩) (block_lt_of_cell hq)).trans hq) (hl.below hW) (fun b hx => (hb b hx).below hW) h0
end Go.Proofs.YtljlkmmeedlaiaaDoor
