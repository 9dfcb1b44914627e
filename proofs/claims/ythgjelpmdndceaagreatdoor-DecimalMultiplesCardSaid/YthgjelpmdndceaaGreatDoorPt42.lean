/- Layer 7: quotient. -/
import Derived.Test.YthgjelpmdndceaaGreatDoorPt40
import Derived.Test.YthgjelpmdndceaaGreatDoorPt41
import Derived.Sort.CutIn
namespace Go.Proofs.YthgjelpmdndceaaGreatDoor
open Go.RowKit Go.Shelf
attribute [local go_sem] Oper.semAt_some

/-- What quotient tells. -/
def QuoPost (w : World) (A B : Nat) (e : Ending) (w' : World) : Prop := ∃ v u, e = .returned (.tuple #[v, u]) ∧ Wds w' v (wds (A / B)) ∧ Wds w' u (wds (A % B)) ∧ Below w.heap.size w w'
/-- What is left, and the quotient's words, behind some words. -/
def quoS (G P : Nat) {N : Nat} (pre : List (Fin N)) : Nat × List Nat :=
  pre.foldl (fun s x => ((wat (wds G) x.val + 1000000000 * s.1) % P, s.2.set x.val ((wat (wds G) x.val + 1000000000 * s.1) / P))) (0, List.replicate N 0)
theorem quoS_snoc (G P : Nat) {N : Nat} (pre : List (Fin N)) (x : Fin N) : quoS G P (pre ++ [x]) = ((wat (wds G) x.val + 1000000000 * (quoS G P pre).1) % P, (quoS G P pre).2.set x.val ((wat (wds G) x.val + 1000000000 * (quoS G P pre).1) / P)) := by simp [quoS]
theorem quo_dig {x R P : Nat} (hx : x < 1000000000) (hR : R < P) : x + 1000000000 * R < P * 1000000000 := by
  have : 1000000000 * (R + 1) ≤ 1000000000 * P := Nat.mul_le_mul_left _ hR
  omega
theorem quoS_ok (G P : Nat) (hP : 0 < P) {N : Nat} : ∀ (pre : List (Fin N)), (quoS G P pre).1 < P ∧ (quoS G P pre).2.length = N ∧ Words (quoS G P pre).2 := by
  intro pre
  suffices h : ∀ (l : List (Fin N)) (s : Nat × List Nat), s.1 < P ∧ s.2.length = N ∧ Words s.2 → let r := l.foldl (fun s x => ((wat (wds G) x.val + 1000000000 * s.1) % P, s.2.set x.val ((wat (wds G) x.val + 1000000000 * s.1) / P))) s; r.1 < P ∧ r.2.length = N ∧ Words r.2 from h pre _ ⟨hP, by simp, Words.zeros _⟩
  intro l
  induction l with
  | nil => exact fun s h => h
  | cons x l ih =>
    intro s ⟨h1, h2, h3⟩
    refine ih _ ⟨Nat.mod_lt _ hP, by rw [List.length_set]; exact h2, h3.set _ ?_⟩
    rw [Nat.div_lt_iff_lt_mul hP]
    have := quo_dig (wat_lt (wds_words G) x.val) h1
    omega
theorem quoS_at (G P : Nat) (hP : 0 < P) : ∀ j, j ≤ (wds G).length → QuoAt G P ((wds G).length - j) (quoS G P (frBack (wds G).length j)).1 (quoS G P (frBack (wds G).length j)).2
  | 0, _ => QuoAt.start G P
  | j + 1, h => by
    rw [frBack_succ (by omega), quoS_snoc]
    have h1 := quoS_at G P hP j (by omega)
    obtain ⟨i, hi⟩ : ∃ i, (wds G).length - (j + 1) = i := ⟨_, rfl⟩
    rw [show (wds G).length - j = i + 1 by omega] at h1
    have h2 := (h1.step hP _ rfl).1
    rw [hi]
    simp only [show (wds G).length - 1 - j = i by omega]
    exact h2
theorem Wds.grown {W W' : World} {row : Option Nat} {v : Value} {l : List Nat} (h : Wds W v l) (hg : W.grownBy W' row) (hr : ∀ r, row = some r → ∃ o : Obj, W.heap[r]? = some o ∧ o.isCells = false) : Wds W' v l := by
  obtain ⟨h0, A, c, e, h2, h3, h4, h5⟩ := h
  refine ⟨h0, A, c, e, h2, h3, h4, fun hp => ?_⟩
  obtain ⟨b, off, rfl, hb, hc⟩ := h5 hp
  exact ⟨b, off, rfl, Nat.lt_of_lt_of_le hb hg.size, fun j y hy => cell_kept (hc j y hy) hg hr⟩
/-- One word, laid anew. -/
theorem Lies.word (w : World) (F : Nat → Prop) (hF : F w.heap.size) (x : Nat) : Lies (w.alloc (.cells #[.int .u64 (x : Int)] 74)) F 74 1 (.slice (some ⟨w.heap.size, 0, none⟩) 1 1) 1 (u64s [x]) :=
  ⟨by simp [u64s], .inr ⟨w.heap.size, 0, 1, #[.int .u64 (x : Int)], rfl, hF, heap_alloc_new w _, Nat.le_refl _, by unfold maxLen; omega, by simp, by simp [u64s]⟩⟩
/-- A cell that holds no word is laid anew. -/
theorem Wds.store {w : World} {v : Value} {l : List Nat} {p : Nat} {t : TypeId} {x : Value} (h : Wds w v l) (hr : Row w p t #[x]) (hx : ∀ k n, x ≠ .int k n) (u : Value) : Wds (w.setCell ⟨p, 0, none⟩ u) v l := by
  obtain ⟨h0, A, c, e, h2, h3, h4, h5⟩ := h
  refine ⟨h0, A, c, e, h2, h3, h4, fun hp => ?_⟩
  obtain ⟨b, off, rfl, hb, hc⟩ := h5 hp
  have hbp : b ≠ p := by
    rintro rfl
    have h9 := hc 0 _ (u64s_get l hp)
    unfold Row at hr
    rcases Nat.eq_zero_or_pos off with e0 | e0
    · subst e0
      have := Row.cell (w := w) (g := b) (t := t) (cs := #[x]) hr (i := 0) (v := x) rfl
      rw [this] at h9
      exact hx _ _ (Option.some.inj h9)
    · obtain ⟨o, rfl⟩ : ∃ o, off = o + 1 := ⟨off - 1, by omega⟩
      simp [World.cell?, hr] at h9
  exact ⟨b, off, rfl, by simpa using hb, fun j y hy => ((Kept.cell w p 0 u).cellOf (p := ⟨b, off + j, none⟩) (hc j y hy) hbp)⟩
/-- Words that lay there already stay, when all that is older stays. -/
theorem Wds.older {w₀ w w' : World} {v : Value} {l : List Nat} {B : Nat} (h : Wds w v l) (h0 : Wds w₀ v l) (hB : w₀.heap.size ≤ B) (hb : Below B w w') : Wds w' v l := by
  obtain ⟨h1, A, c, rfl, h2, h3, h4, h5⟩ := h
  refine ⟨h1, A, c, rfl, h2, h3, h4, fun hp => ?_⟩
  obtain ⟨b, off, rfl, hlt, hc⟩ := h5 hp
  obtain ⟨_, A', c', e, _, _, _, h6⟩ := h0
  injection e with e1 e2 e3
  subst e1
  obtain ⟨b', off', e, hlt', _⟩ := h6 hp
  injection e with e
  injection e with e1 e2
  subst e1
  exact ⟨b, off, rfl, Nat.lt_of_lt_of_le hlt hb.size, fun j y hy => (hb.cell (p := ⟨b, off + j, none⟩) (Nat.lt_of_lt_of_le hlt' hB)).trans (hc j y hy)⟩
theorem back_at (v : Value) (l : List Nat) (n₀ : Nat) (w₀ w : World) (h : Wds w v l) (h0 : Wds w₀ v l) (hn : w₀.heap.size ≤ n₀) :
    Calls Tryz.prog 65 #[v] w (BackPost n₀ w l) := by
  obtain ⟨_, A, c, rfl, h2, h3, _, h4⟩ := h
  obtain ⟨_, A', c', e', _, _, _, h6⟩ := h0
  injection e' with e1 e2 e3
  rw [← e1] at h6
  clear e1 e2 e3
  have hb : Below w.heap.size w (w.alloc (.cells #[.slice A l.length c] 49)) := (Below.refl _ _).alloc (Nat.le_refl _) _
  have HL : Hid (BackAt n₀ w.heap.size l (w.alloc (.cells #[.slice A l.length c] 49))) := Lib.hid ⟨A, c, (Row.new w _ _).cell rfl, h2, h3, fun k hk => by
    obtain ⟨b, off, e, hlt, hr⟩ := h4 (by omega)
    obtain ⟨b', off', e9, hlt', _⟩ := h6 (by omega)
    rw [e] at e9
    injection e9 with e9
    injection e9 with e91 e92
    exact ⟨b, off, e, by omega, (hb.cell (p := ⟨b, off + k, none⟩) hlt).trans (hr k _ (u64s_get l hk))⟩⟩
  have HB := Lib.hid hb
  clear hb h4 h6
  go_enter Tryz.func65, Tryz.ntmps65
  go_wp2
  go_ret
  exact ⟨rfl, HL.out, HB.out, by simp⟩

/-- It does not lie there (if it has anything). -/
def Far (p : Nat) (v : Value) : Prop := ∀ b o n c, v = .slice (some ⟨b, o, none⟩) n c → 0 < n → b ≠ p
theorem From.far {B p : Nat} {v : Value} (h : From B v) (hp : p < B) : Far p v := fun b o n c e h0 => by have := h b o n c e h0; omega
/-- A word is laid into another block. -/
theorem Wds.other {W : World} {pn i q : Nat} {v : Value} {l : List Nat} (h : Wds W v l) (hf : Far pn v) : Wds (W.setCell ⟨pn, i, none⟩ (.int .u64 (q : Int))) v l := by
  obtain ⟨h0, A, c, rfl, h2, h3, h4, h5⟩ := h
  refine ⟨h0, A, c, rfl, h2, h3, h4, fun hp => ?_⟩
  obtain ⟨b, off, rfl, hb, hc⟩ := h5 hp
  exact ⟨b, off, rfl, by simpa using hb, fun j y hy => ((Kept.cell W pn i (.int .u64 (q : Int))).cellOf (p := ⟨b, off + j, none⟩) (hc j y hy) (hf _ _ _ _ rfl hp))⟩
/-- What quotient carries in a round. -/
structure QuoT (w7 W0 : World) (pn p9 : Nat) (nl : List Nat) (v : Value) (R : Nat) (W : World) : Prop where
  rn : Row W pn 74 (u64s nl).toArray
  r9 : Row W p9 49 #[v]
  words : Wds W v (wds R)
  kept : Kept (fun k => k = pn ∨ k = p9 ∨ w7.heap.size ≤ k) w7 W
  far : Far pn v
  own : Kept (fun k => k = pn ∨ k = p9 ∨ W0.heap.size ≤ k) W0 W
theorem QuoT.call {w7 W0 W W' : World} {pn p9 R : Nat} {nl : List Nat} {v : Value} (h : QuoT w7 W0 pn p9 nl v R W) (hb : Below W.heap.size W W') : QuoT w7 W0 pn p9 nl v R W' :=
  ⟨h.rn.call hb, h.r9.call hb, h.words.below hb, h.kept.trans' ((hb.kept (F := fun k => W.heap.size ≤ k)).mono fun k hk h9 => by omega), h.far, h.own.trans' ((hb.kept (F := fun k => W.heap.size ≤ k)).mono fun k hk h9 => by omega)⟩
theorem QuoT.drew {w7 W0 W : World} {pn p9 R : Nat} {nl : List Nat} {v : Value} (h : QuoT w7 W0 pn p9 nl v R W) : QuoT w7 W0 pn p9 nl v R W.drew := ⟨h.rn, h.r9, h.words, h.kept.drew, h.far, h.own.drew⟩
theorem QuoT.lay {w7 W0 W : World} {pn p9 R R' m c : Nat} {A : Option Addr} {nl : List Nat} {v' : Value} (h : QuoT w7 W0 pn p9 nl (.slice A m c) R W) (hne : pn ≠ p9) (hw : Wds W v' (wds R')) (hf : Far pn v') : QuoT w7 W0 pn p9 nl v' R' (W.setCell ⟨p9, 0, none⟩ v') :=
  ⟨h.rn.far hne _, by simpa using h.r9.set_ 0 v', hw.store h.r9 (by intro k n e; cases e) _, h.kept.trans' ((Kept.cell W p9 0 v').mono fun k _ h9 => .inr (.inl h9)), hf, h.own.trans' ((Kept.cell W p9 0 v').mono fun k _ h9 => .inr (.inl h9))⟩
theorem QuoT.put {w7 W0 W : World} {pn p9 R : Nat} {nl : List Nat} {v : Value} (h : QuoT w7 W0 pn p9 nl v R W) (hne : p9 ≠ pn) (i q : Nat) : QuoT w7 W0 pn p9 (nl.set i q) v R (W.setCell ⟨pn, i, none⟩ (.int .u64 (q : Int))) :=
  ⟨by have := h.rn.set_ i (.int .u64 (q : Int)); rwa [u64s_set] at this, h.r9.far hne _, h.words.other h.far, h.kept.trans' ((Kept.cell W pn i _).mono fun k _ h9 => .inl h9), h.far, h.own.trans' ((Kept.cell W pn i _).mono fun k _ h9 => .inl h9)⟩
/-- What quotient carries from round to round. -/
structure QuoI (w7 : World) (pn p9 G P : Nat) {N : Nat} (pre : List (Fin N)) (W : World) : Prop where
  got : ∃ v, Row W pn 74 (u64s (quoS G P pre).2).toArray ∧ Row W p9 49 #[v] ∧ Wds W v (wds (quoS G P pre).1) ∧ Far pn v
  kept : Kept (fun k => k = pn ∨ k = p9 ∨ w7.heap.size ≤ k) w7 W

set_option maxRecDepth 100000 in
set_option maxHeartbeats 20000000 in
theorem quotient_ok (va vb : Value) (A B : Nat) (w : World) (ha : Wds w va (wds A)) (hb : Wds w vb (wds B)) (hB : 0 < B) (hla : (wds A).length ≤ 400000) (hlb : (wds B).length ≤ 400000) :
    Calls Tryz.prog 38 #[va, vb] w (QuoPost w A B) := by
  have hp := wds_len_pos hB
  obtain ⟨gb, off, c, rfl, hc1, hc2, hgb, hcell⟩ := hb.at_ hp
  obtain ⟨n, hn⟩ : ∃ n, n = (wds B).length - 1 := ⟨_, rfl⟩
  have hn2 : (wds B).length = n + 1 := by omega
  obtain ⟨t, htt⟩ : ∃ t, t = wat (wds B) n := ⟨_, rfl⟩
  have htop := wds_top hB
  rw [← hn, ← htt, hn2] at htop
  obtain ⟨ht1, ht2, hBl, _⟩ := htop
  have ht3 : t < 1000000000 := by rw [htt]; exact wat_lt (wds_words B) n
  have HNORM := Lib.hid (norm_part ht1 ht2 hBl)
  obtain ⟨g, hg⟩ : ∃ g, g = 1000000000 / (t + 1) := ⟨_, rfl⟩
  have HG := Lib.hid (norm_top ht2 ht3)
  rw [← hg] at HNORM HG
  have hgl : g ≤ 500000000 := HG.out.2.1
  have hgz : (1000000000 : Int).tdiv ((t : Int) + 1) = (g : Int) := by rw [Int.tdiv_eq_ediv_of_nonneg (by omega), hg, Int.natCast_ediv]; congr 1
  have HCB := hcell n (by omega)
  rw [← htt] at HCB
  have HCELL := Lib.hid HCB
  have HA := Lib.hid ha
  have HBV := Lib.hid hb
  have HN2 := Lib.hid hn2
  have HBL := Lib.hid hBl
  have HB0 := Lib.hid hB
  have HLA := Lib.hid hla
  have HLB := Lib.hid hlb
  unfold maxLen at hc2
  rw [hn2] at hc1 ⊢
  rw [hn2] at HBV
  have hlm : n ≤ 400000 := by omega
  clear HCB hcell ha hb hn hn2 htt ht1 hBl hg hp hB hla hlb
  have hnn : (n : Int) < (n : Int) + 1 := by omega
  have hwr : IntKind.u64.wrap ((t : Int) + 1) = (t : Int) + 1 := by rw [IntKind.wrap_u64]; omega
  have ht0 : ¬ (t : Int) + 1 = 0 := by omega
  have hwz : IntKind.u64.wrap (g : Int) = (g : Int) := by rw [IntKind.wrap_u64]; omega
  obtain ⟨w0, hw0⟩ : ∃ w0, w0 = w.alloc (.cells #[.slice none 0 0] 49) := ⟨_, rfl⟩
  have HB0W : Hid (Below w.heap.size w w0) := Lib.hid (by subst hw0; exact (Below.refl _ _).alloc (Nat.le_refl _) _)
  have HR4 : Hid (Row w0 w.heap.size 49 #[.slice none 0 0]) := Lib.hid (by subst hw0; exact Row.new _ _ _)
  have HZ0 : Hid (w0.heap.size = w.heap.size + 1) := Lib.hid (by subst hw0; simp)
  refine (callsIn_wide (n := 3)).1 ?_
  refine callsIn_of_wp_marks Tryz.func38 rfl trivial ?_ rfl
  simp only [Tryz.ntmps38, List.size_toArray, List.length_cons, List.length_nil, Nat.reduceAdd, Nat.reduceSub, Array.replicate_succ, Array.replicate_zero, List.push_toArray, List.append_toArray, List.nil_append, List.cons_append]
  refine wpIn_wide.2 ?_
  go_upto_region 1 with fail
  rw [← hw0]
  clear hw0
  have hk := (HB0W.out.cell (p := ⟨gb, off + n, none⟩) hgb).trans HCELL.out
  go_upto_region 2 with fail
  obtain ⟨w1, hw1⟩ : ∃ w1, w1 = w0.alloc (.cells #[.int .u64 (g : Int)] 74) := ⟨_, rfl⟩
  have HVG : Hid (Wds w1 (.slice (some ⟨w0.heap.size, 0, none⟩) 1 1) [g]) := Lib.hid (by subst hw1; exact row_wds (l := [g]) (Row.new _ _ _) (Words.one (by omega)) 1 (by simp) (by unfold maxLen; omega))
  have HB1 : Hid (Below w.heap.size w w1) := Lib.hid (by subst hw1; exact HB0W.out.alloc (by have := HZ0.out; omega) _)
  have HR41 : Hid (Row w1 w.heap.size 49 #[.slice none 0 0]) := Lib.hid (by subst hw1; exact HR4.out.alloc _)
  rw [← hw1]
  have hz1 : w1.heap.size = w.heap.size + 2 := by subst hw1; simp [HZ0.out]
  have HZ1 := Lib.hid hz1
  clear hw1 hk hz1
  generalize w0.heap.size = gg at *
  have HPA : Hid (∀ W, Below w1.heap.size w1 W → Calls Tryz.prog 33 #[va, .slice (some ⟨gg, 0, none⟩) 1 1] W (NumPost W (A * g))) := Lib.hid fun W h => by
    have := product_ok va _ (wds A) [g] W ((HA.out.below HB1.out).below h) (HVG.out.below h) (wds_words A) (Words.one (by omega)) (by have := HLA.out; omega) (by simp)
    rwa [wval_wds, show wval [g] = g by show g + 1000000000 * 0 = g; omega] at this
  have HPB : Hid (∀ W, Below w1.heap.size w1 W → Calls Tryz.prog 33 #[.slice (some ⟨gb, off, none⟩) (n + 1) c, .slice (some ⟨gg, 0, none⟩) 1 1] W (NumPost W (B * g))) := Lib.hid fun W h => by
    have := product_ok _ _ (wds B) [g] W ((HBV.out.below HB1.out).below h) (HVG.out.below h) (wds_words B) (Words.one (by omega)) (by have := HLB.out; omega) (by simp)
    rwa [wval_wds, show wval [g] = g by show g + 1000000000 * 0 = g; omega] at this
  go_wp2_with fail
  obtain ⟨G, hG⟩ : ∃ G, G = A * g := ⟨_, rfl⟩
  obtain ⟨P, hP⟩ : ∃ P, P = B * g := ⟨_, rfl⟩
  have HGG := Lib.hid hG
  have HPP := Lib.hid hP
  rw [← hG] at HPA
  rw [← hP] at HPB HNORM
  have HP0 : Hid (0 < P) := Lib.hid (by rw [hP]; exact Nat.mul_pos HB0.out HG.out.1)
  have hPl : (wds P).length = n + 1 := by
    refine wds_len_of ?_ HNORM.out.1
    have h1 := HNORM.out.2
    have h2 := Nat.div_mul_le_self P (1000000000 ^ n)
    have h3 : 1 * 1000000000 ^ n ≤ P / 1000000000 ^ n * 1000000000 ^ n := Nat.mul_le_mul_right _ (by omega)
    omega
  have HPL := Lib.hid hPl
  clear hG hP
  refine (HPA.out _ (Below.refl _ _)).mono ?_
  rintro e w3 ⟨vG, rfl, hvG, hb3⟩
  have hvG' := hvG
  obtain ⟨_, AG, cG, rfl, hcG1, hcG2, _⟩ := hvG'
  obtain ⟨N, hN⟩ : ∃ N, N = (wds G).length := ⟨_, rfl⟩
  have HGN := Lib.hid hN
  have HGN2 : Hid (N ≤ 1000000) := Lib.hid (by
    rw [hN, HGG.out]
    have h1 := wval_lt (wds_words A)
    rw [wval_wds] at h1
    refine Nat.le_trans (wds_length_le (k := (wds A).length + 1) ?_) (by have := HLA.out; omega)
    rw [Nat.pow_succ]
    exact Nat.mul_lt_mul_of_lt_of_le h1 (by have := HG.out.2.1; omega) (by omega))
  rw [← hN] at hvG hcG1 ⊢
  unfold maxLen at hcG2
  have HVGr := Lib.hid hvG
  have HB3 := Lib.hid hb3
  clear hvG hb3 hN
  go_wp2_with fail
  refine (HPB.out _ HB3.out).mono ?_
  rintro e w4 ⟨vP, rfl, hvP, hb4⟩
  have hvP' := hvP
  obtain ⟨_, AP, cP, rfl, hcP1, hcP2, _⟩ := hvP'
  rw [hPl] at hvP hcP1 ⊢
  unfold maxLen at hcP2
  clear hPl
  have HVP := Lib.hid hvP
  have HVG4 := Lib.hid (HVGr.out.below hb4)
  have HB4 := Lib.hid (HB1.out.call (HB3.out.call hb4))
  have HR44 := Lib.hid (HR41.out.call (HB3.out.call hb4))
  have HZ4 : Hid (w.heap.size + 2 ≤ w3.heap.size ∧ w3.heap.size ≤ w4.heap.size) := Lib.hid ⟨by have := HB3.out.size; have := HZ1.out; omega, hb4.size⟩
  have HB34 := Lib.hid hb4
  clear hvP hb4 HPA HPB
  obtain ⟨w5, hw5⟩ : ∃ w5, w5 = w4.alloc (.cells #[.slice AP (n + 1) cP] 49) := ⟨_, rfl⟩
  have HR8 : Hid (Row w5 w4.heap.size 49 #[.slice AP (n + 1) cP]) := Lib.hid (by subst hw5; exact Row.new _ _ _)
  have HB5 : Hid (Below w.heap.size w w5) := Lib.hid (by subst hw5; exact HB4.out.alloc (by have := HZ4.out; omega) _)
  have hb45 : Below w4.heap.size w4 w5 := by subst hw5; exact (Below.refl _ _).alloc (Nat.le_refl _) _
  have HR45 : Hid (Row w5 w.heap.size 49 #[.slice none 0 0]) := Lib.hid (by subst hw5; exact HR44.out.alloc _)
  have HZ5 : Hid (w5.heap.size = w4.heap.size + 1) := Lib.hid (by subst hw5; simp)
  have HVP5 := Lib.hid (HVP.out.below hb45)
  have HB35 := Lib.hid (HB34.out.call hb45)
  have HB45 := Lib.hid hb45
  clear hb45
  go_upto_region 3 with fail
  rw [← hw5]
  clear hw5
  obtain ⟨w5a, hw5a⟩ : ∃ w5a, w5a = w5.alloc (.cells (u64s (List.replicate N 0)).toArray 74) := ⟨_, rfl⟩
  have hr5a : Row w5a w.heap.size 49 #[.slice none 0 0] := by subst hw5a; exact HR45.out.alloc _
  have hrN : Row w5a w5.heap.size 74 (u64s (List.replicate N 0)).toArray := by subst hw5a; exact Row.new _ _ _
  have hb5a : Below w5.heap.size w5 w5a := by subst hw5a; exact (Below.refl _ _).alloc (Nat.le_refl _) _
  have hz5a : w5a.heap.size = w5.heap.size + 1 := by subst hw5a; simp
  have c4 := hr5a.cell (i := 0) (v := .slice none 0 0) rfl
  have f4 := hr5a.free 0
  have hN1 := HGN2.out
  rw [hw5a] at c4 f4
  go_upto_region 4 with (
      skip
      refine wpList_make_u64 ?_ 49 74 (.tmp 29) ?_ N ?_ Tryz.underlying49 infoU64 (by omega) ?_
      · with_reducible rfl
      · with_reducible rfl
      · exact congrArg (Value.int .i64) (by omega))
  rw [← hw5a]
  clear hw5a c4 f4
  obtain ⟨w6, hw6⟩ : ∃ w6, w6 = w5a.setCell ⟨w.heap.size, 0, none⟩ (.slice (some ⟨w5.heap.size, 0, none⟩) N N) := ⟨_, rfl⟩
  have HR46 : Hid (Row w6 w.heap.size 49 #[.slice (some ⟨w5.heap.size, 0, none⟩) N N]) := Lib.hid (by subst hw6; simpa using hr5a.set_ 0 (.slice (some ⟨w5.heap.size, 0, none⟩) N N))
  have HRN6 : Hid (Row w6 w5.heap.size 74 (u64s (List.replicate N 0)).toArray) := Lib.hid (by subst hw6; exact hrN.far (by have := HZ5.out; have := HZ4.out; simp only; omega) _)
  have HR86 : Hid (Row w6 w4.heap.size 49 #[.slice AP (n + 1) cP]) := Lib.hid (by subst hw6; exact (HR8.out.call hb5a).far (by have := HZ4.out; simp only; omega) _)
  have HB6 : Hid (Below w.heap.size w w6) := Lib.hid (by subst hw6; exact (HB5.out.call hb5a).setCell (p := ⟨w.heap.size, 0, none⟩) (Nat.le_refl _) _)
  have HVP6 : Hid (Wds w6 (.slice AP (n + 1) cP) (wds P)) := Lib.hid (by subst hw6; exact (HVP5.out.below hb5a).store hr5a (by intro k n h; cases h) _)
  have HVG6 : Hid (Wds w6 (.slice AG N cG) (wds G)) := Lib.hid (by
    subst hw6
    have hb45 : Below w4.heap.size w4 w5 := HB45.out
    exact ((HVG4.out.below hb45).below hb5a).store hr5a (by intro k n h; cases h) _)
  have HZ6 : Hid (w6.heap.size = w5.heap.size + 1) := Lib.hid (by subst hw6; simpa using hz5a)
  rw [← hw6]
  clear hw6 hr5a hrN hb5a hz5a
  obtain ⟨w6a, hw6a⟩ : ∃ w6a, w6a = w6.alloc (.cells #[.slice none 0 0] 49) := ⟨_, rfl⟩
  have hb6a : Below w6.heap.size w6 w6a := by subst hw6a; exact (Below.refl _ _).alloc (Nat.le_refl _) _
  have HR9 : Hid (Row w6a w6.heap.size 49 #[.slice none 0 0]) := Lib.hid (by subst hw6a; exact Row.new _ _ _)
  have HZ6a : Hid (w6a.heap.size = w6.heap.size + 1) := Lib.hid (by subst hw6a; simp)
  have HB6a := Lib.hid hb6a
  go_upto_region 5 with fail
  rw [← hw6a]
  clear hw6a hb6a
  go_wp2_with fail
  have HBK := Lib.hid (back_at (.slice AG N cG) (wds G) w4.heap.size w3 w6a (HVG6.out.below HB6a.out) HVGr.out HZ4.out.2)
  refine HBK.out.mono ?_
  rintro e w7 ⟨rfl, hk7, hb7, hz7⟩
  have HZ7 : Hid (w.heap.size + 2 ≤ w4.heap.size ∧ w5.heap.size = w4.heap.size + 1 ∧ w6.heap.size = w4.heap.size + 2 ∧ w6a.heap.size = w4.heap.size + 3 ∧ w7.heap.size = w4.heap.size + 4) := Lib.hid (by
    have := HZ4.out; have := HZ5.out; have := HZ6.out; have := HZ6a.out; omega)
  have hb67 : Below w6.heap.size w6 w7 := HB6a.out.call hb7
  have HK7 := Lib.hid hk7
  have HR47 := Lib.hid (HR46.out.call hb67)
  have HRN7 := Lib.hid (HRN6.out.call hb67)
  have HR87 := Lib.hid (HR86.out.call hb67)
  have HR97 := Lib.hid (HR9.out.call hb7)
  have HB7 := Lib.hid (HB6.out.call hb67)
  have HVP7 := Lib.hid (HVP6.out.below hb67)
  have HVPO := Lib.hid (HVP.out)
  clear hk7 hb7 hz7 hb67 HBK HR46 HRN6 HR86 HR9 HB6 HB6a HVP6 HVG6 HZ4 HZ5 HZ6 HZ6a HR8 HB5 HR45 HVP5 HB35 HB45 hN1 HB34 HR44 HB4 HVG4 HR41 HB1 HVG HZ0 HZ1 HVGr HB3 HR4 HB0W
  go_wp2_with fail
  refine (wpIn_wide (n := 4)).1 ?_
  refine wpIn_rangeFunc_ownF rfl (by omega) (gf := 74) (lb := #[.pointer (some ⟨w6a.heap.size, 0, none⟩)]) rfl trivial (enters_of Tryz.func74 (by kernel_rfl) rfl)
    (back_stops w4.heap.size w6a.heap.size (wds G) N HGN.out (by have := HGN2.out; omega) (Kept (fun k => k = w5.heap.size ∨ k = w6.heap.size ∨ w7.heap.size ≤ k)) (fun W W' hk hB => hB.kept hk (by have := HZ7.out; omega) (fun k hk => by have := HZ7.out; omega)) w7 (by have := HZ7.out; omega) (by have := HZ7.out; omega) HK7.out)
    (fun h k => h.trans' k) (kept_turn fun k hk => .inr (.inr hk)) (Below.refl _ _) (fun _ => rfl)
    (fun (pre : List (Fin N)) W => QuoI w7 w5.heap.size w6.heap.size G P pre W) (fun _ _ _ => False) ?hI ?hIx ?h0 ?a1 ?assign ?body ?done ?stop
  case assign =>
    intro l' i W K hK
    simp only [oneWord]
    gi_wp2
    exact hK
  case hI =>
    rintro s W W' row ⟨⟨v, h1, h2, h3, h9⟩, h4⟩ hg hr
    exact ⟨⟨v, h1.grown hg fun r e => (hr r e).2, h2.grown hg fun r e => (hr r e).2, h3.grown hg fun r e => (hr r e).2, h9⟩, kept_grown h4 hg fun r e => .inr (.inr (hr r e).1)⟩
  case hIx => exact fun _ _ _ _ _ h _ _ => h
  case h0 => exact ⟨⟨_, HRN7.out, HR97.out, by show Wds w7 (.slice none 0 0) (wds 0); rw [wds_zero]; exact Wds.nil _ _ _ (by unfold maxLen; omega), fun b o n c e _ => by cases e⟩, Kept.refl _ _⟩
  case stop => exact fun _ _ _ _ _ _ h => h.elim
  case done =>
    rintro Dk ys W hDk rfl ⟨⟨v, hrn, hr9, hwv, _⟩, hk⟩ hK
    have HQS := quoS_at G P HP0.out N (by rw [← HGN.out]; exact Nat.le_refl _)
    rw [← HGN.out, Nat.sub_self] at HQS
    have HWN := (quoS_ok G P HP0.out (frBack N N)).2
    obtain ⟨n1, hn1⟩ : ∃ n1, n1 = (quoS G P (frBack N N)).2 := ⟨_, rfl⟩
    rw [← hn1] at HQS HWN hrn
    have HCR : Hid (crop n1 = wds (A / B)) := Lib.hid (by
      rw [HQS.done, HGG.out, HPP.out, Nat.mul_div_mul_right _ _ (by have := HG.out.1; omega)])
    clear HQS hn1 hwv hr9
    have hbw : Below w.heap.size w W := HB7.out.trans ((hk.below (B := w.heap.size) (by have := HZ7.out; omega) (fun k hk => by have := HZ7.out; omega)))
    have hb5 : Below w5.heap.size w7 W := hk.below (by have := HZ7.out; omega) fun k hk => by have := HZ7.out; omega
    have hr4 := HR47.out.below hb5 (by have := HZ7.out; omega)
    have hbe : Below w.heap.size w (W.putObj Dk (.deferred none)) := hbw.trans (belowK_b (w := w) (Nat.le_refl _) W Dk _ (.deferred none) (by have := HZ7.out; omega) hK rfl rfl)
    simp only [Exit.inBlock, Exit.then]
    have hwn : Wds W (.slice (some ⟨w5.heap.size, 0, none⟩) N N) n1 := by
      have h9 := row_wds hrn HWN.2 N (by rw [HWN.1]; exact Nat.le_refl _) (by have := HGN2.out; unfold maxLen; omega)
      rwa [HWN.1] at h9
    have HWD := Lib.hid hwn
    have HBW := Lib.hid hbw
    have HKK := Lib.hid hK
    have HR4W := Lib.hid hr4
    have k4 := hr4.cell (i := 0) (v := .slice (some ⟨w5.heap.size, 0, none⟩) N N) rfl
    have f4 := hr4.free 0
    clear hrn hk hbw hb5 hr4 hbe hwn hK HWN
    obtain ⟨m1, hm1⟩ : ∃ m1, m1 = (wds (A / B)).length := ⟨_, rfl⟩
    have HM1 := Lib.hid hm1
    clear hm1
    go_wp2_with fail
    refine (cropped_ok _ _ _ n1 _ HWD.out).mono ?_
    rintro e w21 ⟨rfl, rfl⟩
    rw [HCR.out, ← HM1.out]
    go_upto_region 16 with fail
    have hw22 := (HWD.out.take (crop_length_le n1))
    rw [← crop_eq_take, HCR.out, ← HM1.out] at hw22
    have HW22 : Hid (Wds (W.setCell ⟨w.heap.size, 0, none⟩ (.slice (some ⟨w5.heap.size, 0, none⟩) m1 N)) (.slice (some ⟨w5.heap.size, 0, none⟩) m1 N) (wds (A / B))) := Lib.hid (hw22.store HR4W.out (by intro k n e; cases e) _)
    have HR422 : Hid (Row (W.setCell ⟨w.heap.size, 0, none⟩ (.slice (some ⟨w5.heap.size, 0, none⟩) m1 N)) w.heap.size 49 #[.slice (some ⟨w5.heap.size, 0, none⟩) m1 N]) := Lib.hid (by simpa using HR4W.out.set_ 0 (.slice (some ⟨w5.heap.size, 0, none⟩) m1 N))
    have HB22 : Hid (Below w.heap.size w (W.setCell ⟨w.heap.size, 0, none⟩ (.slice (some ⟨w5.heap.size, 0, none⟩) m1 N))) := Lib.hid (HBW.out.setCell (p := ⟨w.heap.size, 0, none⟩) (Nat.le_refl _) _)
    have HK22 : Hid ((W.setCell ⟨w.heap.size, 0, none⟩ (.slice (some ⟨w5.heap.size, 0, none⟩) m1 N)).heap[Dk]? = some (.deferred (some []))) := Lib.hid ((heap_setCell_other W ⟨w.heap.size, 0, none⟩ Dk _ (by have := HZ7.out; simp only; omega)).trans HKK.out)
    clear hw22 k4 f4 HCR HWD HBW HKK HR4W
    generalize W.setCell ⟨w.heap.size, 0, none⟩ (.slice (some ⟨w5.heap.size, 0, none⟩) m1 N) = w22 at *
    have k4 := HR422.out.cell (i := 0) (v := .slice (some ⟨w5.heap.size, 0, none⟩) m1 N) rfl
    have hAB : (wds (A / B)).length ≤ 400000 := by
      rcases Nat.lt_or_ge (wds A).length (wds (A / B)).length with h | h
      · have := wds_len_lt h; have := Nat.div_le_self A B; omega
      · have := HLA.out; omega
    have HPR := Lib.hid (product_ok (.slice (some ⟨w5.heap.size, 0, none⟩) m1 N) _ (wds (A / B)) (wds B) w22 HW22.out (HBV.out.below HB22.out) (wds_words _) (wds_words _) (by omega) (by have := HLB.out; omega))
    rw [wval_wds, wval_wds] at HPR
    have HABL : Hid ((wds (A / B * B)).length ≤ 400000) := Lib.hid (by
      rcases Nat.lt_or_ge (wds A).length (wds (A / B * B)).length with h | h
      · have := wds_len_lt h; have := Nat.div_mul_le_self A B; omega
      · have := HLA.out; omega)
    clear hAB
    go_wp2_with fail
    refine HPR.out.mono ?_
    rintro e w23 ⟨v23, rfl, hv23, hb23⟩
    have HR423 := Lib.hid (HR422.out.call hb23)
    have HB23 := Lib.hid (HB22.out.call hb23)
    have HW23 := Lib.hid (HW22.out.below hb23)
    have HK23 : Hid (w23.heap[Dk]? = some (.deferred (some []))) := Lib.hid ((hb23.block Dk (lt_of_heap HK22.out)).trans HK22.out)
    have HJ := Lib.hid (joined_ok va v23 A (A / B * B) true w23 (HA.out.below HB23.out) hv23 (by have := HLA.out; omega) (by have := HABL.out; omega))
    have hjn : joinN A (A / B * B) true = A % B := by
      unfold joinN
      have h1 := Nat.div_mul_le_self A B
      have h2 := Nat.div_add_mod A B
      rw [Nat.mul_comm] at h2
      rw [if_pos rfl, if_neg (by omega)]
      omega
    rw [hjn] at HJ
    clear hb23 hv23 hjn HPR k4
    go_wp2_with fail
    refine HJ.out.mono ?_
    rintro e w24 ⟨v24, rfl, hv24, hb24⟩
    have hr4 := HR423.out.call hb24
    have k4 := hr4.cell (i := 0) (v := .slice (some ⟨w5.heap.size, 0, none⟩) m1 N) rfl
    have f4 := hr4.free 0
    have hset : Row (w24.setCell ⟨w.heap.size, 0, none⟩ (.slice (some ⟨w5.heap.size, 0, none⟩) m1 N)) w.heap.size 49 #[.slice (some ⟨w5.heap.size, 0, none⟩) m1 N] := by simpa using hr4.set_ 0 (.slice (some ⟨w5.heap.size, 0, none⟩) m1 N)
    have hB24 := (HB23.out.call hb24).setCell (p := ⟨w.heap.size, 0, none⟩) (Nat.le_refl _) (.slice (some ⟨w5.heap.size, 0, none⟩) m1 N)
    have hw24 := (HW23.out.below hb24).store hr4 (by intro k n e; cases e) (.slice (some ⟨w5.heap.size, 0, none⟩) m1 N)
    have hv24' := hv24.store hr4 (by intro k n e; cases e) (.slice (some ⟨w5.heap.size, 0, none⟩) m1 N)
    have hK24 : (w24.setCell ⟨w.heap.size, 0, none⟩ (.slice (some ⟨w5.heap.size, 0, none⟩) m1 N)).heap[Dk]? = some (.deferred (some [])) := (heap_setCell_other w24 ⟨w.heap.size, 0, none⟩ Dk _ (by have := HZ7.out; simp only; omega)).trans ((hb24.block Dk (lt_of_heap HK23.out)).trans HK23.out)
    obtain ⟨_, A24, c24, rfl, _⟩ := id hv24
    have hg := grownBy_putObj' (w24.setCell ⟨w.heap.size, 0, none⟩ (.slice (some ⟨w5.heap.size, 0, none⟩) m1 N)) Dk (.deferred none)
    have hr9 : ∀ r, some Dk = some r → ∃ o : Obj, (w24.setCell ⟨w.heap.size, 0, none⟩ (.slice (some ⟨w5.heap.size, 0, none⟩) m1 N)).heap[r]? = some o ∧ o.isCells = false := fun r e => by cases e; exact ⟨_, hK24, rfl⟩
    have HX1 := Lib.hid (hw24.grown hg hr9)
    have HX2 := Lib.hid (hv24'.grown hg hr9)
    have HX3 := Lib.hid (cell_kept (hset.cell (i := 0) (v := .slice (some ⟨w5.heap.size, 0, none⟩) m1 N) rfl) hg hr9)
    have HX4 : Hid (Below w.heap.size w ((w24.setCell ⟨w.heap.size, 0, none⟩ (.slice (some ⟨w5.heap.size, 0, none⟩) m1 N)).putObj Dk (.deferred none))) := Lib.hid (hB24.trans (belowK_b (w := w) (Nat.le_refl _) _ Dk _ (.deferred none) (by have := HZ7.out; omega) hK24 rfl rfl))
    have HKK := Lib.hid hK24
    clear hr4 hset hB24 hw24 hv24' hK24 hv24 hb24 hg hr9 HJ
    go_wp2_with fail
    refine ⟨by simp, .inl ⟨_, _, rfl, run_takeDeferred HKK.out, ?_⟩⟩
    refine ⟨.tuple #[.slice (some ⟨w5.heap.size, 0, none⟩) m1 N, .slice A24 (wds (A % B)).length c24], ?_, _, _, rfl, HX1.out, HX2.out, HX4.out⟩
    have hx3 := HX3.out
    simp [results, Tryz.f38, go_sem, hx3]
  case body =>
    rintro l' pre x W ⟨⟨v, hrn, hr9, hwv, hfv⟩, hk⟩ hlen
    have HF := Lib.hid (quoS_ok G P HP0.out pre)
    have HS := Lib.hid (quoS_snoc G P pre x)
    obtain ⟨R, hR⟩ : ∃ R, R = (quoS G P pre).1 := ⟨_, rfl⟩
    obtain ⟨nl, hnl⟩ : ∃ nl, nl = (quoS G P pre).2 := ⟨_, rfl⟩
    rw [← hR, ← hnl] at HF HS
    rw [← hnl] at hrn
    rw [← hR] at hwv
    clear hR hnl
    obtain ⟨X, hX⟩ : ∃ X, X = wat (wds G) x.val := ⟨_, rfl⟩
    have hxl : X < 1000000000 := by rw [hX]; exact wat_lt (wds_words G) _
    have hxN := x.isLt
    simp only [← hX]
    rw [← hX] at HS
    clear hX
    obtain ⟨xi, hxi⟩ : ∃ xi, xi = x.val := ⟨_, rfl⟩
    rw [← hxi] at hxN HS
    simp only [← hxi]
    clear hxi
    obtain ⟨R', hR'⟩ : ∃ R', R' = X + 1000000000 * R := ⟨_, rfl⟩
    have HRL : Hid (R' < P * 1000000000) := Lib.hid (by rw [hR']; exact quo_dig hxl HF.out.1)
    have HCR : Hid (crop (X :: wds R) = wds R') := Lib.hid (by rw [hR']; exact crop_cons X R hxl)
    rw [← hR'] at HS
    clear hR'
    have HRN0 := Lib.hid hrn
    have HR90 := Lib.hid hr9
    have HSZ0 := Lib.hid hk.size
    have hwv' := hwv
    obtain ⟨_, A9, c9, rfl, hc91, hc92, hA9⟩ := hwv'
    obtain ⟨m, hm⟩ : ∃ m, m = (wds R).length := ⟨_, rfl⟩
    rw [← hm] at hr9 hwv hc91 hfv
    unfold maxLen at hc92
    have HM := Lib.hid hm
    clear hm
    have HT : Hid (QuoT w7 W w5.heap.size w6.heap.size nl (.slice A9 m c9) R W) := Lib.hid ⟨hrn, hr9, hwv, hk, hfv, Kept.refl _ _⟩
    have HML : Hid (m ≤ n + 1) := Lib.hid (by
      rw [HM.out, ← HPL.out]
      rcases Nat.lt_or_ge (wds P).length (wds R).length with h | h
      · have := wds_len_lt h; have := HF.out.1; omega
      · exact h)
    have hb1 : Below W.heap.size W (W.alloc (.cells #[.int .u64 (X : Int)] 74)) := (Below.refl _ _).alloc (Nat.le_refl _) _
    have HL1 := Lib.hid (Lies.word W (fun k => W.heap.size ≤ k) (Nat.le_refl _) X)
    have HT1 := Lib.hid (HT.out.call hb1)
    have k91 := HT1.out.r9.cell (i := 0) (v := .slice A9 m c9) rfl
    have HSRC : Hid (Source (W.alloc (.cells #[.int .u64 (X : Int)] 74)) A9 m (u64s (wds R))) := Lib.hid (Holds.source (by have := hA9.below hb1; rwa [← HM.out] at this))
    have HBW1 := Lib.hid hb1
    clear hb1 hrn hr9 hwv hk hA9 hfv
    obtain ⟨m', hm'⟩ : ∃ m', m' = (wds R').length := ⟨_, rfl⟩
    have HM' := Lib.hid hm'
    clear hm'
    gi_wp2_with (first
      | (gi_at_builtin
         refine wpListIn_append_any ?_ (fun k => W.heap.size ≤ k) (.tmp 36) (.tmp 37) 49 ?_ 74 1 8 (.int .u64 0) Tryz.underlying49 infoU64 rfl (by decide) (.slice (some ⟨W.heap.size, 0, none⟩) 1 1) 1 (u64s [X]) ?_ HL1.out A9 m c9 (u64s (wds R)) ?_ (by rw [u64s_length, ← HM.out, Nat.mul_one]) HSRC.out (u64s_one _) (by have := HML.out; omega) (by decide) ?_
         · with_reducible rfl
         · with_reducible rfl
         · rfl
         · rfl
         intro v6 w6' hl6 hk6
         obtain ⟨A6, c6, rfl, hc61, hc62⟩ := hl6.form
         have HW6 : Hid (Wds w6' (.slice A6 (1 + m) c6) (X :: wds R)) := Lib.hid (by
           have e1 : 1 + m = (X :: wds R).length := by rw [List.length_cons, ← HM.out]; omega
           have h9 := hl6
           rw [← u64s_append, e1] at h9
           rw [e1]
           obtain ⟨A', c', e, h1, h2, h3⟩ := h9.holds
           refine ⟨fun i => ?_, A', c', e, h1, h2, h3⟩
           cases i with
           | zero => rw [wat_cons_zero]; omega
           | succ i => rw [wat_cons_succ]; have := wat_lt (wds_words R) i; omega)
         have HF6 : Hid (Far w5.heap.size (.slice A6 m' c6)) := Lib.hid ((hl6.from_ (B := W.heap.size) (k := m') (fun g hg => by rcases hg with hg | hg; exact hg; exact Nat.le_trans HBW1.out.size hg) (by rw [HM'.out, ← HCR.out]; have := crop_length_le (X :: wds R); rw [List.length_cons, ← HM.out] at this; omega)).far HT.out.rn.lt)
         have HT6 := Lib.hid (HT.out.call (HBW1.out.trans (hk6.below HBW1.out.size fun k hk => hk.1)))
         have k96 := HT6.out.r9.cell (i := 0) (v := .slice A9 m c9) rfl
         have f96 := HT6.out.r9.free 0
         clear hl6 hk6 k91 HT1 HT HL1)
      | (refine ⟨trivial, ?_⟩
         refine (CallsIn.inRound l' (callsIn_wide.2 (cropped_ok _ _ _ (X :: wds R) _ HW6.out))).mono ?_
         rintro e Wx ⟨rfl, rfl⟩
         rw [HCR.out, ← HM'.out]))
    have HW6T : Hid (Wds w6' (.slice A6 m' c6) (wds R')) := Lib.hid (by
      have h9 := HW6.out.take (crop_length_le (X :: wds R))
      rwa [← crop_eq_take, HCR.out, ← HM'.out] at h9)
    have HT8 : Hid (QuoT w7 W w5.heap.size w6.heap.size nl (.slice A6 m' c6) R' (w6'.setCell ⟨w6.heap.size, 0, none⟩ (.slice A6 m' c6))) := Lib.hid (HT6.out.lay (by have := HZ7.out; omega) HW6T.out HF6.out)
    clear HW6 HW6T HT6 HF6 k96 f96 HSRC HCR HM HML
    generalize w6'.setCell ⟨w6.heap.size, 0, none⟩ (.slice A6 m' c6) = w8 at *
    have HPW : Hid (∀ nl v R W', QuoT w7 W w5.heap.size w6.heap.size nl v R W' → Wds W' (.slice AP (n + 1) cP) (wds P) ∧ Row W' w4.heap.size 49 #[.slice AP (n + 1) cP] ∧ Row W' w.heap.size 49 #[.slice (some ⟨w5.heap.size, 0, none⟩) N N] ∧ Below w.heap.size w W') := Lib.hid fun nl v R W' h => by
      have hz := HZ7.out
      have hb : Below w5.heap.size w7 W' := h.kept.below (by omega) fun k hk => by omega
      exact ⟨HVP7.out.older HVPO.out (by omega) hb, HR87.out.below hb (by omega), HR47.out.below hb (by omega), HB7.out.trans (hb.mono (by omega))⟩
    obtain ⟨q0, hq0⟩ : ∃ q0, q0 = R' / 1000000000 ^ n / (P / 1000000000 ^ n) := ⟨_, rfl⟩
    have hq1 : q0 ≤ 1000000001 := by rw [hq0]; exact div_guess_le HRL.out HNORM.out.2
    have HQ2 : Hid (R' / P ≤ q0) := Lib.hid (by rw [hq0]; exact div_guess_ge (Nat.lt_of_lt_of_le (by decide) HNORM.out.2))
    have HGS : Hid (∀ W', QuoT w7 W w5.heap.size w6.heap.size nl (.slice A6 m' c6) R' W' → Calls Tryz.prog 66 #[.slice A6 m' c6, .slice AP (n + 1) cP] W' fun e w' => e = .returned (.int .u64 (q0 : Int)) ∧ w' = W'.drew) := Lib.hid fun W' h => by
      have := guess_ok _ _ R' P W' h.words (HPW.out _ _ _ _ h).1 HP0.out HRL.out (by rw [HPL.out]; omega)
      rwa [HPL.out, Nat.add_sub_cancel, ← hq0] at this
    clear hq0
    have hmix : Tryz.prog.follows .mixedOrders = true := by kernel_rfl
    have hnlx : nl.length = N := HF.out.2.1
    have HNLX := Lib.hid hnlx
    have k89 := HT8.out.r9.cell (i := 0) (v := .slice A6 m' c6) rfl
    have k88 := (HPW.out _ _ _ _ HT8.out).2.1.cell (i := 0) (v := .slice AP (n + 1) cP) rfl
    have k84 := (HPW.out _ _ _ _ HT8.out).2.2.1.cell (i := 0) (v := .slice (some ⟨w5.heap.size, 0, none⟩) N N) rfl
    have f8n := HT8.out.rn.free xi
    have k8n := row_word HT8.out.rn (p := xi) (by rw [hnlx]; exact hxN)
    clear hnlx
    have HPUT := Lib.hid (HT8.out.drew.drew.put (by have := HZ7.out; omega) xi q0)
    refine wpIn_toE (fun _ : Unit => [(40, .slice (some ⟨w5.heap.size, 0, none⟩) N N), (41, .int .i64 (xi : Int)), (42, .slice A6 m' c6), (43, .slice AP (n + 1) cP), (44, .int .u64 (q0 : Int)), (45, .pointer (some ⟨w5.heap.size, xi, none⟩))])
      (fun _ W' => QuoT w7 W w5.heap.size w6.heap.size (nl.set xi q0) (.slice A6 m' c6) R' W') ?reg ?rest
    case reg =>
      gi_region_with_o (
           refine ⟨trivial, ?_⟩
           refine (CallsIn.inRound l' (callsIn_wide.2 (HGS.out _ HT8.out.drew))).mono ?_
           rintro e Wx ⟨rfl, rfl⟩)
      all_goals exact ⟨(), by kernel_rfl, HPUT.out⟩
    case rest =>
      rintro _ w9 ht9
      have HT9 := Lib.hid ht9
      simp only [puts, List.foldl_cons, List.foldl_nil, Act.put, List.setIfInBounds_toArray, List.set_cons_zero, List.set_cons_succ]
      clear HT8 HPUT k89 k88 k84 k8n f8n HGS ht9
      obtain ⟨n9, hn9⟩ : ∃ n9, n9 = nl.set xi q0 := ⟨_, rfl⟩
      rw [← hn9] at HT9
      have hn9l : n9.length = N := by rw [hn9, List.length_set]; exact HNLX.out
      have hn9q : wat n9 xi = q0 := by rw [hn9, wat_set _ _ _ _ (by rw [HNLX.out]; exact hxN), if_pos rfl]
      have HN9 := Lib.hid hn9
      have HN9L := Lib.hid hn9l
      have HN9Q := Lib.hid hn9q
      have k8 := (HPW.out _ _ _ _ HT9.out).2.1.cell (i := 0) (v := .slice AP (n + 1) cP) rfl
      have k4 := (HPW.out _ _ _ _ HT9.out).2.2.1.cell (i := 0) (v := .slice (some ⟨w5.heap.size, 0, none⟩) N N) rfl
      have hxi1 : IntKind.i64.wrap ((xi : Int) + 1) = (xi : Int) + 1 := IntWalk.i64_in _ (by have := HGN2.out; omega)
      have hxi2 : (xi : Int) ≤ (xi : Int) + 1 := by omega
      have hxi3 : (xi : Int) + 1 ≤ (N : Int) := by omega
      clear hn9 hn9l hn9q
      gi_wp2_with fail
      have hxi4 : ¬ N = xi := by omega
      have hN1 := HGN2.out
      have HSL : Hid (Wds w9.drew (.slice (some ⟨w5.heap.size, xi, none⟩) 1 (N - xi)) [q0]) := Lib.hid (by
        refine ⟨fun i => ?_, _, N - xi, rfl, by simp; omega, by unfold maxLen; omega, by simp [u64s], fun _ => ⟨w5.heap.size, xi, rfl, HT9.out.rn.lt, fun j y hy => ?_⟩⟩
        · cases i with
          | zero => rw [wat_cons_zero]; omega
          | succ i => rw [wat_cons_succ, wat_out (by simp)]; omega
        · cases j with
          | zero =>
            have h9 := row_word HT9.out.rn (p := xi) (by rw [HN9L.out]; exact hxN)
            rw [HN9Q.out] at h9
            simp [u64s] at hy
            rw [← hy]
            exact h9
          | succ j => simp [u64s] at hy)
      have HPQ := Lib.hid (productq_ok (.slice AP (n + 1) cP) _ (wds P) [q0] q0 w9.drew (HPW.out _ _ _ _ HT9.out.drew).1 HSL.out (wds_words P) rfl hq1 (by rw [HPL.out]; omega))
      rw [wval_wds, HPL.out] at HPQ
      refine wpIn_toE (fun b : Nat × Nat × Nat => [(46, .slice AP (n + 1) cP), (47, .slice (some ⟨w5.heap.size, 0, none⟩) N N), (48, .int .i64 (xi : Int)), (49, .int .i64 (xi : Int)), (50, .int .i64 ((xi : Int) + 1)), (51, .slice (some ⟨w5.heap.size, xi, none⟩) 1 (N - xi)), (52, .slice (some ⟨b.1, 0, none⟩) b.2.1 b.2.2), (12, .slice (some ⟨b.1, 0, none⟩) b.2.1 b.2.2)])
        (fun b W' => ∃ T, QuoT w7 W w5.heap.size w6.heap.size n9 (.slice A6 m' c6) R' W' ∧ Wds W' (.slice (some ⟨b.1, 0, none⟩) b.2.1 b.2.2) T ∧ Took P q0 (n + 1) T ∧ Far w5.heap.size (.slice (some ⟨b.1, 0, none⟩) b.2.1 b.2.2)) ?reg2 ?rest2
      case reg2 =>
        gi_region_with_o (
             refine ⟨trivial, ?_⟩
             refine (CallsIn.inRound l' (callsIn_wide.2 HPQ.out)).mono ?_
             rintro e w10 ⟨vT, T, rfl, hvT, hT, hbT, nT, cT, rfl⟩
             have HVT := Lib.hid hvT
             have HTK := Lib.hid hT
             have HT10 := Lib.hid (HT9.out.drew.call hbT)
             have HFT : Hid (Far w5.heap.size (.slice (some ⟨w9.drew.heap.size, 0, none⟩) nT cT)) := Lib.hid (fun b o k c e _ => by
               injection e with e _ _
               injection e with e
               injection e with e _
               have h9 := HT9.out.rn.lt
               have h8 : w9.drew.heap.size = w9.heap.size := rfl
               omega)
             clear hvT hT hbT)
        all_goals exact ⟨(w9.heap.size, nT, cT), by kernel_rfl, T, HT10.out, HVT.out, HTK.out, HFT.out⟩
      case rest2 =>
        rintro ⟨bT, nT, cT⟩ w10 ⟨T, hT10, hvT, hTK, hFT⟩
        have HT10 := Lib.hid hT10
        have HVT := Lib.hid hvT
        have HTK := Lib.hid hTK
        have HFT := Lib.hid hFT
        simp only [puts, List.foldl_cons, List.foldl_nil, Act.put, List.setIfInBounds_toArray, List.set_cons_zero, List.set_cons_succ] at HVT HFT ⊢
        clear HT9 HSL HPQ k8 k4 hT10 hvT hTK hFT
        gi_wp2_with fail
        gi_loopw [12] (fun v12 wr => ∃ (q : Nat) (T : List Nat) (A2 : Option Addr) (k2 c2 : Nat) (nq : List Nat), v12 = .slice A2 k2 c2 ∧ q ≤ 1000000001 ∧ Hid (R' / P ≤ q) ∧ Hid (nq = nl.set xi q) ∧ Hid (QuoT w7 W w5.heap.size w6.heap.size nq (.slice A6 m' c6) R' wr) ∧ Hid (Wds wr (.slice A2 k2 c2) T) ∧ Hid (Took P q (n + 1) T) ∧ Hid (Far w5.heap.size (.slice A2 k2 c2))) (fun _ wr => match wr.cell? ⟨w5.heap.size, xi, none⟩ with | some (.int _ z) => z.toNat | _ => 0)
        case atStart => exact ⟨q0, T, _, _, _, n9, rfl, hq1, HQ2, HN9, HT10, HVT, HTK, HFT⟩
        case round =>
          obtain ⟨q, T2, A2, k2, c2, nq, rfl, hqq, HQL, HNQ, HTQ, HVQ, HTKQ, HFQ⟩ := hrel
          have hk2 : k2 = T2.length := by
            obtain ⟨_, A', c', e, _⟩ := HVQ.out
            injection e
          have HK2 := Lib.hid hk2
          have HPWQ := Lib.hid (HPW.out _ _ _ _ HTQ.out)
          have k9 := HTQ.out.r9.cell (i := 0) (v := .slice A6 m' c6) rfl
          have hnql : nq.length = N := by rw [HNQ.out, List.length_set]; exact HNLX.out
          have hnqq : wat nq xi = q := by rw [HNQ.out, wat_set _ _ _ _ (by rw [HNLX.out]; exact hxN), if_pos rfl]
          have HNQL := Lib.hid hnql
          have HNQQ := Lib.hid hnqq
          have HLESS := Lib.hid (took_less (.slice A6 m' c6) (.slice A2 k2 c2) R' P q T2 wr HTQ.out.words HVQ.out (by rw [HPL.out]; exact HTKQ.out) HP0.out HRL.out (by rw [HPL.out]; omega) (by have := Took.len (P := P) (q := q) (T := T2) (by rw [HPL.out]; exact HTKQ.out) HP0.out hqq; rw [HPL.out] at this; omega))
          clear hk2 hnql hnqq
          gi_wp2_with fail
          refine ⟨trivial, ?_⟩
          refine (CallsIn.inRound l' (callsIn_wide.2 HLESS.out)).mono ?_
          rintro e w11 ⟨rfl, hb11⟩
          have HT11 := Lib.hid (HTQ.out.call hb11)
          have HV11 := Lib.hid (HVQ.out.below hb11)
          have HMQ : Hid (wr.cell? ⟨w5.heap.size, xi, none⟩ = some (.int .u64 (q : Int))) := Lib.hid (by
            have := row_word HTQ.out.rn (p := xi) (by rw [HNQL.out]; exact hxN)
            rwa [HNQQ.out] at this)
          clear hb11 HLESS k9 HTQ HVQ HPWQ
          by_cases hlt : R' < P * q
          · rw [decide_eq_true hlt]
            obtain ⟨q', rfl⟩ : ∃ q', q = q' + 1 := by
              cases q with
              | zero => simp at hlt
              | succ q' => exact ⟨q', rfl⟩
            have HQL' : Hid (R' / P ≤ q') := Lib.hid (by
              have := (Nat.div_lt_iff_lt_mul HP0.out).2 (show R' < (q' + 1) * P by rw [Nat.mul_comm]; exact hlt)
              omega)
            have HNQ' : Hid (nq.set xi q' = nl.set xi q') := Lib.hid (by rw [HNQ.out, List.set_set])
            have hput := HT11.out.put (by have := HZ7.out; omega) xi q'
            rw [HNQ'.out] at hput
            have HT12 := Lib.hid hput
            have HV12 := Lib.hid (HV11.out.other (i := xi) (q := q') HFQ.out)
            have hp11 := HPW.out _ _ _ _ HT11.out
            have k4 := hp11.2.2.1.cell (i := 0) (v := .slice (some ⟨w5.heap.size, 0, none⟩) N N) rfl
            have kN := row_word HT11.out.rn (p := xi) (by rw [HNQL.out]; exact hxN)
            rw [HNQQ.out, show ((q' + 1 : Nat) : Int) = (q' : Int) + 1 by omega] at kN
            have fN := HT11.out.rn.free xi
            have hwq : IntKind.u64.wrap (q' : Int) = (q' : Int) := by rw [IntKind.wrap_u64]; omega
            clear hput hp11 hlt
            gi_upto_region 13 with fail
            clear kN fN k4
            generalize w11.setCell ⟨w5.heap.size, xi, none⟩ (.int .u64 (q' : Int)) = w12 at *
            have k8 := (HPW.out _ _ _ _ HT12.out).2.1.cell (i := 0) (v := .slice AP (n + 1) cP) rfl
            have HDN := Lib.hid (took_down (.slice A2 k2 c2) (.slice AP (n + 1) cP) P (q' + 1) T2 w12 HV12.out (HPW.out _ _ _ _ HT12.out).1 (by rw [HPL.out]; exact HTKQ.out) HP0.out (by omega) hqq (by rw [HPL.out]; omega))
            rw [Nat.add_sub_cancel] at HDN
            gi_wp2_with fail
            refine ⟨trivial, ?_⟩
            refine (CallsIn.inRound l' (callsIn_wide.2 HDN.out)).mono ?_
            rintro e w13 ⟨v13, rfl, hv13, hb13, hf13⟩
            have HT13 := Lib.hid (HT12.out.call hb13)
            have HF13 : Hid (Far w5.heap.size v13) := Lib.hid (hf13.far HT12.out.rn.lt)
            obtain ⟨_, A13, c13, rfl, _⟩ := id hv13
            have HV13 := Lib.hid hv13
            have HTK13 : Hid (Took P q' (n + 1) (wds (P * q'))) := Lib.hid ⟨wval_wds _, .inl rfl⟩
            have HM13 : Hid (w13.cell? ⟨w5.heap.size, xi, none⟩ = some (.int .u64 (q' : Int))) := Lib.hid (by
              have := row_word HT13.out.rn (p := xi) (by rw [List.length_set, HNLX.out]; exact hxN)
              rwa [wat_set _ _ _ _ (by rw [HNLX.out]; exact hxN), if_pos rfl] at this)
            clear hv13 hb13 hf13 k8 HDN
            gi_wp2_with fail
            exact ⟨⟨q', _, _, _, _, _, rfl, by omega, HQL', Lib.hid rfl, HT13, HV13, HTK13, HF13⟩, by rw [HM13.out, HMQ.out]; simp⟩
          · rw [decide_eq_false hlt]
            have HQE : Hid (q = R' / P) := Lib.hid (by
              have := (Nat.le_div_iff_mul_le HP0.out).2 (show q * P ≤ R' by rw [Nat.mul_comm]; omega)
              have := HQL.out
              omega)
            have HEND := Lib.hid (took_end (.slice A6 m' c6) (.slice A2 k2 c2) R' P q T2 w11 HT11.out.words HV11.out (by rw [HPL.out]; exact HTKQ.out) HP0.out HRL.out (by omega) (by rw [HPL.out]; omega))
            have HRE : Hid (R' - P * q = R' % P) := Lib.hid (by rw [HQE.out]; have := Nat.div_add_mod R' P; omega)
            rw [HRE.out] at HEND
            have k9 := HT11.out.r9.cell (i := 0) (v := .slice A6 m' c6) rfl
            clear hlt
            gi_wp2_with fail
            refine ⟨trivial, ?_⟩
            refine (CallsIn.inRound l' (callsIn_wide.2 HEND.out)).mono ?_
            rintro e w14 ⟨v14, rfl, hv14, hb14, hf14⟩
            have HT14 := Lib.hid (HT11.out.call hb14)
            have HF14 : Hid (Far w5.heap.size v14) := Lib.hid (hf14.far HT11.out.rn.lt)
            obtain ⟨_, A14, c14, rfl, _⟩ := id hv14
            have k99 := HT14.out.r9.cell (i := 0) (v := .slice A6 m' c6) rfl
            have f99 := HT14.out.r9.free 0
            have HT15 := Lib.hid (HT14.out.lay (by have := HZ7.out; omega) hv14 HF14.out)
            clear hv14 hb14 hf14 k9 HEND
            gi_wp2_with fail
            have hS := HS.out
            rw [HNQ.out, HQE.out] at HT15
            refine ⟨?_, HT15.out.own.mono fun k _ hk => ?_, ⟨_, ?_, HT15.out.r9, ?_, HT15.out.far⟩, HT15.out.kept⟩
            · refine KeepsOthers.of_kept HT15.out.own fun k hk hlt => ?_
              rcases hk with rfl | rfl | hk
              · exact ⟨_, _, _, HRN0.out⟩
              · exact ⟨_, _, _, HR90.out⟩
              · omega
            · have := HSZ0.out; omega
            · rw [hS]; exact HT15.out.rn
            · rw [hS]; exact HT15.out.words
end Go.Proofs.YthgjelpmdndceaaGreatDoor
