/- Layer 8: pure: what is read is a value that Check lets pass. -/
import Derived.Test.YtfdodndagakmmaaGreatDoorPt46
import Derived.Test.YtfdodndagakmmaaGreatDoorPt37
import Derived.Test.YtfdodndagakmmaaGreatDoorPt47
import Derived.Test.YtfdodndagakmmaaGreatDoorPt44
namespace Go.Proofs.YtfdodndagakmmaaGreatDoor
open Go.RowKit
theorem judge0 {f : Fl} (h : judgeE f = 0) : f = fl0 := by
  obtain ⟨a, b, c, d⟩ := f
  unfold judgeE at h
  cases a <;> cases b <;> cases c <;> cases d <;> first | rfl | (simp at h)
/-- What is wrong stays wrong. -/
theorem runJ_flags : ∀ (n : Nat) (m : Md) (K : List Fr) (f : Fl) (s : List UInt8), 2 * s.length + m.rank ≤ n → ∀ v f', runJ m K f s = some (v, f') → f' = fl0 → f = fl0 := by
  have en : ∀ {K : List Fr} {f : Fl}, enterF K f = fl0 → f = fl0 := fun {K f} h => by
    unfold enterF at h
    split at h
    · exact absurd (congrArg Fl.deep h) (by simp [fl0])
    · exact h
  have al : ∀ {f : Fl} {a g : Bool}, ({ f with alone := f.alone || a, far := f.far || g } : Fl) = fl0 → f = fl0 := fun {f a g} h => by
    obtain ⟨x1, x2, x3, x4⟩ := f
    unfold fl0 at h ⊢
    simp only [Fl.mk.injEq, Bool.or_eq_false_iff] at h ⊢
    exact ⟨h.1, h.2.1.1, h.2.2.1, h.2.2.2.1⟩
  have al1 : ∀ {f : Fl} {a : Bool}, ({ f with alone := f.alone || a } : Fl) = fl0 → f = fl0 := fun {f a} h => by
    obtain ⟨x1, x2, x3, x4⟩ := f
    unfold fl0 at h ⊢
    simp only [Fl.mk.injEq, Bool.or_eq_false_iff] at h ⊢
    exact ⟨h.1, h.2.1.1, h.2.2.1, h.2.2.2⟩
  have nm : ∀ {l : List UInt8} {K : List Fr} {f : Fl}, nameF l K f = fl0 → f = fl0 := fun {l K f} h => by
    unfold nameF at h
    split at h
    · exact h
    · split at h
      · exact h
      · obtain ⟨x1, x2, x3, x4⟩ := f
        unfold fl0 at h ⊢
        simp only [Fl.mk.injEq, Bool.or_eq_false_iff] at h ⊢
        exact ⟨h.1, h.2.1, h.2.2.1.1, h.2.2.2⟩
  intro n
  induction n using Nat.strongRecOn with
  | _ n ih =>
    intro m K f s hn v f' h h0
    have hb := blk_len s
    cases m with
    | value =>
      rw [runJ_value] at h
      simp only [Md.rank] at hn
      split at h
      · rename_i h1
        have l1 := tkB_some h1
        have hb2 := blk_len ((blk s).drop 1)
        rw [List.length_drop] at hb2
        split at h
        · rename_i h2
          have l2 := tkB_some h2
          exact en (ih (n - 1) (by omega) .leave _ _ _ (by simp only [Md.rank, List.length_drop]; omega) v f' h h0)
        · exact en (ih (n - 1) (by omega) .value _ _ _ (by simp only [Md.rank]; omega) v f' h h0)
      · split at h
        · rename_i h1
          have l1 := tkB_some h1
          have hb2 := blk_len ((blk s).drop 1)
          rw [List.length_drop] at hb2
          split at h
          · rename_i h2
            have l2 := tkB_some h2
            exact en (ih (n - 1) (by omega) .leave _ _ _ (by simp only [Md.rank, List.length_drop]; omega) v f' h h0)
          · exact en (ih (n - 1) (by omega) .name _ _ _ (by simp only [Md.rank]; omega) v f' h h0)
        · split at h
          · cases h
          · rename_i v1 a g r h1
            have l1 := plainL_len h1
            exact al (ih (n - 1) (by omega) (.behind v1) _ _ _ (by simp only [Md.rank]; omega) v f' h h0)
    | name =>
      rw [runJ_name] at h
      simp only [Md.rank] at hn
      split at h
      · rename_i h1
        have l1 := tkB_some h1
        split at h
        · cases h
        · rename_i l a r h2
          have l2 := letsL_len _ h2
          rw [List.length_drop] at l2
          have hb2 := blk_len r
          split at h
          · rename_i h3
            have l4 := tkB_some h3
            exact al1 (nm (ih (n - 1) (by omega) .value _ _ _ (by simp only [Md.rank, List.length_drop]; omega) v f' h h0))
          · cases h
      · cases h
    | leave =>
      cases K with
      | nil => rw [runJ] at h; cases h
      | cons t r =>
        rw [runJ_leave] at h
        simp only [Md.rank] at hn
        exact ih (n - 1) (by omega) (.behind _) _ _ _ (by simp only [Md.rank]; omega) v f' h h0
    | behind v1 =>
      simp only [Md.rank] at hn
      cases K with
      | nil =>
        rw [runJ_behind0] at h
        split at h
        · injection h with h; injection h with _ h; rw [h]; exact h0
        · cases h
      | cons t r =>
        rw [runJ_behind] at h
        split at h
        · rename_i h1
          have l1 := tkB_some h1
          cases ho : t.obj with
          | true =>
            rw [ho, if_pos rfl] at h
            exact ih (n - 1) (by omega) .name _ _ _ (by simp only [Md.rank, List.length_drop]; omega) v f' h h0
          | false =>
            rw [ho, if_neg (by simp)] at h
            exact ih (n - 1) (by omega) .value _ _ _ (by simp only [Md.rank, List.length_drop]; omega) v f' h h0
        · by_cases h1 : tkB [if t.obj = true then 125 else 93] (blk s) = true
          · rw [if_pos h1] at h
            have l1 := tkB_some h1
            exact ih (n - 1) (by omega) .leave _ _ _ (by simp only [Md.rank, List.length_drop]; omega) v f' h h0
          · rw [if_neg h1] at h; cases h
/-- What is open holds values that may be; b: a value is under way in the innermost one. -/
def goodK : Bool → List Fr → Prop
  | _, [] => True
  | b, t :: r => askKids t.list = true ∧ depthKids t.list + (r.length + 1) ≤ 64 ∧ (∀ x ∈ t.names, Lib.validD x = true) ∧ t.names.Nodup ∧ (t.obj = false → t.names = []) ∧ (t.obj = true → t.names.length = t.list.length + if b then 1 else 0) ∧ goodK true r
theorem goodK_len {b : Bool} {K : List Fr} (h : goodK b K) : K.length ≤ 64 := by
  cases K with
  | nil => simp
  | cons t r => have := h.2.1; simp only [List.length_cons]; omega
theorem deep_no {K : List Fr} (h : K.length ≤ 64) : isDeepK K = false := by unfold isDeepK maxDeep; simp; omega
theorem askKids_add {l : List JV} {v : JV} (h : askKids l = true) (hv : askJ v = true) : askKids (l ++ [v]) = true :=
  askKids_mem.2 fun x hx => by
    rcases List.mem_append.1 hx with hx | hx
    · exact askKids_mem.1 h x hx
    · rw [List.mem_singleton.1 hx]; exact hv
theorem depthKids_snoc : ∀ (l : List JV) (v : JV), depthKids (l ++ [v]) = max (depthKids l) (depthJ v)
  | [], v => by rw [List.nil_append, depthKids]; exact Nat.max_comm _ _
  | x :: l, v => by rw [List.cons_append, depthKids, depthKids, depthKids_snoc l v]; omega
theorem goodK_enter {obj : Bool} {K : List Fr} (h : goodK true K) (hl : K.length < 64) : goodK false (enterK obj K) :=
  ⟨by rw [askKids], by show depthKids [] + (K.length + 1) ≤ 64; rw [depthKids]; omega, fun x hx => (by cases hx), List.nodup_nil, fun _ => rfl, fun _ => rfl, h⟩
theorem goodK_list {t : Fr} {r : List Fr} (h : goodK false (t :: r)) (ho : t.obj = false) : goodK true (t :: r) :=
  ⟨h.1, h.2.1, h.2.2.1, h.2.2.2.1, h.2.2.2.2.1, fun e => (by rw [ho] at e; cases e), h.2.2.2.2.2.2⟩
theorem goodK_put {v : JV} {K : List Fr} (h : goodK true K) (hv : askJ v = true) (hd : depthJ v + K.length ≤ 64) : goodK false (putK v K) := by
  cases K with
  | nil => trivial
  | cons t r =>
    have e : putK v (t :: r) = { t with list := t.list ++ [v] } :: r := if_neg (by rw [deep_no (goodK_len h)]; simp)
    rw [e]
    obtain ⟨a1, a2, a3, a4, a5, a6, a7⟩ := h
    refine ⟨askKids_add a1 hv, ?_, a3, a4, a5, fun e => ?_, a7⟩
    · show depthKids (t.list ++ [v]) + _ ≤ 64
      rw [depthKids_snoc]
      simp only [List.length_cons] at hd
      omega
    · have := a6 e
      simpa using this
theorem goodK_name {l : List UInt8} {K : List Fr} (h : goodK false K) (hob : ∀ t r, K = t :: r → t.obj = true) (hv : Lib.validD l = true) (f : Fl) (hf : nameF l K f = fl0) : goodK true (nameK l K) := by
  cases K with
  | nil => trivial
  | cons t r =>
    have hdp := deep_no (goodK_len h)
    have e : nameK l (t :: r) = { t with names := t.names ++ [l] } :: r := if_neg (by rw [hdp]; simp)
    rw [e]
    obtain ⟨a1, a2, a3, a4, a5, a6, a7⟩ := h
    have hn : l ∉ t.names := fun hm => by
      unfold nameF at hf
      simp only at hf
      rw [if_neg (by rw [hdp]; simp)] at hf
      have := congrArg Fl.twice hf
      simp [fl0, hm] at this
    have ho := hob t r rfl
    refine ⟨a1, a2, fun x hx => ?_, ?_, fun e => (by rw [ho] at e; cases e), fun e => ?_, a7⟩
    · rcases List.mem_append.1 hx with hx | hx
      · exact a3 x hx
      · rw [List.mem_singleton.1 hx]; exact hv
    · exact List.nodup_append.2 ⟨a4, by simp, fun x hx y hy e => by rw [List.mem_singleton.1 hy] at e; exact hn (e ▸ hx)⟩
    · have := a6 e
      simpa using this
/-- A value that is left. -/
theorem val_good {t : Fr} {r : List Fr} (h : goodK false (t :: r)) : askJ t.val = true ∧ depthJ t.val + r.length ≤ 64 := by
  obtain ⟨a1, a2, a3, a4, a5, a6, a7⟩ := h
  have z : ∀ m, m = 0 → zB false Dec.zero [] 0 m = true := fun m hm => zB_iff.2 ⟨rfl, rfl, rfl, rfl, hm⟩
  have hd : depthJ t.val = depthKids t.list + 1 := by
    unfold Fr.val
    rw [depthJ, if_pos (by cases t.obj <;> simp)]
  refine ⟨?_, by rw [hd]; omega⟩
  unfold Fr.val
  cases ho : t.obj with
  | true =>
    rw [if_pos rfl, askJ, if_neg (by decide), if_neg (by decide), if_neg (by decide), if_neg (by decide), if_neg (by decide), if_pos rfl]
    have h6 := a6 ho
    simp only [Bool.false_eq_true, if_false, Nat.add_zero] at h6
    simp only [Bool.and_eq_true, beq_iff_eq]
    exact ⟨⟨⟨h6, (fitN_iff _).2 ⟨a3, a4⟩⟩, a1⟩, z 0 rfl⟩
  | false =>
    rw [if_neg (by simp), askJ, if_neg (by decide), if_neg (by decide), if_neg (by decide), if_neg (by decide), if_pos rfl]
    simp only [Bool.and_eq_true]
    exact ⟨a1, z _ (by rw [a5 ho]; rfl)⟩
/-- What lies ahead of what is left is ASCII. -/
def Low (s r : List UInt8) : Prop := ∃ p, s = p ++ r ∧ ∀ b ∈ p, b.toNat < 128
theorem Low.refl (s : List UInt8) : Low s s := ⟨[], rfl, fun b hb => by cases hb⟩
theorem Low.trans {a b c : List UInt8} (h : Low a b) (h2 : Low b c) : Low a c := by
  obtain ⟨p, rfl, hp⟩ := h
  obtain ⟨q, rfl, hq⟩ := h2
  exact ⟨p ++ q, (List.append_assoc _ _ _).symm, fun b hb => (List.mem_append.1 hb).elim (hp b) (hq b)⟩
theorem Low.valid {s r : List UInt8} (h : Low s r) (hv : Lib.validD s = true) : Lib.validD r = true := by
  obtain ⟨p, rfl, hp⟩ := h
  rwa [valid_app _ _ p (Nat.le_refl _) (valid_ascii hp)] at hv
theorem low_drop {these s : List UInt8} (ht : ∀ b ∈ these, b.toNat < 128) (h : tkB these s = true) : Low s (s.drop 1) := by
  cases s with
  | nil => cases h
  | cons x t => exact ⟨[x], rfl, fun b hb => by rw [List.mem_singleton.1 hb]; exact ht x (List.contains_iff_mem.1 h)⟩
theorem low_tkS {these : List UInt8} (s : List UInt8) (ht : ∀ b ∈ these, b.toNat < 128) : Low s (tkS these s) := by
  unfold tkS
  split
  · rename_i h; exact low_drop ht h
  · exact Low.refl s
theorem low_while (p : UInt8 → Bool) (hp : ∀ b, p b = true → b.toNat < 128) (s : List UInt8) : Low s (s.dropWhile p) :=
  ⟨s.takeWhile p, (List.takeWhile_append_dropWhile).symm, fun b hb => hp b (List.all_eq_true.1 List.all_takeWhile b hb)⟩
theorem low_dgs {s q : List UInt8} (h : dgs s = some q) : Low s q := by
  cases s with
  | nil => cases h
  | cons x t =>
    unfold dgs at h
    simp only at h
    split at h
    · rename_i hx
      injection h with h
      subst h
      have := low_while isDig (fun b hb => by have := isDig_nat hb; omega) (x :: t)
      rwa [List.dropWhile_cons, if_pos hx] at this
    · cases h
theorem low_num {s q : List UInt8} (h : numEnd s = some q) : Low s q := by
  unfold numEnd at h
  simp only at h
  refine (low_tkS s (these := [45]) (by decide)).trans ?_
  generalize tkS [45] s = s1 at *
  split at h
  · cases h
  · rename_i s2 h2
    have g2 : Low s1 s2 := by
      split at h2
      · rename_i hb
        injection h2 with h2
        rw [← h2]
        exact low_drop (by decide) hb
      · exact low_dgs h2
    refine g2.trans ?_
    split at h
    · cases h
    · rename_i s3 h3
      have g3 : Low s2 s3 := by
        split at h3
        · rename_i hb
          exact (low_drop (by decide) hb).trans (low_dgs h3)
        · injection h3 with h3; rw [h3]; exact Low.refl _
      refine g3.trans ?_
      split at h
      · rename_i hb
        exact ((low_drop (by decide) hb).trans (low_tkS _ (by decide))).trans (low_dgs h)
      · injection h with h; rw [h]; exact Low.refl _
theorem blank_low {b : UInt8} (h : isBlank b = true) : b.toNat < 128 := by
  unfold isBlank at h
  simp only [Bool.or_eq_true, beq_iff_eq] at h
  rcases h with ((rfl | rfl) | rfl) | rfl <;> decide
theorem low_blk (s : List UInt8) : Low s (blk s) := low_while isBlank (fun _ => blank_low) s
theorem plain_good {s : List UInt8} (hs : Lib.validD s = true) {v : JV} {a g : Bool} {r : List UInt8} (h : plainL s = some (v, a, g, r)) : askJ v = true ∧ depthJ v = 0 ∧ Lib.validD r = true := by
  unfold plainL at h
  split at h
  · rename_i h1
    split at h
    · cases h
    · rename_i l a1 r1 h2
      have v1 : Lib.validD (s.drop 1) = true := by
        cases s with
        | nil => cases h1
        | cons x t =>
          have hx : x = 34 := by simpa [tkB] using h1
          rw [Lib.validD_cons x t (by rw [hx]; decide)] at hs
          exact hs
      have := letsL_valid _ _ (Nat.le_refl _) v1 h2
      injection h with h; injection h with h h3; injection h3 with _ h3; injection h3 with _ h3; subst h h3
      refine ⟨?_, by rw [depthJ, if_neg (by decide)], this.2⟩
      rw [askJ, if_neg (by decide), if_neg (by decide), if_neg (by decide), if_pos rfl]
      simp only [Bool.and_eq_true]
      exact ⟨this.1, zB_iff.2 ⟨rfl, rfl, rfl, rfl, rfl⟩⟩
  · have wd : ∀ (w : List UInt8), (∀ b ∈ w, b.toNat < 128) → pfx w s = true → Lib.validD (s.drop w.length) = true := fun w hw hp => by
      have e := pfx_eq hp
      rw [e, valid_app _ _ w (Nat.le_refl _) (valid_ascii hw)] at hs
      exact hs
    split at h
    · rename_i hp
      have := wd wNull (by decide) hp
      injection h with h; injection h with h h3; injection h3 with _ h3; injection h3 with _ h3; subst h h3
      exact ⟨by unfold JV.null; rw [askJ, if_pos rfl]; exact zB_iff.2 ⟨rfl, rfl, rfl, rfl, rfl⟩, by unfold JV.null; rw [depthJ, if_neg (by decide)], this⟩
    · split at h
      · rename_i hp
        have := wd wTrue (by decide) hp
        injection h with h; injection h with h h3; injection h3 with _ h3; injection h3 with _ h3; subst h h3
        exact ⟨by rw [askJ, if_neg (by decide), if_pos rfl]; exact zB_iff.2 ⟨rfl, rfl, rfl, rfl, rfl⟩, by rw [depthJ, if_neg (by decide)], this⟩
      · split at h
        · rename_i hp
          have := wd wFalse (by decide) hp
          injection h with h; injection h with h h3; injection h3 with _ h3; injection h3 with _ h3; subst h h3
          exact ⟨by rw [askJ, if_neg (by decide), if_pos rfl]; exact zB_iff.2 ⟨rfl, rfl, rfl, rfl, rfl⟩, by rw [depthJ, if_neg (by decide)], this⟩
        · split at h
          · cases h
          · rename_i r1 h1
            injection h with h; injection h with h h3; injection h3 with _ h3; injection h3 with _ h3; subst h h3
            refine ⟨?_, by rw [depthJ, if_neg (by decide)], ?_⟩
            · rw [askJ, if_neg (by decide), if_neg (by decide), if_pos rfl]
              simp only [Bool.and_eq_true, beq_iff_eq]
              exact ⟨checkE_yes ((mayB_iff _).2 (parseD_may _)), zB_iff.2 ⟨rfl, rfl, rfl, rfl, rfl⟩⟩
            · exact (low_num h1).valid hs
/-- What is read may be, if nothing is wrong with it. -/
theorem runJ_good : ∀ (n : Nat) (m : Md) (K : List Fr) (f : Fl) (s : List UInt8), 2 * s.length + m.rank ≤ n → Lib.validD s = true → goodK (match m with | .value => true | .behind _ => true | _ => false) K → (m = .name → ∀ t r, K = t :: r → t.obj = true) → (∀ v, m = .behind v → askJ v = true ∧ depthJ v + K.length ≤ 64) →
    ∀ v f', runJ m K f s = some (v, f') → f' = fl0 → askJ v = true ∧ depthJ v ≤ 64 := by
  intro n
  induction n using Nat.strongRecOn with
  | _ n ih =>
    intro m K f s hn hs hK ho hv v f' h h0
    have hb := blk_len s
    have vb := (low_blk s).valid hs
    have ent : ∀ {obj : Bool} {m' : Md} {s' : List UInt8}, runJ m' (enterK obj K) (enterF (enterK obj K) f) s' = some (v, f') → goodK true K → goodK false (enterK obj K) := fun {obj m' s'} h hK => by
      have h1 := runJ_flags _ _ _ _ _ (Nat.le_refl _) _ _ h h0
      refine goodK_enter hK ?_
      rcases Nat.lt_or_ge K.length 64 with h2 | h2
      · exact h2
      · unfold enterF at h1
        rw [if_pos (by unfold isDeepK enterK maxDeep; simp; omega)] at h1
        exact absurd (congrArg Fl.deep h1) (by simp [fl0])
    cases m with
    | value =>
      rw [runJ_value] at h
      simp only [Md.rank] at hn
      split at h
      · rename_i h1
        have l1 := tkB_some h1
        have hb2 := blk_len ((blk s).drop 1)
        rw [List.length_drop] at hb2
        have v1 := ((low_drop (by decide) h1).trans (low_blk _)).valid vb
        split at h
        · rename_i h2
          have l2 := tkB_some h2
          exact ih (n - 1) (by omega) .leave _ _ _ (by simp only [Md.rank, List.length_drop]; omega) ((low_drop (by decide) h2).valid v1) (ent h hK) (fun e => by cases e) (fun v e => by cases e) v f' h h0
        · exact ih (n - 1) (by omega) .value _ _ _ (by simp only [Md.rank]; omega) v1 (goodK_list (ent h hK) rfl) (fun e => by cases e) (fun v e => by cases e) v f' h h0
      · split at h
        · rename_i h1
          have l1 := tkB_some h1
          have hb2 := blk_len ((blk s).drop 1)
          rw [List.length_drop] at hb2
          have v1 := ((low_drop (by decide) h1).trans (low_blk _)).valid vb
          split at h
          · rename_i h2
            have l2 := tkB_some h2
            exact ih (n - 1) (by omega) .leave _ _ _ (by simp only [Md.rank, List.length_drop]; omega) ((low_drop (by decide) h2).valid v1) (ent h hK) (fun e => by cases e) (fun v e => by cases e) v f' h h0
          · exact ih (n - 1) (by omega) .name _ _ _ (by simp only [Md.rank]; omega) v1 (ent h hK) (fun _ t r e => by unfold enterK at e; injection e with e _; rw [← e]) (fun v e => by cases e) v f' h h0
        · split at h
          · cases h
          · rename_i v1 a g r h1
            have l1 := plainL_len h1
            obtain ⟨p1, p2, p3⟩ := plain_good vb h1
            exact ih (n - 1) (by omega) (.behind v1) _ _ _ (by simp only [Md.rank]; omega) p3 hK (fun e => by cases e) (fun v e => by injection e with e; rw [← e]; exact ⟨p1, by have := goodK_len hK; omega⟩) v f' h h0
    | name =>
      rw [runJ_name] at h
      simp only [Md.rank] at hn
      split at h
      · rename_i h1
        have l1 := tkB_some h1
        have v1 := (low_drop (by decide) h1).valid vb
        split at h
        · cases h
        · rename_i l a r h2
          have l2 := letsL_len _ h2
          rw [List.length_drop] at l2
          have hb2 := blk_len r
          obtain ⟨w1, w2⟩ := letsL_valid _ _ (Nat.le_refl _) v1 h2
          split at h
          · rename_i h3
            have l4 := tkB_some h3
            have hf := runJ_flags _ _ _ _ _ (Nat.le_refl _) _ _ h h0
            exact ih (n - 1) (by omega) .value _ _ _ (by simp only [Md.rank, List.length_drop]; omega) (((low_blk r).trans (low_drop (by decide) h3)).valid w2) (goodK_name hK (ho rfl) w1 _ hf) (fun e => by cases e) (fun v e => by cases e) v f' h h0
          · cases h
      · cases h
    | leave =>
      cases K with
      | nil => rw [runJ] at h; cases h
      | cons t r =>
        rw [runJ_leave] at h
        simp only [Md.rank] at hn
        have hg := val_good hK
        rw [deep_no (goodK_len hK)] at h
        exact ih (n - 1) (by omega) (.behind _) _ _ _ (by simp only [Md.rank]; omega) hs hK.2.2.2.2.2.2 (fun e => by cases e) (fun v e => by injection e with e; rw [← e]; exact hg) v f' h h0
    | behind v1 =>
      simp only [Md.rank] at hn
      obtain ⟨g1, g2⟩ := hv v1 rfl
      cases K with
      | nil =>
        rw [runJ_behind0] at h
        split at h
        · injection h with h; injection h with h _; rw [← h]; exact ⟨g1, by simpa using g2⟩
        · cases h
      | cons t r =>
        rw [runJ_behind] at h
        have hp := goodK_put hK g1 g2
        obtain ⟨t', r', e1, e2⟩ := putK_obj (v := v1) (t := t) (r := r)
        split at h
        · rename_i h1
          have l1 := tkB_some h1
          have v2 := (low_drop (by decide) h1).valid vb
          cases hob : t.obj with
          | true =>
            rw [hob, if_pos rfl] at h
            exact ih (n - 1) (by omega) .name _ _ _ (by simp only [Md.rank, List.length_drop]; omega) v2 hp (fun _ t2 r2 e => by rw [e1] at e; injection e with e _; rw [← e, e2, hob]) (fun v e => by cases e) v f' h h0
          | false =>
            rw [hob, if_neg (by simp)] at h
            rw [e1] at hp h
            exact ih (n - 1) (by omega) .value _ _ _ (by simp only [Md.rank, List.length_drop]; omega) v2 (goodK_list hp (by rw [e2, hob])) (fun e => by cases e) (fun v e => by cases e) v f' h h0
        · by_cases h1 : tkB [if t.obj = true then 125 else 93] (blk s) = true
          · rw [if_pos h1] at h
            have l1 := tkB_some h1
            exact ih (n - 1) (by omega) .leave _ _ _ (by simp only [Md.rank, List.length_drop]; omega) ((low_drop (fun b hb => by rw [List.mem_singleton.1 hb]; split <;> decide) h1).valid vb) hp (fun e => by cases e) (fun v e => by cases e) v f' h h0
          · rw [if_neg h1] at h; cases h
/-- A text that is read tells a value that may be. -/
theorem parse_check {l : List UInt8} {v : JV} (h : parseJ (Lib.validD l) l = (v, 0)) : checkJ v = 0 := by
  unfold parseJ at h
  split at h
  · injection h with _ h; cases h
  · split at h
    · injection h with _ h; cases h
    · rename_i hv
      unfold readR at h
      split at h
      · injection h with _ h; cases h
      · rename_i v1 f1 h1
        split at h
        · rename_i hj; injection h with _ h; exact absurd h hj
        · rename_i hj
          split at h
          · injection h with _ h; cases h
          · rename_i hl
            injection h with h _
            subst h
            obtain ⟨p1, p2⟩ := runJ_good _ .value [] fl0 l (Nat.le_refl _) (by simpa using hv) (by trivial) (fun e => by cases e) (fun v e => by cases e) _ _ h1 (judge0 (by simpa using hj))
            unfold checkJ
            rw [if_neg (by rw [p1]; simp), if_neg (by omega), if_neg hl]
end Go.Proofs.YtfdodndagakmmaaGreatDoor
/- Layer 8's laws: pure: what a value that is read, or handed in, is bounded by. -/
namespace Go.Proofs.YtfdodndagakmmaaGreatDoor
open Go.RowKit
theorem depthKids_w : ∀ (l : List JV), (∀ x ∈ l, 2 * depthJ x ≤ wJ x) → 2 * depthKids l ≤ wKids l
  | [], _ => by rw [depthKids, wKids]; omega
  | x :: l, h => by
    rw [depthKids, wKids]
    have h1 := h x List.mem_cons_self
    have h2 := depthKids_w l (fun y hy => h y (List.mem_cons_of_mem _ hy))
    omega
theorem depth_w : ∀ (n : Nat) (v : JV), SizeOf.sizeOf v ≤ n → 2 * depthJ v ≤ wJ v := by
  intro n
  induction n with
  | zero => intro v hv; cases v; simp at hv
  | succ n ih =>
    intro v hv
    obtain ⟨k, b, d, t, l, ns⟩ := v
    have h := depthKids_w l (fun x hx => ih x (by
      have := List.sizeOf_lt_of_mem hx
      simp only [JV.mk.sizeOf_spec] at hv
      omega))
    rw [depthJ, wJ]
    split <;> omega
theorem wNames_mem {ns : List (List UInt8)} {x : List UInt8} (h : x ∈ ns) : x.length ≤ wNames ns := by
  induction ns with
  | nil => cases h
  | cons y l ih =>
    rw [wNames]
    rcases List.mem_cons.1 h with rfl | h
    · omega
    · have := ih h; omega
theorem wKids_memb {l : List JV} {x : JV} (h : x ∈ l) : wJ x ≤ wKids l := by
  induction l with
  | nil => cases h
  | cons y l ih =>
    rw [wKids]
    rcases List.mem_cons.1 h with rfl | h
    · omega
    · have := ih h; omega
theorem fineKids_of : ∀ {l : List JV}, (∀ x ∈ l, FineJ x) → FineKids l
  | [], _ => by unfold FineKids; trivial
  | y :: l, h => by unfold FineKids; exact ⟨h y List.mem_cons_self, fineKids_of fun x hx => h x (List.mem_cons_of_mem _ hx)⟩
theorem ask_fine : ∀ (n : Nat) (v : JV), SizeOf.sizeOf v ≤ n → wJ v ≤ 1000000000000 → askJ v = true → FineJ v := by
  intro n
  induction n with
  | zero => intro v hv; cases v; simp at hv
  | succ n ih =>
    intro v hv hw h
    obtain ⟨k, b, d, t, l, ns⟩ := v
    obtain ⟨_, f2, f3, _, _⟩ := ask_facts h
    rw [wJ] at hw
    have hk : FineKids l := fineKids_of fun x hx => ih x (by
      have := List.sizeOf_lt_of_mem hx
      simp only [JV.mk.sizeOf_spec] at hv
      omega) (by have := wKids_memb hx; omega) (f3 x hx)
    have hn : ∀ x ∈ ns, x.length ≤ 4611686018427387904 := fun x hx => by have := wNames_mem hx; omega
    have hz : Dec.zero.digits.length ≤ 1000000 := by decide
    unfold FineJ
    rcases ask_cases h with ⟨rfl, h1, h2, _⟩ | ⟨rfl, h2, _⟩ | ⟨rfl, h1, h2, _⟩ | ⟨rfl, h1, h2, _⟩ | ⟨rfl, h1, h2, _⟩ | ⟨rfl, h1, h2, _⟩
    · exact ⟨by omega, by rw [h2]; exact hz, by omega, f2, hn, hk⟩
    · exact ⟨by omega, by rw [h2]; exact hz, by omega, f2, hn, hk⟩
    · refine ⟨by omega, ?_, by omega, f2, hn, hk⟩
      have := ((mayB_iff d).1 h2).len
      omega
    · exact ⟨by omega, by rw [h2]; exact hz, by omega, f2, hn, hk⟩
    · exact ⟨by omega, by rw [h2]; exact hz, by omega, f2, hn, hk⟩
    · exact ⟨by omega, by rw [h2]; exact hz, by omega, f2, hn, hk⟩
theorem small_of_cop : ∀ (n : Nat) (v : JV), SizeOf.sizeOf v ≤ n → CopJ v → SmallJ v := by
  intro n
  induction n with
  | zero => intro v hv; cases v; simp at hv
  | succ n ih =>
    intro v hv h
    obtain ⟨k, b, d, t, l, ns⟩ := v
    unfold CopJ at h
    unfold SmallJ
    obtain ⟨h1, h2, h3, h4, h5, h6⟩ := h
    unfold maxLen
    exact ⟨by omega, by omega, by omega, fun x hx => by have := h5 x hx; omega, smallKids_of fun x hx => ih x (by
      have := List.sizeOf_lt_of_mem hx
      simp only [JV.mk.sizeOf_spec] at hv
      omega) (h6.get x hx)⟩
/-- What is read. -/
theorem parse_facts {l : List UInt8} {v : JV} (h : parseJ (Lib.validD l) l = (v, 0)) : checkJ v = 0 ∧ SmallJ v ∧ FineJ v ∧ depthJ v ≤ 1000000 := by
  have hc := parse_check h
  obtain ⟨a1, a2, a3⟩ := check_parts hc
  have hf : FineJ v := by
    unfold parseJ at h
    split at h
    · injection h with _ h; cases h
    · rename_i hl
      split at h
      · injection h with _ h; cases h
      · unfold readR at h
        split at h
        · injection h with _ h; cases h
        · rename_i v1 f1 h1
          split at h
          · rename_i hj; injection h with _ h; exact absurd h hj
          · split at h
            · injection h with _ h; cases h
            · injection h with h _
              subst h
              exact runJ_fine _ .value [] fl0 l (Nat.le_refl _) (by omega) (by trivial) (fun v e => by cases e) _ _ h1
  exact ⟨hc, small_of_cop _ v (Nat.le_refl _) (cop_of_ask _ v (Nat.le_refl _) hf a1 a3), hf, by omega⟩
end Go.Proofs.YtfdodndagakmmaaGreatDoor
