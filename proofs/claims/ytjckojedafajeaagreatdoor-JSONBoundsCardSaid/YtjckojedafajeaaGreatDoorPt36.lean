/- Layer 8: pure: what is read can be told. -/
import Derived.Test.YtjckojedafajeaaGreatDoorPt33
import Derived.Test.YtjckojedafajeaaGreatDoorPt35
namespace Go.Proofs.YtjckojedafajeaaGreatDoor
open Go.RowKit

theorem FineKids.snoc : ∀ (l : List JV) (v : JV), FineKids l → FineJ v → FineKids (l ++ [v])
  | [], v, _, hv => by unfold FineKids; exact ⟨hv, by unfold FineKids; trivial⟩
  | x :: l, v, h, hv => by
    unfold FineKids at h
    show FineKids (x :: (l ++ [v]))
    unfold FineKids
    exact ⟨h.1, FineKids.snoc l v h.2 hv⟩
/-- What is open holds values that can be told; b: a value is under way in the innermost one. -/
def okK : Bool → List Fr → Prop
  | _, [] => True
  | b, t :: r => FineKids t.list ∧ (∀ n ∈ t.names, n.length ≤ 4611686018427387904) ∧ (t.obj = true → t.names.length = t.list.length + if b && !isDeepK (t :: r) then 1 else 0) ∧ okK true r
theorem dec_fine (l : List UInt8) : (parseD l).digits.length ≤ 1000000 := by
  have h := parseD_may l
  rw [← mayB_iff] at h
  unfold mayB at h
  split at h
  · rename_i h0; rw [h0]; simp
  · simp only [Bool.and_eq_true, decide_eq_true_eq] at h
    have := h.1.1.1.1.1
    omega
theorem plain_fine {s : List UInt8} (hs : s.length ≤ 1048576) {v : JV} {a g : Bool} {r : List UInt8} (h : plainL s = some (v, a, g, r)) : FineJ v := by
  have fk : FineKids [] := by unfold FineKids; trivial
  have z0 : Dec.zero.digits.length ≤ 1000000 := by decide
  unfold plainL at h
  split at h
  · split at h
    · cases h
    · rename_i l a1 r1 h1
      have := letsL_long _ h1
      rw [List.length_drop] at this
      injection h with h; injection h with h _; subst h
      unfold FineJ
      exact ⟨.inr (.inr (.inr (.inl rfl))), z0, by omega, fun e => (by omega), fun n hn => (by cases hn), fk⟩
  · split at h
    · injection h with h; injection h with h _; subst h
      unfold JV.null FineJ
      exact ⟨.inl rfl, z0, by simp, fun e => (by omega), fun n hn => (by cases hn), fk⟩
    · split at h
      · injection h with h; injection h with h _; subst h
        unfold FineJ
        exact ⟨.inr (.inl rfl), z0, by simp, fun e => (by omega), fun n hn => (by cases hn), fk⟩
      · split at h
        · injection h with h; injection h with h _; subst h
          unfold FineJ
          exact ⟨.inr (.inl rfl), z0, by simp, fun e => (by omega), fun n hn => (by cases hn), fk⟩
        · split at h
          · cases h
          · injection h with h; injection h with h _; subst h
            unfold FineJ
            exact ⟨.inr (.inr (.inl rfl)), dec_fine _, by simp, fun e => (by omega), fun n hn => (by cases hn), fk⟩
theorem okK_mono {K : List Fr} (h : okK true K) (hd : isDeepK K = true) : okK false K := by
  cases K with
  | nil => trivial
  | cons t r =>
    obtain ⟨a1, a2, a3, a4⟩ := h
    refine ⟨a1, a2, fun e => ?_, a4⟩
    have := a3 e
    rw [hd] at this
    simpa using this
theorem okK_put {v : JV} {K : List Fr} (h : okK true K) (hv : FineJ v) : okK false (putK v K) := by
  cases K with
  | nil => trivial
  | cons t r =>
    by_cases hd : isDeepK (t :: r) = true
    · have : putK v (t :: r) = t :: r := if_pos hd
      rw [this]
      exact okK_mono h hd
    · have : putK v (t :: r) = { t with list := t.list ++ [v] } :: r := if_neg hd
      rw [this]
      obtain ⟨a1, a2, a3, a4⟩ := h
      refine ⟨FineKids.snoc _ _ a1 hv, a2, fun e => ?_, a4⟩
      have := a3 e
      rw [Bool.not_eq_true] at hd
      rw [hd] at this
      simpa using this
theorem okK_name {l : List UInt8} {K : List Fr} (h : okK false K) (hl : l.length ≤ 4611686018427387904) : okK true (nameK l K) := by
  cases K with
  | nil => trivial
  | cons t r =>
    obtain ⟨a1, a2, a3, a4⟩ := h
    by_cases hd : isDeepK (t :: r) = true
    · have : nameK l (t :: r) = t :: r := if_pos hd
      rw [this]
      refine ⟨a1, a2, fun e => ?_, a4⟩
      rw [hd]
      simpa using a3 e
    · have e1 : nameK l (t :: r) = { t with names := t.names ++ [l] } :: r := if_neg hd
      rw [e1]
      refine ⟨a1, fun n hn => ?_, fun e => ?_, a4⟩
      · rcases List.mem_append.1 hn with hn | hn
        · exact a2 n hn
        · rw [List.mem_singleton.1 hn]; exact hl
      · have h5 := a3 e
        have h6 : isDeepK ({ t with names := t.names ++ [l] } :: r) = false := by rw [Bool.not_eq_true] at hd; exact hd
        rw [h6]
        simpa using h5
/-- What a list that is open is worth to those around it: a value is under way in each. -/
theorem okK_enter {obj : Bool} {K : List Fr} (h : okK true K) : okK false (enterK obj K) :=
  ⟨by unfold FineKids; trivial, fun n hn => (by cases hn), fun _ => by simp, h⟩
theorem okK_list {t : Fr} {r : List Fr} (h : okK false (t :: r)) (ho : t.obj = false) : okK true (t :: r) :=
  ⟨h.1, h.2.1, fun e => (by rw [ho] at e; cases e), h.2.2.2⟩
theorem okK_obj {t : Fr} {r : List Fr} (h : okK true (t :: r)) (ho : t.obj = false) : okK false (t :: r) :=
  ⟨h.1, h.2.1, fun e => (by rw [ho] at e; cases e), h.2.2.2⟩
theorem fr_fine {t : Fr} {r : List Fr} (h : okK false (t :: r)) : FineJ (if isDeepK (t :: r) then JV.null else t.val) := by
  have z0 : Dec.zero.digits.length ≤ 1000000 := by decide
  split
  · unfold JV.null FineJ
    exact ⟨.inl rfl, z0, by simp, fun e => (by omega), fun n hn => (by cases hn), by unfold FineKids; trivial⟩
  · obtain ⟨a1, a2, a3, a4⟩ := h
    unfold Fr.val FineJ
    refine ⟨?_, z0, by simp, fun e => ?_, a2, a1⟩
    · cases t.obj <;> simp
    · have : t.obj = true := by
        cases h : t.obj with
        | true => rfl
        | false => rw [h] at e; simp at e
      simpa using a3 this
theorem putK_obj {v : JV} {t : Fr} {r : List Fr} : ∃ t' r', putK v (t :: r) = t' :: r' ∧ t'.obj = t.obj := by
  simp only [putK]
  split
  · exact ⟨t, r, rfl, rfl⟩
  · exact ⟨_, r, rfl, rfl⟩
/-- What is read can be told. -/
theorem runJ_fine : ∀ (n : Nat) (m : Md) (K : List Fr) (f : Fl) (s : List UInt8), 2 * s.length + m.rank ≤ n → s.length ≤ 1048576 → okK (match m with | .value => true | .behind _ => true | _ => false) K → (∀ v, m = .behind v → FineJ v) → ∀ v f', runJ m K f s = some (v, f') → FineJ v := by
  intro n
  induction n using Nat.strongRecOn with
  | _ n ih =>
    intro m K f s hn hs hK hv v f' h
    have hb := blk_len s
    cases m with
    | value =>
      rw [runJ_value] at h
      simp only [Md.rank] at hn
      split at h
      · rename_i h1
        have l1 := tkB_some h1
        have hb2 := blk_len ((blk s).drop 1)
        rw [List.length_drop] at hb2
        split at h
        · rename_i h2
          have l2 := tkB_some h2
          exact ih (n - 1) (by omega) .leave _ _ _ (by simp only [Md.rank, List.length_drop]; omega) (by rw [List.length_drop]; omega) (okK_enter hK) (fun v e => by cases e) v f' h
        · exact ih (n - 1) (by omega) .value _ _ _ (by simp only [Md.rank]; omega) (by omega) (okK_list (okK_enter hK) rfl) (fun v e => by cases e) v f' h
      · split at h
        · rename_i h1
          have l1 := tkB_some h1
          have hb2 := blk_len ((blk s).drop 1)
          rw [List.length_drop] at hb2
          split at h
          · rename_i h2
            have l2 := tkB_some h2
            exact ih (n - 1) (by omega) .leave _ _ _ (by simp only [Md.rank, List.length_drop]; omega) (by rw [List.length_drop]; omega) (okK_enter hK) (fun v e => by cases e) v f' h
          · exact ih (n - 1) (by omega) .name _ _ _ (by simp only [Md.rank]; omega) (by omega) (okK_enter hK) (fun v e => by cases e) v f' h
        · split at h
          · cases h
          · rename_i v1 a g r h1
            have l1 := plainL_len h1
            exact ih (n - 1) (by omega) (.behind v1) _ _ _ (by simp only [Md.rank]; omega) (by omega) hK (fun v e => by injection e with e; rw [← e]; exact plain_fine (by omega) h1) v f' h
    | name =>
      rw [runJ_name] at h
      simp only [Md.rank] at hn
      split at h
      · rename_i h1
        have l1 := tkB_some h1
        split at h
        · cases h
        · rename_i l a r h2
          have l2 := letsL_len _ h2
          have l3 := letsL_long _ h2
          rw [List.length_drop] at l2 l3
          have hb2 := blk_len r
          split at h
          · rename_i h3
            have l4 := tkB_some h3
            exact ih (n - 1) (by omega) .value _ _ _ (by simp only [Md.rank, List.length_drop]; omega) (by rw [List.length_drop]; omega) (okK_name hK (by omega)) (fun v e => by cases e) v f' h
          · cases h
      · cases h
    | leave =>
      cases K with
      | nil => rw [runJ] at h; cases h
      | cons t r =>
        rw [runJ_leave] at h
        simp only [Md.rank] at hn
        exact ih (n - 1) (by omega) (.behind _) _ _ _ (by simp only [Md.rank]; omega) hs hK.2.2.2 (fun v e => by injection e with e; rw [← e]; exact fr_fine hK) v f' h
    | behind v1 =>
      simp only [Md.rank] at hn
      cases K with
      | nil =>
        rw [runJ_behind0] at h
        split at h
        · injection h with h; injection h with h _; rw [← h]; exact hv v1 rfl
        · cases h
      | cons t r =>
        rw [runJ_behind] at h
        have hp := okK_put (v := v1) hK (hv v1 rfl)
        split at h
        · rename_i h1
          have l1 := tkB_some h1
          cases ho : t.obj with
          | true =>
            rw [ho, if_pos rfl] at h
            exact ih (n - 1) (by omega) .name _ _ _ (by simp only [Md.rank, List.length_drop]; omega) (by rw [List.length_drop]; omega) hp (fun v e => by cases e) v f' h
          | false =>
            rw [ho, if_neg (by simp)] at h
            obtain ⟨t', r', e1, e2⟩ := putK_obj (v := v1) (t := t) (r := r)
            rw [e1] at hp h
            exact ih (n - 1) (by omega) .value _ _ _ (by simp only [Md.rank, List.length_drop]; omega) (by rw [List.length_drop]; omega) (okK_list hp (by rw [e2, ho])) (fun v e => by cases e) v f' h
        · by_cases h1 : tkB [if t.obj = true then 125 else 93] (blk s) = true
          · rw [if_pos h1] at h
            have l1 := tkB_some h1
            exact ih (n - 1) (by omega) .leave _ _ _ (by simp only [Md.rank, List.length_drop]; omega) (by rw [List.length_drop]; omega) hp (fun v e => by cases e) v f' h
          · rw [if_neg h1] at h; cases h
end Go.Proofs.YtjckojedafajeaaGreatDoor
/- Layer 8: whole: a value, read from its beginning. -/
namespace Go.Proofs.YtjckojedafajeaaGreatDoor
open Go.RowKit

set_option maxRecDepth 1000000 in
set_option maxHeartbeats 40000000 in
theorem wh_value (w : World) (p : Nat) (X : Txt) (s0 : List UInt8) (E0 O0 : Value) (f0 : Fl) (h0 : JAt w p X s0 E0 O0 f0) (hX : X.l.length ≤ 1048576) (hT : ∀ V, Kept (TxF w p) w V → PowTab V) (R : Option (JV × Fl)) (m : Nat) (h : Nat → Value) (own : Nat → Nat) (K : List Fr) (E O : Value) (f : Fl) (s : List UInt8) (W : World)
    (hs : WhS w p X own K E O f s W) (hR : R = runJ .value K f s) (hw : wtK K + s.length ≤ X.l.length) (hm : 2 * s.length < m + 1) :
    Code.wp Tryz.prog (tailOf (restW 1)) (jumps (JWM w p X R m) (QW w p X R)) ⟨(whF w p h).toArray, []⟩ W := by
  have hp := h0.lt
  have hbW : w.heap.size ≤ W.heap.size := Nat.le_of_lt hs.lt
  have hsl := blk_len s
  have HS1 := Lib.hid (jsign_ok p X [91] s E O f W hs.jat)
  rw [runJ_value] at hR
  have HRR : Hid (R = if tkB [91] (blk s) = true then
      if tkB [93] (blk ((blk s).drop 1)) = true then runJ .leave (enterK false K) (enterF (enterK false K) f) ((blk ((blk s).drop 1)).drop 1)
      else runJ .value (enterK false K) (enterF (enterK false K) f) (blk ((blk s).drop 1))
    else if tkB [123] (blk s) = true then
      if tkB [125] (blk ((blk s).drop 1)) = true then runJ .leave (enterK true K) (enterF (enterK true K) f) ((blk ((blk s).drop 1)).drop 1)
      else runJ .name (enterK true K) (enterF (enterK true K) f) (blk ((blk s).drop 1))
    else match plainL (blk s) with
      | none => none
      | some (v, a, g, r) => runJ (.behind v) K { f with alone := f.alone || a, far := f.far || g } r) := Lib.hid hR
  have HSS : Hid (sgB [91] s = tkB [91] (blk s) ∧ sgS [91] s = tkS [91] (blk s)) := Lib.hid ⟨rfl, rfl⟩
  have HBB : Hid (blk (blk s) = blk s) := Lib.hid (blk_blk s)
  rw [HSS.out.1, HSS.out.2] at HS1
  have HS := Lib.hid hs
  have H0 := Lib.hid h0
  have HT := Lib.hid hT
  have HW := Lib.hid hw
  have HM := Lib.hid hm
  have HSL := Lib.hid hsl
  have HBW := Lib.hid hbW
  have HKL : Hid (K.length ≤ 1048576) := Lib.hid (by have := wtK_len K; omega)
  clear hs h0 hT hR hw hm hsl hbW HSS
  generalize blk s = t at *
  conv => arg 2; whnf
  dsimp only [whF]
  cases hb : tkB [91] t with
  | true =>
    have hlt := tkB_some hb
    rw [hb] at HS1 HRR
    rw [tkS_yes hb] at HS1
    rw [if_pos rfl] at HRR
    have HLT := Lib.hid hlt
    clear hb hlt
    go_wp2_with fail
    refine HS1.out.mono ?_
    rintro e w1 ⟨rfl, hj1, hk1⟩
    have hs1 := HS.out.to hp hj1 hk1
    have he := jenter_ok p X (t.drop 1) s0 E O E0 O0 f f0 w w1 own K false H0.out hj1 hs1.stk (Nat.le_of_lt hs1.lt) HKL.out
    simp only [Bool.false_eq_true, if_false] at he
    have HE := Lib.hid he
    have HS2 := Lib.hid hs1
    clear hj1 hk1 hs1 he HS1
    go_wp2_with fail
    refine HE.out.mono ?_
    rintro e w2 ⟨rfl, own2, E2, O2, hst2, hj2, hsti2⟩
    have hs2 := HS2.out.stkTo hp hst2 hj2 hsti2.kept ((hsti2.own _ HS2.out.lt).trans HS2.out.rv3)
    have HG := Lib.hid (jsign_ok p X [93] (t.drop 1) E2 O2 _ w2 hj2)
    have HG2 : Hid (sgB [93] (t.drop 1) = tkB [93] (blk (t.drop 1)) ∧ sgS [93] (t.drop 1) = tkS [93] (blk (t.drop 1))) := Lib.hid ⟨rfl, rfl⟩
    rw [HG2.out.1, HG2.out.2] at HG
    have HS3 := Lib.hid hs2
    have HL2 := Lib.hid (blk_len (t.drop 1))
    clear hst2 hj2 hsti2 hs2 HE HS2 HG2
    generalize blk (t.drop 1) = t2 at *
    cases hb2 : tkB [93] t2 with
    | true =>
      have hlt2 := tkB_some hb2
      rw [hb2] at HG HRR
      rw [tkS_yes hb2] at HG
      rw [if_pos rfl] at HRR
      have HLT2 := Lib.hid hlt2
      clear hb2 hlt2
      go_wp2_with fail
      refine HG.out.mono ?_
      rintro e w3 ⟨rfl, hj3, hk3⟩
      have HS4 := Lib.hid (HS3.out.to hp hj3 hk3)
      clear hj3 hk3 HG
      go_wp2_with fail
      go_step3
      simp only [Exit.then, Exit.inBlock, jumps]
      refine JWM.of (s := t2.drop 1) ?_ HS4.out ?_ ?_
      · kernel_rfl
      · refine ⟨HRR.out, by unfold enterK; simp, ?_⟩
        have a1 := HW.out; have a2 := HSL.out; have a3 := HL2.out; have a4 := HLT.out; have a5 := HLT2.out
        unfold enterK wtK
        simp only [List.length_drop, List.length_nil] at *
        omega
      · have a1 := HM.out; have a2 := HSL.out; have a3 := HL2.out; have a4 := HLT.out; have a5 := HLT2.out
        simp only [List.length_drop, if_true] at *
        omega
    | false =>
      rw [hb2] at HG HRR
      rw [tkS_no hb2] at HG
      rw [if_neg (by simp)] at HRR
      clear hb2
      go_wp2_with fail
      refine HG.out.mono ?_
      rintro e w3 ⟨rfl, hj3, hk3⟩
      have HS4 := Lib.hid (HS3.out.to hp hj3 hk3)
      clear hj3 hk3 HG
      go_wp2_with fail
      go_step3
      simp only [Exit.then, Exit.inBlock, jumps]
      refine JWM.of (s := t2) ?_ HS4.out ?_ ?_
      · kernel_rfl
      · refine ⟨HRR.out, ?_⟩
        have a1 := HW.out; have a2 := HSL.out; have a3 := HL2.out; have a4 := HLT.out
        unfold enterK wtK
        simp only [List.length_drop, List.length_nil] at *
        omega
      · have a1 := HM.out; have a2 := HSL.out; have a3 := HL2.out; have a4 := HLT.out
        simp only [List.length_drop] at *
        rw [if_neg (by omega)]
        omega
  | false =>
    rw [hb] at HS1 HRR
    rw [tkS_no hb, if_neg (by simp)] at *
    clear hb
    go_wp2_with fail
    refine HS1.out.mono ?_
    rintro e w1 ⟨rfl, hj1, hk1⟩
    have hs1 := HS.out.to hp hj1 hk1
    have HQ1 := Lib.hid (jsign_ok p X [123] t E O f w1 hj1)
    have HQ2 : Hid (sgB [123] t = tkB [123] (blk t) ∧ sgS [123] t = tkS [123] (blk t)) := Lib.hid ⟨rfl, rfl⟩
    rw [HQ2.out.1, HQ2.out.2, HBB.out] at HQ1
    have HS0 := Lib.hid hs1
    clear hj1 hk1 hs1 HS1 HS HQ2
    have HS := HS0
    clear HS0
    cases hb : tkB [123] t with
    | true =>
      have hlt := tkB_some hb
      rw [hb] at HQ1 HRR
      rw [tkS_yes hb] at HQ1
      rw [if_pos rfl] at HRR
      have HLT := Lib.hid hlt
      clear hb hlt
      go_wp2_with fail
      refine HQ1.out.mono ?_
      rintro e w1 ⟨rfl, hj1, hk1⟩
      have hs1 := HS.out.to hp hj1 hk1
      have he := jenter_ok p X (t.drop 1) s0 E O E0 O0 f f0 w w1 own K true H0.out hj1 hs1.stk (Nat.le_of_lt hs1.lt) HKL.out
      simp only [if_true] at he
      have HE := Lib.hid he
      have HS2 := Lib.hid hs1
      clear hj1 hk1 hs1 he HQ1
      go_wp2_with fail
      refine HE.out.mono ?_
      rintro e w2 ⟨rfl, own2, E2, O2, hst2, hj2, hsti2⟩
      have hs2 := HS2.out.stkTo hp hst2 hj2 hsti2.kept ((hsti2.own _ HS2.out.lt).trans HS2.out.rv3)
      have HG := Lib.hid (jsign_ok p X [125] (t.drop 1) E2 O2 _ w2 hj2)
      have HG2 : Hid (sgB [125] (t.drop 1) = tkB [125] (blk (t.drop 1)) ∧ sgS [125] (t.drop 1) = tkS [125] (blk (t.drop 1))) := Lib.hid ⟨rfl, rfl⟩
      rw [HG2.out.1, HG2.out.2] at HG
      have HS3 := Lib.hid hs2
      have HL2 := Lib.hid (blk_len (t.drop 1))
      clear hst2 hj2 hsti2 hs2 HE HS2 HG2
      generalize blk (t.drop 1) = t2 at *
      cases hb2 : tkB [125] t2 with
      | true =>
        have hlt2 := tkB_some hb2
        rw [hb2] at HG HRR
        rw [tkS_yes hb2] at HG
        rw [if_pos rfl] at HRR
        have HLT2 := Lib.hid hlt2
        clear hb2 hlt2
        go_wp2_with fail
        refine HG.out.mono ?_
        rintro e w3 ⟨rfl, hj3, hk3⟩
        have HS4 := Lib.hid (HS3.out.to hp hj3 hk3)
        clear hj3 hk3 HG
        go_wp2_with fail
        go_step3
        simp only [Exit.then, Exit.inBlock, jumps]
        refine JWM.of (s := t2.drop 1) ?_ HS4.out ?_ ?_
        · kernel_rfl
        · refine ⟨HRR.out, by unfold enterK; simp, ?_⟩
          have a1 := HW.out; have a2 := HSL.out; have a3 := HL2.out; have a4 := HLT.out; have a5 := HLT2.out
          unfold enterK wtK
          simp only [List.length_drop, List.length_nil] at *
          omega
        · have a1 := HM.out; have a2 := HSL.out; have a3 := HL2.out; have a4 := HLT.out; have a5 := HLT2.out
          simp only [List.length_drop, if_true] at *
          omega
      | false =>
        rw [hb2] at HG HRR
        rw [tkS_no hb2] at HG
        rw [if_neg (by simp)] at HRR
        clear hb2
        go_wp2_with fail
        refine HG.out.mono ?_
        rintro e w3 ⟨rfl, hj3, hk3⟩
        have HS4 := Lib.hid (HS3.out.to hp hj3 hk3)
        clear hj3 hk3 HG
        go_wp2_with fail
        go_step3
        simp only [Exit.then, Exit.inBlock, jumps]
        refine JWM.of (s := t2) ?_ HS4.out ?_ ?_
        · kernel_rfl
        · refine ⟨HRR.out, by unfold enterK; simp, ?_⟩
          have a1 := HW.out; have a2 := HSL.out; have a3 := HL2.out; have a4 := HLT.out
          unfold enterK wtK
          simp only [List.length_drop, List.length_nil] at *
          omega
        · have a1 := HM.out; have a2 := HSL.out; have a3 := HL2.out; have a4 := HLT.out
          simp only [List.length_drop] at *
          rw [if_neg (by omega)]
          omega
    | false =>
      rw [hb] at HQ1 HRR
      rw [tkS_no hb] at HQ1
      rw [if_neg (by simp)] at HRR
      clear hb
      go_wp2_with fail
      refine HQ1.out.mono ?_
      rintro e w1 ⟨rfl, hj1, hk1⟩
      have hs1 := HS.out.to hp hj1 hk1
      have HPL := Lib.hid (jplain_ok p X t E O f w1 hj1 hX (fun V hV => HT.out V (hs1.kept.trans' (kept_mono hV fun q e => by
        rcases e with e | e
        · exact .inl e
        · exact .inr (Nat.le_trans (Nat.le_of_lt hs1.lt) e)))))
      have HS2 := Lib.hid hs1
      clear hj1 hk1 hs1 HS HQ1
      cases hpl : plainL t with
      | none =>
        rw [hpl] at HPL HRR
        obtain rfl : R = none := HRR.out
        clear hpl HRR
        go_wp2_with fail
        refine HPL.out.mono ?_
        rintro e w2 ⟨rfl, hk2⟩
        have HB2 := Lib.hid (HS2.out.bad (kept_mono hk2 fun q e => .inl e))
        clear hk2
        go_wp2_with fail
        exact ⟨rfl, rfl, HB2.out⟩
      | some y =>
        obtain ⟨v, a, g, r⟩ := y
        obtain ⟨vk, vb, vd, vt, rfl⟩ := plainL_form hpl
        have HLP := Lib.hid (plainL_len hpl)
        rw [hpl] at HPL HRR
        clear hpl
        have HRR2 : Hid (R = runJ (.behind (.mk vk vb vd vt [] [])) K { f with alone := f.alone || a, far := f.far || g } r) := Lib.hid HRR.out
        clear HRR
        have HP2 : Hid (∀ e w', PPost w1 p X E O f (some (.mk vk vb vd vt [] [], a, g, r)) e w' → e = .returned (.agg (jvC vk vb vd vt (.slice none 0 0) (.slice none 0 0))) ∧ JAt w' p X r E O { f with alone := f.alone || a, far := f.far || g } ∧ Kept (· = p) w1 w') := Lib.hid fun e w' h => h
        obtain ⟨cs, hcs⟩ : ∃ cs, cs = jvC vk vb vd vt (.slice none 0 0) (.slice none 0 0) := ⟨_, rfl⟩
        rw [← hcs] at HP2
        have h8 : cs.size = 8 := by rw [hcs]; rfl
        have HCS : Hid (∀ (W : World) (F : Nat → Prop), JIs W F (.mk vk vb vd vt [] []) cs.toList) := Lib.hid fun W F => by rw [hcs]; exact plain_jis W F vk vb vd vt
        have HONE : Hid (cs.all (·.oneCell') = true) := Lib.hid (by have := all_oneCell_toArray (jv_one (HCS.out w1 (fun _ => False))); simpa using this)
        have HIN : Hid ((Tryz.prog.info? 30).map (·.size) = some cs.size) := Lib.hid (by rw [h8]; exact infoJ)
        have H8 := Lib.hid h8
        clear hcs h8
        go_wp2_with fail
        refine HPL.out.mono ?_
        intro e w2 hpp
        obtain ⟨rfl, hj2, hk2⟩ := HP2.out e w2 hpp
        have hs3 := HS2.out.to hp hj2 hk2
        have hth := hs3.there
        rw [← H8.out] at hth
        have HTH := Lib.hid hth
        have HL3 := Lib.hid (hs3.laid H0.out H8.out)
        clear hpp hj2 hk2 hs3 hth HPL HP2 HS2
        go_wp2_with (
          refine wpList_store_mid ?_ 30 (.tmp 2) (.tmp 18) ?_ w.heap.size 0 cs ?_ ?_ HTH.out HIN.out HONE.out ?_
          · with_reducible rfl
          · with_reducible rfl
          · rfl
          · rfl)
        simp only [Act.put]
        go_step3
        simp only [Exit.then, jumps]
        refine JWM.of (s := r) ?_ HL3.out.1 ?_ ?_
        · kernel_rfl
        · refine ⟨_, cs, HL3.out.2.1, HCS.out _ _, HRR2.out, ?_⟩
          have a1 := HW.out; have a2 := HSL.out; have a3 := HLP.out
          omega
        · have a1 := HM.out; have a2 := HSL.out; have a3 := HLP.out
          rw [if_neg (by omega)]
          omega
end Go.Proofs.YtjckojedafajeaaGreatDoor
