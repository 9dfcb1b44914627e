/- Layer 8: pure: what works() reads and tells. -/
import Derived.Test.YtfdodndagakmmaaGreatDoorPt45
import Derived.Test.YtfdodndagakmmaaGreatDoorPt33
import Derived.Lib.ValidLaws
import Derived.Lib.TrimUEq
import Derived.Test.YtfdodndagakmmaaGreatDoorPt01
import Derived.Lib.ItoaLen
import Derived.Test.YtfdodndagakmmaaGreatDoorPt37
namespace Go.Proofs.YtfdodndagakmmaaGreatDoor
open Go.RowKit
/-- The text, by its letters. -/
def wkT : List UInt8 := [32, 123, 34, 98, 34, 32, 58, 32, 91, 49, 46, 53, 48, 44, 32, 110, 117, 108, 108, 93, 44, 32, 34, 97, 34, 58, 34, 92, 117, 48, 48, 101, 57, 34, 125, 32]
def wkN : JV := .mk 2 false ⟨false, [49, 53], -1⟩ [] [] []
def wkX : JV := .mk 4 false Dec.zero [] [wkN, JV.null] []
def wkY : JV := .mk 3 false Dec.zero [195, 169] [] []
def wkV : JV := .mk 5 false Dec.zero [] [wkX, wkY] [[98], [97]]
def wkS : JV := .mk 5 false Dec.zero [] [wkY, wkX] [[97], [98]]
def wkO : List UInt8 := [123, 34, 97, 34, 58, 34, 195, 169, 34, 44, 34, 98, 34, 58, 91, 49, 46, 53, 44, 110, 117, 108, 108, 93, 125]
set_option maxRecDepth 100000
theorem wk_valid : Lib.validD wkT = true := by kernel_rfl
theorem okR (l : List UInt8) (v : JV) (h : runJ .value [] fl0 l = some (v, fl0)) (h1 : l.length ≤ 1048576) (h2 : (tellJ v).length ≤ 1048576) : parseJ true l = (v, 0) := by
  unfold parseJ readR
  rw [if_neg (by omega), if_neg (by simp), h]
  show (if judgeE fl0 ≠ 0 then _ else _) = _
  rw [if_neg (by decide), if_neg (by omega)]
theorem wk_run : runJ .value [] fl0 [32, 123, 34, 98, 34, 32, 58, 32, 91, 49, 46, 53, 48, 44, 32, 110, 117, 108, 108, 93, 44, 32, 34, 97, 34, 58, 34, 92, 117, 48, 48, 101, 57, 34, 125, 32] = some ((.mk 5 false Dec.zero [] [(.mk 4 false Dec.zero [] [(.mk 2 false ⟨false, [49, 53], -1⟩ [] [] []), JV.null] []), (.mk 3 false Dec.zero [195, 169] [] [])] [[98], [97]]), fl0) := by
  refine Eq.trans (b := runJ .name [⟨true, [], []⟩] fl0 [34, 98, 34, 32, 58, 32, 91, 49, 46, 53, 48, 44, 32, 110, 117, 108, 108, 93, 44, 32, 34, 97, 34, 58, 34, 92, 117, 48, 48, 101, 57, 34, 125, 32]) ((runJ_value _ _ _).trans (by kernel_rfl)) ?_
  refine Eq.trans (b := runJ .value [⟨true, [], [[98]]⟩] fl0 [32, 91, 49, 46, 53, 48, 44, 32, 110, 117, 108, 108, 93, 44, 32, 34, 97, 34, 58, 34, 92, 117, 48, 48, 101, 57, 34, 125, 32]) ((runJ_name _ _ _).trans (by kernel_rfl)) ?_
  refine Eq.trans (b := runJ .value [⟨false, [], []⟩, ⟨true, [], [[98]]⟩] fl0 [49, 46, 53, 48, 44, 32, 110, 117, 108, 108, 93, 44, 32, 34, 97, 34, 58, 34, 92, 117, 48, 48, 101, 57, 34, 125, 32]) ((runJ_value _ _ _).trans (by kernel_rfl)) ?_
  refine Eq.trans (b := runJ (.behind (.mk 2 false ⟨false, [49, 53], -1⟩ [] [] [])) [⟨false, [], []⟩, ⟨true, [], [[98]]⟩] fl0 [44, 32, 110, 117, 108, 108, 93, 44, 32, 34, 97, 34, 58, 34, 92, 117, 48, 48, 101, 57, 34, 125, 32]) ((runJ_value _ _ _).trans (by kernel_rfl)) ?_
  refine Eq.trans (b := runJ .value [⟨false, [(.mk 2 false ⟨false, [49, 53], -1⟩ [] [] [])], []⟩, ⟨true, [], [[98]]⟩] fl0 [32, 110, 117, 108, 108, 93, 44, 32, 34, 97, 34, 58, 34, 92, 117, 48, 48, 101, 57, 34, 125, 32]) ((runJ_behind _ _ _ _ _).trans (by kernel_rfl)) ?_
  refine Eq.trans (b := runJ (.behind JV.null) [⟨false, [(.mk 2 false ⟨false, [49, 53], -1⟩ [] [] [])], []⟩, ⟨true, [], [[98]]⟩] fl0 [93, 44, 32, 34, 97, 34, 58, 34, 92, 117, 48, 48, 101, 57, 34, 125, 32]) ((runJ_value _ _ _).trans (by kernel_rfl)) ?_
  refine Eq.trans (b := runJ .leave [⟨false, [(.mk 2 false ⟨false, [49, 53], -1⟩ [] [] []), JV.null], []⟩, ⟨true, [], [[98]]⟩] fl0 [44, 32, 34, 97, 34, 58, 34, 92, 117, 48, 48, 101, 57, 34, 125, 32]) ((runJ_behind _ _ _ _ _).trans (by kernel_rfl)) ?_
  refine Eq.trans (b := runJ (.behind (.mk 4 false Dec.zero [] [(.mk 2 false ⟨false, [49, 53], -1⟩ [] [] []), JV.null] [])) [⟨true, [], [[98]]⟩] fl0 [44, 32, 34, 97, 34, 58, 34, 92, 117, 48, 48, 101, 57, 34, 125, 32]) ((runJ_leave _ _ _ _).trans (by kernel_rfl)) ?_
  refine Eq.trans (b := runJ .name [⟨true, [(.mk 4 false Dec.zero [] [(.mk 2 false ⟨false, [49, 53], -1⟩ [] [] []), JV.null] [])], [[98]]⟩] fl0 [32, 34, 97, 34, 58, 34, 92, 117, 48, 48, 101, 57, 34, 125, 32]) ((runJ_behind _ _ _ _ _).trans (by kernel_rfl)) ?_
  refine Eq.trans (b := runJ .value [⟨true, [(.mk 4 false Dec.zero [] [(.mk 2 false ⟨false, [49, 53], -1⟩ [] [] []), JV.null] [])], [[98], [97]]⟩] fl0 [34, 92, 117, 48, 48, 101, 57, 34, 125, 32]) ((runJ_name _ _ _).trans (by kernel_rfl)) ?_
  refine Eq.trans (b := runJ (.behind (.mk 3 false Dec.zero [195, 169] [] [])) [⟨true, [(.mk 4 false Dec.zero [] [(.mk 2 false ⟨false, [49, 53], -1⟩ [] [] []), JV.null] [])], [[98], [97]]⟩] fl0 [125, 32]) ((runJ_value _ _ _).trans (by kernel_rfl)) ?_
  refine Eq.trans (b := runJ .leave [⟨true, [(.mk 4 false Dec.zero [] [(.mk 2 false ⟨false, [49, 53], -1⟩ [] [] []), JV.null] []), (.mk 3 false Dec.zero [195, 169] [] [])], [[98], [97]]⟩] fl0 [32]) ((runJ_behind _ _ _ _ _).trans (by kernel_rfl)) ?_
  refine Eq.trans (b := runJ (.behind (.mk 5 false Dec.zero [] [(.mk 4 false Dec.zero [] [(.mk 2 false ⟨false, [49, 53], -1⟩ [] [] []), JV.null] []), (.mk 3 false Dec.zero [195, 169] [] [])] [[98], [97]])) [] fl0 [32]) ((runJ_leave _ _ _ _).trans (by kernel_rfl)) ?_
  refine Eq.trans (b := some ((.mk 5 false Dec.zero [] [(.mk 4 false Dec.zero [] [(.mk 2 false ⟨false, [49, 53], -1⟩ [] [] []), JV.null] []), (.mk 3 false Dec.zero [195, 169] [] [])] [[98], [97]]), fl0)) ((runJ_behind0 _ _ _).trans (by kernel_rfl)) ?_
  rfl
theorem wk_parse : parseJ true wkT = (wkV, 0) := okR _ _ wk_run (by decide) (by decide)
theorem wk_run2 : runJ .value [] fl0 [91, 49, 44, 93] = none := by
  refine Eq.trans (b := runJ .value [⟨false, [], []⟩] fl0 [49, 44, 93]) ((runJ_value _ _ _).trans (by kernel_rfl)) ?_
  refine Eq.trans (b := runJ (.behind (.mk 2 false ⟨false, [49], 0⟩ [] [] [])) [⟨false, [], []⟩] fl0 [44, 93]) ((runJ_value _ _ _).trans (by kernel_rfl)) ?_
  refine Eq.trans (b := runJ .value [⟨false, [(.mk 2 false ⟨false, [49], 0⟩ [] [] [])], []⟩] fl0 [93]) ((runJ_behind _ _ _ _ _).trans (by kernel_rfl)) ?_
  refine Eq.trans (b := none) ((runJ_value _ _ _).trans (by kernel_rfl)) ?_
  rfl
theorem wk_bad : parseJ true [91, 49, 44, 93] = (JV.null, 180) := by
  unfold parseJ readR
  rw [if_neg (by decide), if_neg (by simp), wk_run2]
theorem wk_valid2 : Lib.validD [91, 49, 44, 93] = true := by kernel_rfl
theorem wk_tell : tellJ wkS = wkO := by kernel_rfl
theorem wk_check : checkJ wkV = 0 := by kernel_rfl
theorem wk_check2 : checkJ wkS = 0 := by kernel_rfl
end Go.Proofs.YtfdodndagakmmaaGreatDoor
/- Layer 8: pure: a text in quotes is UTF-8, and read as it was. -/
namespace Go.Proofs.YtfdodndagakmmaaGreatDoor
open Go.RowKit
theorem decodeN_pre {n n' b0 b1 b2 b3 c1 c2 c3 x k : Nat} (h : Lib.decodeN n b0 b1 b2 b3 = (x, k)) (hx : ¬ (x = 65533 ∧ k = 1)) (hn : k ≤ n') (h1 : 1 < k → c1 = b1) (h2 : 2 < k → c2 = b2) (h3 : 3 < k → c3 = b3) : Lib.decodeN n' b0 c1 c2 c3 = (x, k) := by
  unfold Lib.decodeN at h
  split at h
  · rename_i g
    unfold Lib.decodeN
    rw [if_pos g]; exact h
  · rename_i g
    split at h
    · rename_i g2
      split at h
      · rename_i g3
        injection h with e1 e2
        subst e2
        obtain rfl := h1 (by omega)
        unfold Lib.decodeN
        rw [if_neg g, if_pos ⟨g2.1, by omega, g2.2.2⟩, if_pos g3, e1]
      · injection h with e1 e2; exact absurd ⟨e1.symm, e2.symm⟩ hx
    · rename_i g2
      split at h
      · rename_i g3
        split at h
        · rename_i g4
          injection h with e1 e2
          subst e2
          obtain rfl := h1 (by omega)
          obtain rfl := h2 (by omega)
          unfold Lib.decodeN
          rw [if_neg g, if_neg (fun q => by omega), if_pos ⟨g3.1, ⟨by omega, g3.2.1.2⟩, by omega, g3.2.2.2⟩, if_pos g4, e1]
        · injection h with e1 e2; exact absurd ⟨e1.symm, e2.symm⟩ hx
      · rename_i g3
        split at h
        · rename_i g4
          split at h
          · rename_i g5
            injection h with e1 e2
            subst e2
            obtain rfl := h1 (by omega)
            obtain rfl := h2 (by omega)
            obtain rfl := h3 (by omega)
            unfold Lib.decodeN
            rw [if_neg g, if_neg (fun q => by omega), if_neg (fun q => by omega), if_pos ⟨g4.1, ⟨by omega, g4.2.1.2⟩, ⟨by omega, g4.2.2.1.2⟩, by omega, g4.2.2.2.2⟩, if_pos g5, e1]
          · injection h with e1 e2; exact absurd ⟨e1.symm, e2.symm⟩ hx
        · injection h with e1 e2; exact absurd ⟨e1.symm, e2.symm⟩ hx
theorem escL_low : ∀ b : Fin 256, b.val < 128 → ∀ x ∈ escL (UInt8.ofNat b.val), x.toNat < 128 := by decide +kernel
theorem escL_at {b : UInt8} (h : b.toNat < 128) : ∀ x ∈ escL b, x.toNat < 128 := by
  have := escL_low ⟨b.toNat, b.toNat_lt⟩ h
  simpa only [UInt8.ofNat_toNat] using this
theorem esc_high : ∀ (l : List UInt8), (∀ b ∈ l, 128 ≤ b.toNat) → l.flatMap escL = l
  | [], _ => rfl
  | b :: t, h => by
    have hb := h b List.mem_cons_self
    rw [List.flatMap_cons, esc_high t (fun x hx => h x (List.mem_cons_of_mem _ hx)), escL_plain ⟨by omega, fun e => by subst e; exact absurd hb (by decide), fun e => by subst e; exact absurd hb (by decide)⟩]
    rfl
theorem valid_esc : ∀ (n : Nat) (s : List UInt8), s.length ≤ n → Lib.validD s = true → Lib.validD (s.flatMap escL ++ [34]) = true := by
  intro n
  induction n with
  | zero => intro s h _; obtain rfl : s = [] := List.eq_nil_of_length_eq_zero (by omega); decide
  | succ n ih =>
    intro s hs hv
    cases s with
    | nil => decide
    | cons b t =>
      by_cases hb : b.toNat < 128
      · rw [Lib.validD_cons b t hb] at hv
        have h1 := ih t (by simpa using hs) hv
        rw [List.flatMap_cons, List.append_assoc, Lib.validD_ascii (escL b).length _ (by rw [List.take_left']; exact escL_at hb; rfl), List.drop_left']
        · exact h1
        · rfl
      · have hne : b :: t ≠ [] := by simp
        have hst := Lib.validD_step (b :: t) hne
        rw [hv] at hst
        have hd := dec_bs (b :: t) 0 (by simp)
        have e : Utf8.decode (bs (b :: t)) 0 = Lib.decodeL (b :: t) := rfl
        rw [e] at hd
        by_cases hbad : (Lib.decodeL (b :: t)).1 = 65533 ∧ (Lib.decodeL (b :: t)).2 = 1
        · rw [if_pos hbad] at hst; cases hst
        · rw [if_neg hbad] at hst
          rcases hd with ⟨h1, _⟩ | ⟨_, _, _, hk1, hk⟩
          · exact absurd h1 hb
          · obtain ⟨q, hq⟩ : ∃ q, q = Lib.decodeL (b :: t) := ⟨_, rfl⟩
            rw [← hq] at hst hk hk1 hbad
            obtain ⟨x, k⟩ := q
            simp only at hst hk hk1 hbad
            obtain ⟨s, hS⟩ : ∃ s, s = b :: t := ⟨_, rfl⟩
            rw [← hS] at hst hk hq hs ⊢
            have hkl : k ≤ s.length := by have := (hk (k - 1) (by omega)).1; omega
            have hhi : ∀ y ∈ s.take k, 128 ≤ y.toNat := by
              intro y hy
              obtain ⟨j, hj, rfl⟩ := List.getElem_of_mem hy
              rw [List.length_take] at hj
              have := (hk j (by omega)).2
              rw [Nat.zero_add] at this
              simpa [List.getD_eq_getElem?_getD, (by omega : j < s.length)] using this
            have hfl : s.flatMap escL ++ [34] = s.take k ++ ((s.drop k).flatMap escL ++ [34]) := by
              conv => lhs; rw [← List.take_append_drop k s]
              rw [List.flatMap_append, esc_high _ hhi, List.append_assoc]
            have h1 := ih (s.drop k) (by rw [List.length_drop]; omega) hst.symm
            obtain ⟨L, hL⟩ : ∃ L, L = s.take k ++ ((s.drop k).flatMap escL ++ [34]) := ⟨_, rfl⟩
            have hg : ∀ j, j < k → L.getD j 0 = s.getD j 0 := fun j hj => by
              have h5 : j < (s.take k).length := by rw [List.length_take]; omega
              rw [hL, List.getD_eq_getElem?_getD, List.getElem?_append_left h5, List.getElem?_take, if_pos hj, List.getD_eq_getElem?_getD]
            have hLl : k ≤ L.length := by rw [hL, List.length_append, List.length_take]; omega
            have hdL : Lib.decodeL L = (x, k) := by
              rw [Lib.decodeL_N] at hq ⊢
              rw [hg 0 (by omega)]
              exact decodeN_pre hq.symm hbad hLl (fun h => by rw [hg 1 h]) (fun h => by rw [hg 2 h]) (fun h => by rw [hg 3 h])
            rw [hfl, ← hL, Lib.validD_step L (by intro e; rw [e] at hLl; simp at hLl; omega), hdL, if_neg hbad]
            simp only
            rw [hL, List.drop_left' (by rw [List.length_take]; omega)]
            exact h1
theorem valid_quote {s : List UInt8} (h : Lib.validD s = true) : Lib.validD (quoteL s) = true := by
  unfold quoteL
  rw [List.append_assoc]
  show Lib.validD (34 :: (s.flatMap escL ++ [34])) = true
  rw [Lib.validD_cons _ _ (by decide)]
  exact valid_esc _ s (Nat.le_refl _) h
end Go.Proofs.YtfdodndagakmmaaGreatDoor
/- Layer 8: pure: UTF-8: texts put together, letters' bytes, what is read of such a text. -/
namespace Go.Proofs.YtfdodndagakmmaaGreatDoor
open Go.RowKit
theorem decodeN_high {n b0 b1 b2 b3 x k : Nat} (h : Lib.decodeN n b0 b1 b2 b3 = (x, k)) (hx : ¬ (x = 65533 ∧ k = 1)) (h0 : 128 ≤ b0) : 2 ≤ k ∧ k ≤ n ∧ 128 ≤ b1 ∧ (2 < k → 128 ≤ b2) ∧ (3 < k → 128 ≤ b3) := by
  unfold Lib.decodeN at h
  repeat' split at h
  all_goals (injection h with e1 e2; first | (exfalso; omega) | (refine ⟨?_, ?_, ?_, ?_, ?_⟩ <;> omega))
/-- The first letter of a text of UTF-8: its bytes stand for it wherever they begin a text. -/
theorem valid_first (s : List UInt8) (hne : s ≠ []) (hv : Lib.validD s = true) : ∃ k, 1 ≤ k ∧ k ≤ s.length ∧ Lib.validD (s.drop k) = true ∧ (∀ t, Lib.validD (s.take k ++ t) = Lib.validD t) ∧ (k = 1 ∧ (s.getD 0 0).toNat < 128 ∨ ∀ y ∈ s.take k, 128 ≤ y.toNat) := by
  cases s with
  | nil => exact absurd rfl hne
  | cons b r =>
    by_cases hb : b.toNat < 128
    · rw [Lib.validD_cons b r hb] at hv
      refine ⟨1, Nat.le_refl _, by simp, by simpa using hv, fun t => ?_, .inl ⟨rfl, by simpa using hb⟩⟩
      exact Lib.validD_cons b t hb
    · have hst := Lib.validD_step (b :: r) hne
      rw [hv] at hst
      by_cases hbad : (Lib.decodeL (b :: r)).1 = 65533 ∧ (Lib.decodeL (b :: r)).2 = 1
      · rw [if_pos hbad] at hst; cases hst
      · rw [if_neg hbad] at hst
        obtain ⟨q, hq⟩ : ∃ q, q = Lib.decodeL (b :: r) := ⟨_, rfl⟩
        rw [← hq] at hst hbad
        obtain ⟨x, k⟩ := q
        simp only at hst hbad
        obtain ⟨s, hS⟩ : ∃ s, s = b :: r := ⟨_, rfl⟩
        rw [← hS] at hst hq ⊢
        have h00 : 128 ≤ (s.getD 0 0).toNat := by rw [hS]; simp; omega
        have hl1 : 1 ≤ s.length := by rw [hS]; simp
        have hq2 := hq.symm
        rw [Lib.decodeL_N] at hq2
        obtain ⟨k2, kn, g1, g2, g3⟩ := decodeN_high hq2 hbad h00
        have k4 : k ≤ 4 := by
          unfold Lib.decodeN at hq2
          repeat' split at hq2
          all_goals (injection hq2 with e1 e2; omega)
        have hg : ∀ t j, j < k → (s.take k ++ t).getD j 0 = s.getD j 0 := fun t j hj => by
          have h5 : j < (s.take k).length := by rw [List.length_take]; omega
          rw [List.getD_eq_getElem?_getD, List.getElem?_append_left h5, List.getElem?_take, if_pos hj, List.getD_eq_getElem?_getD]
        refine ⟨k, by omega, kn, hst.symm, fun t => ?_, .inr fun y hy => ?_⟩
        · have hL : k ≤ (s.take k ++ t).length := by rw [List.length_append, List.length_take]; omega
          have hdL : Lib.decodeL (s.take k ++ t) = (x, k) := by
            rw [Lib.decodeL_N, hg t 0 (by omega)]
            exact decodeN_pre hq2 hbad hL (fun h => by rw [hg t 1 h]) (fun h => by rw [hg t 2 h]) (fun h => by rw [hg t 3 h])
          rw [Lib.validD_step _ (by intro e; rw [e] at hL; simp at hL; omega), hdL, if_neg hbad]
          simp only
          rw [List.drop_left' (by rw [List.length_take]; omega)]
        · obtain ⟨j, hj, rfl⟩ := List.getElem_of_mem hy
          rw [List.length_take] at hj
          have e : (s.take k)[j]'(by rw [List.length_take]; omega) = s.getD j 0 := by
            rw [List.getElem_take, List.getD_eq_getElem?_getD, List.getElem?_eq_getElem (by omega)]; rfl
          rw [e]
          rcases (by omega : j = 0 ∨ j = 1 ∨ j = 2 ∨ j = 3) with rfl | rfl | rfl | rfl
          · exact h00
          · exact g1
          · exact g2 (by omega)
          · exact g3 (by omega)
theorem valid_app (b : List UInt8) : ∀ (n : Nat) (a : List UInt8), a.length ≤ n → Lib.validD a = true → Lib.validD (a ++ b) = Lib.validD b := by
  intro n
  induction n with
  | zero => intro a ha _; rw [List.eq_nil_of_length_eq_zero (by omega : a.length = 0)]; rfl
  | succ n ih =>
    intro a ha hv
    by_cases hne : a = []
    · rw [hne]; rfl
    · obtain ⟨k, k1, kl, hd, ht, _⟩ := valid_first a hne hv
      have e : a ++ b = a.take k ++ (a.drop k ++ b) := by rw [← List.append_assoc, List.take_append_drop]
      rw [e, ht, ih _ (by rw [List.length_drop]; omega) hd]
theorem valid_and {a b : List UInt8} (ha : Lib.validD a = true) (hb : Lib.validD b = true) : Lib.validD (a ++ b) = true := by
  rw [valid_app b _ a (Nat.le_refl _) ha]; exact hb
theorem valid_ascii {l : List UInt8} (h : ∀ b ∈ l, b.toNat < 128) : Lib.validD l = true := by
  rw [Lib.validD_ascii l.length l (fun b hb => h b (List.mem_of_mem_take hb)), List.drop_length]; rfl
/-- A letter's bytes are UTF-8. -/
theorem valid_rune {x : Nat} (h : x ≤ 1114111) (h2 : x < 55296 ∨ 57344 ≤ x) : Lib.validD (runeL x) = true := by
  have nat : ∀ a : Nat, a < 256 → (UInt8.ofNat a).toNat = a := fun a ha => by rw [UInt8.toNat_ofNat']; exact Nat.mod_eq_of_lt ha
  have two : ¬ x < 128 → x < 2048 → Lib.decodeN 2 (192 + x / 64) (128 + x % 64) 0 0 = (x, 2) := fun _ _ => by
    unfold Lib.decodeN
    repeat' split
    all_goals first | (exfalso; omega) | (congr 1; omega)
  have three : ¬ x < 2048 → x < 65536 → Lib.decodeN 3 (224 + x / 4096) (128 + x / 64 % 64) (128 + x % 64) 0 = (x, 3) := fun _ _ => by
    unfold Lib.decodeN
    repeat' split
    all_goals first | (exfalso; omega) | (congr 1; omega)
  have four4 : ¬ x < 65536 → Lib.decodeN 4 (240 + x / 262144) (128 + x / 4096 % 64) (128 + x / 64 % 64) (128 + x % 64) = (x, 4) := fun _ => by
    unfold Lib.decodeN
    repeat' split
    all_goals first | (exfalso; omega) | (congr 1; omega)
  have hne : ∀ n : Nat, 1 < n → ¬ (x = 65533 ∧ n = 1) := fun n hn e => by omega
  have z0 : (0 : UInt8).toNat = 0 := rfl
  unfold runeL
  split
  · exact valid_ascii (fun b hb => by rw [List.mem_singleton.1 hb, nat _ (by omega)]; omega)
  · rename_i g1
    split
    · rename_i g2
      rw [Lib.validD_step _ (by simp), Lib.decodeL_N]
      simp only [List.length_cons, List.length_nil, List.getD_cons_zero, List.getD_cons_succ, List.getD_nil]
      rw [nat (192 + x / 64) (by omega), nat (128 + x % 64) (by omega), z0, two g1 g2, if_neg (hne 2 (by omega))]
      rfl
    · rename_i g2
      split
      · rename_i g3
        rw [Lib.validD_step _ (by simp), Lib.decodeL_N]
        simp only [List.length_cons, List.length_nil, List.getD_cons_zero, List.getD_cons_succ, List.getD_nil]
        rw [nat (224 + x / 4096) (by omega), nat (128 + x / 64 % 64) (by omega), nat (128 + x % 64) (by omega), z0, three g2 g3, if_neg (hne 3 (by omega))]
        rfl
      · rename_i g3
        rw [Lib.validD_step _ (by simp), Lib.decodeL_N]
        simp only [List.length_cons, List.length_nil, List.getD_cons_zero, List.getD_cons_succ]
        rw [nat (240 + x / 262144) (by omega), nat (128 + x / 4096 % 64) (by omega), nat (128 + x / 64 % 64) (by omega), nat (128 + x % 64) (by omega), four4 g3, if_neg (hne 4 (by omega))]
        rfl
/-! ### What is read of such a text -/
theorem hexV_low {b : UInt8} {d : Nat} (h : hexV b = some d) : b.toNat < 128 := by
  unfold hexV at h
  split at h
  · omega
  · split at h
    · omega
    · split at h
      · omega
      · cases h
theorem hexN_valid (k : Nat) : ∀ (x : Nat) (s : List UInt8) (y : Nat) (t : List UInt8), hexN k x s = some (y, t) → Lib.validD s = true → Lib.validD t = true := by
  induction k with
  | zero => intro x s y t h hv; injection h with h; injection h with _ h; rw [← h]; exact hv
  | succ k ih =>
    intro x s y t h hv
    cases s with
    | nil => cases h
    | cons b r =>
      unfold hexN at h
      simp only at h
      cases hd : hexV b with
      | none => rw [hd] at h; cases h
      | some d =>
        rw [hd] at h
        rw [Lib.validD_cons b r (hexV_low hd)] at hv
        exact ih _ _ _ _ h hv
theorem pfx_eq {p s : List UInt8} (h : pfx p s = true) : s = p ++ s.drop p.length := by
  obtain ⟨t, rfl⟩ := List.isPrefixOf_iff_prefix.1 h
  rw [List.drop_left]
theorem codedL_valid {s : List UInt8} {x : Nat} {a : Bool} {t : List UInt8} (h : codedL s = some (x, a, t)) (hv : Lib.validD s = true) : Lib.validD t = true ∧ x ≤ 1114111 ∧ (x < 55296 ∨ 57344 ≤ x) := by
  unfold codedL four at h
  split at h
  · cases h
  · rename_i x1 t1 h1
    have v1 := hexN_valid _ _ _ _ _ h1 hv
    have l1 := hexN_lt _ _ _ _ _ h1
    split at h
    · rename_i hn
      injection h with h; injection h with h h3; injection h3 with _ h3; subst h h3
      refine ⟨v1, by omega, ?_⟩
      have q1 := of_decide_eq_false hn.1
      have q2 := of_decide_eq_false hn.2
      omega
    · split at h
      · rename_i hp
        split at h
        · cases h
        · rename_i y r h2
          have e := pfx_eq hp.2
          have v2 : Lib.validD (t1.drop 2) = true := by
            rw [e] at v1
            have v9 : Lib.validD (92 :: 117 :: t1.drop 2) = true := v1
            rwa [Lib.validD_cons _ _ (by decide), Lib.validD_cons _ _ (by decide)] at v9
          have v3 := hexN_valid _ _ _ _ _ h2 v2
          have q1 := of_decide_eq_true hp.1
          split at h
          · rename_i hlo
            have q2 := of_decide_eq_true hlo
            injection h with h; injection h with h h3; injection h3 with _ h3; subst h h3
            exact ⟨v3, by omega, by omega⟩
          · injection h with h; injection h with h h3; injection h3 with _ h3; subst h h3
            exact ⟨v3, by omega, by omega⟩
      · injection h with h; injection h with h h3; injection h3 with _ h3; subst h h3
        exact ⟨v1, by omega, by omega⟩
theorem escV_low {b : UInt8} {x : Nat} (h : escV b = some x) : b.toNat < 128 ∧ x < 128 := by
  unfold escV at h
  repeat' split at h
  all_goals first | (rename_i e; subst e; injection h with h; subst h; exact ⟨by decide, by decide⟩) | cases h
theorem letterL_valid {s : List UInt8} {x : Nat} {a : Bool} {t : List UInt8} (h : letterL s = some (x, a, t)) (hv : Lib.validD s = true) : Lib.validD t = true ∧ x ≤ 1114111 ∧ (x < 55296 ∨ 57344 ≤ x) := by
  cases s with
  | nil => cases h
  | cons b r =>
    unfold letterL at h
    simp only at h
    split at h
    · rename_i e
      rw [Lib.validD_cons b r (by subst e; decide)] at hv
      exact codedL_valid h hv
    · split at h
      · cases h
      · rename_i y hy
        have hl := escV_low hy
        rw [Lib.validD_cons b r hl.1] at hv
        injection h with h; injection h with h h3; injection h3 with _ h3; subst h h3
        exact ⟨hv, by omega, by omega⟩
theorem letsL_high : ∀ (h t : List UInt8), (∀ y ∈ h, 128 ≤ y.toNat) → letsL (h ++ t) = (letsL t).map fun q => (h ++ q.1, q.2.1, q.2.2)
  | [], t, _ => by rw [List.nil_append]; cases letsL t <;> rfl
  | b :: h, t, hh => by
    have hb := hh b List.mem_cons_self
    rw [List.cons_append, letsL_plain (fun e => by subst e; exact absurd hb (by decide)) (fun e => by subst e; exact absurd hb (by decide)) (by omega), letsL_high h t (fun y hy => hh y (List.mem_cons_of_mem _ hy))]
    cases letsL t <;> rfl
/-- The letters of a text of UTF-8 are UTF-8, and what is left of it is. -/
theorem letsL_valid : ∀ (n : Nat) (s : List UInt8), s.length ≤ n → Lib.validD s = true → ∀ {l : List UInt8} {a : Bool} {t : List UInt8}, letsL s = some (l, a, t) → Lib.validD l = true ∧ Lib.validD t = true := by
  intro n
  induction n with
  | zero =>
    intro s hs _ l a t h
    rw [List.eq_nil_of_length_eq_zero (by omega : s.length = 0), letsL] at h
    cases h
  | succ n ih =>
    intro s hs hv l a t h
    cases s with
    | nil => rw [letsL] at h; cases h
    | cons b r =>
      simp only [List.length_cons] at hs
      by_cases hb : b.toNat < 128
      · have hvr := hv
        rw [Lib.validD_cons b r hb] at hvr
        rw [letsL] at h
        split at h
        · injection h with h; injection h with h h3; injection h3 with _ h3; subst h h3
          exact ⟨rfl, hvr⟩
        · split at h
          · split at h
            · cases h
            · rename_i x a1 r1 h1
              have l1 := letterL_len h1
              obtain ⟨w1, w2, w3⟩ := letterL_valid h1 hvr
              split at h
              · cases h
              · rename_i l2 a2 q h2
                have := ih r1 (by omega) w1 h2
                injection h with h; injection h with h h3; injection h3 with _ h3; subst h h3
                exact ⟨valid_and (valid_rune w2 w3) this.1, this.2⟩
          · split at h
            · cases h
            · split at h
              · cases h
              · rename_i l2 a2 q h2
                have := ih r (by omega) hvr h2
                injection h with h; injection h with h h3; injection h3 with _ h3; subst h h3
                rw [Lib.validD_cons b _ hb]
                exact this
      · obtain ⟨k, k1, kl, hd, ht, hor⟩ := valid_first (b :: r) (by simp) hv
        rcases hor with ⟨_, h9⟩ | hhi
        · exact absurd (by simpa using h9) hb
        · have e : b :: r = (b :: r).take k ++ (b :: r).drop k := (List.take_append_drop _ _).symm
          rw [e, letsL_high _ _ hhi] at h
          cases h2 : letsL ((b :: r).drop k) with
          | none => rw [h2] at h; cases h
          | some q =>
            obtain ⟨l2, a2, q2⟩ := q
            have := ih _ (by rw [List.length_drop, List.length_cons]; omega) hd h2
            rw [h2] at h
            injection h with h; injection h with h h3; injection h3 with _ h3; subst h h3
            exact ⟨by rw [ht]; exact this.1, this.2⟩
end Go.Proofs.YtfdodndagakmmaaGreatDoor
/- Layer 7: a decimal's text tells that decimal. Of no program. -/
namespace Go.Proofs.YtfdodndagakmmaaGreatDoor
open Go.Lib

theorem digs_head {l : List UInt8} (h : Digs l) {c : UInt8} (hc : isDig c = false) : l.head? ≠ some c := by
  cases l with
  | nil => simp
  | cons b r =>
    intro e
    have : b = c := by simpa using e
    have hb := h b (by simp)
    rw [this, hc] at hb; cases hb
theorem nodig {r : List UInt8} {c : UInt8} (hc : isDig c = false) (h : r.head? = some c ∨ r = []) : ∀ x, r.head? = some x → isDig x = false := by
  intro x hx
  rcases h with h | h
  · rw [h] at hx; injection hx with hx; rw [← hx]; exact hc
  · rw [h] at hx; cases hx
/-- Digits without a 0 in front, and what is no digit behind them. -/
theorem ahead_of {a r : List UInt8} (ha : Digs a) (h0 : a ≠ []) (hh : a.head? ≠ some 48) (hr : ∀ x, r.head? = some x → isDig x = false) : ahead (a ++ r) = some (a, r) := by
  have hs := spanT_append ha hr
  have hq : (a ++ r).head? = a.head? := by cases a; · exact absurd rfl h0
                                           · rfl
  unfold ahead
  rw [hq, if_neg hh, hs.1, hs.2, if_neg h0]
theorem behind_of {b r : List UInt8} (hb : Digs b) (h0 : b ≠ []) (hr : ∀ x, r.head? = some x → isDig x = false) : behind (46 :: (b ++ r)) = some (b, r) := by
  have hs := spanT_append hb hr
  unfold behind
  rw [if_pos List.head?_cons]
  show (if spanT (b ++ r) = [] then none else some (spanT (b ++ r), spanD (b ++ r))) = _
  rw [hs.1, hs.2, if_neg h0]
theorem behind_no {r : List UInt8} (h : r.head? ≠ some 46) : behind r = some ([], r) := by unfold behind; rw [if_neg h]
theorem power_itoa (q : Int) : power (101 :: itoa q) = some (decide (q < 0), decDigits q.natAbs, []) := by
  unfold power
  rw [if_pos (Or.inl List.head?_cons)]
  have e : (101 :: itoa q).drop 1 = itoa q := rfl
  simp only [e]
  have hs := spanT_append (r := []) (decDigits_digs q.natAbs) (by intro c hc; cases hc)
  rw [List.append_nil] at hs
  have hn := decDigits_ne q.natAbs
  by_cases h : q < 0
  · have hi : itoa q = 45 :: decDigits q.natAbs := by unfold itoa; rw [if_pos h]
    rw [hi]
    simp only [List.head?_cons, true_or, if_true, List.drop_succ_cons, List.drop_zero, hs.1, hs.2, if_neg hn, beq_self_eq_true, decide_eq_true h]
  · have hi : itoa q = decDigits q.natAbs := by unfold itoa; rw [if_neg h, show q.toNat = q.natAbs by omega]
    have h1 : (itoa q).head? ≠ some 45 := by rw [hi]; exact digs_head (decDigits_digs _) (by decide)
    have h2 : (itoa q).head? ≠ some 43 := by rw [hi]; exact digs_head (decDigits_digs _) (by decide)
    have h3 : ((itoa q).head? == some 45) = false := by rw [beq_eq_false_iff_ne]; exact h1
    have h4 : ¬ ((itoa q).head? = some 45 ∨ (itoa q).head? = some 43) := fun x => x.elim h1 h2
    rw [if_neg h4, h3, hi, hs.1, hs.2, if_neg hn, decide_eq_false h]
/-- What the text of digits and a power consists of. -/
theorem ahead_one {l : List UInt8} (hl : l ≠ []) : l.take 1 ≠ [] := by
  cases l with
  | nil => exact absurd rfl hl
  | cons b r => simp
theorem take_head {l : List UInt8} {k : Nat} (hk : 0 < k) : (l.take k).head? = l.head? := by
  cases l with
  | nil => simp
  | cons b r => obtain ⟨m, rfl⟩ : ∃ m, k = m + 1 := ⟨k - 1, by omega⟩; simp
/-- The parts, with the sign left out. -/
def partsB (neg : Bool) (l : List UInt8) : Option Parts :=
  match ahead l with
  | none => none
  | some (a, r) => match behind r with
    | none => none
    | some (b, r) => match power r with
      | none => none
      | some (sg, p, r) => if r = [] then some ⟨neg, a, b, sg, p⟩ else none
theorem body_parts (neg : Bool) (l : List UInt8) (e : Int) (hd : Digs l) (h0 : l ≠ []) (hh : l.head? ≠ some 48) :
    ∃ q, partsB neg (bodyL l e) = some q ∧ q.neg = neg ∧ ((num (q.a ++ q.b) = num l ∧ q.exp = e) ∨ (0 ≤ e ∧ num (q.a ++ q.b) = num l * 10 ^ e.toNat ∧ q.exp = 0)) := by
  have hp : 0 < l.length := List.length_pos_iff.2 h0
  have nil_no : ∀ x : UInt8, ([] : List UInt8).head? = some x → isDig x = false := fun x h => by cases h
  unfold bodyL
  simp only
  by_cases c1 : 0 ≤ e ∧ (l.length : Int) + e ≤ 21
  · rw [if_pos c1]
    have ha : Digs (l ++ zeros e.toNat) := hd.append (Digs.zeros _)
    have h1 : ahead (l ++ zeros e.toNat) = some (l ++ zeros e.toNat, []) := by
      have := ahead_of (r := []) ha (by simp [h0]) (by cases l; · exact absurd rfl h0
                                                       · exact hh) nil_no
      rwa [List.append_nil] at this
    refine ⟨⟨neg, l ++ zeros e.toNat, [], false, []⟩, ?_, rfl, Or.inr ⟨c1.1, ?_, ?_⟩⟩
    · unfold partsB
      rw [h1]
      rfl
    · show num (l ++ zeros e.toNat ++ []) = _
      rw [List.append_nil]
      exact num_zeros_behind l _
    · rfl
  · rw [if_neg c1]
    by_cases c2 : 0 < (l.length : Int) + e ∧ (l.length : Int) + e ≤ 21
    · rw [if_pos c2]
      obtain ⟨k, hk⟩ : ∃ k : Nat, (l.length : Int) + e = k := ⟨((l.length : Int) + e).toNat, by omega⟩
      rw [hk, Int.toNat_natCast]
      have hkl : k < l.length := by omega
      have hk0 : 0 < k := by omega
      have ht0 : l.take k ≠ [] := by
        intro e; have := congrArg List.length e; rw [List.length_take] at this; have h9 : min _ l.length = 0 := this; omega
      have hd0 : l.drop k ≠ [] := by
        intro e; have := congrArg List.length e; rw [List.length_drop] at this; have h9 : l.length - _ = 0 := this; omega
      have h1 := ahead_of (r := 46 :: l.drop k) (hd.take k) ht0 (by rw [take_head hk0]; exact hh) (nodig (c := 46) (by decide) (Or.inl rfl))
      have h2 := behind_of (r := []) (hd.drop k) hd0 nil_no
      rw [List.append_nil] at h2
      refine ⟨⟨neg, l.take k, l.drop k, false, []⟩, ?_, rfl, Or.inl ⟨?_, ?_⟩⟩
      · unfold partsB
        rw [h1]
        simp only [h2]
        rfl
      · show num (l.take k ++ l.drop k) = _
        rw [List.take_append_drop]
      · show ((if (false : Bool) = true then -((num [] : Nat) : Int) else (num [] : Nat)) - ((l.drop k).length : Int)) = e
        rw [List.length_drop, num_nil]
        simp
        omega
    · rw [if_neg c2]
      by_cases c3 : -5 ≤ (l.length : Int) + e ∧ (l.length : Int) + e ≤ 0
      · rw [if_pos c3]
        have hb : Digs (zeros (-((l.length : Int) + e)).toNat ++ l) := (Digs.zeros _).append hd
        have h2 := behind_of (r := []) hb (by simp [h0]) nil_no
        rw [List.append_nil] at h2
        refine ⟨⟨neg, [], zeros (-((l.length : Int) + e)).toNat ++ l, false, []⟩, ?_, rfl, Or.inl ⟨?_, ?_⟩⟩
        · unfold partsB
          have h1 : ahead (48 :: 46 :: (zeros (-((l.length : Int) + e)).toNat ++ l)) = some ([], 46 :: (zeros (-((l.length : Int) + e)).toNat ++ l)) := by
            unfold ahead; rw [if_pos List.head?_cons]; rfl
          rw [h1]
          simp only [h2]
          rfl
        · show num ([] ++ (zeros (-((l.length : Int) + e)).toNat ++ l)) = _
          rw [List.nil_append]
          exact num_zeros_ahead l _
        · show ((if (false : Bool) = true then -((num [] : Nat) : Int) else (num [] : Nat)) - ((zeros (-((l.length : Int) + e)).toNat ++ l).length : Int)) = e
          rw [List.length_append, num_nil, show (zeros (-((l.length : Int) + e)).toNat).length = (-((l.length : Int) + e)).toNat from List.length_replicate ..]
          simp
          omega
      · rw [if_neg c3]
        have hpw := power_itoa ((l.length : Int) + e - 1)
        have ht0 : l.take 1 ≠ [] := ahead_one h0
        by_cases c4 : 1 < l.length
        · rw [if_pos c4]
          have hd0 : l.drop 1 ≠ [] := by
            intro e; have := congrArg List.length e; rw [List.length_drop] at this; have h9 : l.length - _ = 0 := this; omega
          have h1 := ahead_of (r := 46 :: (l.drop 1 ++ 101 :: itoa ((l.length : Int) + e - 1))) (hd.take 1) ht0 (by rw [take_head (by omega)]; exact hh) (nodig (c := 46) (by decide) (Or.inl rfl))
          have h2 := behind_of (r := 101 :: itoa ((l.length : Int) + e - 1)) (hd.drop 1) hd0 (nodig (c := 101) (by decide) (Or.inl rfl))
          refine ⟨⟨neg, l.take 1, l.drop 1, decide ((l.length : Int) + e - 1 < 0), decDigits ((l.length : Int) + e - 1).natAbs⟩, ?_, rfl, Or.inl ⟨?_, ?_⟩⟩
          · unfold partsB
            rw [List.cons_append, h1]
            simp only [h2, hpw]
            rfl
          · show num (l.take 1 ++ l.drop 1) = _
            rw [List.take_append_drop]
          · show ((if decide ((l.length : Int) + e - 1 < 0) = true then -((num (decDigits ((l.length : Int) + e - 1).natAbs) : Nat) : Int) else (num (decDigits ((l.length : Int) + e - 1).natAbs) : Nat)) - ((l.drop 1).length : Int)) = e
            rw [num_decDigits, List.length_drop]
            by_cases c5 : (l.length : Int) + e - 1 < 0
            · rw [decide_eq_true c5, if_pos rfl]; omega
            · rw [decide_eq_false c5, if_neg (by decide)]; omega
        · rw [if_neg c4, List.nil_append]
          have hl1 : l.length = 1 := by omega
          have h1 := ahead_of (r := 101 :: itoa ((l.length : Int) + e - 1)) (hd.take 1) ht0 (by rw [take_head (by omega)]; exact hh) (nodig (c := 101) (by decide) (Or.inl rfl))
          have h2 : behind (101 :: itoa ((l.length : Int) + e - 1)) = some ([], 101 :: itoa ((l.length : Int) + e - 1)) := behind_no (by simp)
          refine ⟨⟨neg, l.take 1, [], decide ((l.length : Int) + e - 1 < 0), decDigits ((l.length : Int) + e - 1).natAbs⟩, ?_, rfl, Or.inl ⟨?_, ?_⟩⟩
          · unfold partsB
            rw [h1]
            simp only [h2, hpw]
            rfl
          · show num (l.take 1 ++ []) = _
            rw [List.append_nil, List.take_of_length_le (by omega)]
          · show ((if decide ((l.length : Int) + e - 1 < 0) = true then -((num (decDigits ((l.length : Int) + e - 1).natAbs) : Nat) : Int) else (num (decDigits ((l.length : Int) + e - 1).natAbs) : Nat)) - (([] : List UInt8).length : Int)) = e
            rw [num_decDigits]
            by_cases c5 : (l.length : Int) + e - 1 < 0
            · rw [decide_eq_true c5, if_pos rfl]; simp; omega
            · rw [decide_eq_false c5, if_neg (by decide)]; simp; omega
theorem bodyL_head {l : List UInt8} {e : Int} (hd : Digs l) (h0 : l ≠ []) : (bodyL l e).head? ≠ some 45 := by
  have hp : 0 < l.length := List.length_pos_iff.2 h0
  have key : ∀ r : List UInt8, ∀ k, 0 < k → (l.take k ++ r).head? ≠ some 45 := fun r k hk => by
    have ht0 : l.take k ≠ [] := by
      intro e; have := congrArg List.length e; rw [List.length_take] at this; have h9 : min _ l.length = 0 := this; omega
    have := digs_head (hd.take k) (c := 45) (by decide)
    cases hx : l.take k with
    | nil => exact absurd hx ht0
    | cons b t => rw [hx] at this; exact this
  unfold bodyL
  simp only
  split
  · have := key (zeros e.toNat) l.length hp
    rwa [List.take_length] at this
  · split
    · exact key _ _ (by omega)
    · split
      · simp
      · exact key _ 1 (by omega)
theorem textL_len {d : Dec} (h : May d) : (textL d).length ≤ 200 := by
  have hl := h.len
  have h1 := h.lo
  have h2 := h.hi
  have hi := itoa_length_le (d.digits.length + d.exp - 1) (by omega) (by omega)
  unfold textL
  split
  · simp
  · rw [List.length_append]
    have hs : (if d.neg then [45] else [] : List UInt8).length ≤ 1 := by split <;> simp
    have hb : (bodyL d.digits d.exp).length ≤ 150 := by
      unfold bodyL
      simp only
      split
      · rw [List.length_append, show (zeros d.exp.toNat).length = d.exp.toNat from List.length_replicate ..]; omega
      · split
        · rw [List.length_append, List.length_cons, List.length_take, List.length_drop]; omega
        · split
          · rw [List.length_cons, List.length_cons, List.length_append, show (zeros (-((d.digits.length : Int) + d.exp)).toNat).length = (-((d.digits.length : Int) + d.exp)).toNat from List.length_replicate ..]; omega
          · rw [List.length_append, List.length_append, List.length_cons, List.length_take]
            have : (if 1 < d.digits.length then 46 :: d.digits.drop 1 else [] : List UInt8).length ≤ d.digits.length + 1 := by
              split
              · rw [List.length_cons, List.length_drop]; omega
              · simp
            omega
    omega
/-- A decimal's text tells that decimal. -/
theorem parse_text {d : Dec} (h : May d) : parseD (textL d) = d ∧ parseE (textL d) = 0 := by
  have hlen := textL_len h
  have hlt : ¬ 1000 < (textL d).length := by omega
  by_cases e0 : d.digits = []
  · obtain ⟨h1, h2⟩ := h.nil e0
    have hd : d = Dec.zero := Dec.ext' h1 e0 h2
    subst hd
    have hp : parts (textL Dec.zero) = some ⟨false, [], [], false, []⟩ := by rfl
    unfold parseD parseE
    rw [if_neg hlt, if_neg hlt, hp]
    exact ⟨mk_zero _ _, mkE_zero _ _⟩
  · obtain ⟨q, hq, hqn, hqv⟩ := body_parts d.neg d.digits d.exp h.digs e0 h.head
    have hp : parts (textL d) = some q := by
      have ht : textL d = (if d.neg then [45] else []) ++ bodyL d.digits d.exp := by unfold textL; rw [if_neg e0]
      have hs : signed (textL d) = (d.neg, bodyL d.digits d.exp) := by
        rw [ht]
        cases hn : d.neg with
        | true => rfl
        | false =>
          show signed (bodyL d.digits d.exp) = _
          unfold signed
          rw [if_neg (bodyL_head h.digs e0)]
      rw [← hq]
      unfold parts partsB
      rw [hs]
      rfl
    have hm := h.made
    have hmE := h.madeE
    unfold parseD parseE
    rw [if_neg hlt, if_neg hlt, hp]
    simp only
    rw [hqn]
    rcases hqv with ⟨hv, hx⟩ | ⟨he, hv, hx⟩
    · rw [hv, hx]; exact ⟨hm, hmE⟩
    · rw [hv, hx]
      have h1 := mk_ten d.neg (num d.digits) d.exp d.exp.toNat
      have h2 := mkE_ten d.neg (num d.digits) d.exp d.exp.toNat
      rw [show d.exp - (d.exp.toNat : Int) = 0 by omega] at h1 h2
      rw [h1, h2]; exact ⟨hm, hmE⟩
end Go.Proofs.YtfdodndagakmmaaGreatDoor
/- Layer 8: pure: a value that Check lets pass is read as it is told, and its text is UTF-8. -/
namespace Go.Proofs.YtfdodndagakmmaaGreatDoor
open Go.RowKit
/-- What may stand behind a number. -/
def noNum (r : List UInt8) : Prop := ∀ c, r.head? = some c → isDig c = false ∧ c ≠ 46 ∧ c ≠ 101 ∧ c ≠ 69
theorem noNum_end {r : List UInt8} (h : okEnd r) : noNum r := by
  intro c hc
  rcases h with rfl | ⟨b, t, rfl, h⟩
  · cases hc
  · injection hc with hc
    subst hc
    rcases h with rfl | rfl | rfl <;> exact ⟨by decide, by decide, by decide, by decide⟩
theorem dw_app {r : List UInt8} (hr : noNum r) : ∀ l : List UInt8, (l ++ r).dropWhile isDig = l.dropWhile isDig ++ r
  | [] => by
    cases r with
    | nil => rfl
    | cons c t => rw [List.nil_append, List.dropWhile_cons, if_neg (by rw [(hr c rfl).1]; simp)]; rfl
  | x :: l => by
    rw [List.cons_append, List.dropWhile_cons, List.dropWhile_cons]
    split
    · exact dw_app hr l
    · rfl
theorem dgs_app {r : List UInt8} (hr : noNum r) {l q : List UInt8} (h : dgs l = some q) : dgs (l ++ r) = some (q ++ r) := by
  cases l with
  | nil => cases h
  | cons x l =>
    unfold dgs at h ⊢
    simp only [List.cons_append] at h ⊢
    split at h
    · rename_i hx
      injection h with h
      rw [if_pos hx, dw_app hr, h]
    · cases h
theorem tkB_app {l : List UInt8} (h : l ≠ []) (these r : List UInt8) : tkB these (l ++ r) = tkB these l := by
  cases l with
  | nil => exact absurd rfl h
  | cons x l => rfl
theorem drop_app {l : List UInt8} (h : l ≠ []) (r : List UInt8) : (l ++ r).drop 1 = l.drop 1 ++ r := by
  cases l with
  | nil => exact absurd rfl h
  | cons x l => rfl
theorem tkS_app {l : List UInt8} (h : l ≠ []) (these r : List UInt8) : tkS these (l ++ r) = tkS these l ++ r := by
  unfold tkS
  rw [tkB_app h]
  split
  · exact drop_app h r
  · rfl
theorem tkB_end {r : List UInt8} {these : List UInt8} (h : ∀ c, r.head? = some c → these.contains c = false) : tkB these r = false := by
  cases r with
  | nil => rfl
  | cons c t => exact h c rfl
theorem numEnd_app {r : List UInt8} (hr : noNum r) {l q : List UInt8} (h : numEnd l = some q) : numEnd (l ++ r) = some (q ++ r) := by
  have t46 : tkB [46] r = false := tkB_end fun c hc => by simp [(hr c hc).2.1]
  have tE : tkB [101, 69] r = false := tkB_end fun c hc => by simp [(hr c hc).2.2.1, (hr c hc).2.2.2]
  unfold numEnd at h ⊢
  simp only at h ⊢
  by_cases hl : l = []
  · subst hl
    cases h
  rw [tkS_app hl]
  generalize tkS [45] l = s1 at *
  split at h
  · cases h
  · rename_i s2 h2
    have hs1 : s1 ≠ [] := fun e => by subst e; cases h2
    have e2 : (if tkB [48] (s1 ++ r) = true then some (List.drop 1 (s1 ++ r)) else dgs (s1 ++ r)) = some (s2 ++ r) := by
      rw [tkB_app hs1]
      split at h2
      · rename_i hb
        injection h2 with h2
        rw [if_pos hb, drop_app hs1, h2]
      · rename_i hb
        rw [if_neg hb, dgs_app hr h2]
    rw [e2]
    simp only
    split at h
    · cases h
    · rename_i s3 h3
      have e3 : (if tkB [46] (s2 ++ r) = true then dgs (List.drop 1 (s2 ++ r)) else some (s2 ++ r)) = some (s3 ++ r) := by
        by_cases hs2 : s2 = []
        · subst hs2
          rw [if_neg (show ¬ tkB [46] [] = true from by decide)] at h3
          injection h3 with h3
          rw [← h3, List.nil_append, if_neg (by rw [t46]; simp)]
        · rw [tkB_app hs2]
          split at h3
          · rename_i hb
            rw [if_pos hb, drop_app hs2, dgs_app hr h3]
          · rename_i hb
            injection h3 with h3
            rw [if_neg hb, h3]
      rw [e3]
      simp only
      by_cases hs3 : s3 = []
      · subst hs3
        rw [if_neg (show ¬ tkB [101, 69] [] = true from by decide)] at h
        injection h with h
        rw [← h, List.nil_append, if_neg (by rw [tE]; simp)]
      · rw [tkB_app hs3]
        split at h
        · rename_i hb
          rw [if_pos hb, drop_app hs3]
          by_cases hd : List.drop 1 s3 = []
          · rw [hd] at h; cases h
          · rw [tkS_app hd]
            exact dgs_app hr h
        · rename_i hb
          injection h with h
          rw [if_neg hb, h]
theorem tkB_one (c : UInt8) (s : List UInt8) : tkB [c] s = true ↔ s.head? = some c := by
  cases s with
  | nil => simp [tkB]
  | cons x s => simp [tkB]
theorem tkB_two (c d : UInt8) (s : List UInt8) : tkB [c, d] s = true ↔ s.head? = some c ∨ s.head? = some d := by
  cases s with
  | nil => simp [tkB]
  | cons x s => simp [tkB]
theorem dgs_span {s : List UInt8} (h : spanT s ≠ []) : dgs s = some (spanD s) := by
  cases s with
  | nil => exact absurd rfl h
  | cons x t =>
    unfold spanT at h
    rw [List.takeWhile_cons] at h
    split at h
    · rename_i hx
      unfold dgs spanD
      simp only
      rw [if_pos hx, List.dropWhile_cons, if_pos hx]
    · exact absurd rfl h
theorem signed_tk (l : List UInt8) : (signed l).2 = tkS [45] l := by
  unfold signed tkS
  by_cases h : l.head? = some 45
  · rw [if_pos h, if_pos ((tkB_one 45 l).2 h)]
  · rw [if_neg h, if_neg (fun e => h ((tkB_one 45 l).1 e))]
/-- What decimal takes for a number's text ends where jsontext takes it to end. -/
theorem parts_end {l : List UInt8} (h : parts l ≠ none) : numEnd l = some [] := by
  unfold parts at h
  rw [signed_tk] at h
  unfold numEnd
  simp only
  generalize tkS [45] l = s1 at *
  split at h
  · exact absurd rfl h
  · rename_i a s2 h2
    have e2 : (if tkB [48] s1 = true then some (List.drop 1 s1) else dgs s1) = some s2 := by
      unfold ahead at h2
      by_cases h0 : s1.head? = some 48
      · rw [if_pos h0] at h2
        injection h2 with h2; injection h2 with _ h2
        rw [if_pos ((tkB_one 48 s1).2 h0), h2]
      · rw [if_neg h0] at h2
        rw [if_neg (fun e => h0 ((tkB_one 48 s1).1 e))]
        split at h2
        · cases h2
        · rename_i hne
          injection h2 with h2; injection h2 with _ h2
          rw [dgs_span hne, h2]
    rw [e2]
    simp only
    split at h
    · exact absurd rfl h
    · rename_i b s3 h3
      have e3 : (if tkB [46] s2 = true then dgs (List.drop 1 s2) else some s2) = some s3 := by
        unfold behind at h3
        by_cases h0 : s2.head? = some 46
        · rw [if_pos h0] at h3
          rw [if_pos ((tkB_one 46 s2).2 h0)]
          split at h3
          · cases h3
          · rename_i hne
            injection h3 with h3; injection h3 with _ h3
            rw [dgs_span hne, h3]
        · rw [if_neg h0] at h3
          rw [if_neg (fun e => h0 ((tkB_one 46 s2).1 e))]
          injection h3 with h3; injection h3 with _ h3
          rw [h3]
      rw [e3]
      simp only
      split at h
      · exact absurd rfl h
      · rename_i sg p s4 h4
        have hs4 : s4 = [] := by
          split at h
          · rename_i e; exact e
          · exact absurd rfl h
        subst hs4
        unfold power at h4
        by_cases h0 : s3.head? = some 101 ∨ s3.head? = some 69
        · rw [if_pos h0] at h4
          rw [if_pos ((tkB_two 101 69 s3).2 h0)]
          simp only at h4
          have e5 : (if (List.drop 1 s3).head? = some 45 ∨ (List.drop 1 s3).head? = some 43 then List.drop 1 (List.drop 1 s3) else List.drop 1 s3) = tkS [43, 45] (List.drop 1 s3) := by
            unfold tkS
            by_cases h5 : (List.drop 1 s3).head? = some 45 ∨ (List.drop 1 s3).head? = some 43
            · rw [if_pos h5, if_pos ((tkB_two 43 45 _).2 h5.symm)]
            · rw [if_neg h5, if_neg (fun e => h5 ((tkB_two 43 45 _).1 e).symm)]
          rw [e5] at h4
          split at h4
          · cases h4
          · rename_i hne
            injection h4 with h4; injection h4 with _ h4; injection h4 with _ h4
            rw [dgs_span hne, h4]
        · rw [if_neg h0] at h4
          rw [if_neg (fun e => h0 ((tkB_two 101 69 s3).1 e))]
          injection h4 with h4; injection h4 with _ h4; injection h4 with _ h4
          rw [h4]
theorem numEnd_head {s q : List UInt8} (h : numEnd s = some q) : ∃ b t, s = b :: t ∧ (b = 45 ∨ isDig b = true) := by
  cases s with
  | nil => cases h
  | cons b t =>
    refine ⟨b, t, rfl, ?_⟩
    by_cases h45 : b = 45
    · exact .inl h45
    · right
      unfold numEnd at h
      have e1 : tkS [45] (b :: t) = b :: t := by unfold tkS; rw [if_neg (by simp [tkB, h45])]
      simp only [e1] at h
      by_cases h48 : b = 48
      · subst h48; decide
      · rw [if_neg (by simp [tkB, h48])] at h
        cases hx : isDig b with
        | true => rfl
        | false =>
          have : dgs (b :: t) = none := by unfold dgs; simp [hx]
          rw [this] at h
          cases h
theorem isDig_nat {b : UInt8} (h : isDig b = true) : 48 ≤ b.toNat ∧ b.toNat ≤ 57 := by
  unfold isDig at h
  simpa using h
theorem numOk {d : Dec} (h : mayB d = true) : NumOk d := by
  have hm := (mayB_iff d).1 h
  obtain ⟨p1, p2⟩ := parse_text hm
  have e : txL d = textL d := by unfold txL; rw [if_pos h]
  have hp : parts (textL d) ≠ none := by
    intro hn
    unfold parseE at p2
    split at p2
    · cases p2
    · rw [hn] at p2; cases p2
  have hE := parts_end hp
  obtain ⟨b, t, hbt, hb⟩ := numEnd_head hE
  have hx : ∀ c : UInt8, c ≠ 45 → isDig c = false → b ≠ c := fun c h1 h2 e9 => by
    subst e9
    rcases hb with hb | hb
    · exact h1 hb
    · rw [h2] at hb; cases hb
  refine ⟨b, t, e.trans hbt, ?_, hx 34 (by decide) (by decide), hx 91 (by decide) (by decide), hx 123 (by decide) (by decide), hx 93 (by decide) (by decide), hx 110 (by decide) (by decide), hx 116 (by decide) (by decide), hx 102 (by decide) (by decide), by rw [e]; exact p1, by rw [e]; exact p2, fun r hr => by rw [e]; exact numEnd_app (noNum_end hr) hE⟩
  have g1 := hx 32 (by decide) (by decide)
  have g2 := hx 9 (by decide) (by decide)
  have g3 := hx 13 (by decide) (by decide)
  have g4 := hx 10 (by decide) (by decide)
  simp [isBlank, g1, g2, g3, g4]
theorem zB_iff {b : Bool} {d : Dec} {t : List UInt8} {n m : Nat} : zB b d t n m = true ↔ b = false ∧ d = Dec.zero ∧ t = [] ∧ n = 0 ∧ m = 0 := by
  obtain ⟨dn, dl, dx⟩ := d
  unfold zB Dec.zero
  simp only [Bool.and_eq_true, Bool.not_eq_true', decide_eq_true_eq, List.isEmpty_iff, Dec.mk.injEq]
  constructor
  · rintro ⟨⟨⟨⟨h1, ⟨h2, h3⟩, h4⟩, h5⟩, h6⟩, h7⟩; exact ⟨h1, ⟨h2, h3, h4⟩, h5, h6, h7⟩
  · rintro ⟨h1, ⟨h2, h3, h4⟩, h5, h6, h7⟩; exact ⟨⟨⟨⟨h1, ⟨h2, h3⟩, h4⟩, h5⟩, h6⟩, h7⟩
theorem foldl_addS_le : ∀ (ns S : List (List UInt8)), (ns.foldl addS S).length ≤ S.length + ns.length
  | [], S => by simp
  | l :: ns, S => by
    rw [List.foldl_cons]
    have := foldl_addS_le ns (addS S l)
    have h2 : (addS S l).length ≤ S.length + 1 := by unfold addS; split <;> simp
    simp only [List.length_cons]
    omega
theorem foldl_addS_nodup : ∀ (ns S : List (List UInt8)), (ns.foldl addS S).length = S.length + ns.length → ns.Nodup ∧ ∀ x ∈ ns, x ∉ S
  | [], S, _ => ⟨List.nodup_nil, fun x hx => by cases hx⟩
  | l :: ns, S, h => by
    rw [List.foldl_cons] at h
    have h1 := foldl_addS_le ns (addS S l)
    have hn : l ∉ S := fun hm => by
      have e : addS S l = S := by unfold addS; rw [if_pos (List.contains_iff_mem.2 hm)]
      rw [e] at h h1
      simp only [List.length_cons] at h
      omega
    have e : addS S l = S ++ [l] := by unfold addS; rw [if_neg (fun e => hn (List.contains_iff_mem.1 e))]
    rw [e] at h
    obtain ⟨h2, h3⟩ := foldl_addS_nodup ns (S ++ [l]) (by rw [h]; simp only [List.length_append, List.length_cons, List.length_nil]; omega)
    refine ⟨List.nodup_cons.2 ⟨fun hm => h3 l hm (by simp), h2⟩, fun x hx => ?_⟩
    rcases List.mem_cons.1 hx with rfl | hx
    · exact hn
    · exact fun hS => h3 x hx (List.mem_append.2 (.inl hS))
theorem foldl_addS_of : ∀ (ns S : List (List UInt8)), ns.Nodup → (∀ x ∈ ns, x ∉ S) → ns.foldl addS S = S ++ ns
  | [], S, _, _ => by simp
  | l :: ns, S, h, h2 => by
    obtain ⟨h3, h4⟩ := List.nodup_cons.1 h
    have e : addS S l = S ++ [l] := by unfold addS; rw [if_neg (fun e => h2 l List.mem_cons_self (List.contains_iff_mem.1 e))]
    rw [List.foldl_cons, e, foldl_addS_of ns _ h4 (fun x hx hm => by
      rcases List.mem_append.1 hm with hm | hm
      · exact h2 x (List.mem_cons_of_mem _ hx) hm
      · rw [List.mem_singleton.1 hm] at hx; exact h3 hx), List.append_assoc]
    rfl
theorem fitN_iff (ns : List (List UInt8)) : fitN ns = true ↔ (∀ x ∈ ns, Lib.validD x = true) ∧ ns.Nodup := by
  unfold fitN
  simp only [Bool.and_eq_true, List.all_eq_true, beq_iff_eq]
  constructor
  · rintro ⟨h1, h2⟩
    exact ⟨h1, (foldl_addS_nodup ns [] (by unfold setL at h2; rw [h2]; simp)).1⟩
  · rintro ⟨h1, h2⟩
    exact ⟨h1, by unfold setL; rw [foldl_addS_of ns [] h2 (by simp)]; simp⟩
/-! ### What Check lets pass, kind by kind -/
theorem ask_cases {k : Int} {b : Bool} {d : Dec} {t : List UInt8} {l : List JV} {ns : List (List UInt8)} (h : askJ (.mk k b d t l ns) = true) :
    (k = 0 ∧ b = false ∧ d = Dec.zero ∧ t = [] ∧ l = [] ∧ ns = []) ∨ (k = 1 ∧ d = Dec.zero ∧ t = [] ∧ l = [] ∧ ns = []) ∨
    (k = 2 ∧ b = false ∧ mayB d = true ∧ t = [] ∧ l = [] ∧ ns = []) ∨ (k = 3 ∧ b = false ∧ d = Dec.zero ∧ Lib.validD t = true ∧ l = [] ∧ ns = []) ∨
    (k = 4 ∧ b = false ∧ d = Dec.zero ∧ t = [] ∧ ns = [] ∧ askKids l = true) ∨
    (k = 5 ∧ b = false ∧ d = Dec.zero ∧ t = [] ∧ ns.length = l.length ∧ ns.Nodup ∧ (∀ x ∈ ns, Lib.validD x = true) ∧ askKids l = true) := by
  rw [askJ] at h
  split at h
  · rename_i e
    obtain ⟨h1, h2, h3, h4, h5⟩ := zB_iff.1 h
    exact .inl ⟨e, h1, h2, h3, List.eq_nil_of_length_eq_zero h4, List.eq_nil_of_length_eq_zero h5⟩
  · split at h
    · rename_i e
      obtain ⟨_, h2, h3, h4, h5⟩ := zB_iff.1 h
      exact .inr (.inl ⟨e, h2, h3, List.eq_nil_of_length_eq_zero h4, List.eq_nil_of_length_eq_zero h5⟩)
    · split at h
      · rename_i e
        rw [Bool.and_eq_true, beq_iff_eq] at h
        obtain ⟨h1, _, h3, h4, h5⟩ := zB_iff.1 h.2
        have hm : mayB d = true := by
          have := h.1
          unfold checkE at this
          split at this
          · assumption
          · cases this
        exact .inr (.inr (.inl ⟨e, h1, hm, h3, List.eq_nil_of_length_eq_zero h4, List.eq_nil_of_length_eq_zero h5⟩))
      · split at h
        · rename_i e
          rw [Bool.and_eq_true] at h
          obtain ⟨h1, h2, _, h4, h5⟩ := zB_iff.1 h.2
          exact .inr (.inr (.inr (.inl ⟨e, h1, h2, h.1, List.eq_nil_of_length_eq_zero h4, List.eq_nil_of_length_eq_zero h5⟩)))
        · split at h
          · rename_i e
            rw [Bool.and_eq_true] at h
            obtain ⟨h1, h2, h3, _, h5⟩ := zB_iff.1 h.2
            exact .inr (.inr (.inr (.inr (.inl ⟨e, h1, h2, h3, List.eq_nil_of_length_eq_zero h5, h.1⟩))))
          · split at h
            · rename_i e
              simp only [Bool.and_eq_true, beq_iff_eq] at h
              obtain ⟨h1, h2, h3, _, _⟩ := zB_iff.1 h.2
              obtain ⟨h5, h6⟩ := (fitN_iff ns).1 h.1.1.2
              exact .inr (.inr (.inr (.inr (.inr ⟨e, h1, h2, h3, h.1.1.1, h6, h5, h.1.2⟩))))
            · cases h
theorem askKids_mem : ∀ {l : List JV}, askKids l = true ↔ ∀ x ∈ l, askJ x = true
  | [] => by rw [askKids]; simp
  | y :: l => by
    rw [askKids, Bool.and_eq_true, askKids_mem (l := l)]
    simp
theorem mayKids_of : ∀ {l : List JV}, (∀ x ∈ l, MayJ x) → MayKids l
  | [], _ => by unfold MayKids; trivial
  | y :: l, h => by unfold MayKids; exact ⟨h y List.mem_cons_self, mayKids_of fun x hx => h x (List.mem_cons_of_mem _ hx)⟩
theorem ask_may : ∀ (n : Nat) (v : JV), SizeOf.sizeOf v ≤ n → askJ v = true → MayJ v := by
  intro n
  induction n with
  | zero => intro v hv; cases v; simp at hv
  | succ n ih =>
    intro v hv h
    obtain ⟨k, b, d, t, l, ns⟩ := v
    have hk : askKids l = true → MayKids l := fun hk => mayKids_of fun x hx => ih x (by
      have := List.sizeOf_lt_of_mem hx
      simp only [JV.mk.sizeOf_spec] at hv
      omega) (askKids_mem.1 hk x hx)
    unfold MayJ
    rcases ask_cases h with ⟨rfl, h1⟩ | ⟨rfl, h1⟩ | ⟨rfl, h1, h2, h3⟩ | ⟨rfl, h1, h2, _, h3⟩ | ⟨rfl, h1, h2, h3, h4, h5⟩ | ⟨rfl, h1, h2, h3, h4, h5, _, h6⟩
    · exact .inl ⟨rfl, h1⟩
    · exact .inr (.inl ⟨rfl, h1⟩)
    · exact .inr (.inr (.inl ⟨rfl, h1, numOk h2, h3⟩))
    · exact .inr (.inr (.inr (.inl ⟨rfl, h1, h2, h3⟩)))
    · exact .inr (.inr (.inr (.inr (.inl ⟨rfl, h1, h2, h3, h4, hk h5⟩))))
    · exact .inr (.inr (.inr (.inr (.inr ⟨rfl, h1, h2, h3, h4, h5, hk h6⟩))))
/-! ### Its text is UTF-8 -/
theorem digs_low {l : List UInt8} (h : Digs l) : ∀ b ∈ l, b.toNat < 128 := fun b hb => by have := isDig_nat (h b hb); omega
theorem itoa_low (q : Int) : ∀ b ∈ Lib.itoa q, b.toNat < 128 := by
  unfold Lib.itoa
  split
  · intro b hb
    rcases List.mem_cons.1 hb with rfl | hb
    · decide
    · exact digs_low (decDigits_digs _) b hb
  · exact digs_low (decDigits_digs _)
theorem bodyL_low {l : List UInt8} (h : Digs l) (e : Int) : ∀ b ∈ bodyL l e, b.toNat < 128 := by
  have hz : ∀ k, ∀ b ∈ zeros k, b.toNat < 128 := fun k b hb => by rw [List.eq_of_mem_replicate hb]; decide
  have hl := digs_low h
  unfold bodyL
  simp only
  split
  · intro b hb
    rcases List.mem_append.1 hb with hb | hb
    · exact hl b hb
    · exact hz _ b hb
  · split
    · intro b hb
      rcases List.mem_append.1 hb with hb | hb
      · exact hl b (List.mem_of_mem_take hb)
      · rcases List.mem_cons.1 hb with rfl | hb
        · decide
        · exact hl b (List.mem_of_mem_drop hb)
    · split
      · intro b hb
        rcases List.mem_cons.1 hb with rfl | hb
        · decide
        · rcases List.mem_cons.1 hb with rfl | hb
          · decide
          · rcases List.mem_append.1 hb with hb | hb
            · exact hz _ b hb
            · exact hl b hb
      · intro b hb
        rcases List.mem_append.1 hb with hb | hb
        · exact hl b (List.mem_of_mem_take hb)
        · rcases List.mem_append.1 hb with hb | hb
          · split at hb
            · rcases List.mem_cons.1 hb with rfl | hb
              · decide
              · exact hl b (List.mem_of_mem_drop hb)
            · cases hb
          · rcases List.mem_cons.1 hb with rfl | hb
            · decide
            · exact itoa_low _ b hb
theorem txL_low (d : Dec) : ∀ b ∈ txL d, b.toNat < 128 := by
  unfold txL
  split
  · rename_i h
    have hm := (mayB_iff d).1 h
    unfold textL
    split
    · intro b hb; rw [List.mem_singleton.1 hb]; decide
    · intro b hb
      rcases List.mem_append.1 hb with hb | hb
      · split at hb
        · rw [List.mem_singleton.1 hb]; decide
        · cases hb
      · exact bodyL_low hm.digs _ b hb
  · intro b hb; cases hb
theorem kids_valid (k : Int) : ∀ (l : List JV) (i : Nat) (ns : List (List UInt8)), (∀ x ∈ l, Lib.validD (tellJ x) = true) → (∀ x ∈ ns, Lib.validD x = true) → Lib.validD (tellKids k i l ns) = true
  | [], _, _, _, _ => by rw [tellKids]; rfl
  | x :: l, i, ns, h, hn => by
    rw [tellKids]
    refine valid_and (valid_and (valid_and ?_ ?_) (h x List.mem_cons_self)) (kids_valid k l (i + 1) ns.tail (fun y hy => h y (List.mem_cons_of_mem _ hy)) (fun y hy => hn y (List.mem_of_mem_tail hy)))
    · split
      · rfl
      · exact valid_ascii (fun b hb => by rw [List.mem_singleton.1 hb]; decide)
    · split
      · refine valid_and (valid_quote ?_) (valid_ascii (fun b hb => by rw [List.mem_singleton.1 hb]; decide))
        cases ns with
        | nil => rfl
        | cons y ns => exact hn y List.mem_cons_self
      · rfl
theorem tell_valid : ∀ (n : Nat) (v : JV), SizeOf.sizeOf v ≤ n → askJ v = true → Lib.validD (tellJ v) = true := by
  intro n
  induction n with
  | zero => intro v hv; cases v; simp at hv
  | succ n ih =>
    intro v hv h
    obtain ⟨k, b, d, t, l, ns⟩ := v
    have hk : askKids l = true → ∀ x ∈ l, Lib.validD (tellJ x) = true := fun hk x hx => ih x (by
      have := List.sizeOf_lt_of_mem hx
      simp only [JV.mk.sizeOf_spec] at hv
      omega) (askKids_mem.1 hk x hx)
    have lo : ∀ c : UInt8, c.toNat < 128 → Lib.validD [c] = true := fun c hc => valid_ascii (fun b hb => by rw [List.mem_singleton.1 hb]; exact hc)
    unfold tellJ
    rcases ask_cases h with ⟨rfl, h1⟩ | ⟨rfl, h1⟩ | ⟨rfl, h1, h2, h3⟩ | ⟨rfl, h1, h2, h9, h3⟩ | ⟨rfl, h1, h2, h3, h4, h5⟩ | ⟨rfl, h1, h2, h3, h4, h5, h7, h6⟩
    · rw [if_pos rfl]; decide
    · rw [if_neg (by decide), if_pos rfl]; cases b <;> decide
    · rw [if_neg (by decide), if_neg (by decide), if_pos rfl]; exact valid_ascii (txL_low d)
    · rw [if_neg (by decide), if_neg (by decide), if_neg (by decide), if_pos rfl]; exact valid_quote h9
    · rw [if_neg (by decide), if_neg (by decide), if_neg (by decide), if_neg (by decide), if_pos rfl]
      exact valid_and (valid_and (lo 91 (by decide)) (kids_valid 4 l 0 [] (hk h5) (by simp))) (lo 93 (by decide))
    · rw [if_neg (by decide), if_neg (by decide), if_neg (by decide), if_neg (by decide), if_neg (by decide)]
      exact valid_and (valid_and (lo 123 (by decide)) (kids_valid 5 l 0 ns (hk h6) h7)) (lo 125 (by decide))
/-- What Check lets pass is read as it is told. -/
theorem check_parts {v : JV} (h : checkJ v = 0) : askJ v = true ∧ depthJ v ≤ 64 ∧ (tellJ v).length ≤ 1048576 := by
  unfold checkJ at h
  split at h
  · cases h
  · rename_i ha
    split at h
    · cases h
    · split at h
      · cases h
      · exact ⟨by simpa using ha, by omega, by omega⟩
theorem tell_parse {v : JV} (h : checkJ v = 0) : parseJ (Lib.validD (tellJ v)) (tellJ v) = (v, 0) := by
  obtain ⟨h1, h2, h3⟩ := check_parts h
  rw [tell_valid _ v (Nat.le_refl _) h1]
  refine okR _ _ ?_ h3 h3
  have h4 := reads_all _ v (Nat.le_refl _) (ask_may _ v (Nat.le_refl _) h1) [] fl0 [] (.inl rfl) (by simpa using h2)
  rw [List.append_nil] at h4
  rw [h4]
  exact (runJ_behind0 _ _ _).trans (by kernel_rfl)
end Go.Proofs.YtfdodndagakmmaaGreatDoor
