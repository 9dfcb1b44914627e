/- Layer 8: pure: a text in quotes is UTF-8, and read as it was. -/
import Derived.Test.YtjckojedafajeaaGreatDoorPt49
import Derived.Test.YtjckojedafajeaaGreatDoorPt51
import Derived.Lib.ValidLaws
import Derived.Lib.TrimUEq
import Derived.Test.YtjckojedafajeaaGreatDoorPt41
import Derived.Lib.LaidU8
namespace Go.Proofs.YtjckojedafajeaaGreatDoor
open Go.RowKit
theorem decodeN_pre {n n' b0 b1 b2 b3 c1 c2 c3 x k : Nat} (h : Lib.decodeN n b0 b1 b2 b3 = (x, k)) (hx : ¬ (x = 65533 ∧ k = 1)) (hn : k ≤ n') (h1 : 1 < k → c1 = b1) (h2 : 2 < k → c2 = b2) (h3 : 3 < k → c3 = b3) : Lib.decodeN n' b0 c1 c2 c3 = (x, k) := by
  unfold Lib.decodeN at h
  split at h
  · rename_i g
    unfold Lib.decodeN
    rw [if_pos g]; exact h
  · rename_i g
    split at h
    · rename_i g2
      split at h
      · rename_i g3
        injection h with e1 e2
        subst e2
        obtain rfl := h1 (by omega)
        unfold Lib.decodeN
        rw [if_neg g, if_pos ⟨g2.1, by omega, g2.2.2⟩, if_pos g3, e1]
      · injection h with e1 e2; exact absurd ⟨e1.symm, e2.symm⟩ hx
    · rename_i g2
      split at h
      · rename_i g3
        split at h
        · rename_i g4
          injection h with e1 e2
          subst e2
          obtain rfl := h1 (by omega)
          obtain rfl := h2 (by omega)
          unfold Lib.decodeN
          rw [if_neg g, if_neg (fun q => by omega), if_pos ⟨g3.1, ⟨by omega, g3.2.1.2⟩, by omega, g3.2.2.2⟩, if_pos g4, e1]
        · injection h with e1 e2; exact absurd ⟨e1.symm, e2.symm⟩ hx
      · rename_i g3
        split at h
        · rename_i g4
          split at h
          · rename_i g5
            injection h with e1 e2
            subst e2
            obtain rfl := h1 (by omega)
            obtain rfl := h2 (by omega)
            obtain rfl := h3 (by omega)
            unfold Lib.decodeN
            rw [if_neg g, if_neg (fun q => by omega), if_neg (fun q => by omega), if_pos ⟨g4.1, ⟨by omega, g4.2.1.2⟩, ⟨by omega, g4.2.2.1.2⟩, by omega, g4.2.2.2.2⟩, if_pos g5, e1]
          · injection h with e1 e2; exact absurd ⟨e1.symm, e2.symm⟩ hx
        · injection h with e1 e2; exact absurd ⟨e1.symm, e2.symm⟩ hx
theorem escL_low : ∀ b : Fin 256, b.val < 128 → ∀ x ∈ escL (UInt8.ofNat b.val), x.toNat < 128 := by decide +kernel
theorem escL_at {b : UInt8} (h : b.toNat < 128) : ∀ x ∈ escL b, x.toNat < 128 := by
  have := escL_low ⟨b.toNat, b.toNat_lt⟩ h
  simpa only [UInt8.ofNat_toNat] using this
theorem esc_high : ∀ (l : List UInt8), (∀ b ∈ l, 128 ≤ b.toNat) → l.flatMap escL = l
  | [], _ => rfl
  | b :: t, h => by
    have hb := h b List.mem_cons_self
    rw [List.flatMap_cons, esc_high t (fun x hx => h x (List.mem_cons_of_mem _ hx)), escL_plain ⟨by omega, fun e => by subst e; exact absurd hb (by decide), fun e => by subst e; exact absurd hb (by decide)⟩]
    rfl
theorem valid_esc : ∀ (n : Nat) (s : List UInt8), s.length ≤ n → Lib.validD s = true → Lib.validD (s.flatMap escL ++ [34]) = true := by
  intro n
  induction n with
  | zero => intro s h _; obtain rfl : s = [] := List.eq_nil_of_length_eq_zero (by omega); decide
  | succ n ih =>
    intro s hs hv
    cases s with
    | nil => decide
    | cons b t =>
      by_cases hb : b.toNat < 128
      · rw [Lib.validD_cons b t hb] at hv
        have h1 := ih t (by simpa using hs) hv
        rw [List.flatMap_cons, List.append_assoc, Lib.validD_ascii (escL b).length _ (by rw [List.take_left']; exact escL_at hb; rfl), List.drop_left']
        · exact h1
        · rfl
      · have hne : b :: t ≠ [] := by simp
        have hst := Lib.validD_step (b :: t) hne
        rw [hv] at hst
        have hd := dec_bs (b :: t) 0 (by simp)
        have e : Utf8.decode (bs (b :: t)) 0 = Lib.decodeL (b :: t) := rfl
        rw [e] at hd
        by_cases hbad : (Lib.decodeL (b :: t)).1 = 65533 ∧ (Lib.decodeL (b :: t)).2 = 1
        · rw [if_pos hbad] at hst; cases hst
        · rw [if_neg hbad] at hst
          rcases hd with ⟨h1, _⟩ | ⟨_, _, _, hk1, hk⟩
          · exact absurd h1 hb
          · obtain ⟨q, hq⟩ : ∃ q, q = Lib.decodeL (b :: t) := ⟨_, rfl⟩
            rw [← hq] at hst hk hk1 hbad
            obtain ⟨x, k⟩ := q
            simp only at hst hk hk1 hbad
            obtain ⟨s, hS⟩ : ∃ s, s = b :: t := ⟨_, rfl⟩
            rw [← hS] at hst hk hq hs ⊢
            have hkl : k ≤ s.length := by have := (hk (k - 1) (by omega)).1; omega
            have hhi : ∀ y ∈ s.take k, 128 ≤ y.toNat := by
              intro y hy
              obtain ⟨j, hj, rfl⟩ := List.getElem_of_mem hy
              rw [List.length_take] at hj
              have := (hk j (by omega)).2
              rw [Nat.zero_add] at this
              simpa [List.getD_eq_getElem?_getD, (by omega : j < s.length)] using this
            have hfl : s.flatMap escL ++ [34] = s.take k ++ ((s.drop k).flatMap escL ++ [34]) := by
              conv => lhs; rw [← List.take_append_drop k s]
              rw [List.flatMap_append, esc_high _ hhi, List.append_assoc]
            have h1 := ih (s.drop k) (by rw [List.length_drop]; omega) hst.symm
            obtain ⟨L, hL⟩ : ∃ L, L = s.take k ++ ((s.drop k).flatMap escL ++ [34]) := ⟨_, rfl⟩
            have hg : ∀ j, j < k → L.getD j 0 = s.getD j 0 := fun j hj => by
              have h5 : j < (s.take k).length := by rw [List.length_take]; omega
              rw [hL, List.getD_eq_getElem?_getD, List.getElem?_append_left h5, List.getElem?_take, if_pos hj, List.getD_eq_getElem?_getD]
            have hLl : k ≤ L.length := by rw [hL, List.length_append, List.length_take]; omega
            have hdL : Lib.decodeL L = (x, k) := by
              rw [Lib.decodeL_N] at hq ⊢
              rw [hg 0 (by omega)]
              exact decodeN_pre hq.symm hbad hLl (fun h => by rw [hg 1 h]) (fun h => by rw [hg 2 h]) (fun h => by rw [hg 3 h])
            rw [hfl, ← hL, Lib.validD_step L (by intro e; rw [e] at hLl; simp at hLl; omega), hdL, if_neg hbad]
            simp only
            rw [hL, List.drop_left' (by rw [List.length_take]; omega)]
            exact h1
theorem valid_quote {s : List UInt8} (h : Lib.validD s = true) : Lib.validD (quoteL s) = true := by
  unfold quoteL
  rw [List.append_assoc]
  show Lib.validD (34 :: (s.flatMap escL ++ [34])) = true
  rw [Lib.validD_cons _ _ (by decide)]
  exact valid_esc _ s (Nat.le_refl _) h
theorem quote_run (s : List UInt8) : runJ .value [] fl0 (quoteL s) = some (.mk 3 false Dec.zero s [] [], fl0) := by
  have h1 := reads_all _ (.mk 3 false Dec.zero s [] []) (Nat.le_refl _) (by unfold MayJ; exact .inr (.inr (.inr (.inl ⟨rfl, rfl, rfl, rfl, rfl⟩)))) [] fl0 [] (.inl rfl) (by unfold depthJ; simp)
  rw [List.append_nil] at h1
  have e : tellJ (.mk 3 false Dec.zero s [] []) = quoteL s := rfl
  rw [e] at h1
  rw [h1]
  exact (runJ_behind0 _ _ _).trans (by kernel_rfl)
theorem quote_parse {s : List UInt8} (h : s.length ≤ 20000) : parseJ true (quoteL s) = (.mk 3 false Dec.zero s [] [], 0) := by
  have h2 := quoteL_le s
  exact okR _ _ (quote_run s) (by omega) (by show (quoteL s).length ≤ _; omega)
end Go.Proofs.YtjckojedafajeaaGreatDoor
/- Layer 8: what a row's condition says of the library's tables. -/
namespace Go.Proofs.YtjckojedafajeaaGreatDoor
open Go.RowKit Go.Lib
theorem pow_of_reads {W : World} (h : VarReads Tryz.prog W "internal/strconv.uint64pow10" (Lib.tabData .u64 Lib.pow10Tab)) : PowTab W := by
  obtain ⟨g, t, cs, fuel, p, hg, ht, hv, hd⟩ := h
  obtain rfl := Option.some.inj ((show Tryz.prog.globalNamed "internal/strconv.uint64pow10" = some 5 by kernel_rfl).symm.trans hg)
  obtain rfl := Option.some.inj ((show (Tryz.prog.globals[5]?).map (·.type) = some 199 by kernel_rfl).symm.trans ht)
  have h9 := Lib.cells_of_tab Tryz.underlying199 Tryz.underlying115 (by kernel_rfl) (by kernel_rfl) hd
  unfold PowTab Lib.TabIs
  rw [hv, ← h9]
theorem u8_of_reads {w : World} (h3 : VarReads Tryz.prog w "unicode/utf8.first" firstData) (h4 : VarReads Tryz.prog w "unicode/utf8.acceptRanges" acceptData) : Lib.Utf8Tabs 0 1 w := by
  refine ⟨fun c hc => ?_, fun i hi => ?_⟩
  · obtain ⟨g, t, cs, fuel, p, hg, hty, hvar, hd⟩ := h3
    obtain rfl := Option.some.inj ((show Tryz.prog.globalNamed "unicode/utf8.first" = some 0 by kernel_rfl).symm.trans hg)
    obtain rfl := Option.some.inj ((show (Tryz.prog.globals[0]?).map (·.type) = some 89 by kernel_rfl).symm.trans hty)
    have hcs := cells_of_tab Tryz.underlying89 Tryz.underlying5 (by kernel_rfl) (by kernel_rfl) hd
    have := World.var?_cell hg hvar c
    rw [this, ← Array.getElem?_toList, hcs]
    simp [firstTab, hc]
  · obtain ⟨g, t, cs, fuel, p, hg, hty, hvar, hd⟩ := h4
    obtain rfl := Option.some.inj ((show Tryz.prog.globalNamed "unicode/utf8.acceptRanges" = some 1 by kernel_rfl).symm.trans hg)
    obtain rfl := Option.some.inj ((show (Tryz.prog.globals[1]?).map (·.type) = some 92 by kernel_rfl).symm.trans hty)
    obtain ⟨fuel', d, q, hdi, he⟩ := array_elem Tryz.underlying92 hd i hi
    simp only [List.getElem?_map, List.getElem?_range hi, Option.map_some, Option.some.injEq] at hdi
    subst hdi
    have c2 : Tryz.prog.cellsOf 91 = 2 := by kernel_rfl
    have c1 : Tryz.prog.cellsOf 5 = 1 := by kernel_rfl
    rw [c2] at he
    have hcs := ints_of_struct Tryz.underlying91 (fun j f hj => by
      match j, hj with
      | 0, hj => simp at hj; subst hj; exact ⟨Tryz.underlying5, rfl, c1⟩
      | 1, hj => simp at hj; subst hj; exact ⟨Tryz.underlying5, rfl, c1⟩
      | j + 2, hj => simp at hj) (by rw [c2]; rfl) he
    have e0 := congrArg (·[0]?) hcs
    have e1 := congrArg (·[1]?) hcs
    simp only [List.getElem?_take, List.getElem?_drop] at e0 e1
    constructor
    · rw [World.var?_cell hg hvar (2 * i), ← Array.getElem?_toList]
      simpa [Nat.mul_comm] using e0
    · rw [World.var?_cell hg hvar (2 * i + 1), ← Array.getElem?_toList]
      simpa [Nat.mul_comm] using e1
end Go.Proofs.YtjckojedafajeaaGreatDoor
