/- Layer 3, pure: what a disk holds where a log lies, torn sectors among it; what a crash leaves of that. -/
import Derived.Test.YtljlkmmeedlaiaaDoorPt40
import Derived.Test.YtljlkmmeedlaiaaDoorPt21
import Derived.Shelf.Spec.TrailingZeros
import Derived.Lib.BitFns
import Derived.Lib.Small
import Derived.Lib.Walk
namespace Go.Proofs.YtljlkmmeedlaiaaDoor

theorem bodyFrom_nil (f : Int → List Nat) (a : Int) {N o : Nat} (h : N ≤ o) : bodyFrom f a N o = [] := by
  unfold bodyFrom
  rw [show N - o = 0 by omega]
  rfl
theorem bodyFrom_cons (f : Int → List Nat) (a : Int) {N o : Nat} (h : o < N) : bodyFrom f a N o = f (a + (o : Int)) :: bodyFrom f a N (o + 1) := by
  unfold bodyFrom
  rw [show N - o = (N - (o + 1)) + 1 by omega, List.range'_succ, List.map_cons]
theorem beginS_bs (c : Sc) (s : List Nat) : (beginS c s).bs = c.bs ∧ (beginS c s).used = c.used := by
  unfold beginS
  split <;> exact ⟨rfl, rfl⟩
theorem partS_cases (c : Sc) (s : List Nat) : (c.left - min c.left 488 = 0 ∧ (partS c s).bs.length = c.bs.length + 1) ∨ (0 < c.left - min c.left 488 ∧ (partS c s).bs = c.bs ∧ (partS c s).used = c.used ∧ (partS c s).run = c.run ∧ (partS c s).left = c.left - min c.left 488) := by
  unfold partS
  simp only []
  split
  · next h => exact .inl ⟨h, by simp⟩
  · next h => exact .inr ⟨by omega, rfl, rfl, rfl, rfl⟩
/-- Batches are only added. -/
theorem scan_grow (B : Nat) : ∀ (l : List (List Nat)) (c : Sc), c.bs.length ≤ (scan B c l).bs.length ∧ ((scan B c l).bs.length = c.bs.length → (scan B c l).bs = c.bs ∧ (scan B c l).used = c.used)
  | [], c => ⟨Nat.le_refl _, fun _ => ⟨rfl, rfl⟩⟩
  | s :: l, c => by
    show _ ≤ (if stopsB B c s then c else scan B (partS (beginS c s) s) l).bs.length ∧ ((if stopsB B c s then c else scan B (partS (beginS c s) s) l).bs.length = _ → (if stopsB B c s then c else scan B (partS (beginS c s) s) l).bs = _ ∧ (if stopsB B c s then c else scan B (partS (beginS c s) s) l).used = _)
    split
    · exact ⟨Nat.le_refl _, fun _ => ⟨rfl, rfl⟩⟩
    · obtain ⟨h1, h2⟩ := scan_grow B l (partS (beginS c s) s)
      obtain ⟨b1, b2⟩ := beginS_bs c s
      rcases partS_cases (beginS c s) s with ⟨_, h3⟩ | ⟨_, h3, h4, _⟩
      · rw [b1] at h3
        exact ⟨by omega, fun h => by omega⟩
      · rw [h3, b1] at h1 h2
        rw [h4, b2] at h2
        exact ⟨h1, h2⟩
/-- Nothing more is read from a place on. -/
def Quiet (f : Int → List Nat) (a : Int) (B N o p : Nat) : Prop := ∀ c : Sc, c.left = 0 → c.place = o → c.run = p → (scan B c (bodyFrom f a N o)).bs.length = c.bs.length
theorem scan_cons_stop {B : Nat} {c : Sc} {s : List Nat} {l : List (List Nat)} (h : stopsB B c s = true) : scan B c (s :: l) = c := by
  show (if stopsB B c s then c else _) = c
  rw [if_pos h]
theorem scan_cons_go {B : Nat} {c : Sc} {s : List Nat} {l : List (List Nat)} (h : stopsB B c s = false) : scan B c (s :: l) = scan B (partS (beginS c s) s) l := by
  show (if stopsB B c s then c else _) = _
  rw [if_neg (by rw [h]; decide)]
theorem stopsB_count {B : Nat} {c : Sc} {s : List Nat} {j : Nat} (hp : c.place = j) (h : countsB B s j = false) : stopsB B c s = true := by
  unfold stopsB
  rw [hp, h]
  rfl
theorem counts_of_go {B : Nat} {c : Sc} {s : List Nat} (h : stopsB B c s = false) : countsB B s c.place = true ∧ (0 < c.left → runL s = c.run) ∧ c.run ≤ runL s := by
  unfold stopsB at h
  rw [Bool.or_eq_false_iff, Bool.or_eq_false_iff] at h
  obtain ⟨⟨h1, h2⟩, h3⟩ := h
  refine ⟨by simpa using h1, fun h0 => ?_, ?_⟩
  · rw [Bool.and_eq_false_iff] at h2
    rcases h2 with h2 | h2
    · have := of_decide_eq_false h2; omega
    · have := of_decide_eq_false h2; omega
  · have := of_decide_eq_false h3; omega
theorem counts_runs {B : Nat} {s : List Nat} {j : Nat} (h : countsB B s j = true) : runL s = runL (s.drop 500) ∧ B ≤ runL s := by
  unfold countsB at h
  obtain ⟨e1, _, _, e4⟩ := of_decide_eq_true h
  exact ⟨e1, e4⟩
theorem quiet_fresh {f : Int → List Nat} {a : Int} {B N o p : Nat} (h : ∀ j, o ≤ j → j < N → runL ((f (a + (j : Int))).drop 500) < p) : Quiet f a B N o p := by
  intro c h0 h1 h2
  rcases Nat.lt_or_ge o N with hN | hN
  · rw [bodyFrom_cons f a hN]
    rcases hs : stopsB B c (f (a + (o : Int))) with _ | _
    · obtain ⟨g1, _, g3⟩ := counts_of_go hs
      have g4 := (counts_runs g1).1
      have := h o (Nat.le_refl _) hN
      omega
    · rw [scan_cons_stop hs]
  · rw [bodyFrom_nil f a hN]
    rfl
theorem quiet_dead {f : Int → List Nat} {a : Int} {B N o p : Nat} (h : ∀ j, o ≤ j → j < N → runL ((f (a + (j : Int))).drop 500) < B) : Quiet f a B N o p := by
  intro c h0 h1 h2
  rcases Nat.lt_or_ge o N with hN | hN
  · rw [bodyFrom_cons f a hN]
    rcases hs : stopsB B c (f (a + (o : Int))) with _ | _
    · obtain ⟨g1, _, g3⟩ := counts_of_go hs
      obtain ⟨g4, g5⟩ := counts_runs g1
      have := h o (Nat.le_refl _) hN
      omega
    · rw [scan_cons_stop hs]
  · rw [bodyFrom_nil f a hN]
    rfl
theorem Quiet.keep {f g : Int → List Nat} {a : Int} {B N o p : Nat} (h : Quiet f a B N o p) (hg : ∀ j, o ≤ j → j < N → g (a + (j : Int)) = f (a + (j : Int))) : Quiet g a B N o p := by
  have e : bodyFrom g a N o = bodyFrom f a N o := by
    unfold bodyFrom
    refine List.map_congr_left fun j hj => ?_
    obtain ⟨h1, h2⟩ := List.mem_range'_1.1 hj
    exact hg j h1 (by omega)
  intro c h0 h1 h2
  rw [e]
  exact h c h0 h1 h2
/-- A batch of old sectors is under way: it is not read to its end where it wasn't. -/
theorem quiet_old {f g : Int → List Nat} {a : Int} {B R N : Nat} : ∀ (k j : Nat) (c : Sc), N - j = k → c.place = j → 0 < c.left → c.run < R → (∀ j', j ≤ j' → j' < N → g (a + (j' : Int)) = f (a + (j' : Int)) ∨ runL (g (a + (j' : Int))) = R ∨ countsB B (g (a + (j' : Int))) j' = false) →
    (scan B c (bodyFrom f a N j)).bs.length = c.bs.length → (scan B c (bodyFrom g a N j)).bs.length = c.bs.length := by
  intro k
  induction k with
  | zero =>
    intro j c hk _ _ _ _ _
    rw [bodyFrom_nil g a (by omega)]
    rfl
  | succ k ih =>
    intro j c hk hp hl hr hg hq
    have hN : j < N := by omega
    rw [bodyFrom_cons g a hN]
    rcases hg j (Nat.le_refl _) hN with e | e | e
    · rw [bodyFrom_cons f a hN] at hq
      rw [e]
      generalize f (a + (j : Int)) = s at hq ⊢
      rcases hs : stopsB B c s with _ | _
      · rw [scan_cons_go hs] at hq ⊢
        have hb : beginS c s = c := by unfold beginS; rw [if_neg (by omega)]
        rw [hb] at hq ⊢
        have h1 := (scan_grow B (bodyFrom f a N (j + 1)) (partS c s)).1
        rcases partS_cases c s with ⟨_, h3⟩ | ⟨h2, h3, _, h5, h6⟩
        · omega
        · have h9 := ih (j + 1) (partS c s) (by omega) (by rw [partS_place, hp]) (by omega) (by omega) (fun j' a1 a2 => hg j' (by omega) a2)
          rw [h3] at h9
          exact h9 hq
      · rw [scan_cons_stop hs]
    · rw [scan_cons_stop]
      rcases hs : stopsB B c (g (a + (j : Int))) with _ | _
      · have := (counts_of_go hs).2.1 hl
        omega
      · rfl
    · rw [scan_cons_stop (stopsB_count hp e)]
/-- A new batch is under way, of which a sector is not there. -/
theorem quiet_new {f g : Int → List Nat} {a : Int} {B R N o m : Nat} {b : List Nat} (hm : m = costN b.length) (hN : o + m ≤ N)
    (hg : ∀ j, j < m → g (a + ((o + j : Nat) : Int)) = f (a + ((o + j : Nat) : Int)) ∨ g (a + ((o + j : Nat) : Int)) = cutS R o b j ∨ countsB B (g (a + ((o + j : Nat) : Int))) (o + j) = false)
    (hf : ∀ j, o ≤ j → j < N → runL ((f (a + (j : Int))).drop 500) < R) :
    ∀ (k i : Nat) (c : Sc), m - i = k → c.place = o + i → c.run = R → c.left = b.length + 4 - i * 488 → i < m → (∃ j, i ≤ j ∧ j < m ∧ g (a + ((o + j : Nat) : Int)) ≠ cutS R o b j) → (scan B c (bodyFrom g a N (o + i))).bs.length = c.bs.length := by
  intro k
  induction k with
  | zero => intro i c hk _ _ _ hi; omega
  | succ k ih =>
    intro i c hk hp hr hl hi ⟨j, h1, h2, h3⟩
    have hl0 : 0 < c.left := by rw [hl]; unfold costN at hm; omega
    rw [bodyFrom_cons g a (by omega)]
    have hgi := hg i hi
    rcases hs : stopsB B c (g (a + ((o + i : Nat) : Int))) with _ | _
    · obtain ⟨g1, g2, _⟩ := counts_of_go hs
      rcases hgi with e | e | e
      · have g4 := (counts_runs g1).1
        have := hf (o + i) (by omega) (by omega)
        have := g2 hl0
        rw [e] at *
        omega
      · have hij : i ≠ j := fun h => h3 (by subst h; exact e)
        have hb : beginS c (g (a + ((o + i : Nat) : Int))) = c := by unfold beginS; rw [if_neg (by omega)]
        rw [scan_cons_go hs, hb]
        rcases partS_cases c (g (a + ((o + i : Nat) : Int))) with ⟨h5, _⟩ | ⟨_, h6, _, h7, h8⟩
        · exfalso
          unfold costN at hm
          omega
        · have h9 := ih (i + 1) (partS c (g (a + ((o + i : Nat) : Int)))) (by omega) (by rw [partS_place, hp, Nat.add_assoc]) (by omega) (by unfold costN at hm; omega) (by omega) ⟨j, by omega, h2, h3⟩
          rw [h6] at h9
          exact h9
      · rw [hp, e] at g1
        cases g1
    · rw [scan_cons_stop hs]
theorem begin_len {r o : Nat} {b : List Nat} (hb : b.length < 4294967296) : le (((cutS r o b 0).drop 12).take 4) = b.length := by
  have hbl := batchL_len b
  unfold cutS
  rw [secL_part (partL_le _ _) (by rw [partL_len]; omega)]
  have h1 : (partL (batchL b) 0).take 4 = leB 4 b.length := by
    unfold partL
    rw [Nat.zero_mul, List.drop_zero, List.take_take, show min 4 488 = 4 from rfl]
    unfold batchL
    exact List.take_left' (leB_length 4 _)
  rw [h1, le_leB, Nat.mod_eq_of_lt hb]
/-- Where a batch was begun, and is not whole, nothing more is read than before. -/
theorem quiet_torn {f g : Int → List Nat} {a : Int} {B R N o m p : Nat} {b : List Nat} (hq : Quiet f a B N o p) (hm : m = costN b.length) (hN : o + m ≤ N) (hb : b.length < 4294967296) (hR : R < 18446744073709551616)
    (hg : ∀ j, j < m → g (a + ((o + j : Nat) : Int)) = f (a + ((o + j : Nat) : Int)) ∨ g (a + ((o + j : Nat) : Int)) = cutS R o b j ∨ countsB B (g (a + ((o + j : Nat) : Int))) (o + j) = false)
    (hout : ∀ j, o + m ≤ j → j < N → g (a + (j : Int)) = f (a + (j : Int)))
    (hf : ∀ j, o ≤ j → j < N → runL ((f (a + (j : Int))).drop 500) < R)
    (hno : ∃ j, j < m ∧ g (a + ((o + j : Nat) : Int)) ≠ cutS R o b j) : Quiet g a B N o p := by
  intro c h0 h1 h2
  have hm0 : 0 < m := by unfold costN at hm; omega
  have hall : ∀ j', o + 1 ≤ j' → j' < N → g (a + (j' : Int)) = f (a + (j' : Int)) ∨ runL (g (a + (j' : Int))) = R ∨ countsB B (g (a + (j' : Int))) j' = false := fun j' a1 a2 => by
    rcases Nat.lt_or_ge j' (o + m) with h3 | h3
    · have h4 := hg (j' - o) (by omega)
      rw [show o + (j' - o) = j' by omega] at h4
      rcases h4 with e | e | e
      · exact .inl e
      · refine .inr (.inl ?_)
        rw [e]
        exact (cutS_run hR).1
      · exact .inr (.inr e)
    · exact .inl (hout j' h3 a2)
  have hgi := hg 0 hm0
  rw [Nat.add_zero] at hgi
  rw [bodyFrom_cons g a (by omega)]
  rcases hs : stopsB B c (g (a + (o : Int))) with _ | _
  · obtain ⟨g1, _, _⟩ := counts_of_go hs
    rcases hgi with e | e | e
    · have hqc := hq c h0 h1 h2
      rw [bodyFrom_cons f a (by omega)] at hqc
      have hfo := hf o (Nat.le_refl _) (by omega)
      rw [e] at g1 hs ⊢
      generalize f (a + (o : Int)) = s at *
      rw [scan_cons_go hs] at hqc ⊢
      obtain ⟨b1, b2⟩ := beginS_bs c s
      have hbr : (beginS c s).run = runL s := by unfold beginS; rw [if_pos h0]
      have h3 := (scan_grow B (bodyFrom f a N (o + 1)) (partS (beginS c s) s)).1
      rcases partS_cases (beginS c s) s with ⟨_, h4⟩ | ⟨h4, h5, _, h6, h7⟩
      · rw [b1] at h4
        omega
      · have h9 := quiet_old (f := f) (g := g) (a := a) (B := B) (R := R) (N := N) _ (o + 1) (partS (beginS c s) s) rfl (by rw [partS_place, beginS_place, h1]) (by omega) (by have := (counts_runs g1).1; omega) hall
        rw [h5, b1] at h9
        exact h9 hqc
    · obtain ⟨j, j1, j2⟩ := hno
      have hj0 : j ≠ 0 := fun h => j2 (by subst h; rw [Nat.add_zero]; exact e)
      have hbl := batchL_len b
      have hbeg : (beginS c (g (a + (o : Int)))).left = 4 + b.length ∧ (beginS c (g (a + (o : Int)))).run = R := by
        unfold beginS
        rw [if_pos h0, e]
        exact ⟨by show 4 + _ = _; rw [begin_len hb], (cutS_run hR).1⟩
      obtain ⟨b1, b2⟩ := beginS_bs c (g (a + (o : Int)))
      rw [scan_cons_go hs]
      rcases partS_cases (beginS c (g (a + (o : Int)))) (g (a + (o : Int))) with ⟨h4, _⟩ | ⟨h4, h5, _, h6, h7⟩
      · exfalso
        rw [hbeg.1] at h4
        unfold costN at hm
        omega
      · have h9 := quiet_new hm hN hg hf _ 1 (partS (beginS c (g (a + (o : Int)))) (g (a + (o : Int)))) rfl (by rw [partS_place, beginS_place, h1]) (by rw [h6]; exact hbeg.2) (by rw [h7, hbeg.1]; omega) (by omega) ⟨j, by omega, j1, j2⟩
        rw [h5, b1] at h9
        exact h9
    · rw [h1, e] at g1
      cases g1
  · rw [scan_cons_stop hs]

/-- Head, batches, and nothing behind them that is read to an end. -/
structure Sound (f : Int → List Nat) (a n R B used : Nat) (bs : List (List Nat)) : Prop where
  sec : ∀ k, Sec (f k)
  head : headVal (f ((a + R % 2 : Nat) : Int)) (R % 2) = (R, B)
  other : (headVal (f ((a + (R + 1) % 2 : Nat) : Int)) ((R + 1) % 2)).1 < R
  laid : ∃ xs last, LaidOut f ((a : Int) + 2) B R 0 0 xs used last ∧ xs.map (·.2) = bs ∧ Quiet f ((a : Int) + 2) B (n - 2) used last
  base1 : 1 ≤ B
  base : B ≤ R
  run : R < 4611686018427387904
  n4 : 4 ≤ n
  n9 : n ≤ 65536
  fit : used + 2 ≤ n
  below : ∀ j : Nat, j < n - 2 → runL (f ((a : Int) + 2 + (j : Int))) ≤ R ∧ runL ((f ((a : Int) + 2 + (j : Int))).drop 500) ≤ R
  near : R < B + 256
/-- It was opened: its run is above all that is behind its batches. -/
structure Live (f : Int → List Nat) (a n R B used : Nat) (bs : List (List Nat)) : Prop extends Sound f a n R B used bs where
  fresh : ∀ j : Nat, used ≤ j → j < n - 2 → runL ((f ((a : Int) + 2 + (j : Int))).drop 500) < R
  spare : runL ((f ((a + (R + 1) % 2 : Nat) : Int)).drop 504) < R
/-- What a write that may be torn leaves. -/
def TornF (f g : Int → List Nat) (a : Int) (b : List Nat) (m : Nat) : Prop :=
  (∀ i : Nat, i < m → ∃ k, k ≤ 512 ∧ g (a + (i : Int)) = mixL k (secOf b i) (f (a + (i : Int)))) ∧ ∀ j : Int, (j < a ∨ a + (m : Int) ≤ j) → g j = f j
section
variable {f g : Int → List Nat} {a n R B used : Nat} {bs : List (List Nat)}
theorem Sound.sel (h : Sound f a n R B used bs) : headSel f a = (R, B) := by
  have h1 := h.head
  have h2 := h.other
  unfold headSel
  rcases two_cases R with ⟨e1, e2⟩ | ⟨e1, e2⟩
  · rw [e1] at h1
    rw [e2] at h2
    have g1 : headVal (f (a : Int)) 0 = (R, B) := h1
    have g2 : (headVal (f ((a : Int) + 1)) 1).1 < R := h2
    rw [g1, if_neg (by simp only []; omega)]
  · rw [e1] at h1
    rw [e2] at h2
    have g1 : headVal (f ((a : Int) + 1)) 1 = (R, B) := h1
    have g2 : (headVal (f (a : Int)) 0).1 < R := h2
    rw [g1, if_pos (by simp only []; omega)]
theorem Sound.good (h : Sound f a n R B used bs) : GoodLog f a n := by
  have hs := h.sel
  unfold GoodLog
  rw [hs]
  have hb := h.base
  have hb1 := h.base1
  exact ⟨by show 1 ≤ R; omega, fun j hj => (h.below j hj).1⟩
theorem Sound.load (h : Sound f a n R B used bs) (dp : Nat) : loadL dp a n f = ⟨dp, a, n, R, B, used, bs, false⟩ := by
  have hs := h.sel
  have hr := h.run
  have hn := h.n9
  have hf := h.fit
  obtain ⟨xs, last, hl, hb, hq⟩ := h.laid
  obtain ⟨c', e1, e2, e3, e4, e5, e6⟩ := scan_laid (N := n - 2) (by omega) (by omega) hl (by omega) (c := sc0) rfl rfl rfl rfl
  obtain ⟨q1, q2⟩ := (scan_grow B (bodyFrom f ((a : Int) + 2) (n - 2) used) c').2 (hq c' e2 e3 e4)
  unfold loadL
  rw [hs]
  simp only []
  rw [e1, q1, q2, e5, e6, hb]
  rfl
theorem turn_in (f : Int → List Nat) (a R c : Nat) : readW f ((a : Int) + (((R + 1) % 2 : Nat) : Int)) (headL (R + 1) c) 1 ((a + (R + 1) % 2 : Nat) : Int) = headL (R + 1) c := by
  have e0 : (a : Int) + (((R + 1) % 2 : Nat) : Int) = ((a + (R + 1) % 2 : Nat) : Int) := by omega
  have := readW_at f ((a : Int) + (((R + 1) % 2 : Nat) : Int)) (headL (R + 1) c) 1 0 (by omega)
  rw [secOf_own (headL_len _ _)] at this
  rw [← e0]
  simpa using this
theorem turn_out (f : Int → List Nat) (a R c : Nat) (k : Int) (hk : k ≠ ((a + (R + 1) % 2 : Nat) : Int)) : readW f ((a : Int) + (((R + 1) % 2 : Nat) : Int)) (headL (R + 1) c) 1 k = f k := readW_out _ _ _ _ _ (by omega)
theorem Sound.headEnd (h : Sound f a n R B used bs) : runL ((f ((a + R % 2 : Nat) : Int)).drop 504) = R := by
  have h1 := h.head
  have hb := h.base
  have hb1 := h.base1
  unfold headVal at h1
  split at h1
  · injection h1 with h2 _
    omega
  · next hn =>
    injection h1 with h2 _
    omega
/-- Opened: another head, beside the old one. -/
theorem Sound.turn (h : Sound f a n R B used bs) (hr : R + 1 < 4611686018427387904) (hnear : R + 1 < B + 256) {at_ : Nat} (hat : at_ = (R + 1) % 2) : Live (readW f ((a : Int) + at_) (headL (R + 1) B) 1) a n (R + 1) B used bs := by
  subst hat
  have hb := h.base
  have e2 : (R + 1 + 1) % 2 = R % 2 := by omega
  have hin := turn_in f a R B
  have hout := turn_out f a R B
  have hbody : ∀ j : Nat, readW f ((a : Int) + (((R + 1) % 2 : Nat) : Int)) (headL (R + 1) B) 1 ((a : Int) + 2 + (j : Int)) = f ((a : Int) + 2 + (j : Int)) := fun j => hout _ (by omega)
  have hold : readW f ((a : Int) + (((R + 1) % 2 : Nat) : Int)) (headL (R + 1) B) 1 ((a + R % 2 : Nat) : Int) = f ((a + R % 2 : Nat) : Int) := hout _ (by omega)
  obtain ⟨xs, last, hl, hbs, hq⟩ := h.laid
  refine ⟨⟨readW_sec h.sec _ (headL_small _ _) (by rw [headL_len]) 1 (Nat.le_refl _), ?_, ?_, ⟨xs, last, hl.keep (by omega) (fun j _ _ => hbody j), hbs, hq.keep fun j _ _ => hbody j⟩, h.base1, by omega, hr, h.n4, h.n9, h.fit, fun j hj => ?_, hnear⟩, fun j h1 h2 => ?_, ?_⟩
  · rw [hin]; exact headVal_of (R + 1) B hr (by omega)
  · rw [e2, hold, h.head]; show R < R + 1; omega
  · rw [hbody]; have := h.below j hj; omega
  · rw [hbody]; have := h.below j h2; omega
  · rw [e2, hold, h.headEnd]; omega
/-- Emptied. -/
theorem Sound.reset (h : Sound f a n R B used bs) (hr : R + 1 < 4611686018427387904) {at_ : Nat} (hat : at_ = (R + 1) % 2) : Live (readW f ((a : Int) + at_) (headL (R + 1) (R + 1)) 1) a n (R + 1) (R + 1) 0 [] := by
  subst hat
  have hb := h.base
  have hn4 := h.n4
  have e2 : (R + 1 + 1) % 2 = R % 2 := by omega
  have hin := turn_in f a R (R + 1)
  have hout := turn_out f a R (R + 1)
  have hbody : ∀ j : Nat, readW f ((a : Int) + (((R + 1) % 2 : Nat) : Int)) (headL (R + 1) (R + 1)) 1 ((a : Int) + 2 + (j : Int)) = f ((a : Int) + 2 + (j : Int)) := fun j => hout _ (by omega)
  have hold : readW f ((a : Int) + (((R + 1) % 2 : Nat) : Int)) (headL (R + 1) (R + 1)) 1 ((a + R % 2 : Nat) : Int) = f ((a + R % 2 : Nat) : Int) := hout _ (by omega)
  have hbel : ∀ j : Nat, j < n - 2 → runL (readW f ((a : Int) + (((R + 1) % 2 : Nat) : Int)) (headL (R + 1) (R + 1)) 1 ((a : Int) + 2 + (j : Int))) ≤ R ∧ runL ((readW f ((a : Int) + (((R + 1) % 2 : Nat) : Int)) (headL (R + 1) (R + 1)) 1 ((a : Int) + 2 + (j : Int))).drop 500) ≤ R := fun j hj => by
    rw [hbody]
    exact h.below j hj
  refine ⟨⟨readW_sec h.sec _ (headL_small _ _) (by rw [headL_len]) 1 (Nat.le_refl _), ?_, ?_, ⟨[], 0, ⟨rfl, rfl⟩, rfl, quiet_dead fun j _ h2 => ?_⟩, by omega, Nat.le_refl _, hr, h.n4, h.n9, by omega, fun j hj => ?_, by omega⟩, fun j _ h2 => ?_, ?_⟩
  · rw [hin]; exact headVal_of (R + 1) (R + 1) hr (Nat.le_refl _)
  · rw [e2, hold, h.head]; show R < R + 1; omega
  · have := hbel j h2; omega
  · have := hbel j hj; omega
  · have := hbel j h2; omega
  · rw [e2, hold, h.headEnd]; omega
theorem cutS_sec {r o i : Nat} {b : List Nat} (hs : Small b) : Sec (cutS r o b i) :=
  ⟨secL_len r (o + i) (partL_le _ _), secL_small r (o + i) (partL_small ((leB_small _ _).append hs) i)⟩
/-- A batch more. -/
theorem Live.append (h : Live f a n R B used bs) {b : List Nat} (hs : Small b) {m at_ : Nat} (hm : m = costN b.length) (hat : at_ = 2 + used) (hfit : used + m + 2 ≤ n) : Live (readW f ((a : Int) + at_) (cutL R used b) m) a n R B (used + m) (bs ++ [b]) := by
  subst hat; subst hm
  have hr := h.run
  have hn9 := h.n9
  have hb4 : b.length < 4294967296 := by unfold costN at hfit; omega
  have e0 : (a : Int) + ((2 + used : Nat) : Int) = (a : Int) + 2 + (used : Int) := by omega
  rw [e0]
  have hlen : (cutL R used b).length = costN b.length * 512 := by unfold cutL; rw [cutP_len, frTo_length (Nat.le_refl _)]
  have hsm : Small (cutL R used b) := cutP_small R used ((leB_small _ _).append hs) _
  have hin : ∀ i, i < costN b.length → readW f ((a : Int) + 2 + (used : Int)) (cutL R used b) (costN b.length) ((a : Int) + 2 + ((used + i : Nat) : Int)) = cutS R used b i := fun i hi => by
    have := readW_at f ((a : Int) + 2 + (used : Int)) (cutL R used b) (costN b.length) i hi
    rw [secOf_cutL hi] at this
    rw [← this]
    congr 1
    omega
  have hout : ∀ k : Int, k < (a : Int) + 2 + (used : Int) ∨ (a : Int) + 2 + (used : Int) + (costN b.length : Nat) ≤ k → readW f ((a : Int) + 2 + (used : Int)) (cutL R used b) (costN b.length) k = f k := fun k hk => readW_out _ _ _ _ _ hk
  have hfr : ∀ j : Nat, used + costN b.length ≤ j → j < n - 2 → runL ((readW f ((a : Int) + 2 + (used : Int)) (cutL R used b) (costN b.length) ((a : Int) + 2 + (j : Int))).drop 500) < R := fun j h1 h2 => by
    rw [hout _ (.inr (by omega))]
    exact h.fresh j (by omega) h2
  obtain ⟨xs, last, hl, hbs, _⟩ := h.laid
  refine ⟨⟨readW_sec h.sec _ hsm hlen _ (Nat.le_refl _), ?_, ?_, ⟨xs ++ [(R, b)], R, LaidOut.snoc h.base (Nat.le_refl _) hb4 (hl.keep (Nat.le_refl _) (fun j _ h2 => hout _ (.inl (by omega)))) (hl.last_le (Nat.zero_le _)) hin, by rw [List.map_append, hbs]; rfl, quiet_fresh hfr⟩, h.base1, h.base, hr, h.n4, h.n9, hfit, fun j hj => ?_, h.near⟩, hfr, ?_⟩
  · rw [hout _ (.inl (by omega))]; exact h.head
  · rw [hout _ (.inl (by omega))]; exact h.other
  · by_cases hj1 : j < used ∨ used + costN b.length ≤ j
    · rw [hout _ (by omega)]
      exact h.below j hj
    · have e := hin (j - used) (by omega)
      rw [show used + (j - used) = j by omega] at e
      rw [e]
      have := cutS_run (r := R) (o := used) (b := b) (i := j - used) (by omega)
      omega
  · rw [hout _ (.inl (by omega))]; exact h.spare
/-- A batch that was under way is there whole, or is not there. -/
theorem Live.torn (h : Live f a n R B used bs) {b : List Nat} (hs : Small b) {m at_ : Nat} (hm : m = costN b.length) (hat : at_ = 2 + used) (hfit : used + m + 2 ≤ n) (ht : TornF f g ((a : Int) + at_) (cutL R used b) m) :
    Sound g a n R B used bs ∨ Sound g a n R B (used + m) (bs ++ [b]) := by
  subst hat; subst hm
  have hr := h.run
  have hn9 := h.n9
  have hb4 : b.length < 4294967296 := by unfold costN at hfit; omega
  have e0 : (a : Int) + ((2 + used : Nat) : Int) = (a : Int) + 2 + (used : Int) := by omega
  rw [e0] at ht
  obtain ⟨hin, hout⟩ := ht
  have hin2 : ∀ i, i < costN b.length → ∃ k, k ≤ 512 ∧ g ((a : Int) + 2 + ((used + i : Nat) : Int)) = mixL k (cutS R used b i) (f ((a : Int) + 2 + ((used + i : Nat) : Int))) := fun i hi => by
    obtain ⟨k, hk, e⟩ := hin i hi
    rw [secOf_cutL hi] at e
    have e1 : (a : Int) + 2 + (used : Int) + (i : Int) = (a : Int) + 2 + ((used + i : Nat) : Int) := by omega
    rw [e1] at e
    exact ⟨k, hk, e⟩
  have hsecg : ∀ k, Sec (g k) := fun k => by
    by_cases hk : k < (a : Int) + 2 + (used : Int) ∨ (a : Int) + 2 + (used : Int) + ((costN b.length : Nat) : Int) ≤ k
    · rw [hout k hk]; exact h.sec k
    · obtain ⟨q, hq, e⟩ := hin2 (k - ((a : Int) + 2 + (used : Int))).toNat (by omega)
      rw [show (a : Int) + 2 + ((used + (k - ((a : Int) + 2 + (used : Int))).toNat : Nat) : Int) = k by omega] at e
      rw [e]
      exact mixL_sec (cutS_sec hs) (h.sec _) hq
  have hbelow : ∀ j : Nat, j < n - 2 → runL (g ((a : Int) + 2 + (j : Int))) ≤ R ∧ runL ((g ((a : Int) + 2 + (j : Int))).drop 500) ≤ R := fun j hj => by
    by_cases hj1 : j < used ∨ used + costN b.length ≤ j
    · rw [hout _ (by omega)]
      exact h.below j hj
    · obtain ⟨k, hk, e⟩ := hin2 (j - used) (by omega)
      rw [show used + (j - used) = j by omega] at e
      rw [e]
      have hc := cutS_run (r := R) (o := used) (b := b) (i := j - used) (by omega)
      exact torn_runs (cutS_sec hs) (h.sec _) hk hc.1 hc.2 (h.below j hj).1 (h.below j hj).2
  have hmix : ∀ j, j < costN b.length → g ((a : Int) + 2 + ((used + j : Nat) : Int)) = f ((a : Int) + 2 + ((used + j : Nat) : Int)) ∨ g ((a : Int) + 2 + ((used + j : Nat) : Int)) = cutS R used b j ∨ countsB B (g ((a : Int) + 2 + ((used + j : Nat) : Int))) (used + j) = false := fun j hj => by
    obtain ⟨k, hk, e⟩ := hin2 j hj
    rw [e]
    exact torn_sec hs (by omega) (by omega) h.near (h.sec _) hk (h.fresh (used + j) (by omega) (by omega))
  have hhead : headVal (g ((a + R % 2 : Nat) : Int)) (R % 2) = (R, B) := by rw [hout _ (.inl (by omega))]; exact h.head
  have hother : (headVal (g ((a + (R + 1) % 2 : Nat) : Int)) ((R + 1) % 2)).1 < R := by rw [hout _ (.inl (by omega))]; exact h.other
  obtain ⟨xs, last, hl, hbs, hq⟩ := h.laid
  have hkeep : LaidOut g ((a : Int) + 2) B R 0 0 xs used last := hl.keep (Nat.le_refl _) (fun j _ h2 => hout _ (.inl (by omega)))
  by_cases hall : ∀ j, j < costN b.length → g ((a : Int) + 2 + ((used + j : Nat) : Int)) = cutS R used b j
  · refine .inr ⟨hsecg, hhead, hother, ⟨xs ++ [(R, b)], R, LaidOut.snoc h.base (Nat.le_refl _) hb4 hkeep (hl.last_le (Nat.zero_le _)) hall, by rw [List.map_append, hbs]; rfl, quiet_fresh fun j h1 h2 => ?_⟩, h.base1, h.base, hr, h.n4, h.n9, hfit, hbelow, h.near⟩
    rw [hout _ (.inr (by omega))]
    exact h.fresh j (by omega) h2
  · have hno : ∃ j, j < costN b.length ∧ g ((a : Int) + 2 + ((used + j : Nat) : Int)) ≠ cutS R used b j := by
      apply Classical.byContradiction
      intro hn
      exact hall fun j hj => Classical.byContradiction fun h9 => hn ⟨j, hj, h9⟩
    exact .inl ⟨hsecg, hhead, hother, ⟨xs, last, hkeep, hbs, quiet_torn hq rfl (by omega) hb4 (by omega) hmix (fun j h1 _ => hout _ (.inr (by omega))) h.fresh hno⟩, h.base1, h.base, hr, h.n4, h.n9, h.fit, hbelow, h.near⟩
/-- A log that was being emptied is so, or is as it was. -/
theorem Live.tornReset (h : Live f a n R B used bs) (hr : R + 1 < 4611686018427387904) {at_ : Nat} (hat : at_ = (R + 1) % 2) (ht : TornF f g ((a : Int) + at_) (headL (R + 1) (R + 1)) 1) :
    Sound g a n R B used bs ∨ Sound g a n (R + 1) (R + 1) 0 [] := by
  subst hat
  have hb := h.base
  have hb1 := h.base1
  have hn4 := h.n4
  have e2 : (R + 1 + 1) % 2 = R % 2 := by omega
  obtain ⟨hin, hout⟩ := ht
  obtain ⟨k, hk, e⟩ := hin 0 (by omega)
  have e0 : (a : Int) + (((R + 1) % 2 : Nat) : Int) + ((0 : Nat) : Int) = ((a + (R + 1) % 2 : Nat) : Int) := by omega
  rw [secOf_own (headL_len _ _), e0] at e
  have hout2 : ∀ k : Int, k ≠ ((a + (R + 1) % 2 : Nat) : Int) → g k = f k := fun k hk => hout k (by omega)
  have hbody : ∀ j : Nat, g ((a : Int) + 2 + (j : Int)) = f ((a : Int) + 2 + (j : Int)) := fun j => hout2 _ (by omega)
  have hold : g ((a + R % 2 : Nat) : Int) = f ((a + R % 2 : Nat) : Int) := hout2 _ (by omega)
  have hsecg : ∀ j, Sec (g j) := fun j => by
    by_cases hj : j = ((a + (R + 1) % 2 : Nat) : Int)
    · rw [hj, e]
      exact mixL_sec ⟨headL_len _ _, headL_small _ _⟩ (h.sec _) hk
    · rw [hout2 j hj]; exact h.sec j
  have hbel : ∀ j : Nat, j < n - 2 → runL (g ((a : Int) + 2 + (j : Int))) ≤ R ∧ runL ((g ((a : Int) + 2 + (j : Int))).drop 500) ≤ R := fun j hj => by
    rw [hbody]
    exact h.below j hj
  obtain ⟨xs, last, hl, hbs, hq⟩ := h.laid
  rcases torn_head (i := (R + 1) % 2) (Nat.le_refl _) hr (h.sec ((a + (R + 1) % 2 : Nat) : Int)) hk (R := R) (by omega) h.spare with h1 | h1
  · rw [← e] at h1
    exact .inl ⟨hsecg, by rw [hold]; exact h.head, h1, ⟨xs, last, hl.keep (Nat.le_refl _) (fun j _ _ => hbody j), hbs, hq.keep fun j _ _ => hbody j⟩, h.base1, h.base, h.run, h.n4, h.n9, h.fit, hbel, h.near⟩
  · rw [← e] at h1
    refine .inr ⟨hsecg, h1, ?_, ⟨[], 0, ⟨rfl, rfl⟩, rfl, quiet_dead fun j _ h2 => ?_⟩, by omega, Nat.le_refl _, hr, h.n4, h.n9, by omega, fun j hj => ?_, by omega⟩
    · rw [e2, hold, h.head]; show R < R + 1; omega
    · have := hbel j h2; omega
    · have := hbel j hj; omega
theorem Sound.format (hs : ∀ k, Sec (f k)) (hn : 4 ≤ n) (hn9 : n ≤ 65536) : Sound (readW f (a : Int) (fmtL n) n) a n 1 1 0 [] := by
  have hc := Clean.format (a := a) hs hn hn9
  have hin : ∀ j : Nat, j < n - 2 → runL (readW f (a : Int) (fmtL n) n ((a : Int) + 2 + (j : Int))) < 1 ∧ runL ((readW f (a : Int) (fmtL n) n ((a : Int) + 2 + (j : Int))).drop 500) < 1 := fun j hj => hc.rest j (Nat.zero_le _) hj
  exact ⟨hc.sec, hc.head, hc.other, ⟨[], 0, ⟨rfl, rfl⟩, rfl, quiet_dead fun j _ h2 => (hin j h2).2⟩, Nat.le_refl _, Nat.le_refl _, by decide, hn, hn9, by omega, fun j hj => ⟨Nat.le_of_lt (hin j hj).1, Nat.le_of_lt (hin j hj).2⟩, by decide⟩
end
/-- What a crash leaves of a write that failed. -/
theorem torn_crash {d : D} {f : Int → List Nat} {a : Int} {b : List Nat} {m : Nat} (h : TornD d f a b m) (hf : ∀ k, Sec (f k)) (hs : Small b) (hl : b.length = m * 512) (picks : List Int) : TornF f (crashTo d.lasting d.pieces picks d.pieces.length) a b m := by
  obtain ⟨j1, j2, h1, h2, e1, e2⟩ := h
  rw [e1, e2]
  have hlen : ((piecesW a b j2).drop j1).length = j2 - j1 := by rw [List.length_drop, piecesW_length]
  have key : ∀ k, k ≤ j2 - j1 → ∀ j : Int, (∀ i : Nat, j = a + (i : Int) → i < j1 + k → ∃ q, q ≤ 512 ∧ crashTo (readW f a b j1) ((piecesW a b j2).drop j1) picks k j = mixL q (secOf b i) (f j)) ∧ ((j < a ∨ a + ((j1 + k : Nat) : Int) ≤ j) → crashTo (readW f a b j1) ((piecesW a b j2).drop j1) picks k j = f j) := by
    intro k
    induction k with
    | zero =>
      intro _ j
      refine ⟨fun i hj hi => ⟨512, Nat.le_refl _, ?_⟩, fun hj => ?_⟩
      · show readW f a b j1 j = _
        rw [hj, readW_at f a b j1 i (by omega), mixL_all (Nat.le_of_eq (secOf_sec hs hl (by omega)).1) (Nat.le_of_eq (hf _).1)]
      · exact readW_out _ _ _ _ _ (by omega)
    | succ k ih =>
      intro hk j
      have hi := ih (by omega)
      have hget : ((piecesW a b j2).drop j1).getD k (0, zsec) = (a + ((j1 + k : Nat) : Int), secOf b (j1 + k)) := by
        rw [List.getD_eq_getElem?_getD, List.getElem?_drop]
        unfold piecesW
        rw [List.getElem?_map, List.getElem?_range (by omega)]
        rfl
      have hstep : crashTo (readW f a b j1) ((piecesW a b j2).drop j1) picks (k + 1) j = upd (crashTo (readW f a b j1) ((piecesW a b j2).drop j1) picks k) (a + ((j1 + k : Nat) : Int)) (tear (secOf b (j1 + k)) (crashTo (readW f a b j1) ((piecesW a b j2).drop j1) picks k (a + ((j1 + k : Nat) : Int))) (picks.getD k 0)) j := by
        show upd _ (((piecesW a b j2).drop j1).getD k (0, zsec)).1 _ j = _
        rw [hget]
      rw [hstep, (hi (a + ((j1 + k : Nat) : Int))).2 (.inr (Int.le_refl _))]
      unfold upd
      by_cases hj : j = a + ((j1 + k : Nat) : Int)
      · rw [if_pos hj]
        refine ⟨fun i hji hik => ?_, fun hjo => ?_⟩
        · obtain rfl : i = j1 + k := by omega
          rw [← hji]
          exact ⟨keptN (picks.getD k 0), keptN_le _, rfl⟩
        · omega
      · rw [if_neg hj]
        exact ⟨fun i hji hik => (hi j).1 i hji (by omega), fun hjo => (hi j).2 (by omega)⟩
  rw [hlen]
  have hk := key (j2 - j1) (Nat.le_refl _)
  refine ⟨fun i him => ?_, fun j hj => (hk j).2 (by omega)⟩
  by_cases hi : i < j1 + (j2 - j1)
  · exact (hk _).1 i rfl hi
  · refine ⟨0, by omega, ?_⟩
    rw [mixL_zero]
    exact (hk _).2 (.inr (by omega))
end Go.Proofs.YtljlkmmeedlaiaaDoor
/- Layer 3: no first bytes of a run make another one of which the lowest byte is another. -/
namespace Go.Proofs.YtljlkmmeedlaiaaDoor
open Go.RowKit

/-- The table of the library's that mixed leads to. -/
def Tab (w : World) : Prop := TabAt 0 Lib.deBruijn64tab w
theorem cell_lt {w : World} {p : Addr} {v : Value} (h : w.cell? p = some v) : p.block < w.heap.size := block_lt_of_cell h
theorem Tab.below {w w' : World} (h : Tab w) (hb : Below w.heap.size w w') : Tab w' := fun j hj => by
  have h1 := h j hj
  rw [hb.cell (block_lt_of_cell h1)]
  exact h1
set_option maxHeartbeats 1000000 in
theorem tz64_ok (x k : Nat) (w : World) (hx : x < 18446744073709551616) (h0 : x ≠ 0) (hk : k = Lib.ctz 64 x) (hT : Tab w) :
    Calls Tryd.prog 75 #[.int .u64 x] w fun e w' => e = .returned (.int .i64 k) ∧ w = w' := by
  obtain ⟨hlow, hk6⟩ := Lib.lowest_bit 64 x h0 hx
  obtain ⟨hi, htab⟩ := Lib.deBruijn64_at _ hk6
  have hcell := hT _ hi
  rw [htab] at hcell
  have key := tz64_key x _ hx h0 hlow
  rw [← hk] at hcell hk6 hi key
  obtain ⟨idx, hidx⟩ : ∃ idx, idx = 2 ^ k * 285870213051353865 % 18446744073709551616 / 288230376151711744 := ⟨_, rfl⟩
  rw [← hidx] at hcell hi key
  have hx0 : ((x : Int) == 0) = false := by simp; omega
  clear hT hlow htab hk hidx
  go_enter Tryd.func75, Tryd.ntmps75
  go_wp2_with (simp only [key])
  go_ret
  exact ⟨rfl, rfl⟩
theorem tab8 : ∀ n : Fin 256, (Lib.len8tab[n.val]'(by rw [show Lib.len8tab.size = 256 by kernel_rfl]; exact n.isLt)).toNat ≤ 8 ∧ (1 ≤ n.val → 1 ≤ (Lib.len8tab[n.val]'(by rw [show Lib.len8tab.size = 256 by kernel_rfl]; exact n.isLt)).toNat) := by decide +kernel
theorem tab8n (n : Nat) (h : n < Lib.len8tab.size) : (Lib.len8tab[n]'h).toNat ≤ 8 ∧ (1 ≤ n → 1 ≤ (Lib.len8tab[n]'h).toNat) :=
  tab8 ⟨n, by rw [show Lib.len8tab.size = 256 by kernel_rfl] at h; exact h⟩
theorem len_wrap (k : Int) (t n : Nat) (h : t ≤ 8 ∧ (1 ≤ n → 1 ≤ t)) (hk : 0 ≤ k ∧ k ≤ 56) (ho : 1 ≤ k ∨ 1 ≤ n) : 1 ≤ wrap64 (k + wrap64 (t : Int)) ∧ wrap64 (k + wrap64 (t : Int)) ≤ 64 := by
  have e1 : wrap64 (t : Int) = t := by unfold wrap64; omega
  rw [e1]
  have e2 : wrap64 (k + (t : Int)) = k + t := by unfold wrap64; omega
  rw [e2]
  omega
theorem len_end (k : Int) (n : Nat) (h : n < Lib.len8tab.size) (hk : 0 ≤ k ∧ k ≤ 56) (ho : 1 ≤ k ∨ 1 ≤ n) : 1 ≤ wrap64 (k + wrap64 ((Lib.len8tab[n]'h).toNat : Int)) ∧ wrap64 (k + wrap64 ((Lib.len8tab[n]'h).toNat : Int)) ≤ 64 :=
  len_wrap k _ n (tab8n n h) hk ho
set_option maxHeartbeats 4000000 in
set_option maxRecDepth 100000 in
theorem len64_ok (x : Int) (w : World) (h0 : 1 ≤ x) (h1 : x ≤ 18446744073709551615) :
    Calls Tryd.prog 76 #[.int .u64 x] w fun e w' => (∃ n : Int, e = .returned (.int .i64 n) ∧ 1 ≤ n ∧ n ≤ 64) ∧ w = w' := by
  have hsz : Lib.len8tab.size = 256 := by kernel_rfl
  go_enter Tryd.func76, Tryd.ntmps76
  go_wp2
  all_goals (
    go_ret
    refine ⟨⟨_, rfl, ?_⟩, rfl⟩
    first
      | exact len_end 56 _ _ (by omega) (by omega)
      | exact len_end 48 _ _ (by omega) (by omega)
      | exact len_end 40 _ _ (by omega) (by omega)
      | exact len_end 32 _ _ (by omega) (by omega)
      | exact len_end 24 _ _ (by omega) (by omega)
      | exact len_end 16 _ _ (by omega) (by omega)
      | exact len_end 8 _ _ (by omega) (by omega)
      | (have h9 := len_end 0 x.toNat (by omega) (by omega) (by omega); rwa [Int.zero_add] at h9))
theorem ctz_low {x : Nat} (h : x % 256 ≠ 0) : Lib.ctz 64 x < 8 := by
  have h0 : x ≠ 0 := by omega
  obtain ⟨m, hm⟩ : ∃ m, x = 2 ^ Lib.ctzFrom 64 x * (2 * m + 1) ∧ Lib.ctzFrom 64 x < 64 ∨ 18446744073709551616 ≤ x := by
    rcases Nat.lt_or_ge x 18446744073709551616 with h1 | h1
    · obtain ⟨m, h2, h3⟩ := Lib.ctzFrom_spec 64 x (by omega) h1
      exact ⟨m, .inl ⟨h2, h3⟩⟩
    · exact ⟨0, .inr h1⟩
  have key : ∀ (f y : Nat), y % 256 ≠ 0 → Lib.ctzFrom f y < 8 := fun f y hy => by
    have go : ∀ (j f y : Nat), y % 2 ^ j ≠ 0 → Lib.ctzFrom f y < j := by
      intro j
      induction j with
      | zero => intro f y hy; simp [Nat.mod_one] at hy
      | succ j ih =>
        intro f y hy
        cases f with
        | zero => exact Nat.succ_pos _
        | succ f =>
          unfold Lib.ctzFrom
          split
          · omega
          · next h2 =>
            have := ih f (y / 2) (fun h3 => hy (by
              rw [Nat.pow_succ, Nat.mul_comm, Nat.mod_mul, h3]
              omega))
            omega
    exact go 8 f y hy
  clear hm m
  unfold Lib.ctz
  rw [if_neg h0]
  exact key 64 x h
theorem xor_zero {a b : Nat} (h : a ^^^ b = 0) : a = b := by
  have h1 : (a ^^^ b) ^^^ b = 0 ^^^ b := by rw [h]
  rwa [Nat.xor_assoc, Nat.xor_self, Nat.xor_zero, Nat.zero_xor] at h1
theorem xor_low {a b : Nat} (h : a % 256 ≠ b % 256) : (a ^^^ b) % 256 ≠ 0 := fun h0 => h (by
  have e : (a ^^^ b) % 2 ^ 8 = a % 2 ^ 8 ^^^ b % 2 ^ 8 := Nat.xor_mod_two_pow
  have e2 : a % 256 ^^^ b % 256 = 0 := by
    change _ = a % 256 ^^^ b % 256 at e
    rw [← e]
    exact h0
  exact xor_zero e2)
set_option maxHeartbeats 1000000 in
theorem mixed_ok (first old run : Nat) (w : World) (h1 : first < 18446744073709551616) (h2 : old < 18446744073709551616) (h3 : run < 18446744073709551616) (hlow : first % 256 ≠ run % 256) (hne : old ≠ run) (hT : Tab w) :
    Calls Tryd.prog 63 #[.int .u64 first, .int .u64 old, .int .u64 run] w fun e w' => e = .returned (.bool false) ∧ Below w.heap.size w w' := by
  have e1 := bits_xor_u64_nat first run h1 h3
  have e2 := bits_xor_u64_nat old run h2 h3
  have hx1 : first ^^^ run < 2 ^ 64 := Nat.xor_lt_two_pow (by omega) (by omega)
  have hx2 : old ^^^ run < 2 ^ 64 := Nat.xor_lt_two_pow (by omega) (by omega)
  have hz := xor_low hlow
  have hn0 : old ^^^ run ≠ 0 := fun h => hne (xor_zero h)
  have hc := ctz_low hz
  obtain ⟨k, hk⟩ : ∃ k, k = Lib.ctz 64 (first ^^^ run) := ⟨_, rfl⟩
  have HTZ : Hid (∀ W, Below w.heap.size w W → Calls Tryd.prog 75 #[.int .u64 ((first ^^^ run : Nat) : Int)] W fun e w' => e = .returned (.int .i64 k) ∧ W = w') := Lib.hid fun W hb => tz64_ok _ k W hx1 (by omega) hk (hT.below hb)
  have HL : Hid (∀ W, Calls Tryd.prog 76 #[.int .u64 ((old ^^^ run : Nat) : Int)] W fun e w' => (∃ n : Int, e = .returned (.int .i64 n) ∧ 1 ≤ n ∧ n ≤ 64) ∧ W = w') := Lib.hid fun W => len64_ok _ W (by omega) (by omega)
  rw [← hk] at hc
  generalize first ^^^ run = X at *
  generalize old ^^^ run = Y at *
  clear hz hn0 hlow hne hk hT
  go_enter Tryd.func63, Tryd.ntmps63
  go_wp2_with (simp only [e1])
  refine (HTZ.out w (Below.refl _ _)).mono ?_
  rintro e w1 ⟨rfl, rfl⟩
  go_wp2_with fail
  refine (HL.out w).mono ?_
  rintro e w1 ⟨⟨n, rfl, hn1, hn2⟩, rfl⟩
  have hd : decide (n ≤ (k : Int) / 8 * 8) = false := by rw [decide_eq_false_iff_not]; omega
  go_wp2
  go_ret
  exact ⟨rfl, Below.refl _ _⟩
end Go.Proofs.YtljlkmmeedlaiaaDoor
