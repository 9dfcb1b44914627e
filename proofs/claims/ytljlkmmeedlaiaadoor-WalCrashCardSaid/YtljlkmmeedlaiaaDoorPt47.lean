/- Layer 3's laws: what WalCrash is handed, opened: a log's place, and lives. -/
import Derived.Test.YtljlkmmeedlaiaaDoorPt46
import Derived.Test.YtljlkmmeedlaiaaDoorPt41
import Derived.Test.YtljlkmmeedlaiaaDoorPt44
import Derived.Test.YtljlkmmeedlaiaaDoorPt18
namespace Go.Proofs.YtljlkmmeedlaiaaDoor
open Go.RowKit Go.ChangeShapes Go.WideShapes Go.Deep

/-- A life as it lies in memory: fates, a script, picks. -/
structure WLife where
  af : Option Addr
  cf : Nat
  fates : List (Int × Int)
  as_ : Option Addr
  cs : Nat
  script : List WStep
  ap : Option Addr
  cp : Nat
  picks : List Int
def wlifeCells (y : WLife) : List Value := [.slice y.af y.fates.length y.cf, .slice y.as_ y.script.length y.cs, .slice y.ap y.picks.length y.cp]
def wlcs (l : List WLife) : List Value := l.flatMap wlifeCells
structure WLifeOk (w : World) (y : WLife) : Prop where
  fates : Holds w y.af y.fates.length 2 (fcs y.fates)
  capf : y.fates.length ≤ y.cf ∧ y.cf ≤ 9223372036854775807
  script : WScriptOk w y.as_ y.script
  caps : y.script.length ≤ y.cs ∧ y.cs ≤ 9223372036854775807
  picks : Holds w y.ap y.picks.length 1 (ints y.picks)
  capp : y.picks.length ≤ y.cp ∧ y.cp ≤ 9223372036854775807
  wf : ∀ k ∈ y.picks, (Lit.int .i64 k).wf = true
structure WLivesOk (w : World) (A : Option Addr) (l : List WLife) : Prop where
  holds : Holds w A l.length 3 (wlcs l)
  life : ∀ y ∈ l, WLifeOk w y
def noWLife : WLife := ⟨none, 0, [], none, 0, [], none, 0, []⟩
theorem WLifeOk.below {w w' : World} {y : WLife} (h : WLifeOk w y) (hb : Below w.heap.size w w') : WLifeOk w' y :=
  ⟨h.fates.below hb, h.capf, h.script.below hb, h.caps, h.picks.below hb, h.capp, h.wf⟩
theorem WLivesOk.below {w w' : World} {A : Option Addr} {l : List WLife} (h : WLivesOk w A l) (hb : Below w.heap.size w w') : WLivesOk w' A l :=
  ⟨h.holds.below hb, fun y hy => (h.life y hy).below hb⟩
theorem WLivesOk.get {w : World} {A : Option Addr} {l : List WLife} (h : WLivesOk w A l) {k : Nat} (hk : k < l.length) : WLifeOk w (l.getD k noWLife) :=
  h.life _ (by rw [List.getD_eq_getElem?_getD, List.getElem?_eq_getElem hk]; exact List.getElem_mem hk)
section
variable {H : Type} {enc : TypeId × Value → H} {w : World}
set_option maxRecDepth 100000 in
theorem open_lives {fuel : Nat} {v : Value} {x : DataW H × List MemPlace} (h : DataW.trod enc Tryd.prog w 0 (fun _ => true) true fuel 54 [v] = some x) :
    ∃ A c l, v = .slice A l.length c ∧ WLivesOk w A l ∧ (l.length ≤ c ∧ c ≤ 9223372036854775807) := by
  rcases open_slice Tryd.underlying54 h with ⟨hcs, _⟩ | ⟨a, len, cap, m, n, D, Pl, hcs, _, hl, hm, hmm, _, hi⟩
  · injection hcs with hcs
    subst hcs
    exact ⟨none, 0, [], rfl, ⟨Holds.nil _ _ _, fun s hs => by simp at hs⟩, by simp, by omega⟩
  · injection hcs with hcs
    subst hcs
    have hC : Tryd.prog.cellsOf 59 = 3 := by kernel_rfl
    have hlm : len ≤ m := by rw [hmm]; split <;> omega
    obtain ⟨l, hll, hq⟩ := list_of_each (α := WLife) len (fun i s => WLifeOk w s ∧ ∀ j v, (wlifeCells s)[j]? = some v → w.cell? (a.add (i * 3 + j)) = some v) noWLife fun i hil => by
      obtain ⟨cs', hc, ht⟩ := hi i (by omega)
      obtain ⟨_, hcl, hat⟩ := World.cells?_some hc
      obtain ⟨hl2, n', hf⟩ := fields_one Tryd.underlying59 (by kernel_rfl) (by kernel_rfl) ht
      obtain ⟨v0, y0, e0, t0⟩ := hf 0 _ rfl
      obtain ⟨v1, y1, e1, t1⟩ := hf 1 _ rfl
      obtain ⟨v2, y2, e2, t2⟩ := hf 2 _ rfl
      obtain ⟨A0, c0, l0, rfl, b0, p0⟩ := open_fates t0
      obtain ⟨A1, c1, l1, rfl, b1, p1⟩ := open_wsteps t1
      obtain ⟨A2, c2, l2, rfl, b2, p2, q2⟩ := open_nums t2
      rw [hC] at hat
      refine ⟨⟨A0, c0, l0, A1, c1, l1, A2, c2, l2⟩, ⟨b0, p0, b1, p1, b2, p2, q2⟩, fun j v hv => ?_⟩
      have hj : j < 3 := (List.getElem?_eq_some_iff.1 hv).1
      have h9 := hat j hj
      rw [add_add] at h9
      rw [h9]
      rcases (by omega : j = 0 ∨ j = 1 ∨ j = 2) with rfl | rfl | rfl
      · rw [e0]; exact hv
      · rw [e1]; exact hv
      · rw [e2]; exact hv
    subst hll
    refine ⟨some a, cap, l, rfl, ⟨holds_flat wlifeCells 3 (by omega) (fun _ => rfl) noWLife l fun k hk => (hq k hk).2, fun s hs => ?_⟩, hl, by unfold maxLen at hm; omega⟩
    obtain ⟨i, hi, rfl⟩ := List.mem_iff_getElem.1 hs
    have := (hq i hi).1
    rwa [List.getD_eq_getElem?_getD, List.getElem?_eq_getElem hi] at this
set_option maxRecDepth 100000 in
theorem open_wcrash {r : Reach} {b0 : Nat} {v : Value} {d : DataW H} {p : List MemPlace} (hv : Value.okWide Tryd.prog w r b0 56 v) (h : DataW.Trod enc Tryd.prog w 0 (fun _ => true) true 56 v d p) :
    ∃ sz fr n A c l, v = .agg #[.int .i64 sz, .int .i64 fr, .int .i64 n, .slice A l.length c] ∧ (Lit.int .i64 sz).wf = true ∧ (Lit.int .i64 fr).wf = true ∧ (Lit.int .i64 n).wf = true ∧ WLivesOk w A l ∧ (l.length ≤ c ∧ c ≤ 9223372036854775807) := by
  obtain ⟨cs, rfl, hsz⟩ := okWide_struct Tryd.underlying56 hv
  obtain ⟨fuel, hf⟩ := h
  have hC : Tryd.prog.cellsOf 56 = 4 := by kernel_rfl
  have hL : Tryd.prog.cellsOf 23 = 3 := by kernel_rfl
  have hS : Tryd.prog.cellsOf 54 = 1 := by kernel_rfl
  have hcc : (Value.agg cs).cells.toList = cs.toList := by simp [Value.cells]
  obtain ⟨xs, n0, _, _, hlen, hxl, hg⟩ := DataW.trod_struct Tryd.underlying56 hf
  rw [hcc] at hlen hg
  rw [hC] at hlen
  obtain ⟨a0, a1, a2, a3, hcs⟩ : ∃ a0 a1 a2 a3, cs.toList = [a0, a1, a2, a3] := by
    match hq : cs.toList, hlen with
    | [a0, a1, a2, a3], _ => exact ⟨_, _, _, _, rfl⟩
  have g0 := hg 0 _ rfl
  have g1 := hg 1 _ rfl
  rw [hcs] at g0 g1
  have hx2 : xs.length = 2 := hxl
  rw [List.getElem?_eq_getElem (by omega)] at g0 g1
  have g0 : DataW.trod enc Tryd.prog w 0 (fun _ => true) true n0 23 (([a0, a1, a2, a3].drop 0).take (Tryd.prog.cellsOf 23)) = _ := g0
  have g1 : DataW.trod enc Tryd.prog w 0 (fun _ => true) true n0 54 (([a0, a1, a2, a3].drop 3).take (Tryd.prog.cellsOf 54)) = _ := g1
  rw [hL] at g0
  rw [hS] at g1
  obtain ⟨hl2, n', hk⟩ := fields_one Tryd.underlying23 (by kernel_rfl) (by kernel_rfl) g0
  obtain ⟨v0, y0, e0, t0⟩ := hk 0 _ rfl
  obtain ⟨v1, y1, e1, t1⟩ := hk 1 _ rfl
  obtain ⟨v2, y2, e2, t2⟩ := hk 2 _ rfl
  obtain ⟨k0, hk0, _, w0⟩ := DataW.trod_int Tryd.underlying3 t0
  obtain ⟨k1, hk1, _, w1⟩ := DataW.trod_int Tryd.underlying3 t1
  obtain ⟨k2, hk2, _, w2⟩ := DataW.trod_int Tryd.underlying3 t2
  injection hk0 with hk0
  injection hk1 with hk1
  injection hk2 with hk2
  subst hk0; subst hk1; subst hk2
  obtain rfl : a0 = _ := Option.some.inj e0
  obtain rfl : a1 = _ := Option.some.inj e1
  obtain rfl : a2 = _ := Option.some.inj e2
  obtain ⟨A, c, l, rfl, b1, b2⟩ := open_lives g1
  refine ⟨k0, k1, k2, A, c, l, ?_, w0, w1, w2, b1, b2⟩
  congr 1
  exact Array.toList_inj.1 hcs
end
end Go.Proofs.YtljlkmmeedlaiaaDoor
/- The law WalCrash: what a script's calls leave under faults, and what a crash leaves, from the law's side. -/
namespace Go.Proofs.YtljlkmmeedlaiaaDoor
open Go.RowKit

theorem LaidOut.count {f : Int → List Nat} {a : Int} {B R : Nat} : ∀ {xs : List (Nat × List Nat)} {o p used last : Nat}, LaidOut f a B R o p xs used last → o + xs.length ≤ used ∧ ∀ b ∈ xs.map (·.2), b.length < 4294967296
  | [], _, _, _, _, h => ⟨Nat.le_of_eq h.1.symm, fun b hb => (List.not_mem_nil hb).elim⟩
  | (r, b) :: xs, o, p, used, last, h => by
    obtain ⟨_, _, _, hl, _, hrest⟩ := h
    obtain ⟨h1, h2⟩ := hrest.count
    have hc : 1 ≤ costN b.length := by unfold costN; omega
    refine ⟨by rw [List.length_cons]; omega, fun c hc9 => ?_⟩
    rcases List.mem_cons.1 hc9 with h9 | h9
    · rw [h9]; exact hl
    · exact h2 c h9
theorem Sound.count {f : Int → List Nat} {a n R B used : Nat} {bs : List (List Nat)} (h : Sound f a n R B used bs) : bs.length ≤ 1000000 ∧ ∀ b ∈ bs, b.length ≤ 140737488355328 := by
  obtain ⟨xs, last, hl, hbs, _⟩ := h.laid
  obtain ⟨h1, h2⟩ := hl.count
  have := h.fit
  have := h.n9
  rw [← hbs]
  exact ⟨by rw [List.length_map]; omega, fun b hb => Nat.le_trans (Nat.le_of_lt (h2 b hb)) (by decide)⟩

/-- A log under fates; q: none are to come. -/
def LogC (W : World) (O : Nat → Prop) (dp p size a n R B used : Nat) (bs : List (List Nat)) (q : Bool) : Prop :=
  ∃ FL FD d f, LogOn W FL FD p ⟨dp, a, n, R, B, used, bs, false⟩ d ∧ d.size = size ∧ Still d f ∧ (q = true → d.fates = []) ∧ Live f a n R B used bs ∧ ∀ k, O k → k < W.heap.size ∧ ¬ FL k ∧ ¬ FD k
/-- A dead log; P: what any crash leaves. -/
def LogX (W : World) (O : Nat → Prop) (dp p size : Nat) (bs : List (List Nat)) (P : (Int → List Nat) → Prop) : Prop :=
  ∃ FL FD d l, LogOn W FL FD p l d ∧ l.dp = dp ∧ l.bs = bs ∧ l.dead = true ∧ d.size = size ∧ d.pieces.length ≤ 1000000 ∧ (∀ picks, P (crashTo d.lasting d.pieces picks d.pieces.length)) ∧ ∀ k, O k → k < W.heap.size ∧ ¬ FL k ∧ ¬ FD k
/-- A disk; P: what any crash leaves. -/
def EndD (W : World) (dp size : Nat) (P : (Int → List Nat) → Prop) : Prop :=
  ∃ FD d, DiskAt W FD dp d ∧ d.size = size ∧ d.pieces.length ≤ 1000000 ∧ ∀ picks, P (crashTo d.lasting d.pieces picks d.pieces.length)
section
variable {W W' : World} {O : Nat → Prop} {dp p size a n R B used : Nat} {bs : List (List Nat)} {q : Bool} {f : Int → List Nat} {P : (Int → List Nat) → Prop}
theorem LogC.call (h : LogC W O dp p size a n R B used bs q) (hb : Below W.heap.size W W') : LogC W' O dp p size a n R B used bs q := by
  obtain ⟨FL, FD, d, f, h1, h2, h3, h4, h5, h6⟩ := h
  exact ⟨FL, FD, d, f, h1.call hb, h2, h3, h4, h5, fun k hk => ⟨Nat.lt_of_lt_of_le (h6 k hk).1 hb.size, (h6 k hk).2⟩⟩
theorem LogC.own (h : LogC W O dp p size a n R B used bs q) (hb : Below W.heap.size W W') {O' : Nat → Prop} (hO : ∀ k, O' k → O k ∨ (W.heap.size ≤ k ∧ k < W'.heap.size)) : LogC W' O' dp p size a n R B used bs q := by
  obtain ⟨FL, FD, d, f, h1, h2, h3, h4, h5, h6⟩ := h
  refine ⟨FL, FD, d, f, h1.call hb, h2, h3, h4, h5, fun k hk => ?_⟩
  rcases hO k hk with hk | hk
  · exact ⟨Nat.lt_of_lt_of_le (h6 k hk).1 hb.size, (h6 k hk).2⟩
  · exact ⟨hk.2, fun hl => by have := h1.thereL k hl; omega, fun hd => by have := h1.thereD k hd; omega⟩
theorem LogC.there (h : LogC W O dp p size a n R B used bs q) {k : Nat} (hk : O k) : k < W.heap.size := by
  obtain ⟨FL, FD, d, f, h1, h2, h3, h4, h5, h6⟩ := h
  exact (h6 k hk).1
theorem LogC.live (h : LogC W O dp p size a n R B used bs q) : ∃ f, Live f a n R B used bs := by
  obtain ⟨FL, FD, d, f, h1, h2, h3, h4, h5, h6⟩ := h
  exact ⟨f, h5⟩
theorem LogX.call (h : LogX W O dp p size bs P) (hb : Below W.heap.size W W') : LogX W' O dp p size bs P := by
  obtain ⟨FL, FD, d, l, h1, h2, h3, h4, h5, h6, h7, h8⟩ := h
  exact ⟨FL, FD, d, l, h1.call hb, h2, h3, h4, h5, h6, h7, fun k hk => ⟨Nat.lt_of_lt_of_le (h8 k hk).1 hb.size, (h8 k hk).2⟩⟩
theorem EndD.call (h : EndD W dp size P) (hb : Below W.heap.size W W') : EndD W' dp size P := by
  obtain ⟨FD, d, h1, h2⟩ := h
  exact ⟨FD, d, h1.below hb, h2⟩
theorem EndD.mono (h : EndD W dp size P) {P' : (Int → List Nat) → Prop} (hp : ∀ g, P g → P' g) : EndD W dp size P' := by
  obtain ⟨FD, d, h1, h2, h3, h4⟩ := h
  exact ⟨FD, d, h1, h2, h3, fun k => hp _ (h4 k)⟩
theorem LogX.end_ (h : LogX W O dp p size bs P) : EndD W dp size P := by
  obtain ⟨FL, FD, d, l, h1, h2, h3, h4, h5, h6, h7, h8⟩ := h
  exact ⟨FD, d, h2 ▸ h1.disk, h5, h6, h7⟩
theorem LogC.end_ (h : LogC W O dp p size a n R B used bs q) : EndD W dp size (fun g => Sound g a n R B used bs) := by
  obtain ⟨FL, FD, d, f, h1, h2, h3, h4, h5, h6⟩ := h
  refine ⟨FD, d, h1.disk, h2, by rw [h3.pieces]; decide, fun picks => ?_⟩
  rw [h3.pieces, h3.last]
  exact h5.toSound
theorem kept_not {FL FD : Nat → Prop} (hO : ∀ k, O k → k < W.heap.size ∧ ¬ FL k ∧ ¬ FD k) (hk : Kept (fun k => FL k ∨ FD k) W W') : Kept (fun k => ¬ O k) W W' :=
  hk.mono fun k _ hx ho => by
    rcases hx with hx | hx
    · exact (hO k ho).2.1 hx
    · exact (hO k ho).2.2 hx
theorem own_apart {FL FD FL' FD' : Nat → Prop} (hO : ∀ k, O k → k < W.heap.size ∧ ¬ FL k ∧ ¬ FD k) (hL : ∀ k, FL' k → grow FL W k) (hD : ∀ k, FD' k → grow FD W k) (hs : W.heap.size ≤ W'.heap.size) : ∀ k, O k → k < W'.heap.size ∧ ¬ FL' k ∧ ¬ FD' k := fun k ho => ⟨Nat.lt_of_lt_of_le (hO k ho).1 hs, fun hl => by
    rcases hL k hl with h9 | h9
    · exact (hO k ho).2.1 h9
    · have := (hO k ho).1; omega, fun hd => by
    rcases hD k hd with h9 | h9
    · exact (hO k ho).2.2 h9
    · have := (hO k ho).1; omega⟩
theorem LogC.of_left {FL FD : Nat → Prop} {l : L} {d' : D} {f' : Int → List Nat} {R' B' used' : Nat} {bs' : List (List Nat)} (hO : ∀ k, O k → k < W.heap.size ∧ ¬ FL k ∧ ¬ FD k) (hl : Left W FL FD p l d' W') (he : l = ⟨dp, a, n, R', B', used', bs', false⟩) (hsz : d'.size = size) (hst : Still d' f') (hc : Live f' a n R' B' used' bs') :
    LogC W' O dp p size a n R' B' used' bs' false ∧ Kept (fun k => ¬ O k) W W' := by
  subst he
  obtain ⟨⟨FL', FD', h1, h2, h3⟩, hk⟩ := hl
  exact ⟨⟨FL', FD', d', f', h1, hsz, hst, (fun h => nomatch h), hc, own_apart hO h2 h3 hk.size⟩, kept_not hO hk⟩
theorem LogX.of_left {FL FD : Nat → Prop} {l : L} {d' : D} {fa : Int} {b : List Nat} {m : Nat} (hO : ∀ k, O k → k < W.heap.size ∧ ¬ FL k ∧ ¬ FD k) (hl : Left W FL FD p l d' W') (hdp : l.dp = dp) (hbs : l.bs = bs) (hd : l.dead = true) (hsz : d'.size = size) (ht : TornD d' f fa b m) (hm : m ≤ 65536) (hf : ∀ k, Sec (f k)) (hs : Small b) (hlen : b.length = m * 512)
    (hp : ∀ g, TornF f g fa b m → P g) : LogX W' O dp p size bs P ∧ Kept (fun k => ¬ O k) W W' := by
  obtain ⟨⟨FL', FD', h1, h2, h3⟩, hk⟩ := hl
  refine ⟨⟨FL', FD', d', l, h1, hdp, hbs, hd, hsz, ?_, fun picks => hp _ (torn_crash ht hf hs hlen picks), own_apart hO h2 h3 hk.size⟩, kept_not hO hk⟩
  obtain ⟨j1, j2, _, h5, _, h6⟩ := ht
  rw [h6, List.length_drop, piecesW_length]
  omega
theorem lc_open (h : DiskSt W O dp size f) (hc : Sound f a n R B used bs) (hfit : a + n ≤ size) (hr : R + 1 < 4611686018427387904) (hnear : R + 1 < B + 256) :
    Calls Tryd.prog 11 #[.pointer (some ⟨dp, 0, none⟩), .int .i64 a, .int .i64 n] W fun e w' => ∃ p, e = .returned (.tuple #[.pointer (some ⟨p, 0, none⟩), .int .i64 0]) ∧ LogC w' O dp p size a n (R + 1) B used bs true ∧ Kept (fun k => ¬ O k) W w' := by
  obtain ⟨FD, d, h1, h2, h3, h4, h5, h6⟩ := h
  have hs := hc.sel
  refine (open_ok W FD dp d f a n (R + 1) ((R + 1) % 2) h1 h2 h4 h5 hc.n4 (by omega) (by rw [hs]) rfl).mono ?_
  rintro e w' (⟨hbad, _⟩ | ⟨_, _, FL, FD', p, d', rfl, hon, hsz, hst, hft, hF, hD, hk⟩)
  · exact absurd ⟨hc.good, hr⟩ hbad
  · rw [hc.load dp] at hon
    rw [hs] at hst
    refine ⟨p, rfl, ⟨FL, FD', d', _, hon, by rw [hsz, h3], hst, fun _ => hft, hc.turn hr hnear rfl, fun k ho => ⟨Nat.lt_of_lt_of_le (h6 k ho).1 hk.size, fun hl => ?_, fun hd => ?_⟩⟩, hk.mono fun k _ hx ho => (h6 k ho).2 hx⟩
    · have := hF k hl
      have := (h6 k ho).1
      omega
    · rcases hD k hd with h9 | h9
      · exact (h6 k ho).2 h9
      · have := (h6 k ho).1; omega
theorem lc_feed (h : LogC W O dp p size a n R B used bs true) {A : Option Addr} {c : Nat} {l : List (Int × Int)} (hl : Holds W A l.length 2 (fcs l)) (hn : l.length ≤ 1000000) (hk : kindsB l = true) :
    Calls Tryd.prog 22 #[.pointer (some ⟨dp, 0, none⟩), .slice A l.length c] W fun e w' => e = .returned (.int .i64 0) ∧ LogC w' O dp p size a n R B used bs false ∧ Kept (fun k => ¬ O k) W w' := by
  obtain ⟨FL, FD, d, f, h1, h2, h3, h4, h5, h6⟩ := h
  obtain ⟨t, ht⟩ := h1.disk
  refine (feed_ok FD dp d t A c l W ht hl hn (by rw [h4 rfl]; decide) hk).mono ?_
  rintro e w' ⟨rfl, hd, hkp⟩
  have hon := h1.step hd hkp rfl
  refine ⟨rfl, ⟨FL, _, _, f, hon, h2, ⟨h3.pieces, h3.last, h3.read, h3.sec⟩, fun h => (by cases h), h5, fun k ho => ⟨Nat.lt_of_lt_of_le (h6 k ho).1 hkp.size, (h6 k ho).2.1, fun hx => ?_⟩⟩, hkp.mono fun k _ hx ho => (h6 k ho).2.2 hx⟩
  rcases hx.1 with h9 | h9
  · exact (h6 k ho).2.2 h9
  · have := (h6 k ho).1; omega
theorem lc_reset (h : LogC W O dp p size a n R B used bs q) (hr : R + 1 < 4611686018427387904) :
    Calls Tryd.prog 15 #[.pointer (some ⟨p, 0, none⟩)] W fun e w' => (e = .returned (.int .i64 0) ∧ LogC w' O dp p size a n (R + 1) (R + 1) 0 [] false ∧ Kept (fun k => ¬ O k) W w') ∨
      (e = .returned (.int .i64 5) ∧ LogX w' O dp p size bs (fun g => Sound g a n R B used bs ∨ Sound g a n (R + 1) (R + 1) 0 []) ∧ Kept (fun k => ¬ O k) W w') := by
  obtain ⟨FL, FD, d, f, h1, h2, h3, h4, h5, h6⟩ := h
  refine (reset_ok W FL FD p _ d f (R + 1) ((R + 1) % 2) rfl rfl h1 h3 rfl hr).mono ?_
  rintro e w' (⟨rfl, d', hl, hsz, hst, hft⟩ | ⟨rfl, hf, d', hl, hsz, hto⟩)
  · exact .inl ⟨rfl, LogC.of_left h6 hl rfl (by rw [hsz, h2]) hst (h5.toSound.reset hr rfl)⟩
  · exact .inr ⟨rfl, LogX.of_left h6 hl rfl rfl rfl (by rw [hsz, h2]) hto (by decide) h3.sec (headL_small _ _) (by rw [headL_len]) fun g hg => h5.tornReset hr rfl hg⟩
theorem lc_append {A : Option Addr} {c len : Nat} {b : List Nat} (h : LogC W O dp p size a n R B used bs q) (hT : Tab W) (hA : Bytes W A len b) (hg : 0 < len → ∀ x, A = some x → O x.block) (hfit : used + costN len + 2 ≤ n) :
    Calls Tryd.prog 13 #[.pointer (some ⟨p, 0, none⟩), .slice A len c] W fun e w' => (e = .returned (.int .i64 0) ∧ LogC w' O dp p size a n R B (used + costN len) (bs ++ [b]) false ∧ Kept (fun k => ¬ O k) W w') ∨
      (e = .returned (.int .i64 5) ∧ LogX w' O dp p size bs (fun g => Sound g a n R B used bs ∨ Sound g a n R B (used + costN len) (bs ++ [b])) ∧ Kept (fun k => ¬ O k) W w') := by
  obtain ⟨FL, FD, d, f, h1, h2, h3, h4, h5, h6⟩ := h
  have hlen := hA.len
  have hn9 := h5.n9
  have hrun := h5.run
  refine (append_ok W FL FD p _ d f A len c (costN len) (2 + used) b h1 h3 rfl hA (fun h0 x e => (h6 _ (hg h0 x e)).2) rfl rfl hfit h5.toSound.count.1 (fun i hi => ?_)).mono ?_
  · have e : (a : Int) + ((2 + used : Nat) : Int) + (i : Int) = (a : Int) + 2 + ((used + i : Nat) : Int) := by omega
    show runL (f ((a : Int) + ((2 + used : Nat) : Int) + (i : Int))) = runL ((f ((a : Int) + ((2 + used : Nat) : Int) + (i : Int))).drop 500) ∨ runL ((f ((a : Int) + ((2 + used : Nat) : Int) + (i : Int))).drop 500) < B ∨ _
    rw [e]
    have hfr := h5.fresh (used + i) (by omega) (by omega)
    have hbl := h5.below (used + i) (by omega)
    have hnear := h5.near
    rcases Nat.lt_or_ge (runL ((f ((a : Int) + 2 + ((used + i : Nat) : Int))).drop 500)) B with h9 | h9
    · exact .inr (.inl h9)
    · by_cases h8 : runL (f ((a : Int) + 2 + ((used + i : Nat) : Int))) = runL ((f ((a : Int) + 2 + ((used + i : Nat) : Int))).drop 500)
      · exact .inl h8
      · refine .inr (.inr fun W2 hb => ?_)
        generalize runL ((f ((a : Int) + 2 + ((used + i : Nat) : Int))).drop 500) = r2 at *
        generalize runL (f ((a : Int) + 2 + ((used + i : Nat) : Int))) = r1 at *
        exact mixed_ok R r1 r2 W2 (by omega) (by omega) (by omega) (by omega) h8 (hT.below hb)
  · rintro e w' (⟨rfl, d', hl, hsz, hst, hft⟩ | ⟨rfl, hf, d', hl, hsz, hto⟩)
    · exact .inl ⟨rfl, LogC.of_left h6 hl rfl (by rw [hsz, h2]) hst (h5.append hA.2.1 (by rw [hlen]) rfl hfit)⟩
    · have hsm : Small (cutL R used b) := cutP_small R used ((leB_small _ _).append hA.2.1) _
      have hcl : (cutL R used b).length = costN len * 512 := by unfold cutL; rw [cutP_len, frTo_length (Nat.le_refl _), hlen]
      exact .inr ⟨rfl, LogX.of_left h6 hl rfl rfl rfl (by rw [hsz, h2]) hto (by omega) h3.sec hsm hcl fun g hg => h5.torn hA.2.1 (by rw [hlen]) rfl hfit hg⟩
theorem lc_full {A : Option Addr} {c len : Nat} (h : LogC W O dp p size a n R B used bs q) (hfit : n < used + costN len + 2) :
    Calls Tryd.prog 13 #[.pointer (some ⟨p, 0, none⟩), .slice A len c] W fun e w' => e = .returned (.int .i64 6) ∧ Below W.heap.size W w' := by
  obtain ⟨FL, FD, d, f, h1, h2, h3, h4, h5, h6⟩ := h
  refine append_full W FL FD p _ d A len c h1 rfl ?_
  unfold roomL
  show ((n : Int) - 2 - (used : Int)) * 488 - 4 < (len : Int)
  have := h5.fit
  unfold costN at hfit
  omega
theorem lc_state (h : LogC W O dp p size a n R B used bs q) :
    Calls Tryd.prog 19 #[.pointer (some ⟨p, 0, none⟩)] W fun e w' => (∃ y : Int, e = .returned (.tuple #[.int .i64 bs.length, .int .i64 y, .int .u64 R, .bool false])) ∧ Below W.heap.size W w' := by
  obtain ⟨FL, FD, d, f, h1, _⟩ := h
  exact (state_ok W FL FD p _ d h1).mono fun e w' h => ⟨⟨_, h.1⟩, h.2⟩
theorem lx_state (h : LogX W O dp p size bs P) :
    Calls Tryd.prog 19 #[.pointer (some ⟨p, 0, none⟩)] W fun e w' => (∃ (y : Int) (r : Nat), e = .returned (.tuple #[.int .i64 bs.length, .int .i64 y, .int .u64 r, .bool true])) ∧ Below W.heap.size W w' := by
  obtain ⟨FL, FD, d, l, h1, h2, h3, h4, h5, h6, h7, h8⟩ := h
  refine (state_ok W FL FD p _ d h1).mono fun e w' h => ⟨⟨max (roomL l) 0, l.run, ?_⟩, h.2⟩
  rw [h.1, h3, h4]
theorem lx_append {A : Option Addr} {c len : Nat} (h : LogX W O dp p size bs P) :
    Calls Tryd.prog 13 #[.pointer (some ⟨p, 0, none⟩), .slice A len c] W fun e w' => e = .returned (.int .i64 10) ∧ W = w' := by
  obtain ⟨FL, FD, d, l, h1, h2, h3, h4, h5, h6, h7, h8⟩ := h
  exact append_dead W FL FD p l d A len c h1 h4
theorem lx_reset (h : LogX W O dp p size bs P) :
    Calls Tryd.prog 15 #[.pointer (some ⟨p, 0, none⟩)] W fun e w' => e = .returned (.int .i64 10) ∧ W = w' := by
  obtain ⟨FL, FD, d, l, h1, h2, h3, h4, h5, h6, h7, h8⟩ := h
  exact reset_dead W FL FD p l d h1 h4
theorem log_tells {FL FD : Nat → Prop} {l : L} {d : D} {Aw : Option Addr} {cw : Nat} (h : LogOn W FL FD p l d) (he : l.bs = bs) (hc : bs.length ≤ 1000000 ∧ ∀ b ∈ bs, b.length ≤ 140737488355328) (hw : Holds W Aw bs.length 1 (txts bs)) :
    Calls Tryd.prog 20 #[.pointer (some ⟨p, 0, none⟩), .slice Aw bs.length cw] W fun e w' => e = .returned (.bool true) ∧ Below W.heap.size W w' := by
  have hst : ∀ W', Below W.heap.size W W' → Calls Tryd.prog 19 #[.pointer (some ⟨p, 0, none⟩)] W' fun e w' => (∃ x y z, e = .returned (.tuple #[.int .i64 bs.length, x, y, z])) ∧ Below W'.heap.size W' w' := fun W' hb =>
    (state_ok W' FL FD p l d (h.call hb)).mono fun e w' ⟨h9, hb'⟩ => ⟨⟨.int .i64 (max (roomL l) 0), .int .u64 l.run, .bool l.dead, by rw [h9, he]⟩, hb'⟩
  obtain ⟨xs, hx, hld⟩ := loaded_log h (by rw [he]; exact hc.1) (by rw [he]; exact hc.2)
  rw [he] at hx
  clear he h hc
  have hlen : xs.length = bs.length := by rw [← hx, List.length_map]
  rw [← hlen] at hw hst ⊢
  rw [← hx] at hw
  exact tells_run p W xs Aw cw hld hst hw
theorem lc_tells {Aw : Option Addr} {cw : Nat} (h : LogC W O dp p size a n R B used bs q) (hw : Holds W Aw bs.length 1 (txts bs)) :
    Calls Tryd.prog 20 #[.pointer (some ⟨p, 0, none⟩), .slice Aw bs.length cw] W fun e w' => e = .returned (.bool true) ∧ Below W.heap.size W w' := by
  obtain ⟨FL, FD, d, f, h1, h2, h3, h4, h5, h6⟩ := h
  exact log_tells h1 rfl h5.toSound.count hw
theorem lx_tells {Aw : Option Addr} {cw : Nat} (h : LogX W O dp p size bs P) (hc : bs.length ≤ 1000000 ∧ ∀ b ∈ bs, b.length ≤ 140737488355328) (hw : Holds W Aw bs.length 1 (txts bs)) :
    Calls Tryd.prog 20 #[.pointer (some ⟨p, 0, none⟩), .slice Aw bs.length cw] W fun e w' => e = .returned (.bool true) ∧ Below W.heap.size W w' := by
  obtain ⟨FL, FD, d, l, h1, h2, h3, h4, h5, h6, h7, h8⟩ := h
  exact log_tells h1 h3 hc hw
theorem end_crash (h : EndD W dp size P) (hp : ∀ g, P g → ∀ k, Sec (g k)) {A : Option Addr} {c : Nat} {picks : List Int} (h1 : Holds W A picks.length 1 (ints picks)) (hc : picks.length ≤ c ∧ c ≤ 9223372036854775807) (hwf : ∀ x ∈ picks, (Lit.int .i64 x).wf = true) :
    Calls Tryd.prog 23 #[.pointer (some ⟨dp, 0, none⟩), .slice A picks.length c] W fun e w' =>
      ∃ v x, e = .returned (.tuple #[v, .int .i64 x]) ∧ Below W.heap.size W w' ∧ (x = 2 ∨ (x = 0 ∧ ∃ p' g, v = .pointer (some ⟨p', 0, none⟩) ∧ P g ∧ DiskSt w' (fun k => k < W.heap.size) p' size g)) := by
  obtain ⟨FD, d, e1, e2, e3, e4⟩ := h
  by_cases hn : noneBelow picks
  · refine (crash_ok dp d A c picks W e1 h1 hc.1 hc.2 hn hwf e3).mono ?_
    rintro e w' ⟨p', he, hd, hb⟩
    rw [e2] at hd
    refine ⟨_, _, he, hb, .inr ⟨rfl, p', _, rfl, e4 picks, ⟨_, _, hd.there, fun k hk => hk.2, rfl, ⟨rfl, rfl, rfl, hp _ (e4 picks)⟩, rfl, fun k hk => ⟨Nat.lt_of_lt_of_le hk hb.size, fun hx => ?_⟩⟩⟩⟩
    rcases hx.1 with h9 | h9
    · exact h9
    · omega
  · refine (crash_arg dp d A c picks W e1 h1 hc.1 hc.2 hn).mono ?_
    rintro e w' ⟨he, hb⟩
    exact ⟨_, _, he, hb, .inl rfl⟩
theorem ds_look (h : DiskSt W O dp size f) (hc : Sound f a n R B used bs) (hfit : a + n ≤ size) :
    Calls Tryd.prog 12 #[.pointer (some ⟨dp, 0, none⟩), .int .i64 a, .int .i64 n] W (LookPost W bs 0) := by
  obtain ⟨FD, d, h1, h2, h3, h4, h5, h6⟩ := h
  have hl := hc.load dp
  have e : (loadL dp a n f).bs = bs := by rw [hl]
  have := look_ok W FD dp d f a n h1 h2 h4.read h4.sec hc.n4 (by omega) hc.good (by rw [e]; exact hc.count.1) (by rw [e]; exact hc.count.2)
  rwa [e] at this
end
end Go.Proofs.YtljlkmmeedlaiaaDoor
/- The law WalCrash: what it carries from call to call. -/
namespace Go.Proofs.YtljlkmmeedlaiaaDoor
open Go.RowKit

/-- While a life's script is played: a log (bs: its batches), the texts ws that it expects, blocks Z of the law's own; bx: its argument's box, yc: the life's. -/
structure CrS (w : World) (bx : Array Value) (yb : Nat) (yc : Array Value) (sz a n dp p R B used : Nat) (bs ws : List (List Nat)) (Aw : Option Addr) (cw : Nat) (q : Bool) (Z : Nat → Prop) (W : World) : Prop where
  log : ∃ O, LogC W O dp p sz a n R B used bs q ∧ (∀ k, k ≤ w.heap.size → O k) ∧ O yb ∧ (∀ k, Z k → O k) ∧ Lies W (fun k => O k) 9 1 (.slice Aw ws.length cw) ws.length (txts ws)
  box : Row W w.heap.size 56 bx
  life : Row W yb 59 yc
  below : Below w.heap.size w W
/-- Behind a step that failed: P is what any crash leaves. -/
structure CrX (w : World) (bx : Array Value) (yb : Nat) (yc : Array Value) (sz dp p : Nat) (bs : List (List Nat)) (P : (Int → List Nat) → Prop) (Aw : Option Addr) (cw : Nat) (W : World) : Prop where
  log : ∃ O, LogX W O dp p sz bs P
  want : Holds W Aw bs.length 1 (txts bs)
  cnt : bs.length ≤ 1000000 ∧ ∀ b ∈ bs, b.length ≤ 140737488355328
  box : Row W w.heap.size 56 bx
  life : Row W yb 59 yc
  below : Below w.heap.size w W
/-- What any crash leaves of a life: the batches ws, or ns, or none. -/
def EndP (a n : Nat) (ws ns : List (List Nat)) (no : Bool) (D X : Nat) (g : Int → List Nat) : Prop :=
  ∃ R B used bs, Sound g a n R B used bs ∧ R ≤ B + D ∧ R ≤ X ∧ (bs = ws ∨ bs = ns ∨ (no = true ∧ bs = []))
/-- Behind a life's script. -/
structure CrE (w : World) (bx : Array Value) (yb : Nat) (yc : Array Value) (sz dp : Nat) (P : (Int → List Nat) → Prop) (ws ns : List (List Nat)) (Aw : Option Addr) (An : Option Addr) (W : World) : Prop where
  dsk : EndD W dp sz P
  want : Holds W Aw ws.length 1 (txts ws)
  next : Holds W An ns.length 1 (txts ns)
  box : Row W w.heap.size 56 bx
  life : Row W yb 59 yc
  below : Below w.heap.size w W
/-- Between two lives: a disk, and what is expected of its log. -/
structure CrD (w : World) (bx : Array Value) (sz a n dp R B used : Nat) (bs : List (List Nat)) (Aw : Option Addr) (cw : Nat) (W : World) : Prop where
  dsk : ∃ O f, DiskSt W O dp sz f ∧ Sound f a n R B used bs ∧ (∀ k, k ≤ w.heap.size → O k) ∧ Lies W (fun k => O k) 9 1 (.slice Aw bs.length cw) bs.length (txts bs)
  box : Row W w.heap.size 56 bx
  below : Below w.heap.size w W
section
variable {w W W' : World} {bx yc : Array Value} {yb sz a n dp p R B used : Nat} {bs ws ns : List (List Nat)} {Aw An : Option Addr} {cw : Nat} {q : Bool} {Z : Nat → Prop} {P : (Int → List Nat) → Prop}
theorem lies_holds {F : Nat → Prop} {A : Option Addr} {m c : Nat} {cs : List Value} (h : Lies W F 9 1 (.slice A m c) m cs) : Holds W A m 1 cs := by
  obtain ⟨A2, c2, hv, k1, k2, k3⟩ := h.holds
  injection hv with e1 _ e2
  subst e1
  exact k3
theorem cr_kept {O : Nat → Prop} (hO : ∀ k, k ≤ w.heap.size → O k) (hy : O yb) (hbox : Row W w.heap.size 56 bx) (hlife : Row W yb 59 yc) (hb : Below w.heap.size w W) (hk : Kept (fun k => ¬ O k) W W') :
    Row W' w.heap.size 56 bx ∧ Row W' yb 59 yc ∧ Below w.heap.size w W' :=
  ⟨hbox.kept hk fun hx => hx (hO _ (Nat.le_refl _)), hlife.kept hk fun hx => hx hy, hb.trans (hk.below hb.size fun k hx => by
    rcases Nat.lt_or_ge k w.heap.size with h9 | h9
    · exact absurd (hO k (by omega)) hx
    · exact h9)⟩
theorem CrS.call (h : CrS w bx yb yc sz a n dp p R B used bs ws Aw cw q Z W) (hb : Below W.heap.size W W') : CrS w bx yb yc sz a n dp p R B used bs ws Aw cw q Z W' := by
  obtain ⟨⟨O, h1, h2, h3, h4, h5⟩, h6, h7, h8⟩ := h
  exact ⟨⟨O, h1.call hb, h2, h3, h4, h5.below hb⟩, h6.call hb, h7.call hb, h8.call hb⟩
theorem CrX.call (h : CrX w bx yb yc sz dp p bs P Aw cw W) (hb : Below W.heap.size W W') : CrX w bx yb yc sz dp p bs P Aw cw W' := by
  obtain ⟨⟨O, h1⟩, h2, h3, h4, h5, h6⟩ := h
  exact ⟨⟨O, h1.call hb⟩, h2.below hb, h3, h4.call hb, h5.call hb, h6.call hb⟩
theorem CrE.call (h : CrE w bx yb yc sz dp P ws ns Aw An W) (hb : Below W.heap.size W W') : CrE w bx yb yc sz dp P ws ns Aw An W' := by
  obtain ⟨h1, h2, h3, h4, h5, h6⟩ := h
  exact ⟨h1.call hb, h2.below hb, h3.below hb, h4.call hb, h5.call hb, h6.call hb⟩
theorem CrD.call (h : CrD w bx sz a n dp R B used bs Aw cw W) (hb : Below W.heap.size W W') : CrD w bx sz a n dp R B used bs Aw cw W' := by
  obtain ⟨⟨O, f, h1, h2, h3, h4⟩, h5, h6⟩ := h
  exact ⟨⟨O, f, h1.call hb, h2, h3, h4.below hb⟩, h5.call hb, h6.call hb⟩
/-- Blocks that were made since are the law's own. -/
theorem CrS.more (h : CrS w bx yb yc sz a n dp p R B used bs ws Aw cw q Z W) (hb : Below W.heap.size W W') {Z' : Nat → Prop} (hz : ∀ k, Z' k → Z k ∨ (W.heap.size ≤ k ∧ k < W'.heap.size)) : CrS w bx yb yc sz a n dp p R B used bs ws Aw cw q Z' W' := by
  obtain ⟨⟨O, h1, h2, h3, h4, h5⟩, h6, h7, h8⟩ := h
  exact ⟨⟨fun k => O k ∨ (W.heap.size ≤ k ∧ k < W'.heap.size), h1.own hb fun k hk => hk, fun k hk => .inl (h2 k hk), .inl h3, fun k hk => (hz k hk).imp (h4 k) id, (h5.below hb).mono fun k hk => .inl hk⟩, h6.call hb, h7.call hb, h8.call hb⟩
/-- Other texts are expected. -/
theorem CrS.want (h : CrS w bx yb yc sz a n dp p R B used bs ws Aw cw q Z W) (hb : Below W.heap.size W W') {ws' : List (List Nat)} {A' : Option Addr} {c' : Nat} (hl : Lies W' (fun k => W.heap.size ≤ k ∧ k < W'.heap.size) 9 1 (.slice A' ws'.length c') ws'.length (txts ws')) :
    CrS w bx yb yc sz a n dp p R B used bs ws' A' c' q Z W' := by
  obtain ⟨⟨O, h1, h2, h3, h4, h5⟩, h6, h7, h8⟩ := h
  exact ⟨⟨fun k => O k ∨ (W.heap.size ≤ k ∧ k < W'.heap.size), h1.own hb fun k hk => hk, fun k hk => .inl (h2 k hk), .inl h3, fun k hk => .inl (h4 k hk), hl.mono fun k hk => .inr hk⟩, h6.call hb, h7.call hb, h8.call hb⟩
theorem CrS.done (h : CrS w bx yb yc sz a n dp p R B used bs ws Aw cw q Z W) : CrS w bx yb yc sz a n dp p R B used bs ws Aw cw q noX W := by
  obtain ⟨⟨O, h1, h2, h3, h4, h5⟩, h6, h7, h8⟩ := h
  exact ⟨⟨O, h1, h2, h3, fun k hk => hk.elim, h5⟩, h6, h7, h8⟩
theorem CrS.fits (h : CrS w bx yb yc sz a n dp p R B used bs ws Aw cw q Z W) : used + 2 ≤ n ∧ 4 ≤ n ∧ R < B + 256 := by
  obtain ⟨⟨O, h1, _⟩, _⟩ := h
  obtain ⟨f, hf⟩ := h1.live
  exact ⟨hf.fit, hf.n4, hf.near⟩
theorem CrS.count (h : CrS w bx yb yc sz a n dp p R B used bs ws Aw cw q Z W) : bs.length ≤ 1000000 ∧ ∀ b ∈ bs, b.length ≤ 140737488355328 := by
  obtain ⟨⟨O, h1, _⟩, _⟩ := h
  obtain ⟨f, hf⟩ := h1.live
  exact hf.toSound.count
theorem CrS.reset (h : CrS w bx yb yc sz a n dp p R B used bs bs Aw cw q Z W) (hr : R + 1 < 4611686018427387904) :
    Calls Tryd.prog 15 #[.pointer (some ⟨p, 0, none⟩)] W fun e w' => (e = .returned (.int .i64 0) ∧ CrS w bx yb yc sz a n dp p (R + 1) (R + 1) 0 [] [] none 0 false noX w') ∨
      (e = .returned (.int .i64 5) ∧ CrX w bx yb yc sz dp p bs (fun g => Sound g a n R B used bs ∨ Sound g a n (R + 1) (R + 1) 0 []) Aw cw w') := by
  have hc := h.count
  obtain ⟨⟨O, h1, h2, h3, h4, h5⟩, h6, h7, h8⟩ := h
  refine (lc_reset h1 hr).mono ?_
  rintro e w' (⟨he, g1, g2⟩ | ⟨he, g1, g2⟩)
  · obtain ⟨k1, k2, k3⟩ := cr_kept h2 h3 h6 h7 h8 g2
    exact .inl ⟨he, ⟨O, g1, h2, h3, fun k hk => hk.elim, Lies.empty _ _ _ _ _⟩, k1, k2, k3⟩
  · obtain ⟨k1, k2, k3⟩ := cr_kept h2 h3 h6 h7 h8 g2
    exact .inr ⟨he, ⟨O, g1⟩, lies_holds (h5.kept g2 fun k hk hx => hx hk), hc, k1, k2, k3⟩
theorem CrS.append {A : Option Addr} {c len : Nat} {b : List Nat} (h : CrS w bx yb yc sz a n dp p R B used bs bs Aw cw q Z W) (hT : Tab w) (hA : Bytes W A len b) (hg : 0 < len → ∀ x, A = some x → x.block < w.heap.size) (hfit : used + costN len + 2 ≤ n) :
    Calls Tryd.prog 13 #[.pointer (some ⟨p, 0, none⟩), .slice A len c] W fun e w' => (e = .returned (.int .i64 0) ∧ CrS w bx yb yc sz a n dp p R B (used + costN len) (bs ++ [b]) bs Aw cw false Z w' ∧ Kept (fun k => ¬ Z k) W w') ∨
      (e = .returned (.int .i64 5) ∧ CrX w bx yb yc sz dp p bs (fun g => Sound g a n R B used bs ∨ Sound g a n R B (used + costN len) (bs ++ [b])) Aw cw w' ∧ Kept (fun k => ¬ Z k) W w') := by
  have hc := h.count
  obtain ⟨⟨O, h1, h2, h3, h4, h5⟩, h6, h7, h8⟩ := h
  refine (lc_append (c := c) h1 (hT.below h8) hA (fun h0 x e => h2 _ (Nat.le_of_lt (hg h0 x e))) hfit).mono ?_
  rintro e w' (⟨he, g1, g2⟩ | ⟨he, g1, g2⟩)
  · obtain ⟨k1, k2, k3⟩ := cr_kept h2 h3 h6 h7 h8 g2
    exact .inl ⟨he, ⟨⟨O, g1, h2, h3, h4, h5.kept g2 fun k hk hx => hx hk⟩, k1, k2, k3⟩, g2.mono fun k _ hk hx => hk (h4 k hx)⟩
  · obtain ⟨k1, k2, k3⟩ := cr_kept h2 h3 h6 h7 h8 g2
    exact .inr ⟨he, ⟨⟨O, g1⟩, lies_holds (h5.kept g2 fun k hk hx => hx hk), hc, k1, k2, k3⟩, g2.mono fun k _ hk hx => hk (h4 k hx)⟩
theorem CrS.full {A : Option Addr} {c len : Nat} (h : CrS w bx yb yc sz a n dp p R B used bs ws Aw cw q Z W) (hfit : n < used + costN len + 2) :
    Calls Tryd.prog 13 #[.pointer (some ⟨p, 0, none⟩), .slice A len c] W fun e w' => e = .returned (.int .i64 6) ∧ CrS w bx yb yc sz a n dp p R B used bs ws Aw cw q Z w' ∧ Below W.heap.size W w' := by
  have H := h
  obtain ⟨⟨O, h1, h2⟩, h6⟩ := h
  refine (lc_full (A := A) (c := c) h1 hfit).mono ?_
  rintro e w' ⟨he, hb⟩
  exact ⟨he, H.call hb, hb⟩
theorem CrS.state (h : CrS w bx yb yc sz a n dp p R B used bs ws Aw cw q Z W) :
    Calls Tryd.prog 19 #[.pointer (some ⟨p, 0, none⟩)] W fun e w' => (∃ y : Int, e = .returned (.tuple #[.int .i64 bs.length, .int .i64 y, .int .u64 R, .bool false])) ∧ CrS w bx yb yc sz a n dp p R B used bs ws Aw cw q Z w' := by
  have H := h
  obtain ⟨⟨O, h1, h2⟩, h6⟩ := h
  exact (lc_state h1).mono fun e w' ⟨he, hb⟩ => ⟨he, H.call hb⟩
theorem CrS.tells (h : CrS w bx yb yc sz a n dp p R B used bs bs Aw cw q Z W) :
    Calls Tryd.prog 20 #[.pointer (some ⟨p, 0, none⟩), .slice Aw bs.length cw] W fun e w' => e = .returned (.bool true) ∧ CrS w bx yb yc sz a n dp p R B used bs bs Aw cw q Z w' := by
  have H := h
  obtain ⟨⟨O, h1, h2, h3, h4, h5⟩, h6⟩ := h
  exact (lc_tells h1 (lies_holds h5)).mono fun e w' ⟨he, hb⟩ => ⟨he, H.call hb⟩
theorem CrS.feed (h : CrS w bx yb yc sz a n dp p R B used bs bs Aw cw true Z W) {A : Option Addr} {c : Nat} {l : List (Int × Int)} (hl : Holds W A l.length 2 (fcs l)) (hn : l.length ≤ 1000000) (hk : kindsB l = true) :
    Calls Tryd.prog 22 #[.pointer (some ⟨dp, 0, none⟩), .slice A l.length c] W fun e w' => e = .returned (.int .i64 0) ∧ CrS w bx yb yc sz a n dp p R B used bs bs Aw cw false Z w' := by
  obtain ⟨⟨O, h1, h2, h3, h4, h5⟩, h6, h7, h8⟩ := h
  refine (lc_feed h1 hl hn hk).mono ?_
  rintro e w' ⟨he, g1, g2⟩
  obtain ⟨k1, k2, k3⟩ := cr_kept h2 h3 h6 h7 h8 g2
  exact ⟨he, ⟨O, g1, h2, h3, h4, h5.kept g2 fun k hk hx => hx hk⟩, k1, k2, k3⟩
theorem CrX.state (h : CrX w bx yb yc sz dp p bs P Aw cw W) :
    Calls Tryd.prog 19 #[.pointer (some ⟨p, 0, none⟩)] W fun e w' => (∃ (y : Int) (r : Nat), e = .returned (.tuple #[.int .i64 bs.length, .int .i64 y, .int .u64 r, .bool true])) ∧ Below W.heap.size W w' := by
  obtain ⟨⟨O, h1⟩, h2⟩ := h
  exact lx_state h1
theorem CrX.append (h : CrX w bx yb yc sz dp p bs P Aw cw W) :
    Calls Tryd.prog 13 #[.pointer (some ⟨p, 0, none⟩), .slice none 0 0] W fun e w' => e = .returned (.int .i64 10) ∧ W = w' := by
  obtain ⟨⟨O, h1⟩, h2⟩ := h
  exact lx_append h1
theorem CrX.reset (h : CrX w bx yb yc sz dp p bs P Aw cw W) :
    Calls Tryd.prog 15 #[.pointer (some ⟨p, 0, none⟩)] W fun e w' => e = .returned (.int .i64 10) ∧ W = w' := by
  obtain ⟨⟨O, h1⟩, h2⟩ := h
  exact lx_reset h1
theorem CrX.tells (h : CrX w bx yb yc sz dp p bs P Aw cw W) :
    Calls Tryd.prog 20 #[.pointer (some ⟨p, 0, none⟩), .slice Aw bs.length cw] W fun e w' => e = .returned (.bool true) ∧ Below W.heap.size W w' := by
  obtain ⟨⟨O, h1⟩, h2, h3, _⟩ := h
  exact lx_tells h1 h3 h2
theorem CrS.end_ (h : CrS w bx yb yc sz a n dp p R B used bs bs Aw cw q Z W) {D X : Nat} (hd : R ≤ B + D) (hx : R ≤ X) : CrE w bx yb yc sz dp (EndP a n bs bs false D X) bs bs Aw Aw W := by
  obtain ⟨⟨O, h1, h2, h3, h4, h5⟩, h6, h7, h8⟩ := h
  exact ⟨h1.end_.mono fun g hg => ⟨R, B, used, bs, hg, hd, hx, .inl rfl⟩, lies_holds h5, lies_holds h5, h6, h7, h8⟩
theorem CrX.end_ (h : CrX w bx yb yc sz dp p bs P Aw cw W) {P' : (Int → List Nat) → Prop} {ns : List (List Nat)} {An : Option Addr} (hp : ∀ g, P g → P' g) (hn : Holds W An ns.length 1 (txts ns)) : CrE w bx yb yc sz dp P' bs ns Aw An W := by
  obtain ⟨⟨O, h1⟩, h2, h3, h4, h5, h6⟩ := h
  exact ⟨h1.end_.mono hp, h2, hn, h4, h5, h6⟩
/-- The next life begins. -/
theorem CrD.open_ (h : CrD w bx sz a n dp R B used bs Aw cw W) (hb : Below W.heap.size W W') (hy : Row W' yb 59 yc) (hyn : W.heap.size ≤ yb) (hfit : a + n ≤ sz) (hr : R + 1 < 4611686018427387904) (hnear : R + 1 < B + 256) :
    Calls Tryd.prog 11 #[.pointer (some ⟨dp, 0, none⟩), .int .i64 a, .int .i64 n] W' fun e w' => ∃ p, e = .returned (.tuple #[.pointer (some ⟨p, 0, none⟩), .int .i64 0]) ∧ CrS w bx yb yc sz a n dp p (R + 1) B used bs bs Aw cw true noX w' := by
  obtain ⟨⟨O, f, h1, h2, h3, h4⟩, h5, h6⟩ := h
  have hyl := hy.lt
  have hD : DiskSt W' (fun k => O k ∨ (W.heap.size ≤ k ∧ k < W'.heap.size)) dp sz f := by
    obtain ⟨FD, d, e1, e2, e3, e4, e5, e6⟩ := h1
    refine ⟨FD, d, e1.below hb, fun k hk => Nat.lt_of_lt_of_le (e2 k hk) hb.size, e3, e4, e5, fun k hk => ?_⟩
    rcases hk with hk | hk
    · exact ⟨Nat.lt_of_lt_of_le (e6 k hk).1 hb.size, (e6 k hk).2⟩
    · exact ⟨hk.2, fun hx => by have := e2 k hx; omega⟩
  refine (lc_open hD h2 hfit hr hnear).mono ?_
  rintro e w' ⟨p, rfl, g1, g2⟩
  obtain ⟨k1, k2, k3⟩ := cr_kept (fun k hk => .inl (h3 k hk)) (.inr ⟨hyn, hyl⟩) (h5.call hb) hy (h6.call hb) g2
  exact ⟨p, rfl, ⟨_, g1, fun k hk => .inl (h3 k hk), .inr ⟨hyn, hyl⟩, fun k hk => hk.elim, ((h4.below hb).mono (G := fun k => O k ∨ (W.heap.size ≤ k ∧ k < W'.heap.size)) fun k hk => .inl hk).kept g2 fun k hk hx => hx hk⟩, k1, k2, k3⟩
/-- A crash ends the life. -/
theorem CrE.crash {ns : List (List Nat)} {no : Bool} {D X : Nat} (h : CrE w bx yb yc sz dp (EndP a n ws ns no D X) ws ns Aw An W) {A : Option Addr} {c : Nat} {picks : List Int} (h1 : Holds W A picks.length 1 (ints picks)) (hc : picks.length ≤ c ∧ c ≤ 9223372036854775807) (hwf : ∀ x ∈ picks, (Lit.int .i64 x).wf = true) :
    Calls Tryd.prog 23 #[.pointer (some ⟨dp, 0, none⟩), .slice A picks.length c] W fun e w' =>
      ∃ v x, e = .returned (.tuple #[v, .int .i64 x]) ∧ Below W.heap.size W w' ∧ (x = 2 ∨ (x = 0 ∧ ∃ p' g, v = .pointer (some ⟨p', 0, none⟩) ∧ EndP a n ws ns no D X g ∧ DiskSt w' (fun k => k < W.heap.size) p' sz g)) :=
  end_crash h.dsk (fun _ ⟨_, _, _, _, hs, _⟩ => hs.sec) h1 hc hwf
/-- The disk that a crash left, and what is expected of it. -/
theorem CrD.of {g : Int → List Nat} {W0 : World} (hd : DiskSt W (fun k => k < W0.heap.size) dp sz g) (hs : Sound g a n R B used bs) (hw0 : w.heap.size < W0.heap.size) (hbox : Row W w.heap.size 56 bx) (hb : Below w.heap.size w W) (hb2 : Below W.heap.size W W') (hl : Lies W' (fun k => W.heap.size ≤ k ∧ k < W'.heap.size) 9 1 (.slice Aw bs.length cw) bs.length (txts bs)) :
    CrD w bx sz a n dp R B used bs Aw cw W' := by
  refine ⟨⟨fun k => k < W0.heap.size ∨ (W.heap.size ≤ k ∧ k < W'.heap.size), g, ?_, hs, fun k hk => .inl (by omega), hl.mono fun k hk => .inr hk⟩, hbox.call hb2, hb.call hb2⟩
  obtain ⟨FD, d, e1, e2, e3, e4, e5, e6⟩ := hd
  refine ⟨FD, d, e1.below hb2, fun k hk => Nat.lt_of_lt_of_le (e2 k hk) hb2.size, e3, e4, e5, fun k hk => ?_⟩
  rcases hk with hk | hk
  · exact ⟨Nat.lt_of_lt_of_le (e6 k hk).1 hb2.size, (e6 k hk).2⟩
  · exact ⟨hk.2, fun hx => by have := e2 k hx; omega⟩
end
end Go.Proofs.YtljlkmmeedlaiaaDoor
