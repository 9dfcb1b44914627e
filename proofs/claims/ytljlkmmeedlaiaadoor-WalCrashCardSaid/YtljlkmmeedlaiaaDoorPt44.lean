/- Layer 3: a log's calls over a disk without faults, as a caller sees them. -/
import Derived.Test.YtljlkmmeedlaiaaDoorPt40
import Derived.Test.YtljlkmmeedlaiaaDoorPt03
import Derived.Test.YtljlkmmeedlaiaaDoorPt43
import Derived.Test.YtljlkmmeedlaiaaDoorPt19
import Derived.Test.YtljlkmmeedlaiaaDoorPt20
namespace Go.Proofs.YtljlkmmeedlaiaaDoor
open Go.RowKit

/-- A disk without faults to come, whose sectors f tells; the caller's blocks O are none of its. -/
def DiskSt (W : World) (O : Nat → Prop) (dp size : Nat) (f : Int → List Nat) : Prop :=
  ∃ FD d, DiskAt W FD dp d ∧ (∀ k, FD k → k < W.heap.size) ∧ d.size = size ∧ Still d f ∧ d.fates = [] ∧ ∀ k, O k → k < W.heap.size ∧ ¬ FD k
/-- A log on such a disk, without torn sectors. -/
def LogSt (W : World) (O : Nat → Prop) (dp p size a n R B used : Nat) (bs : List (List Nat)) : Prop :=
  ∃ FL FD d f, LogOn W FL FD p ⟨dp, a, n, R, B, used, bs, false⟩ d ∧ d.size = size ∧ Still d f ∧ d.fates = [] ∧ Clean f a n R B used bs ∧ ∀ k, O k → k < W.heap.size ∧ ¬ FL k ∧ ¬ FD k
section
variable {W W' : World} {O : Nat → Prop} {dp p size a n R B used : Nat} {bs : List (List Nat)} {f : Int → List Nat}
theorem DiskSt.call (h : DiskSt W O dp size f) (hb : Below W.heap.size W W') : DiskSt W' O dp size f := by
  obtain ⟨FD, d, h1, h2, h3, h4, h5, h6⟩ := h
  exact ⟨FD, d, h1.below hb, fun k hk => Nat.lt_of_lt_of_le (h2 k hk) hb.size, h3, h4, h5, fun k hk => ⟨Nat.lt_of_lt_of_le (h6 k hk).1 hb.size, (h6 k hk).2⟩⟩
theorem LogSt.call (h : LogSt W O dp p size a n R B used bs) (hb : Below W.heap.size W W') : LogSt W' O dp p size a n R B used bs := by
  obtain ⟨FL, FD, d, f, h1, h2, h3, h4, h5, h6⟩ := h
  exact ⟨FL, FD, d, f, h1.call hb, h2, h3, h4, h5, fun k hk => ⟨Nat.lt_of_lt_of_le (h6 k hk).1 hb.size, (h6 k hk).2⟩⟩
/-- The caller has blocks of its own behind a call that made them. -/
theorem LogSt.own (h : LogSt W O dp p size a n R B used bs) (hb : Below W.heap.size W W') {O' : Nat → Prop} (hO : ∀ k, O' k → O k ∨ (W.heap.size ≤ k ∧ k < W'.heap.size)) : LogSt W' O' dp p size a n R B used bs := by
  obtain ⟨FL, FD, d, f, h1, h2, h3, h4, h5, h6⟩ := h
  refine ⟨FL, FD, d, f, h1.call hb, h2, h3, h4, h5, fun k hk => ?_⟩
  rcases hO k hk with hk | hk
  · exact ⟨Nat.lt_of_lt_of_le (h6 k hk).1 hb.size, (h6 k hk).2⟩
  · exact ⟨hk.2, fun hl => by have := h1.thereL k hl; omega, fun hd => by have := h1.thereD k hd; omega⟩
theorem LogSt.less (h : LogSt W O dp p size a n R B used bs) {O' : Nat → Prop} (hO : ∀ k, O' k → O k) : LogSt W O' dp p size a n R B used bs := by
  obtain ⟨FL, FD, d, f, h1, h2, h3, h4, h5, h6⟩ := h
  exact ⟨FL, FD, d, f, h1, h2, h3, h4, h5, fun k hk => h6 k (hO k hk)⟩
/-- Its disk. -/
theorem LogSt.disk (h : LogSt W O dp p size a n R B used bs) : ∃ f, DiskSt W O dp size f ∧ Clean f a n R B used bs ∧ a + n ≤ size := by
  obtain ⟨FL, FD, d, f, h1, h2, h3, h4, h5, h6⟩ := h
  exact ⟨f, ⟨FD, d, h1.disk, h1.thereD, h2, h3, h4, fun k hk => ⟨(h6 k hk).1, (h6 k hk).2.2⟩⟩, h5, by rw [← h2]; exact h1.size⟩
/-- What a call leaves of the caller's blocks. -/
theorem kept_own {FL FD : Nat → Prop} (hO : ∀ k, O k → k < W.heap.size ∧ ¬ FL k ∧ ¬ FD k) (hk : Kept (fun k => FL k ∨ FD k) W W') : Kept (fun k => ¬ O k) W W' :=
  hk.mono fun k _ hx ho => by
    rcases hx with hx | hx
    · exact (hO k ho).2.1 hx
    · exact (hO k ho).2.2 hx
theorem LogSt.of_left {FL FD : Nat → Prop} {l : L} {d' : D} {f' : Int → List Nat} {R' B' used' : Nat} {bs' : List (List Nat)} (hO : ∀ k, O k → k < W.heap.size ∧ ¬ FL k ∧ ¬ FD k) (hl : Left W FL FD p l d' W') (he : l = ⟨dp, a, n, R', B', used', bs', false⟩) (hsz : d'.size = size) (hst : Still d' f') (hft : d'.fates = []) (hc : Clean f' a n R' B' used' bs') :
    LogSt W' O dp p size a n R' B' used' bs' ∧ Kept (fun k => ¬ O k) W W' := by
  subst he
  obtain ⟨⟨FL', FD', h1, h2, h3⟩, hk⟩ := hl
  refine ⟨⟨FL', FD', d', f', h1, hsz, hst, hft, hc, fun k ho => ⟨Nat.lt_of_lt_of_le (hO k ho).1 hk.size, fun hl => ?_, fun hd => ?_⟩⟩, kept_own hO hk⟩
  · rcases h2 k hl with h9 | h9
    · exact (hO k ho).2.1 h9
    · have := (hO k ho).1; omega
  · rcases h3 k hd with h9 | h9
    · exact (hO k ho).2.2 h9
    · have := (hO k ho).1; omega
theorem st_format (h : DiskSt W O dp size f) (hn : 4 ≤ n) (hfit : a + n ≤ size) :
    Calls Tryd.prog 10 #[.pointer (some ⟨dp, 0, none⟩), .int .i64 a, .int .i64 n] W fun e w' => e = .returned (.int .i64 0) ∧ DiskSt w' O dp size (readW f (a : Int) (fmtL n) n) ∧ Kept (fun k => ¬ O k) W w' := by
  obtain ⟨FD, d, h1, h2, h3, h4, h5, h6⟩ := h
  refine (format_ok W FD dp d f a n h1 h2 h4 h5 hn (by omega)).mono ?_
  rintro e w' ⟨rfl, d', g1, g2, g3, g4, g5⟩
  refine ⟨rfl, ⟨_, d', g1.there, fun k hk => hk.2, by rw [g2, h3], g3, g4, fun k ho => ⟨Nat.lt_of_lt_of_le (h6 k ho).1 g5.size, fun hd => ?_⟩⟩, g5.mono fun k _ hx ho => (h6 k ho).2 hx⟩
  rcases hd.1 with h9 | h9
  · exact (h6 k ho).2 h9
  · have := (h6 k ho).1; omega
theorem st_open (h : DiskSt W O dp size f) (hc : Clean f a n R B used bs) (hfit : a + n ≤ size) (hr : R + 1 < 4611686018427387904) :
    Calls Tryd.prog 11 #[.pointer (some ⟨dp, 0, none⟩), .int .i64 a, .int .i64 n] W fun e w' => ∃ p, e = .returned (.tuple #[.pointer (some ⟨p, 0, none⟩), .int .i64 0]) ∧ LogSt w' O dp p size a n (R + 1) B used bs ∧ Kept (fun k => ¬ O k) W w' := by
  obtain ⟨FD, d, h1, h2, h3, h4, h5, h6⟩ := h
  have hs := hc.sel
  refine (open_ok W FD dp d f a n (R + 1) ((R + 1) % 2) h1 h2 h4 h5 hc.n4 (by omega) (by rw [hs]) rfl).mono ?_
  rintro e w' (⟨hbad, _⟩ | ⟨_, _, FL, FD', p, d', rfl, hon, hsz, hst, hft, hF, hD, hk⟩)
  · exact absurd ⟨hc.good, hr⟩ hbad
  · rw [hc.load dp] at hon
    rw [hs] at hst
    refine ⟨p, rfl, ⟨FL, FD', d', _, hon, by rw [hsz, h3], hst, hft, hc.turn hr rfl, fun k ho => ⟨Nat.lt_of_lt_of_le (h6 k ho).1 hk.size, fun hl => ?_, fun hd => ?_⟩⟩, hk.mono fun k _ hx ho => (h6 k ho).2 hx⟩
    · have := hF k hl
      have := (h6 k ho).1
      omega
    · rcases hD k hd with h9 | h9
      · exact (h6 k ho).2 h9
      · have := (h6 k ho).1; omega
theorem st_reset (h : LogSt W O dp p size a n R B used bs) (hr : R + 1 < 4611686018427387904) :
    Calls Tryd.prog 15 #[.pointer (some ⟨p, 0, none⟩)] W fun e w' => e = .returned (.int .i64 0) ∧ LogSt w' O dp p size a n (R + 1) (R + 1) 0 [] ∧ Kept (fun k => ¬ O k) W w' := by
  obtain ⟨FL, FD, d, f, h1, h2, h3, h4, h5, h6⟩ := h
  refine (reset_ok W FL FD p _ d f (R + 1) ((R + 1) % 2) rfl rfl h1 h3 rfl hr).mono ?_
  rintro e w' (⟨rfl, d', hl, hsz, hst, hft⟩ | ⟨_, hf, _⟩)
  · exact ⟨rfl, LogSt.of_left h6 hl rfl (by rw [hsz, h2]) hst (hft h4) (h5.reset hr rfl)⟩
  · exact absurd h4 hf
theorem st_append {g off c len : Nat} {b : List Nat} (h : LogSt W O dp p size a n R B used bs) (hA : Bytes W (some ⟨g, off, none⟩) len b) (hg : O g) (hfit : used + costN len + 2 ≤ n) (hbs : bs.length ≤ 1000000) :
    Calls Tryd.prog 13 #[.pointer (some ⟨p, 0, none⟩), .slice (some ⟨g, off, none⟩) len c] W fun e w' => e = .returned (.int .i64 0) ∧ LogSt w' O dp p size a n R B (used + costN len) (bs ++ [b]) ∧ Kept (fun k => ¬ O k) W w' := by
  obtain ⟨FL, FD, d, f, h1, h2, h3, h4, h5, h6⟩ := h
  have hlen := hA.len
  refine (append_ok W FL FD p _ d f (some ⟨g, off, none⟩) len c (costN len) (2 + used) b h1 h3 rfl hA (fun _ x e => ?_) rfl rfl hfit hbs (fun i hi => ?_)).mono ?_
  · injection e with e; subst e
    exact (h6 g hg).2
  · refine .inr (.inl ?_)
    have e : (a : Int) + ((2 + used : Nat) : Int) + (i : Int) = (a : Int) + 2 + ((used + i : Nat) : Int) := by omega
    show runL ((f ((a : Int) + ((2 + used : Nat) : Int) + (i : Int))).drop 500) < B
    rw [e]
    exact (h5.rest (used + i) (by omega) (by omega)).2
  · rintro e w' (⟨rfl, d', hl, hsz, hst, hft⟩ | ⟨_, hf, _⟩)
    · exact ⟨rfl, LogSt.of_left h6 hl rfl (by rw [hsz, h2]) hst (hft h4) (h5.append hA.2.1 (by rw [hlen]) rfl hfit)⟩
    · exact absurd h4 hf
theorem st_full {A : Option Addr} {c len : Nat} (h : LogSt W O dp p size a n R B used bs) (hfit : n < used + costN len + 2) :
    Calls Tryd.prog 13 #[.pointer (some ⟨p, 0, none⟩), .slice A len c] W fun e w' => e = .returned (.int .i64 6) ∧ Below W.heap.size W w' := by
  obtain ⟨FL, FD, d, f, h1, h2, h3, h4, h5, h6⟩ := h
  refine append_full W FL FD p _ d A len c h1 rfl ?_
  unfold roomL
  show ((n : Int) - 2 - (used : Int)) * 488 - 4 < (len : Int)
  have := h5.fit
  unfold costN at hfit
  omega
theorem st_state (h : LogSt W O dp p size a n R B used bs) :
    Calls Tryd.prog 19 #[.pointer (some ⟨p, 0, none⟩)] W fun e w' => e = .returned (.tuple #[.int .i64 bs.length, .int .i64 (max (((n : Int) - 2 - used) * 488 - 4) 0), .int .u64 R, .bool false]) ∧ Below W.heap.size W w' := by
  obtain ⟨FL, FD, d, f, h1, _⟩ := h
  exact state_ok W FL FD p _ d h1
theorem st_look (h : DiskSt W O dp size f) (hc : Clean f a n R B used bs) (hfit : a + n ≤ size) (hbs : bs.length ≤ 1000000) (hsm : ∀ b ∈ bs, b.length ≤ 140737488355328) :
    Calls Tryd.prog 12 #[.pointer (some ⟨dp, 0, none⟩), .int .i64 a, .int .i64 n] W (LookPost W bs 0) := by
  obtain ⟨FD, d, h1, h2, h3, h4, h5, h6⟩ := h
  have hl := hc.load dp
  have e : (loadL dp a n f).bs = bs := by rw [hl]
  have := look_ok W FD dp d f a n h1 h2 h4.read h4.sec hc.n4 (by omega) hc.good (by rw [e]; exact hbs) (by rw [e]; exact hsm)
  rwa [e] at this
end
end Go.Proofs.YtljlkmmeedlaiaaDoor
/- Layer 3's laws: what a script's calls leave, from the law's side. -/
namespace Go.Proofs.YtljlkmmeedlaiaaDoor
open Go.RowKit

section
variable {W W' : World} {O : Nat → Prop} {dp p size a n R B used : Nat} {bs : List (List Nat)} {f : Int → List Nat}
theorem LogSt.kept {F : Nat → Prop} (h : LogSt W O dp p size a n R B used bs) (hk : Kept F W W') (hF : ∀ k, F k → O k) : LogSt W' O dp p size a n R B used bs := by
  obtain ⟨FL, FD, d, f, h1, h2, h3, h4, h5, h6⟩ := h
  exact ⟨FL, FD, d, f, h1.kept hk (fun k hk9 hx => (h6 k (hF k hx)).2.1 hk9) (fun k hk9 hx => (h6 k (hF k hx)).2.2 hk9), h2, h3, h4, h5, fun k ho => ⟨Nat.lt_of_lt_of_le (h6 k ho).1 hk.size, (h6 k ho).2⟩⟩
theorem LogSt.there (h : LogSt W O dp p size a n R B used bs) {k : Nat} (hk : O k) : k < W.heap.size := by
  obtain ⟨FL, FD, d, f, h1, h2, h3, h4, h5, h6⟩ := h
  exact (h6 k hk).1
theorem LogSt.fits (h : LogSt W O dp p size a n R B used bs) : used + 2 ≤ n ∧ a + n ≤ size ∧ 4 ≤ n := by
  obtain ⟨FL, FD, d, f, h1, h2, h3, h4, h5, h6⟩ := h
  have h9 := h1.size
  have h8 := h5.fit
  exact ⟨by omega, by rw [← h2]; exact h9, h5.n4⟩
theorem st_tells {Aw : Option Addr} {cw : Nat} (h : LogSt W O dp p size a n R B used bs) (hw : Holds W Aw bs.length 1 (txts bs)) (hbs : bs.length ≤ 1000000) (hsm : ∀ b ∈ bs, b.length ≤ 140737488355328) :
    Calls Tryd.prog 20 #[.pointer (some ⟨p, 0, none⟩), .slice Aw bs.length cw] W fun e w' => e = .returned (.bool true) ∧ Below W.heap.size W w' := by
  have hst : ∀ W', Below W.heap.size W W' → Calls Tryd.prog 19 #[.pointer (some ⟨p, 0, none⟩)] W' fun e w' => (∃ x y z, e = .returned (.tuple #[.int .i64 bs.length, x, y, z])) ∧ Below W'.heap.size W' w' := fun W' hb =>
    (st_state (h.call hb)).mono fun e w' ⟨he, hb'⟩ => ⟨⟨_, _, _, he⟩, hb'⟩
  obtain ⟨FL, FD, d, f, h1, _⟩ := h
  obtain ⟨xs, hx, hld⟩ := loaded_log h1 hbs hsm
  have hx : xs.map (·.l) = bs := hx
  have hlen : xs.length = bs.length := by rw [← hx, List.length_map]
  rw [← hlen] at hw hst ⊢
  rw [← hx] at hw
  exact tells_run p W xs Aw cw hld hst hw
end
set_option maxHeartbeats 1000000 in
theorem new_bad (size : Int) (w : World) (h : size < 1 ∨ 65536 < size) :
    Calls Tryd.prog 6 #[.int .i64 size, .slice none 0 0] w fun e w' => e = .returned (.tuple #[.pointer none, .int .i64 2]) ∧ w = w' := by
  rcases Int.lt_or_le size 1 with h1 | h1
  · go_enter Tryd.func6, Tryd.ntmps6
    go_wp2
    go_ret2
    exact ⟨rfl, rfl⟩
  · have h2 : 65536 < size := by omega
    go_enter Tryd.func6, Tryd.ntmps6
    go_wp2
    go_ret2
    exact ⟨rfl, rfl⟩

def noX : Nat → Prop := fun _ => False
/-- What WalPlay carries: a log (bs: its batches; R, used: its run and its room), the texts ws that it expects, blocks X of its own that it may still write, the box of its first argument. -/
structure PlayS (w : World) (sz a n dp p R used : Nat) (bs ws : List (List Nat)) (Aw : Option Addr) (cw : Nat) (X : Nat → Prop) (W : World) : Prop where
  log : ∃ O B, LogSt W O dp p sz a n R B used bs ∧ (∀ k, k ≤ w.heap.size → O k) ∧ (∀ k, X k → O k ∧ w.heap.size < k) ∧ Lies W (fun k => O k ∧ w.heap.size < k ∧ ¬ X k) 9 1 (.slice Aw ws.length cw) ws.length (txts ws)
  box : Row W w.heap.size 23 #[.int .i64 sz, .int .i64 a, .int .i64 n]
  below : Below w.heap.size w W
/-- The disk was formatted. -/
structure PlayD (w : World) (sz a n dp : Nat) (W : World) : Prop where
  dsk : ∃ O f, DiskSt W O dp sz f ∧ (∀ k, k ≤ w.heap.size → O k) ∧ Clean f a n 1 1 0 []
  fit : a + n ≤ sz
  box : Row W w.heap.size 23 #[.int .i64 sz, .int .i64 a, .int .i64 n]
  below : Below w.heap.size w W
section
variable {w W W' : World} {sz a n dp p R used : Nat} {bs ws : List (List Nat)} {Aw : Option Addr} {cw : Nat} {X : Nat → Prop}
theorem play_kept {O : Nat → Prop} {t : TypeId} {cs : Array Value} (hO : ∀ k, k ≤ w.heap.size → O k) (hbox : Row W w.heap.size t cs) (hb : Below w.heap.size w W) (hk : Kept (fun k => ¬ O k) W W') :
    Row W' w.heap.size t cs ∧ Below w.heap.size w W' :=
  ⟨hbox.kept hk fun hx => hx (hO _ (Nat.le_refl _)), hb.trans (hk.below hb.size fun k hx => by
    rcases Nat.lt_or_ge k w.heap.size with h9 | h9
    · exact absurd (hO k (by omega)) hx
    · exact h9)⟩
theorem PlayS.call (h : PlayS w sz a n dp p R used bs ws Aw cw X W) (hb : Below W.heap.size W W') : PlayS w sz a n dp p R used bs ws Aw cw X W' := by
  obtain ⟨⟨O, B, h1, h2, h3, h4⟩, h5, h6⟩ := h
  exact ⟨⟨O, B, h1.call hb, h2, h3, h4.below hb⟩, h5.call hb, h6.call hb⟩
theorem PlayS.nil (h : PlayS w sz a n dp p R used bs ws Aw cw X W) : PlayS w sz a n dp p R used bs [] none 0 noX W := by
  obtain ⟨⟨O, B, h1, h2, h3, h4⟩, h5, h6⟩ := h
  exact ⟨⟨O, B, h1, h2, fun k hk => hk.elim, Lies.empty _ _ _ _ _⟩, h5, h6⟩
/-- Its own blocks are done with. -/
theorem PlayS.done (h : PlayS w sz a n dp p R used bs ws Aw cw X W) : PlayS w sz a n dp p R used bs ws Aw cw noX W := by
  obtain ⟨⟨O, B, h1, h2, h3, h4⟩, h5, h6⟩ := h
  exact ⟨⟨O, B, h1, h2, fun k hk => hk.elim, h4.mono fun k hk => ⟨hk.1, hk.2.1, fun h => h.elim⟩⟩, h5, h6⟩
/-- Blocks that were made since are its own. -/
theorem PlayS.more (h : PlayS w sz a n dp p R used bs ws Aw cw noX W) (hb : Below W.heap.size W W') : PlayS w sz a n dp p R used bs ws Aw cw (fun k => W.heap.size ≤ k ∧ k < W'.heap.size) W' := by
  obtain ⟨⟨O, B, h1, h2, h3, h4⟩, h5, h6⟩ := h
  have hbox := h5.lt
  refine ⟨⟨fun k => O k ∨ (W.heap.size ≤ k ∧ k < W'.heap.size), B, h1.own hb fun k hk => hk, fun k hk => .inl (h2 k hk), fun k hk => ⟨.inr hk, by omega⟩, (h4.below hb).mono fun k hk => ⟨.inl hk.1, hk.2.1, fun hx => ?_⟩⟩, h5.call hb, h6.call hb⟩
  have := h1.there hk.1
  omega
/-- It writes its own blocks. -/
theorem PlayS.wrote (h : PlayS w sz a n dp p R used bs ws Aw cw X W) (hk : Kept X W W') : PlayS w sz a n dp p R used bs ws Aw cw X W' := by
  obtain ⟨⟨O, B, h1, h2, h3, h4⟩, h5, h6⟩ := h
  refine ⟨⟨O, B, h1.kept hk fun k hx => (h3 k hx).1, h2, h3, h4.kept hk fun k hx => hx.2.2⟩, h5.kept hk fun hx => ?_, h6.trans (hk.below h6.size fun k hx => Nat.le_of_lt (h3 k hx).2)⟩
  have := (h3 _ hx).2
  omega
theorem PlayS.fits (h : PlayS w sz a n dp p R used bs ws Aw cw X W) : used + 2 ≤ n ∧ a + n ≤ sz ∧ 4 ≤ n := by
  obtain ⟨⟨O, B, h1, _⟩, _⟩ := h
  exact h1.fits
theorem PlayS.append {g off c len : Nat} {b : List Nat} (h : PlayS w sz a n dp p R used bs ws Aw cw X W) (hA : Bytes W (some ⟨g, off, none⟩) len b) (hg : X g) (hfit : used + costN len + 2 ≤ n) (hbs : bs.length ≤ 1000000) :
    Calls Tryd.prog 13 #[.pointer (some ⟨p, 0, none⟩), .slice (some ⟨g, off, none⟩) len c] W fun e w' => e = .returned (.int .i64 0) ∧ PlayS w sz a n dp p R (used + costN len) (bs ++ [b]) ws Aw cw X w' ∧ Kept (fun k => ¬ X k) W w' := by
  obtain ⟨⟨O, B, h1, h2, h3, h4⟩, h5, h6⟩ := h
  refine (st_append (c := c) h1 hA (h3 g hg).1 hfit hbs).mono ?_
  rintro e w' ⟨rfl, g1, g2⟩
  obtain ⟨k1, k2⟩ := play_kept h2 h5 h6 g2
  exact ⟨rfl, ⟨⟨O, B, g1, h2, h3, h4.kept g2 fun k hk hx => hx hk.1⟩, k1, k2⟩, g2.mono fun k _ hk hx => hk (h3 k hx).1⟩
theorem PlayS.full {A : Option Addr} {c len : Nat} (h : PlayS w sz a n dp p R used bs ws Aw cw X W) (hfit : n < used + costN len + 2) :
    Calls Tryd.prog 13 #[.pointer (some ⟨p, 0, none⟩), .slice A len c] W fun e w' => e = .returned (.int .i64 6) ∧ PlayS w sz a n dp p R used bs ws Aw cw X w' ∧ Below W.heap.size W w' := by
  obtain ⟨⟨O, B, h1, h2, h3, h4⟩, h5, h6⟩ := h
  refine (st_full (A := A) (c := c) h1 hfit).mono ?_
  rintro e w' ⟨rfl, hb⟩
  exact ⟨rfl, PlayS.call ⟨⟨O, B, h1, h2, h3, h4⟩, h5, h6⟩ hb, hb⟩
theorem PlayS.reset (h : PlayS w sz a n dp p R used bs ws Aw cw noX W) (hr : R + 1 < 4611686018427387904) :
    Calls Tryd.prog 15 #[.pointer (some ⟨p, 0, none⟩)] W fun e w' => e = .returned (.int .i64 0) ∧ PlayS w sz a n dp p (R + 1) 0 [] [] none 0 noX w' := by
  obtain ⟨⟨O, B, h1, h2, h3, h4⟩, h5, h6⟩ := h
  refine (st_reset h1 hr).mono ?_
  rintro e w' ⟨rfl, g1, g2⟩
  obtain ⟨k1, k2⟩ := play_kept h2 h5 h6 g2
  exact ⟨rfl, ⟨⟨O, _, g1, h2, fun k hk => hk.elim, Lies.empty _ _ _ _ _⟩, k1, k2⟩⟩
theorem PlayS.again (h : PlayS w sz a n dp p R used bs ws Aw cw noX W) (hr : R + 1 < 4611686018427387904) :
    Calls Tryd.prog 11 #[.pointer (some ⟨dp, 0, none⟩), .int .i64 a, .int .i64 n] W fun e w' => ∃ p', e = .returned (.tuple #[.pointer (some ⟨p', 0, none⟩), .int .i64 0]) ∧ PlayS w sz a n dp p' (R + 1) used bs ws Aw cw noX w' := by
  obtain ⟨⟨O, B, h1, h2, h3, h4⟩, h5, h6⟩ := h
  obtain ⟨f, g1, g2, g3⟩ := h1.disk
  refine (st_open g1 g2 g3 hr).mono ?_
  rintro e w' ⟨p', rfl, g4, g5⟩
  obtain ⟨k1, k2⟩ := play_kept h2 h5 h6 g5
  exact ⟨p', rfl, ⟨⟨O, B, g4, h2, h3, h4.kept g5 fun k hk hx => hx hk.1⟩, k1, k2⟩⟩
theorem PlayD.of {O : Nat → Prop} {f : Int → List Nat} (h : DiskSt W O dp sz f) (hO : ∀ k, k ≤ w.heap.size → O k) (hbox : Row W w.heap.size 23 #[.int .i64 sz, .int .i64 a, .int .i64 n]) (hb : Below w.heap.size w W) (hs : ∀ k, Sec (f k)) (hn : 4 ≤ n) (hn9 : n ≤ 65536) (hfit : a + n ≤ sz) :
    Calls Tryd.prog 10 #[.pointer (some ⟨dp, 0, none⟩), .int .i64 a, .int .i64 n] W fun e w' => e = .returned (.int .i64 0) ∧ PlayD w sz a n dp w' := by
  refine (st_format (a := a) (n := n) h hn hfit).mono ?_
  rintro e w' ⟨rfl, g1, g2⟩
  obtain ⟨k1, k2⟩ := play_kept hO hbox hb g2
  exact ⟨rfl, ⟨⟨O, _, g1, hO, Clean.format hs hn hn9⟩, hfit, k1, k2⟩⟩
theorem PlayS.format (h : PlayS w sz a n dp p R used bs ws Aw cw noX W) :
    Calls Tryd.prog 10 #[.pointer (some ⟨dp, 0, none⟩), .int .i64 a, .int .i64 n] W fun e w' => e = .returned (.int .i64 0) ∧ PlayD w sz a n dp w' := by
  obtain ⟨⟨O, B, h1, h2, h3, h4⟩, h5, h6⟩ := h
  obtain ⟨f, g1, g2, g3⟩ := h1.disk
  have hs : ∀ k, Sec (f k) := by
    obtain ⟨FD, d, _, _, _, hst, _⟩ := g1
    exact hst.sec
  exact PlayD.of g1 h2 h5 h6 hs g2.n4 g2.n9 g3
theorem PlayD.open_ (h : PlayD w sz a n dp W) :
    Calls Tryd.prog 11 #[.pointer (some ⟨dp, 0, none⟩), .int .i64 a, .int .i64 n] W fun e w' => ∃ p', e = .returned (.tuple #[.pointer (some ⟨p', 0, none⟩), .int .i64 0]) ∧ PlayS w sz a n dp p' 2 0 [] [] none 0 noX w' := by
  obtain ⟨⟨O, f, h1, h2, h3⟩, h4, h5, h6⟩ := h
  refine (st_open h1 h3 h4 (by decide)).mono ?_
  rintro e w' ⟨p', rfl, g4, g5⟩
  obtain ⟨k1, k2⟩ := play_kept h2 h5 h6 g5
  exact ⟨p', rfl, ⟨⟨O, 1, g4, h2, fun k hk => hk.elim, Lies.empty _ _ _ _ _⟩, k1, k2⟩⟩
theorem PlayS.look (h : PlayS w sz a n dp p R used bs ws Aw cw X W) (hbs : bs.length ≤ 1000000) (hsm : ∀ b ∈ bs, b.length ≤ 140737488355328) :
    Calls Tryd.prog 12 #[.pointer (some ⟨dp, 0, none⟩), .int .i64 a, .int .i64 n] W (LookPost W bs 0) := by
  obtain ⟨⟨O, B, h1, h2, h3, h4⟩, h5, h6⟩ := h
  obtain ⟨f, g1, g2, g3⟩ := h1.disk
  exact st_look g1 g2 g3 hbs hsm
theorem PlayS.copy (h : PlayS w sz a n dp p R used bs ws Aw cw X W) :
    Calls Tryd.prog 16 #[.pointer (some ⟨dp, 0, none⟩)] W fun e w' => ∃ q, e = .returned (.pointer (some ⟨q, 0, none⟩)) ∧ Below W.heap.size W w' ∧
      ∀ W2, Below w'.heap.size w' W2 → Calls Tryd.prog 18 #[.pointer (some ⟨dp, 0, none⟩), .pointer (some ⟨q, 0, none⟩)] W2 fun e w'' => e = .returned (.bool true) ∧ Below W2.heap.size W2 w'' := by
  obtain ⟨⟨O, B, h1, h2, h3, h4⟩, h5, h6⟩ := h
  obtain ⟨FL, FD, d, f, g1, g2, g3, g4, g5, g6⟩ := h1
  have hd : DiskAt W FD dp d := g1.disk
  refine (copy_ok dp d W hd (by rw [g3.pieces]; simp) (by rw [g4]; simp)).mono ?_
  rintro e w' ⟨q, rfl, k1, k2⟩
  refine ⟨q, rfl, k2, fun W2 hb => same_ok dp q d d W2 ((hd.below k2).below hb) (k1.below hb) rfl g3.pieces g3.pieces rfl⟩
theorem PlayS.want (h : PlayS w sz a n dp p R used bs ws Aw cw X W) : Holds W Aw ws.length 1 (txts ws) := by
  obtain ⟨⟨O, B, h1, h2, h3, h4⟩, h5, h6⟩ := h
  obtain ⟨A, c, hv, k1, k2, k3⟩ := h4.holds
  injection hv with e1 _ e2
  subst e1
  exact k3
theorem PlayS.state (h : PlayS w sz a n dp p R used bs ws Aw cw X W) :
    Calls Tryd.prog 19 #[.pointer (some ⟨p, 0, none⟩)] W fun e w' => e = .returned (.tuple #[.int .i64 bs.length, .int .i64 (max (((n : Int) - 2 - used) * 488 - 4) 0), .int .u64 R, .bool false]) ∧ Below W.heap.size W w' := by
  obtain ⟨⟨O, B, h1, _⟩, _⟩ := h
  exact st_state h1
theorem PlayS.tells (h : PlayS w sz a n dp p R used bs bs Aw cw X W) (hbs : bs.length ≤ 1000000) (hsm : ∀ b ∈ bs, b.length ≤ 140737488355328) :
    Calls Tryd.prog 20 #[.pointer (some ⟨p, 0, none⟩), .slice Aw bs.length cw] W fun e w' => e = .returned (.bool true) ∧ Below W.heap.size W w' := by
  obtain ⟨⟨O, B, h1, h2, h3, h4⟩, h5, h6⟩ := h
  obtain ⟨A, c, hv, k1, k2, k3⟩ := h4.holds
  injection hv with e1 _ e2
  subst e1; subst e2
  exact st_tells h1 k3 hbs hsm
end
end Go.Proofs.YtljlkmmeedlaiaaDoor
