/- Layer 3: sectors of a log, written and synced. -/
import Derived.Test.YtljlkmmeedlaiaaDoorPt16
import Derived.Test.YtljlkmmeedlaiaaDoorPt17
import Derived.Test.YtljlkmmeedlaiaaDoorPt20
import Derived.StillTailTactics
import Derived.Deep.RegionHeld3
namespace Go.Proofs.YtljlkmmeedlaiaaDoor
open Go.RowKit

theorem stepOf_err (l : List (Int × Int)) (n : Nat) : ((stepOf l n).2 = 0 ∧ (stepOf l n).1 = n) ∨ ((stepOf l n).2 = 5 ∧ l ≠ []) := by
  rcases l with _ | ⟨⟨k, keep⟩, r⟩
  · exact .inl ⟨rfl, rfl⟩
  · by_cases h : k = 0
    · left; simp [stepOf, h]
    · right; simp [stepOf, h]
theorem readW_sec {f : Int → List Nat} (hf : ∀ k, Sec (f k)) (a : Int) {b : List Nat} {m : Nat} (hs : Small b) (hl : b.length = m * 512) (i : Nat) (hi : i ≤ m) : ∀ j, Sec (readW f a b i j) := by
  induction i with
  | zero => exact hf
  | succ i ih => exact upd_sec (ih (by omega)) _ (secOf_sec hs hl (by omega))
theorem lastTo_piecesW (f : Int → List Nat) (a : Int) (b : List Nat) (m k : Nat) (hk : k ≤ m) : lastTo f (piecesW a b m) k = readW f a b k := by
  rw [lastTo_is _ _ _ (by rw [piecesW_length]; exact hk), readW_is]
  congr 1
  unfold piecesW
  rw [← List.map_take, List.take_range, Nat.min_eq_left hk]

/-- What a call leaves of a log: it and its disk, in their old blocks and in new ones. -/
def Left (w : World) (FL FD : Nat → Prop) (p : Nat) (l : L) (d : D) (w' : World) : Prop :=
  (∃ FL' FD', LogOn w' FL' FD' p l d ∧ (∀ k, FL' k → grow FL w k) ∧ ∀ k, FD' k → grow FD w k) ∧ Kept (fun k => FL k ∨ FD k) w w'
theorem grow_trans {F G : Nat → Prop} {w w1 : World} (h : ∀ k, G k → grow F w k) (hs : w.heap.size ≤ w1.heap.size) (k : Nat) (hk : grow G w1 k) : grow F w k := by
  rcases hk with hk | hk
  · exact h k hk
  · exact .inr (Nat.le_trans hs hk)
theorem Left.more {w w1 w' : World} {FL FD FL1 FD1 : Nat → Prop} {p : Nat} {l' : L} {d' : D} (hL : ∀ k, FL1 k → grow FL w k) (hD : ∀ k, FD1 k → grow FD w k) (hk : Kept (fun k => FL k ∨ FD k) w w1) (h : Left w1 FL1 FD1 p l' d' w') : Left w FL FD p l' d' w' := by
  obtain ⟨⟨FL2, FD2, hon, h1, h2⟩, hk2⟩ := h
  refine ⟨⟨FL2, FD2, hon, fun k hx => grow_trans hL hk.size k (h1 k hx), fun k hx => grow_trans hD hk.size k (h2 k hx)⟩, hk.trans (hk2.mono fun k _ hx => ?_)⟩
  rcases hx with hx | hx
  · exact (hL k hx).imp .inl id
  · exact (hD k hx).imp .inr id
theorem Left.below {w w1 w' : World} {FL FD : Nat → Prop} {p : Nat} {l' : L} {d' : D} (hb : Below w.heap.size w w1) (h : Left w1 FL FD p l' d' w') : Left w FL FD p l' d' w' :=
  h.more (fun _ => grow.old) (fun _ => grow.old) hb.kept
theorem LogOn.left {w w' : World} {FL FD FL' FD' : Nat → Prop} {p : Nat} {l : L} {d : D} (h : LogOn w' FL' FD' p l d) (hL : ∀ k, FL' k → grow FL w k) (hD : ∀ k, FD' k → grow FD w k) (hk : Kept (fun k => FL k ∨ FD k) w w') : Left w FL FD p l d w' := ⟨⟨FL', FD', h, hL, hD⟩, hk⟩
theorem LogOn.mem {w : World} {FL FD : Nat → Prop} {p : Nat} {l : L} {d : D} (h : LogOn w FL FD p l d) : FL p := by obtain ⟨vb, xs, hx⟩ := h.log; exact hx.fp
theorem next_grow {FD : Nat → Prop} {w w' : World} (k : Nat) (h : next FD w w' k) : grow FD w k := h.1

def SyncL (w : World) (FL FD : Nat → Prop) (p : Nat) (l : L) (d : D) (e : Ending) (w' : World) : Prop :=
  ∃ s, ((stepOf d.fates d.pieces.length).2 = 0 ∧ e = .returned (.int .i64 0) ∧ Left w FL FD p l (syD d s (stepOf d.fates d.pieces.length).1) w') ∨
    ((stepOf d.fates d.pieces.length).2 = 5 ∧ e = .returned (.int .i64 5) ∧ Left w FL FD p { l with dead := true } (syD d s (stepOf d.fates d.pieces.length).1) w')
theorem lsync_ok (w : World) (FL FD : Nat → Prop) (p : Nat) (l : L) (d : D) (h : LogOn w FL FD p l d) (hp : d.pieces.length ≤ 1000000) :
    Calls Tryd.prog 53 #[.pointer (some ⟨p, 0, none⟩)] w (SyncL w FL FD p l d) := by
  obtain ⟨vb, m, h0, _⟩ := h.cells
  have H := Lib.hid h
  obtain ⟨t, ht⟩ := h.disk
  have HT := Lib.hid ht
  clear h ht
  go_enter Tryd.func53, Tryd.ntmps53
  go_wp2_with fail
  refine (sync_ok FD l.dp d t _ HT.out hp).mono ?_
  rintro e w1 ⟨s, rfl, hd1, hk1⟩
  have hon := H.out.step (hd1.mono fun _ => grow.old) hk1 rfl
  obtain ⟨vb1, m1, _, _, _, _, _, _, _, h7, _, _, hfr⟩ := hon.cells
  have hf7 := hfr 7
  have HON := Lib.hid hon
  have HK := Lib.hid hk1
  clear h0 hd1 hk1 hon hfr
  rcases stepOf_err d.fates d.pieces.length with ⟨hz, _⟩ | ⟨hz, _⟩
  · have HZ := Lib.hid hz
    rw [hz]
    clear hz
    go_wp2
    go_ret
    exact ⟨s, .inl ⟨HZ.out, rfl, HON.out.left (fun _ => grow.old) next_grow (HK.out.mono fun _ _ h => .inr h)⟩⟩
  · have HZ := Lib.hid hz
    rw [hz]
    clear hz
    go_wp2
    go_ret
    refine ⟨s, .inr ⟨HZ.out, rfl, (HON.out.setDead true).left (fun _ => grow.old) next_grow ((HK.out.mono fun _ _ h => .inr h).trans' ((Kept.cell _ _ _ _).mono fun k _ h => .inl (by subst h; exact H.out.mem)))⟩⟩

/-- What a write of a log's sectors leaves. -/
def WriteL (w : World) (FL FD : Nat → Prop) (p : Nat) (l : L) (d : D) (f : Int → List Nat) (a : Int) (b : List Nat) (m : Nat) (e : Ending) (w' : World) : Prop :=
  (e = .returned (.int .i64 0) ∧ ∃ d', Left w FL FD p l d' w' ∧ d'.size = d.size ∧ Still d' (readW f a b m) ∧ (d.fates = [] → d'.fates = [])) ∨
  (e = .returned (.int .i64 5) ∧ d.fates ≠ [] ∧ ∃ d', Left w FL FD p { l with dead := true } d' w' ∧ d'.size = d.size ∧ TornD d' f a b m)
set_option maxRecDepth 100000 in
set_option maxHeartbeats 1000000 in
theorem lwrite_ok (w : World) (FL FD : Nat → Prop) (p : Nat) (l : L) (d : D) (f : Int → List Nat) (at_ : Nat) (A : Option Addr) (n m c : Nat) (b : List Nat) (h : LogOn w FL FD p l d) (hs : Still d f) (hA : Bytes w A n b) (hF : 0 < n → ∀ x, A = some x → ¬ FD x.block) (hc : n ≤ c) (hcm : c ≤ 9223372036854775807) (hm : n = m * 512) (ha : at_ + m ≤ l.n) :
    Calls Tryd.prog 31 #[.pointer (some ⟨p, 0, none⟩), .int .i64 at_, .slice A n c] w (WriteL w FL FD p l d f ((l.from_ : Int) + at_) b m) := by
  subst hm
  obtain ⟨vb, mm, h0, h1, _⟩ := h.cells
  have hmost := h.most
  have hsz := h.size
  have H := Lib.hid h
  have HS := Lib.hid hs
  have HA := Lib.hid hA
  obtain ⟨t, ht⟩ := h.disk
  have HT := Lib.hid ht
  have hlen := hA.len
  have hpc : d.pieces.length ≤ 1000000 := by rw [hs.pieces]; decide
  have HW : Hid (∀ W, Below w.heap.size w W → Calls Tryd.prog 52 #[.pointer (some ⟨l.dp, 0, none⟩), .int .i64 ((l.from_ : Int) + at_), .slice A (m * 512) c] W (WritePost FD l.dp d W ((l.from_ : Int) + at_) b m)) :=
    Lib.hid fun W hb => write_ok FD l.dp d t ((l.from_ : Int) + at_) A (m * 512) m c b W (ht.below hb) (hA.below hb) hF hc hcm rfl (by omega) (by omega) hpc
  have HSM := Lib.hid hA.lt
  clear h ht hs hA hF
  go_enter Tryd.func31, Tryd.ntmps31
  go_wp2_with fail
  go_still_tail 11, (by kernel_rfl)
  change wpList _ _ _ _ _ w.drew
  have hb0 : Below w.heap.size w w.drew := (Below.refl _ _).drew
  have HON0 := Lib.hid (H.out.call hb0)
  have HB0 := Lib.hid hb0
  have HW0 := Lib.hid (HW.out _ hb0)
  clear h0 h1 hb0 HW
  generalize w.drew = w0 at *
  go_wp2_with fail
  refine HW0.out.mono ?_
  rintro e w1 ⟨s, rfl, hd1, hk1⟩
  have hon1 := HON0.out.step hd1 hk1 rfl
  obtain ⟨vb1, m1, _, _, _, _, _, _, _, h7, _, _, hfr⟩ := hon1.cells
  have hf7 := hfr 7
  have HK1 : Hid (Kept (fun k => FL k ∨ FD k) w w1) := Lib.hid (HB0.out.kept.trans' (hk1.mono fun _ _ h => .inr h))
  have HON1 := Lib.hid hon1
  have HG : Hid (∀ k, next FD w0 w1 k → grow FD w k) := Lib.hid fun k hk => (next_grow k hk).imp id (Nat.le_trans HB0.out.size)
  clear hd1 hk1 hon1 hfr HW0 HON0
  rcases stepOf_err d.fates m with ⟨hz, hzk⟩ | ⟨hz, hzf⟩
  · have HF1 : Hid ((wrD { d with fates := d.fates.tail, steps := s } ((l.from_ : Int) + at_) b (stepOf d.fates m).1).pieces = piecesW ((l.from_ : Int) + at_) b m) := Lib.hid (by
      show d.pieces ++ piecesW _ _ _ = _
      rw [HS.out.pieces, hzk, List.nil_append])
    rw [hz]
    clear hz
    go_wp2_with fail
    refine (lsync_ok w1 FL (next FD w0 w1) p l _ HON1.out (by rw [HF1.out, piecesW_length]; omega)).mono ?_
    rintro e w2 ⟨s2, hsy⟩
    have hD : ∀ (d2 : D) (l2 : L), Left w1 FL (next FD w0 w1) p l2 d2 w2 → Left w FL FD p l2 d2 w2 := fun d2 l2 h2 => h2.more (fun _ => grow.old) HG.out HK1.out
    have hlen1 : (wrD { d with fates := d.fates.tail, steps := s } ((l.from_ : Int) + at_) b (stepOf d.fates m).1).pieces.length = m := by rw [HF1.out, piecesW_length]
    rw [hlen1] at hsy
    have key : WriteL w FL FD p l d f ((l.from_ : Int) + at_) b m e w2 := by
      rcases hsy with ⟨hz2, he2, hl2⟩ | ⟨hz2, he2, hl2⟩
      · refine .inl ⟨he2, _, hD _ _ hl2, rfl, ?_, fun h0 => by show d.fates.tail.tail = []; rw [h0]; rfl⟩
        change (stepOf d.fates.tail m).2 = 0 at hz2
        have hk2 : (stepOf d.fates.tail m).1 = m := by
          rcases stepOf_err d.fates.tail m with h | h
          · exact h.2
          · have := h.1; omega
        refine ⟨?_, ?_, ?_, readW_sec HS.out.sec _ HSM.out hlen m (Nat.le_refl _)⟩
        · show ((wrD _ _ _ _).pieces.drop _) = []
          rw [HF1.out]
          exact List.drop_of_length_le (by rw [piecesW_length]; exact Nat.le_of_eq hk2.symm)
        · show lastTo d.lasting _ _ = _
          rw [HF1.out, HS.out.last]
          show lastTo f _ (stepOf d.fates.tail m).1 = _
          rw [hk2, lastTo_piecesW _ _ _ _ _ (Nat.le_refl _)]
        · show readW d.read _ _ _ = _
          rw [HS.out.read, hzk]
      · refine .inr ⟨he2, fun h0 => ?_, _, hD _ _ hl2, rfl, (stepOf d.fates.tail m).1, m, stepOf_le _ _, Nat.le_refl _, ?_, ?_⟩
        · change (stepOf d.fates.tail m).2 = 5 at hz2
          rw [h0] at hz2
          cases hz2
        · show lastTo d.lasting _ _ = _
          rw [HF1.out, HS.out.last]
          exact lastTo_piecesW _ _ _ _ _ (stepOf_le _ _)
        · show ((wrD _ _ _ _).pieces.drop _) = _
          rw [HF1.out]
          rfl
    have hret : ∃ k : Int, e = .returned (.int .i64 k) := by
      rcases hsy with ⟨_, he2, _⟩ | ⟨_, he2, _⟩ <;> exact ⟨_, he2⟩
    obtain ⟨k, rfl⟩ := hret
    have KEY := Lib.hid key
    clear hsy hD key hlen1
    go_wp2
    go_ret
    exact KEY.out
  · rw [hz]
    clear hz
    go_wp2
    go_ret
    refine .inr ⟨rfl, hzf, _, (HON1.out.setDead true).left (fun _ => grow.old) HG.out (HK1.out.trans' ((Kept.cell _ _ _ _).mono fun k _ h => .inl (by subst h; exact H.out.mem))), rfl, 0, (stepOf d.fates m).1, Nat.zero_le _, stepOf_le _ _, ?_, ?_⟩
    · exact HS.out.last
    · show d.pieces ++ piecesW _ _ _ = _
      rw [HS.out.pieces]
      rfl
end Go.Proofs.YtljlkmmeedlaiaaDoor
/- Layer 3: small words for sectors read, and for a region that holds a call. -/
namespace Go.Proofs.YtljlkmmeedlaiaaDoor
open Go.RowKit Go.Shelf

theorem readL_shift (f : Int → List Nat) (a : Int) (n : Nat) : readL f a n = readL (fun k => f (a + k)) 0 n := by
  unfold readL
  congr 1
  funext i
  simp
theorem secOf_readLA {f : Int → List Nat} (h : ∀ k, Sec (f k)) (a : Int) (n i : Nat) (hi : i < n) : secOf (readL f a n) i = f (a + i) := by
  rw [readL_shift]
  exact secOf_readL (f := fun k => f (a + k)) (fun k => h _) n i hi
theorem wp_no_panic {P : Program} {c : Code} {K : Act → World → Prop} {Q : Exit → Act → World → Prop} {a : Act} {w : World} (h : c.wp P (Exit.then K (fun _ _ _ => False)) a w) : c.wp P (Exit.then K Q) a w := by
  refine wp_mono h fun e a w h => ?_
  cases e
  case normal => exact h
  all_goals exact h.elim
theorem markOf_agg (g off n c : Nat) (l : List Nat) (w : World) (hA : Bytes w (some ⟨g, off, none⟩) n l) (hn : 12 ≤ n) (hnc : n ≤ c) (hc : c ≤ maxLen) :
    Calls Tryd.prog 62 #[slc g off n c] w fun e w' => e = .returned (.agg #[.int .u64 (runL l), .int .u64 (plL l)]) ∧ Below w.heap.size w w' := markOf_ok g off n c l w hA hn hnc hc
theorem field_mark (r p : Nat) (W : World) : (Instr.field 108 (.agg #[.int .u64 r, .int .u64 p]) 0).run Tryd.prog W = .ok (.int .u64 r) W := by
  kernel_rfl
/-- Some code, by what it leaves: these slots, and a world that meets R; what follows is walked once. -/
def puts (a : Act) (l : List (Nat × Value)) : Act := l.foldl (fun a p => a.put (some p.1) p.2) a
theorem wpIn_to {F : Fence} {n : Nat} {P : Program} {c : Code} {K : Act → World → Prop} {Q : Exit → Act → World → Prop} {a : Act} {w : World} (l : List (Nat × Value)) (R : World → Prop)
    (h : c.wpIn F n P (Exit.then (fun a' w' => a' = puts a l ∧ R w') (fun _ _ _ => False)) a w) (h2 : ∀ w', R w' → K (puts a l) w') : c.wpIn F n P (Exit.then K Q) a w := by
  refine wpIn_mono h fun e a' w' h => ?_
  cases e
  case normal =>
    obtain ⟨rfl, hr⟩ := h
    exact h2 w' hr
  all_goals exact h.elim
theorem chunk512 (m x : Nat) (hx : x < m) : min 512 (m * 512 - x * 512) = 512 := by
  have : (x + 1) * 512 ≤ m * 512 := Nat.mul_le_mul_right _ hx
  omega
end Go.Proofs.YtljlkmmeedlaiaaDoor
