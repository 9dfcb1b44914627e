/- Layer 3: another head is written; may a log lie there? -/
import Derived.Test.YtljlkmmeedlaiaaDoorPt21
namespace Go.Proofs.YtljlkmmeedlaiaaDoor
open Go.RowKit

/-- What a turn to another head leaves. -/
def TurnL (w : World) (FL FD : Nat → Prop) (p : Nat) (l : L) (d : D) (f : Int → List Nat) (r b at_ : Nat) (e : Ending) (w' : World) : Prop :=
  (e = .returned (.int .i64 0) ∧ ∃ d', Left w FL FD p { l with run := r, base := b } d' w' ∧ d'.size = d.size ∧ Still d' (readW f ((l.from_ : Int) + at_) (headL r b) 1) ∧ (d.fates = [] → d'.fates = [])) ∨
  (e = .returned (.int .i64 5) ∧ d.fates ≠ [] ∧ ∃ d', Left w FL FD p { l with dead := true } d' w' ∧ d'.size = d.size ∧ TornD d' f ((l.from_ : Int) + at_) (headL r b) 1)
theorem WriteL.ret {w w' : World} {FL FD : Nat → Prop} {p : Nat} {l : L} {d : D} {f : Int → List Nat} {a : Int} {b : List Nat} {m : Nat} {e : Ending} (h : WriteL w FL FD p l d f a b m e w') : ∃ k : Int, e = .returned (.int .i64 k) ∧ (k = 0 ∨ k = 5) := by
  rcases h with h | h
  · exact ⟨_, h.1, .inl rfl⟩
  · exact ⟨_, h.1, .inr rfl⟩
theorem headL_len (r b : Nat) : (headL r b).length = 512 := by
  unfold headL
  have h : (over zsec 0 (leB 8 r ++ leB 8 b)).length = 512 := by rw [over_length (by simp [leB_length, Sec.zero.1]), Sec.zero.1]
  rw [over_length (by rw [h, leB_length]; omega), h]
theorem headL_small (r b : Nat) : Small (headL r b) := over_small (over_small Sec.zero.2 ((leB_small _ _).append (leB_small _ _))) (leB_small _ _)
set_option maxRecDepth 100000 in
set_option maxHeartbeats 2000000 in
theorem turn_ok (w : World) (FL FD : Nat → Prop) (p : Nat) (l : L) (d : D) (f : Int → List Nat) (r b at_ : Nat) (hat : at_ = r % 2) (h : LogOn w FL FD p l d) (hs : Still d f) (hbr : b ≤ r) (hr : r < 4611686018427387904) :
    Calls Tryd.prog 34 #[.pointer (some ⟨p, 0, none⟩), headV r b] w (TurnL w FL FD p l d f r b at_) := by
  have hat2 : at_ < 2 := by omega
  have HSEC : Hid (∀ W, Calls Tryd.prog 29 #[headV r b] W fun e w' => e = .returned (.int .i64 at_) ∧ Below W.heap.size W w') := Lib.hid fun W => by subst hat; exact sector_ok r b W (by omega)
  have n4 := h.n4
  obtain ⟨w0, hw0⟩ : ∃ w0, w0 = w.alloc (.cells #[.int .u64 r, .int .u64 b] 66) := ⟨_, rfl⟩
  have hb0 : Below w.heap.size w w0 := by subst hw0; exact (Below.refl _ _).alloc (Nat.le_refl _) _
  have hrow : Row w0 w.heap.size 66 #[.int .u64 r, .int .u64 b] := by subst hw0; exact Row.new _ _ _
  have HST : Hid (∀ W, Below w0.heap.size w0 W → W.cell? ⟨w.heap.size, 0, none⟩ = some (.int .u64 r) ∧ W.cell? ⟨w.heap.size, 1, none⟩ = some (.int .u64 b) ∧ LogOn W FL FD p l d) :=
    Lib.hid fun W hb => ⟨(hrow.call hb).cell (i := 0) rfl, (hrow.call hb).cell (i := 1) rfl, (h.call hb0).call hb⟩
  have HWR : Hid (∀ W g, LogOn W FL FD p l d → Row W g 5 (cellsOf (headL r b)).toArray → w0.heap.size ≤ g → Calls Tryd.prog 31 #[.pointer (some ⟨p, 0, none⟩), .int .i64 at_, slc g 0 512 512] W (WriteL W FL FD p l d f ((l.from_ : Int) + at_) (headL r b) 1)) :=
    Lib.hid fun W g hon hg hge => lwrite_ok W FL FD p l d f at_ _ 512 1 512 (headL r b) hon hs (Bytes.of_row' hg (headL_small r b) (headL_len r b)) (fun _ x e hx => by
      injection e with e; subst e
      have h1 := h.thereD _ hx
      have h2 := hb0.size
      change g < w.heap.size at h1
      omega) (by omega) (by decide) rfl (by omega)
  have HEND : Hid (∀ W w1 k, Below w0.heap.size w0 W → WriteL W FL FD p l d f ((l.from_ : Int) + at_) (headL r b) 1 (.returned (.int .i64 k)) w1 → w1.cell? ⟨w.heap.size, 0, none⟩ = some (.int .u64 r) ∧ w1.cell? ⟨w.heap.size, 1, none⟩ = some (.int .u64 b) ∧ (∀ i, w1.frozen? ⟨p, i, none⟩ = false) ∧
      (w1.cell? ⟨p, 3, none⟩ = some (.int .u64 l.run) ∧ w1.cell? ⟨p, 4, none⟩ = some (.int .u64 l.base)) ∧ (k = 5 → TurnL w FL FD p l d f r b at_ (.returned (.int .i64 5)) w1) ∧ (k = 0 → TurnL w FL FD p l d f r b at_ (.returned (.int .i64 0)) ((w1.setCell ⟨p, 3, none⟩ (.int .u64 r)).setCell ⟨p, 4, none⟩ (.int .u64 b)))) := Lib.hid fun W w1 k hb hw => by
    have hbW : Below w.heap.size w W := hb0.call hb
    have hsn : ∀ x, (FL x ∨ FD x) → w.heap.size ≠ x := fun x hx e => by
      rcases hx with hx | hx
      · have := h.thereL x hx; omega
      · have := h.thereD x hx; omega
    have hrowW := hrow.call hb
    rcases hw with ⟨he, d', hl, hsz, hst, hft⟩ | ⟨he, hf, d', hl, hsz, hto⟩
    · have hk := hrowW.kept hl.2 (fun hx => hsn _ hx rfl)
      obtain ⟨⟨FL2, FD2, hon, hL, hD⟩, hkp⟩ := hl
      obtain ⟨vb1, m1, _, _, _, c3, c4, _, _, _, _, _, hfr⟩ := hon.cells
      injection he with he; injection he with _ he
      refine ⟨hk.cell (i := 0) rfl, hk.cell (i := 1) rfl, hfr, ⟨c3, c4⟩, fun h5 => by omega, fun _ => .inl ⟨rfl, d', ?_, hsz, hst, hft⟩⟩
      have h8 := LogOn.left (hon.setHead r b hbr hr) hL hD (hkp.trans (((Kept.cell w1 p 3 (.int .u64 r)).trans' (Kept.cell _ p 4 (.int .u64 b))).mono fun k _ e => by subst e; exact grow.old (.inl h.mem)))
      exact h8.below hbW
    · have hk := hrowW.kept hl.2 (fun hx => hsn _ hx rfl)
      have hl9 := hl
      obtain ⟨⟨FL2, FD2, hon, hL, hD⟩, hkp⟩ := hl
      obtain ⟨vb1, m1, _, _, _, c3, c4, _, _, _, _, _, hfr⟩ := hon.cells
      injection he with he; injection he with _ he
      exact ⟨hk.cell (i := 0) rfl, hk.cell (i := 1) rfl, hfr, ⟨c3, c4⟩, fun _ => .inr ⟨rfl, hf, d', hl9.below hbW, hsz, hto⟩, fun h5 => by omega⟩
  have HW0 := Lib.hid hw0
  have HB0 := Lib.hid hb0
  have HH := Lib.hid h
  have hrl : r < 18446744073709551616 := by omega
  obtain ⟨k0, k1, _⟩ := HST.out w0 (Below.refl _ _)
  clear hat hs h hrow hb0
  go_enter Tryd.func34, Tryd.ntmps34
  rw [hw0] at k0 k1
  go_wp2_with fail
  rw [← HW0.out] at k0 k1 ⊢
  clear hw0
  go_region_with (first
    | (go_at_call 29; refine (HSEC.out _).mono ?_; rintro e wS ⟨rfl, hbS⟩
       have hbS2 : Below w0.heap.size w0 wS := by first | exact ((Below.refl _ _).drew).call hbS | exact Below.call (by assumption) hbS
       obtain ⟨s0, s1, honS⟩ := HST.out wS hbS2)
    | (go_at_call 30; refine (bytes_ok r b _ 512 (Nat.le_refl _) (Nat.le_refl _)).mono ?_; rintro e wB ⟨g, rfl, hg, hge, hbB⟩
       have hbB2 : Below w0.heap.size w0 wB := by first | exact ((Below.refl _ _).drew).call hbB | exact Below.call (by assumption) hbB
       have hge2 : w0.heap.size ≤ g := by first | exact hge | (refine Nat.le_trans ?_ hge; exact hbS2.size)
       obtain ⟨s0, s1, honB⟩ := HST.out wB hbB2)
    | (go_at_call 31; first
         | (refine (HWR.out _ g honS (hg.call hbS) hge2).mono ?_; rintro e w1 hwr; obtain ⟨k, rfl, hk⟩ := hwr.ret; have hbF := hbS2)
         | (refine (HWR.out _ g honB hg hge2).mono ?_; rintro e w1 hwr; obtain ⟨k, rfl, hk⟩ := hwr.ret; have hbF := hbB2)))
  all_goals (
    obtain ⟨e0, e1, hfr, ⟨e3, e4⟩, h5, h00⟩ := HEND.out _ _ _ hbF hwr
    have hf3 := hfr 3
    have hf4 := hfr 4
    rcases hk with rfl | rfl
    · have HF := Lib.hid (h00 rfl)
      clear h5 h00 hwr hfr s0 s1 honS honB hg hge hge2 hbS hbB HWR HSEC HST HEND
      go_wp2
      go_ret
      exact HF.out
    · have HF := Lib.hid (h5 rfl)
      clear h5 h00 hwr hfr s0 s1 honS honB hg hge hge2 hbS hbB HWR HSEC HST HEND
      go_wp2
      go_ret
      exact HF.out)
end Go.Proofs.YtljlkmmeedlaiaaDoor
