/- Layer 3: State and Reset. -/
import Derived.Test.YtljlkmmeedlaiaaDoorPt25
namespace Go.Proofs.YtljlkmmeedlaiaaDoor
open Go.RowKit

theorem LogIs.setNone {w : World} {F : Nat → Prop} {p : Nat} {l : L} {vb : Value} {xs : List Bat} (h : LogIs w F p l vb xs) : LogIs (w.setCell ⟨p, 6, none⟩ (.slice none 0 0)) F p { l with bs := [] } (.slice none 0 0) [] :=
  ⟨by have := h.row.set_ 6 (.slice none 0 0); simpa [logCells] using this, h.fp, Lies.empty _ _ _ _ _, fun _ hb => (by cases hb), rfl⟩
theorem LogOn.setNone {w : World} {FL FD : Nat → Prop} {p : Nat} {l : L} {d : D} (h : LogOn w FL FD p l d) : LogOn (w.setCell ⟨p, 6, none⟩ (.slice none 0 0)) FL FD p { l with bs := [] } d := by
  obtain ⟨vb, xs, hx⟩ := h.log
  have hk := Kept.cell w p 6 (.slice none 0 0)
  exact ⟨⟨_, _, hx.setNone⟩, h.disk.kept hk fun k hk e => h.pp (e ▸ hk), h.apart, fun k hl => Nat.lt_of_lt_of_le (h.thereL k hl) hk.size, fun k hl => Nat.lt_of_lt_of_le (h.thereD k hl) hk.size, h.size, h.n4, h.used, h.base, h.run⟩
theorem LogOn.setUsed {w : World} {FL FD : Nat → Prop} {p : Nat} {l : L} {d : D} (h : LogOn w FL FD p l d) (x : Nat) (hx : x + 2 ≤ l.n) : LogOn (w.setCell ⟨p, 5, none⟩ (.int .i64 x)) FL FD p { l with used := x } d :=
  h.own (Kept.cell _ _ _ _) (fun _ _ hl => hl.setUsed x) rfl rfl rfl hx h.base h.run

theorem state_no (v : Value) (w : World) (h : NoLog w v) :
    Calls Tryd.prog 19 #[v] w fun e w' => e = .returned (.tuple #[.int .i64 0, .int .i64 0, .int .u64 0, .bool false]) ∧ w = w' := by
  have H := Lib.hid h
  clear h
  go_enter Tryd.func19, Tryd.ntmps19
  go_wp2_with (go_at_call 36; refine (lnone_no v _ H.out).mono ?_; rintro e w' ⟨rfl, rfl⟩)
  go_returns
  exact ⟨rfl, rfl⟩
theorem room_quiet (w : World) (FL FD : Nat → Prop) (p : Nat) (l : L) (d : D) (h : LogOn w FL FD p l d) :
    Calls Tryd.prog 37 #[.pointer (some ⟨p, 0, none⟩)] w fun e w' => e = .returned (.int .i64 (roomL l)) ∧ ∃ k, w' = w.drewN k := by
  obtain ⟨vb, m, _, _, h2, _, _, h5, _⟩ := h.cells
  have hm := h.most
  have hs := h.size
  have hu := h.used
  have HR : Hid (roomL l = ((l.n : Int) - 2 - l.used) * 488 - 4) := Lib.hid rfl
  clear h
  generalize l.n = n at *
  generalize l.used = u at *
  go_enter Tryd.func37, Tryd.ntmps37
  go_wp2
  go_quiet (fail)
  go_wp2
  go_ret
  exact ⟨ret_int HR.out.symm, _, rfl⟩
set_option maxRecDepth 100000 in
set_option maxHeartbeats 1000000 in
theorem state_ok (w : World) (FL FD : Nat → Prop) (p : Nat) (l : L) (d : D) (h : LogOn w FL FD p l d) :
    Calls Tryd.prog 19 #[.pointer (some ⟨p, 0, none⟩)] w fun e w' => e = .returned (.tuple #[.int .i64 l.bs.length, .int .i64 (max (roomL l) 0), .int .u64 l.run, .bool l.dead]) ∧ Below w.heap.size w w' := by
  obtain ⟨vb, m, _, _, _, h3, _, _, h6, h7, ⟨A, c, hv⟩, hm, _⟩ := h.cells
  subst hv
  have HC : Hid (∀ W, Below w.heap.size w W → LogOn W FL FD p l d) := Lib.hid fun W hb => h.call hb
  have H := Lib.hid h
  have HM := Lib.hid hm
  have hmax : ∀ r : Int, (if r < 0 then 0 else r) = max r 0 := fun r => by split <;> omega
  have HMX := Lib.hid hmax
  clear h hm hmax
  go_enter Tryd.func19, Tryd.ntmps19
  go_wp2_with (go_at_call 36; refine (lnone_ok _ FL FD p l d H.out).mono ?_; rintro e w' ⟨rfl, rfl⟩)
  go_quiet ((go_at_call 37; exact Calls.quiet_of ((room_quiet _ FL FD p l d (HC.out _ (below_drewN (Below.refl _ _) _))).mono fun _ _ h => h)))
  go_wp2
  all_goals (
    go_returns
    refine ⟨?_, below_drewN (Below.refl _ _) _⟩
    rw [← HM.out, ← HMX.out]
    first
      | rw [if_pos (by assumption)]
      | rw [if_neg (by omega)])

theorem reset_no (v : Value) (w : World) (h : NoLog w v) :
    Calls Tryd.prog 15 #[v] w fun e w' => e = .returned (.int .i64 1) ∧ w = w' := by
  have H := Lib.hid h
  clear h
  go_enter Tryd.func15, Tryd.ntmps15
  go_wp2_with (go_at_call 36; refine (lnone_no v _ H.out).mono ?_; rintro e w' ⟨rfl, rfl⟩)
  go_ret
  exact ⟨rfl, rfl⟩
theorem reset_dead (w : World) (FL FD : Nat → Prop) (p : Nat) (l : L) (d : D) (h : LogOn w FL FD p l d) (hd : l.dead = true) :
    Calls Tryd.prog 15 #[.pointer (some ⟨p, 0, none⟩)] w fun e w' => e = .returned (.int .i64 10) ∧ w = w' := by
  obtain ⟨vb, m, _, _, _, _, _, _, _, h7, _⟩ := h.cells
  rw [hd] at h7
  have H := Lib.hid h
  clear h hd
  go_enter Tryd.func15, Tryd.ntmps15
  go_wp2_with (go_at_call 36; refine (lnone_ok _ FL FD p l d H.out).mono ?_; rintro e w' ⟨rfl, rfl⟩)
  go_ret
  exact ⟨rfl, rfl⟩
/-- What Reset leaves. -/
def ResetL (w : World) (FL FD : Nat → Prop) (p : Nat) (l : L) (d : D) (f : Int → List Nat) (r at_ : Nat) (e : Ending) (w' : World) : Prop :=
  (e = .returned (.int .i64 0) ∧ ∃ d', Left w FL FD p { l with run := r, base := r, used := 0, bs := [] } d' w' ∧ d'.size = d.size ∧ Still d' (readW f ((l.from_ : Int) + at_) (headL r r) 1) ∧ (d.fates = [] → d'.fates = [])) ∨
  (e = .returned (.int .i64 5) ∧ d.fates ≠ [] ∧ ∃ d', Left w FL FD p { l with dead := true } d' w' ∧ d'.size = d.size ∧ TornD d' f ((l.from_ : Int) + at_) (headL r r) 1)
set_option maxRecDepth 100000 in
set_option maxHeartbeats 1000000 in
theorem reset_ok (w : World) (FL FD : Nat → Prop) (p : Nat) (l : L) (d : D) (f : Int → List Nat) (r at_ : Nat) (hr : r = l.run + 1) (hat : at_ = r % 2) (h : LogOn w FL FD p l d) (hs : Still d f) (hd : l.dead = false) (hrb : r < 4611686018427387904) :
    Calls Tryd.prog 15 #[.pointer (some ⟨p, 0, none⟩)] w (ResetL w FL FD p l d f r at_) := by
  obtain ⟨vb, m, _, _, _, h3, _, _, _, h7, _⟩ := h.cells
  rw [hd] at h7
  have H := Lib.hid h
  have HS := Lib.hid hs
  have HR := Lib.hid hr
  have HT : Hid (∀ W, W = w → Calls Tryd.prog 34 #[.pointer (some ⟨p, 0, none⟩), headV r r] W (TurnL w FL FD p l d f r r at_)) := Lib.hid fun W hW => by subst hW; exact turn_ok W FL FD p l d f r r at_ hat h hs (Nat.le_refl _) hrb
  have hrv : IntKind.u64.wrap ((l.run : Int) + 1) = (r : Int) := by rw [IntKind.wrap_u64]; omega
  have hrv2 : ((l.run : Int) + 1) = (r : Int) := by omega
  have HN4 := Lib.hid h.n4
  clear h hs hr hd
  generalize l.run = lr at *
  go_enter Tryd.func15, Tryd.ntmps15
  go_wp2_with (go_at_call 36; refine (lnone_ok _ FL FD p l d H.out).mono ?_; rintro e w' ⟨rfl, rfl⟩)
  refine (HT.out w rfl).mono ?_
  rintro e w1 ht
  rcases ht with ⟨rfl, d', hl, hsz, hst, hft⟩ | ⟨rfl, hf, d', hl, hsz, hto⟩
  · obtain ⟨⟨FL1, FD1, hon, hL, hD⟩, hkp⟩ := hl
    obtain ⟨vb1, m1, _, _, _, _, _, c5, c6, _, _, _, hfr⟩ := hon.cells
    have f5 := hfr 5
    have f6 := hfr 6
    have HF : Hid (ResetL w FL FD p l d f r at_ (.returned (.int .i64 0)) ((w1.setCell ⟨p, 5, none⟩ (.int .i64 0)).setCell ⟨p, 6, none⟩ (.slice none 0 0))) := Lib.hid (.inl ⟨rfl, d', ((hon.setUsed 0 (by show 0 + 2 ≤ l.n; have := HN4.out; omega)).setNone).left hL hD (hkp.trans (((Kept.cell w1 p 5 (.int .i64 0)).trans' (Kept.cell _ p 6 (.slice none 0 0))).mono fun k _ e => by subst e; exact grow.old (.inl H.out.mem))), hsz, hst, hft⟩)
    clear hon hfr hL hD hkp hst hft
    go_wp2
    go_ret
    exact HF.out
  · have HF : Hid (ResetL w FL FD p l d f r at_ (.returned (.int .i64 5)) w1) := Lib.hid (.inr ⟨rfl, hf, d', hl, hsz, hto⟩)
    clear hl hto
    go_wp2
    go_ret
    exact HF.out
end Go.Proofs.YtljlkmmeedlaiaaDoor
/- Layer 3: what a call leaves of a log that writes nothing: its disk is as it was. -/
namespace Go.Proofs.YtljlkmmeedlaiaaDoor
open Go.RowKit

/-- What a call leaves of a log whose disk it only reads. -/
def LeftL (w : World) (FL FD : Nat → Prop) (p : Nat) (l : L) (d : D) (w' : World) : Prop :=
  ∃ FL', LogOn w' FL' FD p l d ∧ (∀ k, FL' k → grow FL w k) ∧ Kept FL w w'
theorem LogOn.leftL {w w' : World} {FL FD FL' : Nat → Prop} {p : Nat} {l : L} {d : D} (h : LogOn w' FL' FD p l d) (hL : ∀ k, FL' k → grow FL w k) (hk : Kept FL w w') : LeftL w FL FD p l d w' := ⟨FL', h, hL, hk⟩
theorem LeftL.left {w w' : World} {FL FD : Nat → Prop} {p : Nat} {l : L} {d : D} (h : LeftL w FL FD p l d w') : Left w FL FD p l d w' := by
  obtain ⟨FL', h1, h2, h3⟩ := h
  exact h1.left h2 (fun _ => grow.old) (h3.mono fun k _ hx => .inl hx)
theorem LeftL.more {w w1 w' : World} {FL FD FL1 : Nat → Prop} {p : Nat} {l' : L} {d' : D} (hL : ∀ k, FL1 k → grow FL w k) (hk : Kept FL w w1) (h : LeftL w1 FL1 FD p l' d' w') : LeftL w FL FD p l' d' w' := by
  obtain ⟨FL2, h1, h2, h3⟩ := h
  exact ⟨FL2, h1, fun k hk9 => grow_trans hL hk.size k (h2 k hk9), hk.trans (h3.mono fun k _ hx => hL k hx)⟩
theorem LeftL.below {w w1 w' : World} {FL FD : Nat → Prop} {p : Nat} {l' : L} {d' : D} (hb : Below w.heap.size w w1) (h : LeftL w1 FL FD p l' d' w') : LeftL w FL FD p l' d' w' :=
  LeftL.more (fun _ => grow.old) hb.kept h
end Go.Proofs.YtljlkmmeedlaiaaDoor
