/- Layer 2's law: what a script leaves (play of package lexiconlaw02). -/
import Derived.Test.YtielinebhbhegaaDskScript
namespace Go.Proofs.Ytielinebhbhegaa
open Go.RowKit

/-- Pieces, one over the other. -/
def applyP (f : Int → List Nat) (ps : List (Int × List Nat)) : Int → List Nat := ps.foldl (fun f q => upd f q.1 q.2) f
theorem applyP_append (f : Int → List Nat) (a b : List (Int × List Nat)) : applyP f (a ++ b) = applyP (applyP f a) b := by unfold applyP; rw [List.foldl_append]
theorem readW_is (f : Int → List Nat) (at_ : Int) (l : List Nat) (k : Nat) : readW f at_ l k = applyP f (piecesW at_ l k) := by
  induction k with
  | zero => rfl
  | succ k ih => rw [piecesW_succ, applyP_append, ← ih]; rfl
theorem lastTo_is (f : Int → List Nat) (ps : List (Int × List Nat)) (k : Nat) (hk : k ≤ ps.length) : lastTo f ps k = applyP f (ps.take k) := by
  induction k with
  | zero => rfl
  | succ k ih =>
    rw [List.take_succ_eq_append_getElem (by omega), applyP_append, ← ih (by omega)]
    simp [lastTo, applyP, List.getD_eq_getElem?_getD, show k < ps.length by omega]
/-- What is read is what lasts, and the pieces over it; and where no sector is, zeros. -/
def D.Inv (d : D) : Prop := d.read = applyP d.lasting d.pieces ∧ ∀ k : Int, (k < 0 ∨ (d.size : Int) ≤ k) → d.read k = zsec
theorem readW_out (f : Int → List Nat) (at_ : Int) (l : List Nat) (m : Nat) (k : Int) (hk : k < at_ ∨ at_ + m ≤ k) : readW f at_ l m k = f k := by
  induction m with
  | zero => rfl
  | succ m ih =>
    show upd (readW f at_ l m) (at_ + m) (secOf l m) k = _
    unfold upd
    rw [if_neg (by omega)]
    exact ih (by omega)
theorem inv_new (n : Nat) (l : List (Int × Int)) : (newD n l).Inv := ⟨rfl, fun _ _ => rfl⟩
theorem inv_write {d : D} (h : d.Inv) (fs : List (Int × Int)) (s : Int) (at_ : Int) (l : List Nat) (k : Nat) (h0 : 0 ≤ at_) (h1 : at_ + k ≤ d.size) : (wrD { d with fates := fs, steps := s } at_ l k).Inv := by
  refine ⟨?_, fun j hj => ?_⟩
  · show readW d.read at_ l k = applyP d.lasting (d.pieces ++ piecesW at_ l k)
    rw [applyP_append, readW_is, ← (show d.read = _ from h.1)]
  · show readW d.read at_ l k j = zsec
    have hj' : j < 0 ∨ (d.size : Int) ≤ j := hj
    rw [readW_out _ _ _ _ _ (by omega)]
    exact h.2 j hj'
theorem inv_sync {d : D} (h : d.Inv) (s : Int) (k : Nat) (hk : k ≤ d.pieces.length) : (syD d s k).Inv := by
  refine ⟨?_, h.2⟩
  show d.read = applyP (lastTo d.lasting d.pieces k) (d.pieces.drop k)
  rw [lastTo_is _ _ _ hk, ← applyP_append, List.take_append_drop]
  exact h.1

def PlayRel (w : World) (p n k : Nat) (wr : World) : Prop :=
  ∃ d, DiskAt wr (grow noBlock w) p d ∧ d.size = n ∧ d.Inv ∧ d.pieces.length ≤ 12 * k ∧ d.fates.length ≤ 100 + 40 * k ∧ Below w.heap.size w wr
theorem grow_grow {w wr : World} (h : w.heap.size ≤ wr.heap.size) (k : Nat) (hk : grow (grow noBlock w) wr k) : grow noBlock w k := by
  rcases hk with hk | hk
  · exact hk
  · exact .inr (Nat.le_trans h hk)
theorem below_of_grow {w wr w' : World} (hb : Below w.heap.size w wr) (hk : Kept (grow noBlock w) wr w') : Below w.heap.size w w' :=
  hb.trans (hk.below hb.size fun x hx => by
    rcases hx with hx | hx
    · exact hx.elim
    · exact hx)
theorem PlayRel.same {w wr w' : World} {p n k : Nat} (h : PlayRel w p n k wr) (hb : Below wr.heap.size wr w') : PlayRel w p n (k + 1) w' := by
  obtain ⟨d, h1, h2, h3, h4, h5, h6⟩ := h
  exact ⟨d, h1.below hb, h2, h3, by omega, by omega, h6.call hb⟩

/-- What Write answers, whatever it is handed. -/
theorem write_any {w wr : World} {p n k : Nat} (h : PlayRel w p n k wr) (hk : k ≤ 60) (A : Option Addr) (nb cb : Nat) (at_ : Int) (l : List Nat) (hA : Bytes w A nb l) (hcap : nb ≤ cb) (hmax : cb ≤ 9223372036854775807) (hnb : nb ≤ 6000) (hw : (Lit.int .i64 at_).wf = true) :
    Calls Try.prog 14 #[.pointer (some ⟨p, 0, none⟩), .int .i64 at_, .slice A nb cb] wr fun e w' => (∃ x, e = .returned (.int .i64 x)) ∧ PlayRel w p n (k + 1) w' := by
  have h' := h
  obtain ⟨d, h1, h2, h3, h4, h5, h6⟩ := h
  by_cases hm : nb % 512 = 0
  · obtain ⟨m, hm⟩ : ∃ m, nb = m * 512 := ⟨nb / 512, by omega⟩
    by_cases ht : thereB d.size at_ m = true
    · obtain ⟨t, ht1⟩ := h1
      have hth : 0 ≤ at_ ∧ (m : Int) ≤ d.size - at_ := by simpa [thereB] using ht
      refine (write_ok _ p d t at_ A nb m cb l wr ht1 (hA.below h6) ?_ hcap hmax hm hth.1 (by omega) (by omega)).mono ?_
      · intro h0 x hx hF
        obtain ⟨b, off, e, hb, _⟩ := hA.2.2 h0
        rw [e] at hx; injection hx with hx; subst hx
        rcases hF with hF | hF
        · exact hF
        · simp at hF; omega
      · rintro e w' ⟨s, he, hd, hkp⟩
        refine ⟨⟨_, he⟩, _, hd.mono (grow_grow h6.size), h2, inv_write h3 _ _ _ _ _ hth.1 (by have := hth.2; have := stepOf_le d.fates m; omega), ?_, ?_, below_of_grow h6 hkp⟩
        · have := stepOf_le d.fates m
          simp only [wrD, List.length_append, piecesW_length]
          omega
        · simp only [wrD, List.length_tail]; omega
    · refine (write_range p d at_ A nb m cb wr h1 hm (by omega) hw (by simpa using ht)).mono ?_
      rintro e w' ⟨he, rfl⟩
      exact ⟨⟨_, he⟩, h'.same (Below.refl _ _)⟩
  · refine (write_arg p d at_ A nb cb wr h1 hm).mono ?_
    rintro e w' ⟨he, rfl⟩
    exact ⟨⟨_, he⟩, h'.same (Below.refl _ _)⟩
theorem sync_any {w wr : World} {p n k : Nat} (h : PlayRel w p n k wr) (hk : k ≤ 60) :
    Calls Try.prog 15 #[.pointer (some ⟨p, 0, none⟩)] wr fun e w' => (∃ x, e = .returned (.int .i64 x)) ∧ PlayRel w p n (k + 1) w' := by
  obtain ⟨d, ⟨t, h1⟩, h2, h3, h4, h5, h6⟩ := h
  refine (sync_ok _ p d t wr h1 (by omega)).mono ?_
  rintro e w' ⟨s, he, hd, hkp⟩
  refine ⟨⟨_, he⟩, _, hd, h2, inv_sync h3 _ _ (stepOf_le _ _), ?_, ?_, below_of_grow h6 hkp⟩
  · simp only [syD, List.length_drop]; omega
  · simp only [syD, List.length_tail]; omega
theorem feed_any {w wr : World} {p n k : Nat} (h : PlayRel w p n k wr) (hk : k ≤ 60) (A : Option Addr) (c : Nat) (l : List (Int × Int)) (hl : Holds w A l.length 2 (fcs l)) (hn : l.length ≤ 40) :
    Calls Try.prog 19 #[.pointer (some ⟨p, 0, none⟩), .slice A l.length c] wr fun e w' => (∃ x, e = .returned (.int .i64 x)) ∧ PlayRel w p n (k + 1) w' := by
  have h' := h
  obtain ⟨d, h1, h2, h3, h4, h5, h6⟩ := h
  by_cases hkb : kindsB l = true
  · obtain ⟨t, ht⟩ := h1
    refine (feed_ok _ p d t A c l wr ht (hl.below h6) (by omega) (by omega) hkb).mono ?_
    rintro e w' ⟨he, hd, hkp⟩
    refine ⟨⟨_, he⟩, _, hd.mono (grow_grow h6.size), h2, h3, by show d.pieces.length ≤ _; omega, ?_, below_of_grow h6 hkp⟩
    simp only [List.length_append]; omega
  · refine (feed_arg p d A c l wr h1 (hl.below h6) (by omega) (by simpa using hkb)).mono ?_
    rintro e w' ⟨he, hb⟩
    exact ⟨⟨_, he⟩, h'.same hb⟩
theorem small_bounds {s : StepV} (h : bigStep s = false) : s.nb ≤ 6000 ∧ s.fates.length ≤ 40 := by
  unfold bigStep at h
  obtain ⟨h1, h2⟩ := Bool.or_eq_false_iff.1 h
  obtain ⟨h2, h3⟩ := Bool.or_eq_false_iff.1 h2
  have h1 := of_decide_eq_false h1
  have h2 := of_decide_eq_false h2
  omega
def PlayPost (w : World) (n : Nat) (e : Ending) (w' : World) : Prop :=
  ∃ p d, e = .returned (.pointer (some ⟨p, 0, none⟩)) ∧ DiskAt w' (grow noBlock w) p d ∧ d.size = n ∧ d.Inv ∧ d.pieces.length ≤ 720 ∧ Below w.heap.size w w'

set_option maxRecDepth 100000 in
set_option maxHeartbeats 2000000 in
theorem play_ok (n : Nat) (Af : Option Addr) (cf : Nat) (fl : List (Int × Int)) (As : Option Addr) (cs : Nat) (l : List StepV) (w : World) (hf : Holds w Af fl.length 2 (fcs fl)) (hs : ScriptOk w As l) (h1 : 1 ≤ n) (h2 : n ≤ 100) (hfl : fl.length ≤ 100) (hk : kindsB fl = true) (hl : l.length ≤ 60) (hsm : smallSteps l) :
    Calls Try.prog 8 #[.int .i64 n, .slice Af fl.length cf, .slice As l.length cs] w (PlayPost w n) := by
  have HF := Lib.hid hf
  have HS := Lib.hid hs
  have HK := Lib.hid hk
  have HSM := Lib.hid hsm
  clear hf hs hk hsm
  go_enter Try.func8, Try.ntmps8
  go_wp2_with fail
  refine (new_ok Af cf n fl w HF.out (by omega) h1 (by omega) HK.out).mono ?_
  rintro e w1 ⟨p, rfl, hd1, hb1⟩
  have HR1 : Hid (PlayRel w p n 0 w1) := Lib.hid ⟨_, hd1, rfl, inv_new _ _, by simp [newD], by simp [newD]; omega, hb1⟩
  clear hd1 hb1
  go_wp2_with fail
  go_loopw [9] (fun v9 wr => ∃ k : Nat, k ≤ l.length ∧ v9 = .int .i64 k ∧ PlayRel w p n k wr) (fun v9 _ => l.length - (intOf v9).toNat)
  case atStart => exact ⟨0, Nat.zero_le _, rfl, HR1.out⟩
  case round =>
    obtain ⟨k, hk, rfl, hr⟩ := hrel
    by_cases hlt : k < l.length
    · obtain ⟨b, off, rfl, hbl, hcells⟩ := HS.out.cells hlt
      have hst := HS.out.get hlt
      have hbig := HSM.out.get hlt
      have HR := Lib.hid hr
      have hb : Below w.heap.size w wr := by obtain ⟨_, _, _, _, _, _, h⟩ := hr; exact h
      have q0 := (hb.cell (p := ⟨b, off + k * 6 + 0, none⟩) hbl).trans (hcells 0 _ rfl)
      have q1 := (hb.cell (p := ⟨b, off + k * 6 + 1, none⟩) hbl).trans (hcells 1 _ rfl)
      have q2 := (hb.cell (p := ⟨b, off + k * 6 + 2, none⟩) hbl).trans (hcells 2 _ rfl)
      have q3 := (hb.cell (p := ⟨b, off + k * 6 + 3, none⟩) hbl).trans (hcells 3 _ rfl)
      have q4 := (hb.cell (p := ⟨b, off + k * 6 + 4, none⟩) hbl).trans (hcells 4 _ rfl)
      have q5 := (hb.cell (p := ⟨b, off + k * 6 + 5, none⟩) hbl).trans (hcells 5 _ rfl)
      rw [Nat.add_zero] at q0
      have HST := Lib.hid hst
      have hbig2 := small_bounds hbig
      clear hcells hst hbig hr hb
      generalize l.getD k noStep = s at *
      obtain ⟨hn1, hn2⟩ := hbig2
      have HRA : Hid (∀ o, PlayRel w p n k (wr.alloc o)) := Lib.hid fun o => by
        obtain ⟨d, a1, a2, a3, a4, a5, a6⟩ := HR.out
        exact ⟨d, a1.below ((Below.refl _ _).alloc (Nat.le_refl _) _), a2, a3, a4, a5, a6.alloc a6.size _⟩
      have hk60 : k ≤ 60 := by omega
      rcases (by omega : s.kind = 1 ∨ s.kind = 3 ∨ s.kind = 4 ∨ (s.kind ≠ 1 ∧ s.kind ≠ 3 ∧ s.kind ≠ 4)) with hki | hki | hki | hki
      · rw [hki] at q0
        clear hki
        go_wp2_with (go_at_call 14; refine (write_any (HRA.out _) hk60 s.ab s.nb s.cb s.at_ s.bytes HST.out.bytes HST.out.capb.1 HST.out.capb.2 hn1 HST.out.place).mono ?_; (rintro e w2 ⟨⟨x, rfl⟩, hr2⟩); (have HR2 := Lib.hid hr2); clear hr2)
        exact ⟨⟨k + 1, by omega, by go_num, HR2.out⟩, by simp [intOf]; omega⟩
      · rw [hki] at q0
        clear hki
        go_wp2_with (go_at_call 15; refine (sync_any (HRA.out _) hk60).mono ?_; (rintro e w2 ⟨⟨x, rfl⟩, hr2⟩); (have HR2 := Lib.hid hr2); clear hr2)
        exact ⟨⟨k + 1, by omega, by go_num, HR2.out⟩, by simp [intOf]; omega⟩
      · rw [hki] at q0
        clear hki
        go_wp2_with (go_at_call 19; refine (feed_any (HRA.out _) hk60 s.af s.cf s.fates HST.out.fates hn2).mono ?_; (rintro e w2 ⟨⟨x, rfl⟩, hr2⟩); (have HR2 := Lib.hid hr2); clear hr2)
        exact ⟨⟨k + 1, by omega, by go_num, HR2.out⟩, by simp [intOf]; omega⟩
      · have e1 : (s.kind == 1) = false := by simp [hki.1]
        have e3 : (s.kind == 3) = false := by simp [hki.2.1]
        have e4 : (s.kind == 4) = false := by simp [hki.2.2]
        have HR2 : Hid (∀ o, PlayRel w p n (k + 1) (wr.alloc o)) := Lib.hid fun o => HR.out.same ((Below.refl _ _).alloc (Nat.le_refl _) o)
        clear hki
        go_wp2
        exact ⟨⟨k + 1, by omega, by go_num, HR2.out _⟩, by simp [intOf]; omega⟩
    · obtain rfl : k = l.length := by omega
      have HR := Lib.hid hr
      clear hr
      go_wp2
      go_ret
      obtain ⟨d, a1, a2, a3, a4, a5, a6⟩ := HR.out
      exact ⟨p, d, rfl, a1, a2, a3, by omega, a6⟩
end Go.Proofs.Ytielinebhbhegaa
