/- Layer 1: 'Open' as the Go text makes it. -/
import Derived.Test.YtmiaaihejapomaaCrcSeal
import Derived.WalkMore
namespace Go.Proofs.Ytmiaaihejapomaa
open Go.RowKit
open Crc

theorem open_short (A : Option Addr) (n c : Nat) (w : World) (hn : n < 4) :
    Calls Try.prog 15 #[.slice A n c] w fun e w' => e = .returned (.tuple #[.slice none 0 0, .int .i64 4]) ∧ w = w' := by
  go_enter Try.func15, Try.ntmps15
  go_wp2
  go_step3
  go_wp2
  rw [Exit.noGoto_ret]
  go_ret2
  exact ⟨rfl, rfl⟩

/-- The bytes ahead of a sum. -/
def headOf (l : List Nat) : List Nat := l.take (l.length - 4)
/-- The first k bytes behind the head are those of its sum. -/
def agree (l : List Nat) (k : Nat) : Prop := ∀ j, j < k → l.getD (l.length - 4 + j) 0 = byteOf (sumL (headOf l)) j
theorem agree_succ {l : List Nat} {k : Nat} (h : agree l k) (h1 : l.getD (l.length - 4 + k) 0 = byteOf (sumL (headOf l)) k) : agree l (k + 1) := fun j hj => by
  by_cases e : j = k
  · subst e; exact h1
  · exact h j (by omega)
/-- What Open answers of bytes that are as long as a sum at least. -/
def OpenPost (w : World) (l : List Nat) (m : Nat) (e : Ending) (w' : World) : Prop :=
  Below w.heap.size w w' ∧ ((agree l 4 ∧ ∃ g, e = .returned (.tuple #[.slice (some ⟨g, 0, none⟩) m m, .int .i64 0]) ∧ w.heap.size ≤ g ∧ Row w' g 5 (cellsOf (headOf l)).toArray) ∨
    (¬ agree l 4 ∧ e = .returned (.tuple #[.slice none 0 0, .int .i64 110])))

set_option maxHeartbeats 1000000 in
theorem open_long (A : Option Addr) (m c : Nat) (l : List Nat) (w : World) (hA : Bytes w A (m + 4) l) (hcap : m + 4 ≤ c) (hbig : m + 4 ≤ 140737488355328) :
    Calls Try.prog 15 #[.slice A (m + 4) c] w (OpenPost w l m) := by
  have hlen := Lib.hid hA.len
  have hhd := Lib.hid (show headOf l = l.take m by unfold headOf; rw [hA.len, Nat.add_sub_cancel])
  go_enter Try.func15, Try.ntmps15
  go_wp2_with fail
  go_step3
  go_wp2_with (go_at_call 7; refine (sum32 A m c (headOf l) _ ?_ (by omega)).mono ?_; (rw [hhd.out]; exact hA.take (by omega)); rintro e w1 ⟨rfl, hb1⟩)
  go_step3
  go_wp2
  obtain ⟨s, hs⟩ : ∃ s, s = sumL (headOf l) := ⟨_, rfl⟩
  rw [← hs]
  have Hs := Lib.hid hs
  clear hs
  go_loopw [6] (fun v6 wr => ∃ k : Nat, k ≤ 4 ∧ v6 = .int .i64 k ∧ agree l k ∧ Below w.heap.size w wr) (fun v6 _ => (4 - intOf v6).toNat)
  case atStart => exact ⟨0, by omega, rfl, (fun j hj => by omega), hb1⟩
  case round =>
    obtain ⟨k, hk, rfl, hag, hb⟩ := hrel
    by_cases hlt : k < 4
    · obtain ⟨b, off, rfl, hbl, hc⟩ := (hA.below hb).2.2 (by omega)
      have hck := hc (m + k) (by omega)
      have hi0 : (0 : Int) ≤ (m : Int) + k := by omega
      have hi1 : (m : Int) + k < (m : Int) + 4 := by omega
      have hx := (hA.below hb).byte (m + k)
      have Hx : Hid (l.getD (l.length - 4 + k) 0 = l.getD (m + k) 0) := Lib.hid (by rw [hlen.out, Nat.add_sub_cancel])
      clear hc
      generalize l.getD (m + k) 0 = x at *
      have hy := byteOf_lt s k
      have hsb := fun w => sumByte s k w hlt
      have Hy := Lib.hid (show byteOf s k = byteOf (sumL (headOf l)) k by rw [Hs.out])
      generalize byteOf s k = y at *
      have HSB := Lib.hid hsb
      clear hsb
      by_cases hxy : x = y
      · have hne : ((x : Int) != (y : Int)) = false := by simp [hxy]
        have HA := Lib.hid (agree_succ hag (by rw [Hx.out, ← Hy.out]; exact hxy))
        clear hxy
        go_wp2_with fail
        go_quiet ((go_at_call 20; exact Calls.quiet_of_same ((HSB.out _).mono fun _ _ h => ⟨h.1, h.2.symm⟩)))
        go_wp2
        exact ⟨⟨k + 1, by omega, by go_num, HA.out, below_drewN hb nq⟩, by simp [intOf]; omega⟩
      · have hne : ((x : Int) != (y : Int)) = true := by simp; omega
        have HA := Lib.hid (show ¬ agree l 4 from fun h => hxy (by rw [← Hx.out, Hy.out]; exact h k hlt))
        clear hxy
        go_wp2_with fail
        go_quiet ((go_at_call 20; exact Calls.quiet_of_same ((HSB.out _).mono fun _ _ h => ⟨h.1, h.2.symm⟩)))
        go_wp2
        rw [Exit.noGoto_ret]
        go_ret2
        exact ⟨below_drewN hb nq, .inr ⟨HA.out, rfl⟩⟩
    · obtain rfl : k = 4 := by omega
      go_wp2_with (go_at_call 19; refine (copied A m c 0 _ rfl (headOf l) _ ?_ (by omega)).mono ?_; (rw [hhd.out]; exact (hA.below hb).take (by omega)); rintro e w2 ⟨g, rfl, hl2, hg2, hr2, hb2⟩)
      rw [Exit.noGoto_ret]
      go_ret2
      have hr3 : Row w2 g 5 (cellsOf (headOf l)).toArray := by simpa using hr2
      exact ⟨hb.trans (hb2.mono hb.size), .inl ⟨hag, g, rfl, Nat.le_trans hb.size hg2, hr3⟩⟩

/-- Sealed bytes are opened. -/
def GoodPost (w : World) (l : List Nat) (m : Nat) (e : Ending) (w' : World) : Prop :=
  ∃ g, e = .returned (.tuple #[.slice (some ⟨g, 0, none⟩) m m, .int .i64 0]) ∧ w.heap.size ≤ g ∧ Row w' g 5 (cellsOf (headOf l)).toArray ∧ Below w.heap.size w w'
theorem open_good (A : Option Addr) (m c : Nat) (l : List Nat) (w : World) (hA : Bytes w A (m + 4) l) (hcap : m + 4 ≤ c) (hbig : m + 4 ≤ 140737488355328) (hag : agree l 4) :
    Calls Try.prog 15 #[.slice A (m + 4) c] w (GoodPost w l m) :=
  (open_long A m c l w hA hcap hbig).mono fun e w' h => by
    obtain ⟨hb, ⟨_, g, he, hg, hr⟩ | ⟨hn, _⟩⟩ := h
    · exact ⟨g, he, hg, hr, hb⟩
    · exact absurd hag hn
/-- Others are not. -/
theorem open_bad (A : Option Addr) (m c : Nat) (l : List Nat) (w : World) (hA : Bytes w A (m + 4) l) (hcap : m + 4 ≤ c) (hbig : m + 4 ≤ 140737488355328) (hag : ¬ agree l 4) :
    Calls Try.prog 15 #[.slice A (m + 4) c] w fun e w' => e = .returned (.tuple #[.slice none 0 0, .int .i64 110]) ∧ Below w.heap.size w w' :=
  (open_long A m c l w hA hcap hbig).mono fun e w' h => by
    obtain ⟨hb, ⟨h1, _⟩ | ⟨_, he⟩⟩ := h
    · exact absurd h1 hag
    · exact ⟨he, hb⟩
end Go.Proofs.Ytmiaaihejapomaa
