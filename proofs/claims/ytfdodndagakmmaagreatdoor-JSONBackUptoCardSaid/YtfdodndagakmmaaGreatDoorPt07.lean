/- Layer 7: the reader of a number's text. -/
import Derived.Test.YtfdodndagakmmaaGreatDoorPt06
import Derived.StillTailTactics
import Derived.Lib.IndexAny
namespace Go.Proofs.YtfdodndagakmmaaGreatDoor
open Go.RowKit

/-- A reader that has come to a place of a text. -/
def RdAt (w : World) (p : Nat) (l : List UInt8) (k : Nat) : Prop := Row w p 192 #[.string (bs l), .int .i64 (k : Int)]
/-- Is a digit next? -/
def digAt (l : List UInt8) (k : Nat) : Bool := decide (k < l.length) && isDig (l.getD k 0)
set_option maxRecDepth 100000 in
set_option maxHeartbeats 2000000 in
theorem digit_ok (p : Nat) (l : List UInt8) (k : Nat) (w : World) (h : RdAt w p l k) :
    Calls Tryz.prog 178 #[.pointer (some ⟨p, 0, none⟩)] w fun e w' => e = .returned (.bool (digAt l k)) ∧ Below w.heap.size w w' := by
  have c0 := h.cell (i := 0) (v := .string (bs l)) rfl
  have c1 := h.cell (i := 1) (v := .int .i64 (k : Int)) rfl
  have hs := bs_size l
  have hc0 : ∀ W : World, Below w.heap.size w W → W.cell? ⟨p, 0, none⟩ = some (.string (bs l)) := fun W hb => (hb.cell (p := ⟨p, 0, none⟩) h.lt).trans c0
  have hc1 : ∀ W : World, Below w.heap.size w W → W.cell? ⟨p, 1, none⟩ = some (.int .i64 (k : Int)) := fun W hb => (hb.cell (p := ⟨p, 1, none⟩) h.lt).trans c1
  clear h
  by_cases hk : k < l.length
  · have HD : Hid (digAt l k = isDig (l.getD k 0)) := Lib.hid (by unfold digAt; simp [hk])
    have hi : ∀ W : World, (Instr.index 9 (.string (bs l)) (.int .i64 (k : Int))).run Tryz.prog W = .ok (.int .u8 (byteAt l k : Int)) W := fun W => run_byte _ Tryz.underlying9 l k hk W
    have HI := isDigit_at l k
    generalize isDig (l.getD k 0) = b at *
    generalize byteAt l k = y at *
    have hlt : decide ((k : Int) < (l.length : Int)) = true := by simp; omega
    go_enter Tryz.func178, Tryz.ntmps178
    go_wp2_with fail
    have hb0 : Below w.heap.size w w := Below.refl _ _
    go_region_held3 (fun W => Below w.heap.size w W) (first | exact Below.refl _ _ | exact (Below.refl _ _).drew | assumption | (exact Below.call (by assumption) (by assumption)))
      (first
        | (go_at_call 122; refine (HI _).mono ?_; rintro e w' ⟨rfl, rfl⟩))
    go_wp2
    go_ret
    exact ⟨by rw [HD.out]; rfl, (Below.refl _ _).drew⟩
  · have HD : Hid (digAt l k = false) := Lib.hid (by unfold digAt; simp [hk])
    have hlt : decide ((k : Int) < (l.length : Int)) = false := by simp; omega
    go_enter Tryz.func178, Tryz.ntmps178
    go_wp2_with fail
    go_quiet (fail)
    go_wp2
    go_ret
    exact ⟨by rw [HD.out]; rfl, below_drewN (Below.refl _ _) _⟩

/-- A reader has gone on. -/
def Went (p : Nat) (l : List UInt8) (k : Nat) (w w' : World) : Prop := RdAt w' p l k ∧ Kept (· = p) w w'
set_option maxRecDepth 100000 in
set_option maxHeartbeats 2000000 in
theorem next_ok (p : Nat) (l : List UInt8) (k : Nat) (w : World) (h : RdAt w p l k) (hk : k < l.length) (hl : l.length ≤ 9223372036854775806) :
    Calls Tryz.prog 179 #[.pointer (some ⟨p, 0, none⟩)] w fun e w' => e = .returned (.int .u8 (byteAt l k : Int)) ∧ Went p l (k + 1) w w' := by
  have c0 := h.cell (i := 0) (v := .string (bs l)) rfl
  have c1 := h.cell (i := 1) (v := .int .i64 (k : Int)) rfl
  have f1 := h.free 1
  obtain ⟨w1, hw1⟩ : ∃ w1, w1 = w.setCell ⟨p, 1, none⟩ (.int .i64 ((k + 1 : Nat) : Int)) := ⟨_, rfl⟩
  have h1 : RdAt w1 p l (k + 1) := by subst hw1; simpa [RdAt] using h.set_ 1 (.int .i64 ((k + 1 : Nat) : Int))
  have hk1 : Kept (· = p) w w1 := by subst hw1; exact Kept.cell _ _ _ _
  have HW : Hid (w.setCell ⟨p, 1, none⟩ (.int .i64 ((k : Int) + 1)) = w1) := Lib.hid (by rw [hw1]; rfl)
  have hc0 : ∀ W : World, Below w1.heap.size w1 W → W.cell? ⟨p, 0, none⟩ = some (.string (bs l)) := fun W hb => (hb.cell (p := ⟨p, 0, none⟩) h1.lt).trans (h1.cell (i := 0) rfl)
  have hc1 : ∀ W : World, Below w1.heap.size w1 W → W.cell? ⟨p, 1, none⟩ = some (.int .i64 ((k : Int) + 1)) := fun W hb => (hb.cell (p := ⟨p, 1, none⟩) h1.lt).trans (h1.cell (i := 1) rfl)
  have hi : ∀ W : World, (Instr.index 9 (.string (bs l)) (.int .i64 (k : Int))).run Tryz.prog W = .ok (.int .u8 (byteAt l k : Int)) W := fun W => run_byte _ Tryz.underlying9 l k hk W
  have H1 := Lib.hid h1
  have HK1 := Lib.hid hk1
  clear hw1 h h1 hk1
  generalize byteAt l k = y at *
  go_enter Tryz.func179, Tryz.ntmps179
  go_wp2_with fail
  rw [HW.out]
  have k0 := hc0 w1 (Below.refl _ _)
  have k1 := hc1 w1 (Below.refl _ _)
  go_quiet (fail)
  go_wp2
  go_ret
  exact ⟨rfl, H1.out.drewN _, HK1.out.drewN _⟩
/-- Is what is next one of these? -/
def takeAt (these l : List UInt8) (k : Nat) : Bool := decide (k < l.length) && these.contains (l.getD k 0)
theorem takeAt_head (these l : List UInt8) (k : Nat) : takeAt these l k = match (l.drop k).head? with | some b => these.contains b | none => false := by
  unfold takeAt
  by_cases h : k < l.length
  · simp [h, List.getD]
  · simp [h]
set_option maxRecDepth 100000 in
set_option maxHeartbeats 2000000 in
theorem take_ok (p : Nat) (these l : List UInt8) (k : Nat) (w : World) (h : RdAt w p l k) (hl : l.length ≤ 9223372036854775806) :
    Calls Tryz.prog 177 #[.pointer (some ⟨p, 0, none⟩), .string (bs these)] w fun e w' => e = .returned (.bool (takeAt these l k)) ∧ Went p l (if takeAt these l k then k + 1 else k) w w' := by
  have c0 := h.cell (i := 0) (v := .string (bs l)) rfl
  have c1 := h.cell (i := 1) (v := .int .i64 (k : Int)) rfl
  have f1 := h.free 1
  have hs := bs_size l
  have H := Lib.hid h
  clear h
  by_cases hk : k < l.length
  · have hi : ∀ W : World, (Instr.index 9 (.string (bs l)) (.int .i64 (k : Int))).run Tryz.prog W = .ok (.int .u8 (byteAt l k : Int)) W := fun W => run_byte _ Tryz.underlying9 l k hk W
    have hlt : decide ((k : Int) < (l.length : Int)) = true := by simp; omega
    obtain ⟨x, hx⟩ : ∃ x, x = Lib.indexByte these (l.getD k 0) := ⟨_, rfl⟩
    have hT : takeAt these l k = decide (0 ≤ x) := by
      unfold takeAt
      rw [Lib.contains_iff_indexByte, hx]; simp [hk]
    have HIB : Hid (∀ W, Calls Tryz.prog 135 #[.string (bs these), .int .u8 (byteAt l k : Int)] W fun e w' => e = .returned (.int .i64 x) ∧ w' = W) := Lib.hid fun W => by
      have := Tryz.strings_IndexByte (bs these) (byteAt l k : Int) W
      have e : ((byteAt l k : Int)).toNat.toUInt8 = l.getD k 0 := by unfold byteAt; simp
      rw [e] at this
      rw [hx]; exact this
    have HT := Lib.hid hT
    clear hT hx
    generalize byteAt l k = y at *
    by_cases hx0 : 0 ≤ x
    · rw [HT.out, decide_eq_true hx0, if_pos rfl]
      have hdx : decide ((0 : Int) ≤ x) = true := by simpa using hx0
      go_enter Tryz.func177, Tryz.ntmps177
      go_wp2_with fail
      go_quiet ((go_at_call 135; exact Calls.quiet_of_same ((HIB.out _).mono fun _ _ h => ⟨h.1, h.2⟩)))
      go_wp2
      go_ret
      refine ⟨rfl, ?_, ?_⟩
      · simpa [RdAt] using (H.out.drewN nq).set_ 1 (.int .i64 ((k + 1 : Nat) : Int))
      · exact (Kept.refl _ _).drewN _ |>.trans' (Kept.cell _ _ _ _)
    · rw [HT.out, decide_eq_false hx0]
      have hdx : decide ((0 : Int) ≤ x) = false := by simpa using hx0
      go_enter Tryz.func177, Tryz.ntmps177
      go_wp2_with fail
      go_quiet ((go_at_call 135; exact Calls.quiet_of_same ((HIB.out _).mono fun _ _ h => ⟨h.1, h.2⟩)))
      go_wp2
      go_ret
      exact ⟨rfl, H.out.drewN _, (Kept.refl _ _).drewN _⟩
  · have hT : takeAt these l k = false := by unfold takeAt; simp [hk]
    have hlt : decide ((k : Int) < (l.length : Int)) = false := by simp; omega
    rw [hT]
    go_enter Tryz.func177, Tryz.ntmps177
    go_wp2_with fail
    go_quiet (fail)
    go_wp2
    go_ret
    exact ⟨rfl, H.out.drewN _, (Kept.refl _ _).drewN _⟩
end Go.Proofs.YtfdodndagakmmaaGreatDoor
