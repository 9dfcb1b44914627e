/- Layer 8: end: what ends the innermost one that is open. -/
import Derived.Test.YtfdodndagakmmaaGreatDoorPt16
import Derived.Test.YtfdodndagakmmaaGreatDoorPt15
namespace Go.Proofs.YtfdodndagakmmaaGreatDoor
open Go.RowKit

/-- The last one of some bytes; a nought, if there is none. -/
def lastB (l : List UInt8) : Nat := if l = [] then 0 else byteAt l (l.length - 1)
set_option maxRecDepth 100000 in
set_option maxHeartbeats 2000000 in
theorem jend_ok (p : Nat) (X : Txt) (k : Nat) (A : Option Addr) (n c : Nat) (l : List UInt8) (O : Value) (f : Fl) (w : World) (h : JRd w p X k (.slice A n c) O f) (hl : l.length = n) (hn : n ≤ 9223372036854775806) (hA : Holds w A n 1 (u8s l)) :
    Calls Tryz.prog 83 #[.pointer (some ⟨p, 0, none⟩)] w fun e w' => e = .returned (.int .u8 (lastB l : Nat)) ∧ Below w.heap.size w w' := by
  have c2 := h.row.cell (i := 2) (v := .slice A n c) rfl
  have hp := h.row.lt
  clear h
  by_cases h0 : n = 0
  · subst h0
    have hb : lastB l = 0 := by unfold lastB; rw [if_pos (List.eq_nil_of_length_eq_zero hl)]
    rw [hb]
    clear hA hl hb
    go_enter Tryz.func83, Tryz.ntmps83
    go_wp2
    go_ret
    exact ⟨rfl, Below.refl _ _⟩
  · obtain ⟨g, off, rfl, hg, hr⟩ := hA.2 (by omega)
    have hb : lastB l = byteAt l (n - 1) := by unfold lastB; rw [if_neg (fun e => h0 (by rw [← hl, e]; rfl)), hl]
    have q := hr (n - 1) (.int .u8 (byteAt l (n - 1) : Int)) (by
      rw [u8s_get, List.getElem?_eq_getElem (by omega)]
      unfold byteAt
      simp [List.getD, List.getElem?_eq_getElem (show n - 1 < l.length by omega)])
    rw [hb]
    obtain ⟨n1, hn1⟩ : ∃ n1, n = n1 + 1 := ⟨n - 1, by omega⟩
    have e0 : ((n : Int) == 0) = false := by rw [beq_eq_false_iff_ne]; omega
    have en : (n : Int) - 1 = ((n - 1 : Nat) : Int) := by omega
    have hlt : n - 1 < n := by omega
    clear hA hl hb hr hn1
    generalize byteAt l (n - 1) = y at *
    generalize n - 1 = j at *
    go_enter Tryz.func83, Tryz.ntmps83
    go_wp2_with fail
    go_quiet (fail)
    go_wp2
    go_ret
    exact ⟨rfl, below_drewN (Below.refl _ _) _⟩
end Go.Proofs.YtfdodndagakmmaaGreatDoor
/- Layer 8: escape: a letter that does not stand in quotes itself. -/
namespace Go.Proofs.YtfdodndagakmmaaGreatDoor
open Go.RowKit

theorem run_sub_bsJ {P : Program} (W : World) (t : TypeId) (ht : P.underlying t = some .string) (l : List UInt8) (i j : Nat) (hij : i ≤ j) (hj : j ≤ l.length) :
    (Instr.slice t (.string (bs l)) (some (.int .i64 (i : Int))) (some (.int .i64 (j : Int))) none).run P W = .ok (.string (bs ((l.take j).drop i))) W := by
  simp [Instr.slice, run_underlying ht, Instr.sliceBounds, run_sliceBound, bs_size, (by omega : (i : Int) ≤ (j : Int)), (by omega : (j : Int) ≤ (l.length : Int)), bs_extract]
def esc1 (b : UInt8) : Option UInt8 :=
  if b = 34 then some 34 else if b = 92 then some 92 else if b = 8 then some 98 else if b = 12 then some 102
  else if b = 10 then some 110 else if b = 13 then some 114 else if b = 9 then some 116 else if b = 47 then some 47 else none
def esc1Ok (b : UInt8) : Bool := match esc1 b with
  | none => decide (Lib.indexByte escLetters b = -1)
  | some x => decide (0 ≤ Lib.indexByte escLetters b ∧ Lib.indexByte escLetters b < 8 ∧ (escSigns.take ((Lib.indexByte escLetters b).toNat + 1)).drop (Lib.indexByte escLetters b).toNat = [x])
theorem esc1Ok_all : ∀ b : Fin 256, esc1Ok (UInt8.ofNat b.val) = true := by decide +kernel
theorem esc1Ok_at (b : UInt8) : esc1Ok b = true := by
  have := esc1Ok_all ⟨b.toNat, b.toNat_lt⟩
  simpa only [UInt8.ofNat_toNat] using this
theorem esc1_some {b x : UInt8} (h : esc1 b = some x) : ∃ i : Nat, Lib.indexByte escLetters b = (i : Int) ∧ i < 8 ∧ (escSigns.take (i + 1)).drop i = [x] := by
  have := esc1Ok_at b
  unfold esc1Ok at this
  rw [h] at this
  obtain ⟨h1, h2, h3⟩ := of_decide_eq_true this
  exact ⟨(Lib.indexByte escLetters b).toNat, by omega, by omega, h3⟩
theorem escL_one {b x : UInt8} (h : esc1 b = some x) (hb : b ≠ 47) : escL b = [92, x] := by
  unfold esc1 at h
  unfold escL
  split at h
  · rename_i e; injection h with h; subst h; rw [if_pos e]
  · rename_i e1; rw [if_neg e1]
    split at h
    · rename_i e; injection h with h; subst h; rw [if_pos e]
    · rename_i e2; rw [if_neg e2]
      split at h
      · rename_i e; injection h with h; subst h; rw [if_pos e]
      · rename_i e3; rw [if_neg e3]
        split at h
        · rename_i e; injection h with h; subst h; rw [if_pos e]
        · rename_i e4; rw [if_neg e4]
          split at h
          · rename_i e; injection h with h; subst h; rw [if_pos e]
          · rename_i e5; rw [if_neg e5]
            split at h
            · rename_i e; injection h with h; subst h; rw [if_pos e]
            · rename_i e6; rw [if_neg e6]
              split at h
              · rename_i e; injection h with h; subst h; rw [if_pos e]
              · first | cases h | (split at h <;> first | cases h | (exact absurd (by assumption) hb))
set_option maxRecDepth 100000 in
set_option maxHeartbeats 2000000 in
theorem jescape_one (b x : UInt8) (h : esc1 b = some x) (hb : b.toNat < 128) (w : World) :
    Calls Tryz.prog 127 #[.int .i32 (b.toNat : Int)] w fun e w' => e = .returned (.string (bs [92, x])) ∧ Below w.heap.size w w' := by
  obtain ⟨i, h1, h2, h3⟩ := esc1_some h
  have HI : Hid (∀ W, Calls Tryz.prog 147 #[.string ⟨#[34, 92, 8, 12, 10, 13, 9, 47]⟩, .int .i32 (b.toNat : Int)] W fun e w' => e = .returned (.int .i64 (i : Int)) ∧ w' = W) := Lib.hid fun W => by
    have h9 := Tryz.strings_IndexRune_ascii (bs escLetters) (b.toNat : Int) W (by omega) (by omega)
    have e : ((b.toNat : Int)).toNat.toUInt8 = b := by simp
    rw [e] at h9
    have e2 : Lib.indexByte (bs escLetters).data.toList b = (i : Int) := h1
    rw [e2] at h9
    exact h9
  have hsl : ∀ W : World, (Instr.slice 9 (.string ⟨#[34, 92, 98, 102, 110, 114, 116, 47]⟩) (some (.int .i64 (i : Int))) (some (.int .i64 ((i : Int) + 1))) none).run Tryz.prog W = .ok (.string (bs [x])) W := fun W => by
    have h9 := run_sub_bsJ (P := Tryz.prog) W 9 Tryz.underlying9 escSigns i (i + 1) (by omega) (by show i + 1 ≤ 8; omega)
    rw [h3] at h9
    exact h9
  have hadd : ∀ W : World, (Op.stringOp .add ⟨#[92]⟩ (bs [x])).run Tryz.prog W = .ok (.string (bs [92, x])) W := fun W => by
    have h9 := run_add_bs (P := Tryz.prog) (W := W) [92] [x] (by simp)
    exact h9
  clear h h1 h3 hb
  generalize (b.toNat : Int) = y at *
  go_enter Tryz.func127, Tryz.ntmps127
  go_wp2_with fail
  refine (HI.out _).mono ?_
  rintro e w2 ⟨rfl, rfl⟩
  go_wp2
  go_ret
  exact ⟨rfl, Below.refl _ _⟩
end Go.Proofs.YtfdodndagakmmaaGreatDoor
