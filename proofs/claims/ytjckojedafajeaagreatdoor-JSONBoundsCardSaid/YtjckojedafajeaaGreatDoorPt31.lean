/- Layer 8: what measure hands on: it gives up where a text gets too long. -/
import Derived.Test.YtjckojedafajeaaGreatDoorPt30
import Derived.Laws.RangeAny
import Derived.Lib.OthersKept
namespace Go.Proofs.YtjckojedafajeaaGreatDoor
open Go.RowKit

set_option maxRecDepth 100000 in
set_option maxHeartbeats 2000000 in
theorem jroom_ok (g : Nat) (l : List UInt8) (r : Int) (t : TypeId) (w : World) (h : Row w g t #[.int .i64 r]) (hr : 0 ≤ r) (hr2 : r ≤ 1048576) (hl : l.length ≤ 4611686018427387904) :
    Calls Tryz.prog 66 #[.string (bs l), .pointer (some ⟨g, 0, none⟩)] w fun e w' =>
      (((l.length : Int) ≤ r ∧ e = .returned (.tuple #[])) ∨ (r < (l.length : Int) ∧ e = .panicked (panicOf 3))) ∧ Row w' g t #[.int .i64 (r - l.length)] ∧ Kept (· = g) w w' := by
  have c0 := h.cell (i := 0) (v := .int .i64 r) rfl
  have f0 := h.free 0
  have hs := bs_size l
  have hr1 : Row (w.setCell ⟨g, 0, none⟩ (.int .i64 (r - l.length))) g t #[.int .i64 (r - l.length)] := by simpa using h.set_ 0 (.int .i64 (r - l.length))
  have HR := Lib.hid hr1
  have HK : Hid (Kept (· = g) w (w.setCell ⟨g, 0, none⟩ (.int .i64 (r - l.length)))) := Lib.hid (Kept.cell _ _ _ _)
  have c1 := hr1.cell (i := 0) (v := .int .i64 (r - l.length)) rfl
  clear hr1 h
  generalize l.length = n at *
  by_cases hle : (n : Int) ≤ r
  · have hd : decide (r - (n : Int) < 0) = false := by simp; omega
    go_enter Tryz.func66, Tryz.ntmps66
    go_wp2
    go_end0
    exact ⟨.inl ⟨hle, rfl⟩, HR.out, HK.out⟩
  · have hd : decide (r - (n : Int) < 0) = true := by simp; omega
    go_enter Tryz.func66, Tryz.ntmps66
    go_wp2
    refine ⟨rfl, ?_⟩
    exact ⟨.inr rfl, HR.out, HK.out⟩
end Go.Proofs.YtjckojedafajeaaGreatDoor
/- Layer 8: what a text is handed to, piece by piece; a range over a string, whatever it is. -/
namespace Go.Proofs.YtjckojedafajeaaGreatDoor
open Go.RowKit

/-- One more text has been handed on: what is owned has turned, and what is new may be owned. -/
def Laid (I : (Nat → Prop) → List UInt8 → World → Prop) (own : Nat → Prop) (w : World) (t : List UInt8) (w' : World) : Prop :=
  ∃ own', I own' t w' ∧ Kept own w w' ∧ ∀ q, own' q → own q ∨ w.heap.size ≤ q
def LayPost (I : (Nat → Prop) → List UInt8 → World → Prop) (Bad : List PanicEntry → List UInt8 → Prop) (own : Nat → Prop) (w : World) (t : List UInt8) (e : Ending) (w' : World) : Prop :=
  (e = .returned (.tuple #[]) ∧ Laid I own w t w') ∨ ∃ π, e = .panicked π ∧ Bad π t ∧ Kept own w w'
/-- What is handed on. I: what has been laid so far, and what is owned; Ok: what may be laid in all. -/
structure LayC (F : Nat) (caps : Array Value) (I : (Nat → Prop) → List UInt8 → World → Prop) (Bad : List PanicEntry → List UInt8 → Prop) (Ok : List UInt8 → Prop) : Prop where
  call : ∀ own t p W, I own t W → p.length ≤ 4611686018427387904 → Ok (t ++ p) → Calls Tryz.prog F (#[.string (bs p)] ++ caps) W (LayPost I Bad own W (t ++ p))
  stay : ∀ own t W W', I own t W → Kept (fun q => ¬ own q) W W' → I own t W'
  lt : ∀ own t W q, I own t W → own q → q < W.heap.size
  mono : ∀ π a b, Bad π a → Bad π (a ++ b)
  ok : ∀ a b, Ok (a ++ b) → Ok a
section
variable {I : (Nat → Prop) → List UInt8 → World → Prop} {Bad : List PanicEntry → List UInt8 → Prop} {own own' : Nat → Prop} {w w' w'' : World} {t u : List UInt8}
theorem Laid.refl (h : I own t w) : Laid I own w t w := ⟨own, h, Kept.refl _ _, fun _ => .inl⟩
theorem Laid.trans (h : Laid I own w t w') (k : ∀ own', I own' t w' → Kept own w w' → (∀ q, own' q → own q ∨ w.heap.size ≤ q) → Laid I own' w' u w'') : Laid I own w u w'' := by
  obtain ⟨o1, h1, h2, h3⟩ := h
  obtain ⟨o2, h4, h5, h6⟩ := k o1 h1 h2 h3
  refine ⟨o2, h4, h2.trans (kept_mono h5 h3), fun q hq => ?_⟩
  rcases h6 q hq with h9 | h9
  · exact h3 q h9
  · exact .inr (Nat.le_trans h2.size h9)
end
/-- A letter of a string begins: its bytes are all small or all great. -/
theorem dec_high (s : ByteArray) (i : Nat) (h : i < s.size) (ha : 128 ≤ (s.get! i).toNat) : ∀ j, j < (Utf8.decode s i).2 → i + j < s.size ∧ 128 ≤ (s.get! (i + j)).toNat := by
  intro j hj
  have hn : ¬ (s.get! (i + 0)).toNat < 128 := by rw [Nat.add_zero]; omega
  have h0 : j = 0 → i + j < s.size ∧ 128 ≤ (s.get! (i + j)).toNat := fun e => by subst e; exact ⟨h, ha⟩
  have hc : ∀ k, (decide (i + k < s.size) && (s.get! (i + k)).toNat / 64 == 2) = true → i + k < s.size ∧ 128 ≤ (s.get! (i + k)).toNat := fun k hk => by
    simp only [Bool.and_eq_true, decide_eq_true_eq, beq_iff_eq] at hk
    exact ⟨hk.1, by omega⟩
  unfold Utf8.decode at hj
  simp only [hn, if_false] at hj
  split at hj
  · rename_i h2
    have h2 := (Bool.and_eq_true_iff.1 h2).2
    have c1 := hc 1 h2
    split at hj
    · simp only at hj
      rcases (show j = 0 ∨ j = 1 by omega) with e | e
      · exact h0 e
      · subst e; exact c1
    · simp only at hj; exact h0 (by omega)
  · split at hj
    · rename_i h2
      have h3 := (Bool.and_eq_true_iff.1 h2).2
      have c2 := hc 2 h3
      have c1 := hc 1 (Bool.and_eq_true_iff.1 (Bool.and_eq_true_iff.1 h2).1).2
      split at hj
      · simp only at hj
        rcases (show j = 0 ∨ j = 1 ∨ j = 2 by omega) with e | e | e
        · exact h0 e
        · subst e; exact c1
        · subst e; exact c2
      · simp only at hj; exact h0 (by omega)
    · split at hj
      · rename_i h2
        have c3 := hc 3 (Bool.and_eq_true_iff.1 h2).2
        have h2 := (Bool.and_eq_true_iff.1 h2).1
        have c2 := hc 2 (Bool.and_eq_true_iff.1 h2).2
        have c1 := hc 1 (Bool.and_eq_true_iff.1 (Bool.and_eq_true_iff.1 h2).1).2
        split at hj
        · simp only at hj
          rcases (show j = 0 ∨ j = 1 ∨ j = 2 ∨ j = 3 by omega) with e | e | e | e
          · exact h0 e
          · subst e; exact c1
          · subst e; exact c2
          · subst e; exact c3
        · simp only at hj; exact h0 (by omega)
      · simp only at hj; exact h0 (by omega)
theorem bs_get (l : List UInt8) (i : Nat) (h : i < l.length) : (bs l).get! i = l.getD i 0 := by
  simp [bs, ByteArray.get!, getElem!_pos, h, List.getD]
/-- What the letter that begins at a place is. -/
theorem dec_bs (l : List UInt8) (i : Nat) (h : i < l.length) :
    ((l.getD i 0).toNat < 128 ∧ Utf8.decode (bs l) i = ((l.getD i 0).toNat, 1)) ∨
    (128 ≤ (l.getD i 0).toNat ∧ 128 ≤ (Utf8.decode (bs l) i).1 ∧ (Utf8.decode (bs l) i).1 ≤ 2147483647 ∧ 1 ≤ (Utf8.decode (bs l) i).2 ∧ ∀ j, j < (Utf8.decode (bs l) i).2 → i + j < l.length ∧ 128 ≤ (l.getD (i + j) 0).toNat) := by
  have hs : i < (bs l).size := by rw [bs_size]; exact h
  have hg := bs_get l i h
  have e0 : (bs l)[i]'hs = l.getD i 0 := by rw [← hg]; simp [ByteArray.get!, getElem!_pos, hs]; rfl
  by_cases ha : (l.getD i 0).toNat < 128
  · left
    refine ⟨ha, ?_⟩
    rw [decode_ascii (bs l) i hs (by rw [e0]; exact ha), e0]
  · right
    have hh := decode_high (bs l) i hs (by rw [e0]; omega)
    refine ⟨by omega, hh.1, decode_le _ _, hh.2, fun j hj => ?_⟩
    have := dec_high (bs l) i hs (by rw [hg]; omega) j hj
    rw [bs_size] at this
    refine ⟨this.1, ?_⟩
    rw [← bs_get l (i + j) this.1]
    exact this.2
theorem take_succ_getDj (l : List UInt8) (k : Nat) (h : k < l.length) : l.take (k + 1) = l.take k ++ [l.getD k 0] := by
  rw [List.take_add_one, List.getElem?_eq_getElem h]
  simp [List.getD, List.getElem?_eq_getElem h]
/-- A byte stands in quotes itself. -/
def plainB (b : UInt8) : Prop := ¬ b.toNat < 32 ∧ b ≠ 34 ∧ b ≠ 92
theorem escL_plain {b : UInt8} (h : plainB b) : escL b = [b] := by
  obtain ⟨h1, h2, h3⟩ := h
  unfold escL
  have e8 : b ≠ 8 := fun e => h1 (by subst e; decide)
  have e12 : b ≠ 12 := fun e => h1 (by subst e; decide)
  have e10 : b ≠ 10 := fun e => h1 (by subst e; decide)
  have e13 : b ≠ 13 := fun e => h1 (by subst e; decide)
  have e9 : b ≠ 9 := fun e => h1 (by subst e; decide)
  rw [if_neg h2, if_neg h3, if_neg e8, if_neg e12, if_neg e10, if_neg e13, if_neg e9, if_neg h1]
/-- Bytes that stand in quotes themselves. -/
theorem esc_plain (l : List UInt8) (a : Nat) : ∀ b, a ≤ b → b ≤ l.length → (∀ j, a ≤ j → j < b → plainB (l.getD j 0)) → (l.take b).flatMap escL = (l.take a).flatMap escL ++ (l.take b).drop a := by
  intro b
  induction b with
  | zero => intro h1 _ _; obtain rfl : a = 0 := by omega
            simp
  | succ b ih =>
    intro h1 h2 h3
    by_cases h4 : a = b + 1
    · subst h4
      rw [List.drop_of_length_le (by rw [List.length_take]; omega), List.append_nil]
    · have hb : b < l.length := by omega
      rw [take_succ_getDj l b hb, List.flatMap_append, ih (by omega) (by omega) (fun j h5 h6 => h3 j h5 (by omega)), List.drop_append_of_le_length (by rw [List.length_take]; omega), List.append_assoc]
      congr 1
      simp only [List.flatMap_cons, List.flatMap_nil, List.append_nil]
      rw [escL_plain (h3 b (by omega) (by omega))]
end Go.Proofs.YtjckojedafajeaaGreatDoor
