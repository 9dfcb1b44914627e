/- Layer 2: which sectors are there, what a pick leaves, clones of lists and maps, a new disk of a map. -/
import Derived.Test.YtdaefhlfalhfnaaDoorPt02
import Derived.Shelf.SlMaps.Clone
import Derived.Lib.SliceRun
namespace Go.Proofs.YtdaefhlfalhfnaaDoor
open Go.RowKit

def thereB (size : Nat) (at_ n : Int) : Bool := decide (0 ≤ at_) && decide (n ≤ size - at_)
theorem there_ok {F : Nat → Prop} (p : Nat) (d : D) (at_ n : Int) (w : World) (h : DiskAt w F p d) (hw : (Lit.int .i64 at_).wf = true) :
    Calls Tryd.prog 67 #[.pointer (some ⟨p, 0, none⟩), .int .i64 at_, .int .i64 n] w fun e w' => e = .returned (.bool (thereB d.size at_ n)) ∧ w = w' := by
  obtain ⟨t, h⟩ := h
  have h0 := h.c0
  have hp := h.good.most
  have hb := bounds_i64 hw
  clear h hw
  by_cases h1 : 0 ≤ at_
  · by_cases h2 : n ≤ d.size - at_
    · have e : Hid (thereB d.size at_ n = true) := Lib.hid (by simp [thereB, h1, h2])
      go_enter Tryd.func67, Tryd.ntmps67
      go_wp2
      go_ret
      exact ⟨ret_val (by rw [e.out]; rfl), rfl⟩
    · have e : Hid (thereB d.size at_ n = false) := Lib.hid (by simp [thereB, h2])
      go_enter Tryd.func67, Tryd.ntmps67
      go_wp2
      go_ret
      exact ⟨ret_val (by rw [e.out]; rfl), rfl⟩
  · have e : Hid (thereB d.size at_ n = false) := Lib.hid (by simp [thereB, h1])
    go_enter Tryd.func67, Tryd.ntmps67
    go_wp2
    go_ret
    exact ⟨ret_val (by rw [e.out]; rfl), rfl⟩

/-- How many of a piece's first bytes a pick leaves. -/
def keptN (pick : Int) : Nat := if pick = 0 then 0 else if pick = 1 then 512 else ((pick - 2) % 512).toNat
theorem keptN_le (pick : Int) : keptN pick ≤ 512 := by
  unfold keptN
  repeat' split
  all_goals omega
theorem kept_ok (pick : Int) (w : World) (h0 : 0 ≤ pick) (hw : (Lit.int .i64 pick).wf = true) :
    Calls Tryd.prog 49 #[.int .i64 pick] w fun e w' => e = .returned (.int .i64 (keptN pick)) ∧ w = w' := by
  have hb := bounds_i64 hw
  clear hw
  by_cases h1 : pick = 0
  · subst h1
    go_enter Tryd.func49, Tryd.ntmps49
    go_wp2
    go_ret
    exact ⟨rfl, rfl⟩
  · by_cases h2 : pick = 1
    · subst h2
      go_enter Tryd.func49, Tryd.ntmps49
      go_wp2
      go_ret
      exact ⟨rfl, rfl⟩
    · have e : Hid ((keptN pick : Int) = (pick - 2) % 512) := Lib.hid (by simp [keptN, h1, h2]; omega)
      have e1 : (pick == 0) = false := by simp [h1]
      have e2 : (pick == 1) = false := by simp [h2]
      have h3 : 2 ≤ pick := by omega
      clear h1 h2
      go_enter Tryd.func49, Tryd.ntmps49
      go_wp2
      go_ret
      exact ⟨ret_int (by rw [e.out]), rfl⟩

set_option maxRecDepth 100000 in
/-- maps.Clone of a map of sectors. -/
theorem cloneMap_ok (b : Nat) (f : Int → List Nat) (w : World) (h : IsMap w b f) :
    Calls Tryd.prog 42 #[.map (some b)] w fun e w' => e = .returned (.map (some w.heap.size)) ∧ IsMap w' w.heap.size f ∧ Below w.heap.size w w' ∧ w.heap.size < w'.heap.size := by
  obtain ⟨es, clock, hb, hr⟩ := h
  have HR : Hid (IsMap (w.alloc (.map es clock)) w.heap.size f) := Lib.hid ⟨es, clock, heap_alloc_new w _, hr⟩
  have hq := fun w => run_eql_map_nil_sl (P := Tryd.prog) w 71 _ _ (some b) Tryd.underlying71
  clear hr
  go_enter Tryd.func42, Tryd.ntmps42
  go_wp2
  rw [run_callFunc_extern Tryd.func64 (by kernel_rfl) (by kernel_rfl) (by kernel_rfl) (e := Extern.MapsClone.clone) (by kernel_rfl), run_maps_clone_sl w 71 hb]
  simp only [Result.andThen]
  rw [Oper.upon_value]
  go_wp2
  rw [run_typeAssert_map_sl _ 71 20 _ _ _ Tryd.underlying71]
  simp only [Result.andThen]
  rw [Oper.upon_value]
  go_wp2
  go_ret
  exact ⟨rfl, HR.out, (Below.refl _ _).alloc (Nat.le_refl _) _, by simp⟩

/-- slices.Clone of pieces, of fates. -/
def CloneOf (w : World) (e : TypeId) (size n : Nat) (xs : List Value) (en : Ending) (w' : World) : Prop :=
  ∃ v, en = .returned v ∧ Lies w' (grow noBlock w) e size v n xs ∧ Below w.heap.size w w'
theorem cloneFates (A : Option Addr) (c : Nat) (l : List (Int × Int)) (w : World) (h : Holds w A l.length 2 (fcs l)) (hn : l.length ≤ 1000000) :
    Calls Tryd.prog 27 #[.slice A l.length c] w (CloneOf w 75 2 l.length (fcs l)) := by
  have hq := fun (w : World) (a : Option Addr) (n c : Nat) => Lib.run_eql_slice_nil (P := Tryd.prog) w 42 75 a n c 0 0 Tryd.underlying42
  rcases A with _ | a
  · have hl : Hid (l.length = 0) := Lib.hid (by
      rcases Nat.eq_zero_or_pos l.length with h0 | h0
      · exact h0
      · obtain ⟨_, _, h1, _⟩ := h.2 h0; cases h1)
    clear h
    go_enter Tryd.func27, Tryd.ntmps27
    go_wp2
    go_ret
    obtain rfl : l = [] := List.eq_nil_of_length_eq_zero hl.out
    exact ⟨_, rfl, Lies.empty _ _ _ _ _, Below.refl _ _⟩
  · have hsrc : Hid (Source (w.alloc (.cells #[] 75)) (some a) l.length (fcs l)) := Lib.hid (h.below ((Below.refl _ _).alloc (Nat.le_refl _) _)).source
    clear h
    go_enter Tryd.func27, Tryd.ntmps27
    go_wp2_with (first
      | (at_builtin
         refine wpList_append_any ?_ (grow noBlock w) (.tmp 5) (.tmp 6) 42 ?_ 75 2 16 (.agg #[.int .i64 0, .int .i64 0]) Tryd.underlying42 infoFate rfl (by decide) _ 0 [] ?_ (Lies.empty _ _ _ _ (some ⟨w.heap.size, 0, none⟩)) (some a) l.length c (fcs l) ?_ (fcs_length l) hsrc.out (fcs_one l) (by omega) (by decide) ?_
         · with_reducible rfl
         · with_reducible rfl
         · rfl
         · rfl
         intro v' w' hl' hk'))
    go_ret
    refine ⟨v', rfl, ?_, ?_⟩
    · simpa using hl'.mono fun k hk => by
        rcases hk with hk | hk
        · exact hk
        · exact .inr (by simp at hk; omega)
    · exact ((Below.refl _ _).alloc (Nat.le_refl _) _).trans (hk'.below (by simp) fun k hk => by
        rcases hk.1 with h1 | h1
        · exact h1.elim
        · exact h1)
theorem clonePieces (A : Option Addr) (c : Nat) (l : List (Int × List Nat)) (w : World) (h : Holds w A l.length 513 (pcs l)) (hn : l.length ≤ 1000000) (hg0 : ∀ p ∈ l, Sec p.2) :
    Calls Tryd.prog 43 #[.slice A l.length c] w (CloneOf w 93 513 l.length (pcs l)) := by
  have hq := fun (w : World) (a : Option Addr) (n c : Nat) => Lib.run_eql_slice_nil (P := Tryd.prog) w 76 93 a n c 0 0 Tryd.underlying76
  rcases A with _ | a
  · have hl : Hid (l.length = 0) := Lib.hid (by
      rcases Nat.eq_zero_or_pos l.length with h0 | h0
      · exact h0
      · obtain ⟨_, _, h1, _⟩ := h.2 h0; cases h1)
    clear h
    go_enter Tryd.func43, Tryd.ntmps43
    go_wp2
    go_ret
    obtain rfl : l = [] := List.eq_nil_of_length_eq_zero hl.out
    exact ⟨_, rfl, Lies.empty _ _ _ _ _, Below.refl _ _⟩
  · have hsrc : Hid (Source (w.alloc (.cells #[] 93)) (some a) l.length (pcs l)) := Lib.hid (h.below ((Below.refl _ _).alloc (Nat.le_refl _) _)).source
    clear h
    go_enter Tryd.func43, Tryd.ntmps43
    go_wp2_with (first
      | (at_builtin
         refine wpList_append_any ?_ (grow noBlock w) (.tmp 5) (.tmp 6) 76 ?_ 93 513 520 (pieceV 0 zsec) Tryd.underlying76 infoPiece pieceV_size (by decide) _ 0 [] ?_ (Lies.empty _ _ _ _ (some ⟨w.heap.size, 0, none⟩)) (some a) l.length c (pcs l) ?_ (pcs_length hg0) hsrc.out (pcs_one l) (by omega) (by decide) ?_
         · with_reducible rfl
         · with_reducible rfl
         · rfl
         · rfl
         intro v' w' hl' hk'))
    go_ret
    refine ⟨v', rfl, ?_, ?_⟩
    · simpa using hl'.mono fun k hk => by
        rcases hk with hk | hk
        · exact hk
        · exact .inr (by simp at hk; omega)
    · exact ((Below.refl _ _).alloc (Nat.le_refl _) _).trans (hk'.below (by simp) fun k hk => by
        rcases hk.1 with h1 | h1
        · exact h1.elim
        · exact h1)

/-- A disk of a map. -/
def laidD (size : Nat) (f : Int → List Nat) : D := ⟨size, f, f, [], [], 0⟩
def LaidPost (w : World) (b size : Nat) (f : Int → List Nat) (e : Ending) (w' : World) : Prop :=
  ∃ p t, e = .returned (.pointer (some ⟨p, 0, none⟩)) ∧ DiskIs w' (fun k => k = b ∨ w.heap.size ≤ k) p (laidD size f) t ∧ t.vp = .slice none 0 0 ∧ t.vf = .slice none 0 0 ∧ w.heap.size ≤ p ∧ Below w.heap.size w w'
theorem laid_ok (size b : Nat) (f : Int → List Nat) (w : World) (h : IsMap w b f) (h1 : 1 ≤ size) (h2 : size ≤ 65536) :
    Calls Tryd.prog 26 #[.int .i64 size, .map (some b)] w (LaidPost w b size f) := by
  have hlt := h.lt
  have H := Lib.hid h
  clear h
  go_enter Tryd.func26, Tryd.ntmps26
  go_wp2_with (go_at_call 42; refine (cloneMap_ok b f _ H.out).mono ?_; rintro e w' ⟨rfl, hm, hb, hs⟩)
  go_ret
  have hb2 : Below w.heap.size w (w'.alloc (.cells #[.int .i64 size, .map (some b), .map (some w.heap.size), .slice none 0 0, .slice none 0 0, .int .i64 0] 78)) := hb.alloc hb.size _
  exact ⟨w'.heap.size, ⟨b, w.heap.size, .slice none 0 0, .slice none 0 0⟩, rfl, ⟨⟨h1, h2, by simp [laidD]⟩, Row.new _ _ _, .inr hb.size, .inl rfl, .inr (Nat.le_refl _), by show b ≠ w.heap.size; omega,
    H.out.below hb2, hm.below ((Below.refl _ _).alloc (Nat.le_refl _) _), Lies.empty _ _ _ _ _, Lies.empty _ _ _ _ _⟩, rfl, rfl, hb.size, hb2⟩
end Go.Proofs.YtdaefhlfalhfnaaDoor
