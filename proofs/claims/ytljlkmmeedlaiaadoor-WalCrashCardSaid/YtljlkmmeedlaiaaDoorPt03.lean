/- Layer 2: which sectors are there, what a pick leaves, clones of lists and maps, a new disk of a map. -/
import Derived.Test.YtljlkmmeedlaiaaDoorPt02
import Derived.Shelf.SlMaps.Clone
import Derived.Lib.SliceRun
import Derived.Carry
namespace Go.Proofs.YtljlkmmeedlaiaaDoor
open Go.RowKit

def thereB (size : Nat) (at_ n : Int) : Bool := decide (0 ≤ at_) && decide (n ≤ size - at_)
theorem there_ok {F : Nat → Prop} (p : Nat) (d : D) (at_ n : Int) (w : World) (h : DiskAt w F p d) (hw : (Lit.int .i64 at_).wf = true) :
    Calls Tryd.prog 67 #[.pointer (some ⟨p, 0, none⟩), .int .i64 at_, .int .i64 n] w fun e w' => e = .returned (.bool (thereB d.size at_ n)) ∧ w = w' := by
  obtain ⟨t, h⟩ := h
  have h0 := h.c0
  have hp := h.good.most
  have hb := bounds_i64 hw
  clear h hw
  by_cases h1 : 0 ≤ at_
  · by_cases h2 : n ≤ d.size - at_
    · have e : Hid (thereB d.size at_ n = true) := Lib.hid (by simp [thereB, h1, h2])
      go_enter Tryd.func67, Tryd.ntmps67
      go_wp2
      go_ret
      exact ⟨ret_val (by rw [e.out]; rfl), rfl⟩
    · have e : Hid (thereB d.size at_ n = false) := Lib.hid (by simp [thereB, h2])
      go_enter Tryd.func67, Tryd.ntmps67
      go_wp2
      go_ret
      exact ⟨ret_val (by rw [e.out]; rfl), rfl⟩
  · have e : Hid (thereB d.size at_ n = false) := Lib.hid (by simp [thereB, h1])
    go_enter Tryd.func67, Tryd.ntmps67
    go_wp2
    go_ret
    exact ⟨ret_val (by rw [e.out]; rfl), rfl⟩

/-- How many of a piece's first bytes a pick leaves. -/
def keptN (pick : Int) : Nat := if pick = 0 then 0 else if pick = 1 then 512 else ((pick - 2) % 512).toNat
theorem keptN_le (pick : Int) : keptN pick ≤ 512 := by
  unfold keptN
  repeat' split
  all_goals omega
theorem kept_ok (pick : Int) (w : World) (h0 : 0 ≤ pick) (hw : (Lit.int .i64 pick).wf = true) :
    Calls Tryd.prog 49 #[.int .i64 pick] w fun e w' => e = .returned (.int .i64 (keptN pick)) ∧ w = w' := by
  have hb := bounds_i64 hw
  clear hw
  by_cases h1 : pick = 0
  · subst h1
    go_enter Tryd.func49, Tryd.ntmps49
    go_wp2
    go_ret
    exact ⟨rfl, rfl⟩
  · by_cases h2 : pick = 1
    · subst h2
      go_enter Tryd.func49, Tryd.ntmps49
      go_wp2
      go_ret
      exact ⟨rfl, rfl⟩
    · have e : Hid ((keptN pick : Int) = (pick - 2) % 512) := Lib.hid (by simp [keptN, h1, h2]; omega)
      have e1 : (pick == 0) = false := by simp [h1]
      have e2 : (pick == 1) = false := by simp [h2]
      have h3 : 2 ≤ pick := by omega
      clear h1 h2
      go_enter Tryd.func49, Tryd.ntmps49
      go_wp2
      go_ret
      exact ⟨ret_int (by rw [e.out]), rfl⟩

set_option maxRecDepth 100000 in
/-- maps.Clone of a map of sectors. -/
theorem cloneMap_ok (b : Nat) (f : Int → List Nat) (w : World) (h : IsMap w b f) :
    Calls Tryd.prog 42 #[.map (some b)] w fun e w' => e = .returned (.map (some w.heap.size)) ∧ IsMap w' w.heap.size f ∧ Below w.heap.size w w' ∧ w.heap.size < w'.heap.size := by
  obtain ⟨es, clock, hb, hr⟩ := h
  have HR : Hid (IsMap (w.alloc (.map es clock)) w.heap.size f) := Lib.hid ⟨es, clock, heap_alloc_new w _, hr⟩
  have hq := fun w => run_eql_map_nil_sl (P := Tryd.prog) w 71 _ _ (some b) Tryd.underlying71
  clear hr
  go_enter Tryd.func42, Tryd.ntmps42
  go_wp2
  rw [run_callFunc_extern Tryd.func64 (by kernel_rfl) (by kernel_rfl) (by kernel_rfl) (e := Extern.MapsClone.clone) (by kernel_rfl), run_maps_clone_sl w 71 hb]
  simp only [Result.andThen]
  rw [Oper.upon_value]
  go_wp2
  rw [run_typeAssert_map_sl _ 71 20 _ _ _ Tryd.underlying71]
  simp only [Result.andThen]
  rw [Oper.upon_value]
  go_wp2
  go_ret
  exact ⟨rfl, HR.out, (Below.refl _ _).alloc (Nat.le_refl _) _, by simp⟩

/-- slices.Clone of pieces, of fates. -/
def CloneOf (w : World) (e : TypeId) (size n : Nat) (xs : List Value) (en : Ending) (w' : World) : Prop :=
  ∃ v, en = .returned v ∧ Lies w' (grow noBlock w) e size v n xs ∧ Below w.heap.size w w'
theorem cloneFates (A : Option Addr) (c : Nat) (l : List (Int × Int)) (w : World) (h : Holds w A l.length 2 (fcs l)) (hn : l.length ≤ 1000000) :
    Calls Tryd.prog 27 #[.slice A l.length c] w (CloneOf w 75 2 l.length (fcs l)) := by
  have hq := fun (w : World) (a : Option Addr) (n c : Nat) => Lib.run_eql_slice_nil (P := Tryd.prog) w 42 75 a n c 0 0 Tryd.underlying42
  rcases A with _ | a
  · have hl : Hid (l.length = 0) := Lib.hid (by
      rcases Nat.eq_zero_or_pos l.length with h0 | h0
      · exact h0
      · obtain ⟨_, _, h1, _⟩ := h.2 h0; cases h1)
    clear h
    go_enter Tryd.func27, Tryd.ntmps27
    go_wp2
    go_ret
    obtain rfl : l = [] := List.eq_nil_of_length_eq_zero hl.out
    exact ⟨_, rfl, Lies.empty _ _ _ _ _, Below.refl _ _⟩
  · have hsrc : Hid (Source (w.alloc (.cells #[] 75)) (some a) l.length (fcs l)) := Lib.hid (h.below ((Below.refl _ _).alloc (Nat.le_refl _) _)).source
    clear h
    go_enter Tryd.func27, Tryd.ntmps27
    go_wp2_with (first
      | (at_builtin
         refine wpList_append_any ?_ (grow noBlock w) (.tmp 5) (.tmp 6) 42 ?_ 75 2 16 (.agg #[.int .i64 0, .int .i64 0]) Tryd.underlying42 infoFate rfl (by decide) _ 0 [] ?_ (Lies.empty _ _ _ _ (some ⟨w.heap.size, 0, none⟩)) (some a) l.length c (fcs l) ?_ (fcs_length l) hsrc.out (fcs_one l) (by omega) (by decide) ?_
         · with_reducible rfl
         · with_reducible rfl
         · rfl
         · rfl
         intro v' w' hl' hk'))
    go_ret
    refine ⟨v', rfl, ?_, ?_⟩
    · simpa using hl'.mono fun k hk => by
        rcases hk with hk | hk
        · exact hk
        · exact .inr (by simp at hk; omega)
    · exact ((Below.refl _ _).alloc (Nat.le_refl _) _).trans (hk'.below (by simp) fun k hk => by
        rcases hk.1 with h1 | h1
        · exact h1.elim
        · exact h1)
theorem clonePieces (A : Option Addr) (c : Nat) (l : List (Int × List Nat)) (w : World) (h : Holds w A l.length 513 (pcs l)) (hn : l.length ≤ 1000000) (hg0 : ∀ p ∈ l, Sec p.2) :
    Calls Tryd.prog 43 #[.slice A l.length c] w (CloneOf w 93 513 l.length (pcs l)) := by
  have hq := fun (w : World) (a : Option Addr) (n c : Nat) => Lib.run_eql_slice_nil (P := Tryd.prog) w 76 93 a n c 0 0 Tryd.underlying76
  rcases A with _ | a
  · have hl : Hid (l.length = 0) := Lib.hid (by
      rcases Nat.eq_zero_or_pos l.length with h0 | h0
      · exact h0
      · obtain ⟨_, _, h1, _⟩ := h.2 h0; cases h1)
    clear h
    go_enter Tryd.func43, Tryd.ntmps43
    go_wp2
    go_ret
    obtain rfl : l = [] := List.eq_nil_of_length_eq_zero hl.out
    exact ⟨_, rfl, Lies.empty _ _ _ _ _, Below.refl _ _⟩
  · have hsrc : Hid (Source (w.alloc (.cells #[] 93)) (some a) l.length (pcs l)) := Lib.hid (h.below ((Below.refl _ _).alloc (Nat.le_refl _) _)).source
    clear h
    go_enter Tryd.func43, Tryd.ntmps43
    go_wp2_with (first
      | (at_builtin
         refine wpList_append_any ?_ (grow noBlock w) (.tmp 5) (.tmp 6) 76 ?_ 93 513 520 (pieceV 0 zsec) Tryd.underlying76 infoPiece pieceV_size (by decide) _ 0 [] ?_ (Lies.empty _ _ _ _ (some ⟨w.heap.size, 0, none⟩)) (some a) l.length c (pcs l) ?_ (pcs_length hg0) hsrc.out (pcs_one l) (by omega) (by decide) ?_
         · with_reducible rfl
         · with_reducible rfl
         · rfl
         · rfl
         intro v' w' hl' hk'))
    go_ret
    refine ⟨v', rfl, ?_, ?_⟩
    · simpa using hl'.mono fun k hk => by
        rcases hk with hk | hk
        · exact hk
        · exact .inr (by simp at hk; omega)
    · exact ((Below.refl _ _).alloc (Nat.le_refl _) _).trans (hk'.below (by simp) fun k hk => by
        rcases hk.1 with h1 | h1
        · exact h1.elim
        · exact h1)

/-- A disk of a map. -/
def laidD (size : Nat) (f : Int → List Nat) : D := ⟨size, f, f, [], [], 0⟩
def LaidPost (w : World) (b size : Nat) (f : Int → List Nat) (e : Ending) (w' : World) : Prop :=
  ∃ p t, e = .returned (.pointer (some ⟨p, 0, none⟩)) ∧ DiskIs w' (fun k => k = b ∨ w.heap.size ≤ k) p (laidD size f) t ∧ t.vp = .slice none 0 0 ∧ t.vf = .slice none 0 0 ∧ w.heap.size ≤ p ∧ Below w.heap.size w w'
theorem laid_ok (size b : Nat) (f : Int → List Nat) (w : World) (h : IsMap w b f) (h1 : 1 ≤ size) (h2 : size ≤ 65536) :
    Calls Tryd.prog 26 #[.int .i64 size, .map (some b)] w (LaidPost w b size f) := by
  have hlt := h.lt
  have H := Lib.hid h
  clear h
  go_enter Tryd.func26, Tryd.ntmps26
  go_wp2_with (go_at_call 42; refine (cloneMap_ok b f _ H.out).mono ?_; rintro e w' ⟨rfl, hm, hb, hs⟩)
  go_ret
  have hb2 : Below w.heap.size w (w'.alloc (.cells #[.int .i64 size, .map (some b), .map (some w.heap.size), .slice none 0 0, .slice none 0 0, .int .i64 0] 78)) := hb.alloc hb.size _
  exact ⟨w'.heap.size, ⟨b, w.heap.size, .slice none 0 0, .slice none 0 0⟩, rfl, ⟨⟨h1, h2, by simp [laidD]⟩, Row.new _ _ _, .inr hb.size, .inl rfl, .inr (Nat.le_refl _), by show b ≠ w.heap.size; omega,
    H.out.below hb2, hm.below ((Below.refl _ _).alloc (Nat.le_refl _) _), Lies.empty _ _ _ _ _, Lies.empty _ _ _ _ _⟩, rfl, rfl, hb.size, hb2⟩
end Go.Proofs.YtljlkmmeedlaiaaDoor
/- Layer 2: New, Feed, and a step. -/
namespace Go.Proofs.YtljlkmmeedlaiaaDoor
open Go.RowKit

def kindOk (p : Int × Int) : Bool := p.1 == 0 || p.1 == 1
def kindsB (l : List (Int × Int)) : Bool := l.all kindOk
theorem fcs_get (l : List (Int × Int)) : ∀ k, k < l.length → (fcs l)[k * 2]? = some (.int .i64 (l.getD k (0, 0)).1) ∧ (fcs l)[k * 2 + 1]? = some (.int .i64 (l.getD k (0, 0)).2) := by
  induction l with
  | nil => intro k hk; simp at hk
  | cons p r ih =>
    intro k hk
    have h1 : fcs (p :: r) = .int .i64 p.1 :: .int .i64 p.2 :: fcs r := rfl
    rw [h1]
    rcases k with _ | k
    · simp
    · have := ih k (by simpa using hk)
      rw [show (k + 1) * 2 = k * 2 + 1 + 1 by omega]
      simpa using this
theorem fate_cells {w : World} {A : Option Addr} {l : List (Int × Int)} (h : Holds w A l.length 2 (fcs l)) {k : Nat} (hk : k < l.length) :
    ∃ b off, A = some ⟨b, off, none⟩ ∧ b < w.heap.size ∧ w.cell? ⟨b, off + k * 2, none⟩ = some (.int .i64 (l.getD k (0, 0)).1) ∧ w.cell? ⟨b, off + k * 2 + 1, none⟩ = some (.int .i64 (l.getD k (0, 0)).2) := by
  obtain ⟨b, off, e, hb, hr⟩ := h.2 (by omega)
  have hc := fcs_get l k hk
  exact ⟨b, off, e, hb, hr _ _ hc.1, by have := hr _ _ hc.2; rwa [← Nat.add_assoc] at this⟩
theorem kinds_take (l : List (Int × Int)) (k : Nat) (hk : k < l.length) : kindsB (l.take (k + 1)) = (kindsB (l.take k) && kindOk (l.getD k (0, 0))) := by
  rw [List.take_succ_eq_append_getElem hk, kindsB, kindsB, List.all_append]
  simp only [List.all_cons, List.all_nil, Bool.and_true, List.getD_eq_getElem?_getD, List.getElem?_eq_getElem hk, Option.getD_some]
theorem kinds_false (l : List (Int × Int)) (k : Nat) (hk : k < l.length) (h : kindOk (l.getD k (0, 0)) = false) : kindsB l = false := by
  rw [Bool.eq_false_iff]
  intro ht
  have := List.all_eq_true.1 ht (l.getD k (0, 0)) (by rw [List.getD_eq_getElem?_getD, List.getElem?_eq_getElem hk]; exact List.getElem_mem hk)
  rw [h] at this; cases this

set_option maxHeartbeats 1000000 in
theorem allKinds_ok (A : Option Addr) (c : Nat) (l : List (Int × Int)) (w : World) (h : Holds w A l.length 2 (fcs l)) (hn : l.length ≤ 1000000) :
    Calls Tryd.prog 25 #[.slice A l.length c] w fun e w' => e = .returned (.bool (kindsB l)) ∧ Below w.heap.size w w' := by
  have H := Lib.hid h
  clear h
  go_enter Tryd.func25, Tryd.ntmps25
  go_wp2_with fail
  go_loopw [7] (fun v7 wr => ∃ k : Nat, k ≤ l.length ∧ v7 = .int .i64 k ∧ kindsB (l.take k) = true ∧ Below w.heap.size w wr) (fun v7 _ => l.length - (intOf v7).toNat)
  case atStart => exact ⟨0, Nat.zero_le _, rfl, by simp [kindsB], Below.refl _ _⟩
  case round =>
    obtain ⟨k, hk, rfl, hkb, hb⟩ := hrel
    by_cases hlt : k < l.length
    · obtain ⟨b, off, rfl, hbl, hc0, hc1⟩ := fate_cells (H.out.below hb) hlt
      have HT := Lib.hid (kinds_take l k hlt)
      have HF := Lib.hid (kinds_false l k hlt)
      have HK := Lib.hid hkb
      clear hkb
      generalize hp : l.getD k (0, 0) = q at *
      obtain ⟨x, y⟩ := q
      clear hp
      by_cases hx0 : x = 0
      · subst hx0
        have HK2 : Hid (kindsB (l.take (k + 1)) = true) := Lib.hid (by rw [HT.out, HK.out]; rfl)
        clear HT HF HK
        go_wp2
        go_roundw
        case rel => exact ⟨k + 1, by omega, by go_num, HK2.out, (hb.alloc hb.size _)⟩
        case measure => simp [intOf]; omega
      · by_cases hx1 : x = 1
        · subst hx1
          have HK2 : Hid (kindsB (l.take (k + 1)) = true) := Lib.hid (by rw [HT.out, HK.out]; rfl)
          clear HT HF HK
          go_wp2
          go_roundw
          case rel => exact ⟨k + 1, by omega, by go_num, HK2.out, (hb.alloc hb.size _)⟩
          case measure => simp [intOf]; omega
        · have HK2 : Hid (kindsB l = false) := Lib.hid (HF.out (by simp [kindOk, hx0, hx1]))
          have e0 : (x != 0) = true := by simp [hx0]
          have e1 : (x != 1) = true := by simp [hx1]
          clear HT HF HK hx0 hx1
          go_wp2
          go_ret
          exact ⟨ret_val (by rw [HK2.out]; rfl), hb.alloc hb.size _⟩
    · obtain rfl : k = l.length := by omega
      rw [List.take_length] at hkb
      have HK := Lib.hid hkb
      clear hkb
      go_wp2
      go_ret
      exact ⟨ret_val (by rw [HK.out]; rfl), hb⟩

/-- A new disk. -/
def newD (size : Nat) (l : List (Int × Int)) : D := ⟨size, fun _ => zsec, fun _ => zsec, [], l, 0⟩
def NewPost (w : World) (size : Nat) (l : List (Int × Int)) (e : Ending) (w' : World) : Prop :=
  ∃ p, e = .returned (.tuple #[.pointer (some ⟨p, 0, none⟩), .int .i64 0]) ∧ DiskAt w' (grow noBlock w) p (newD size l) ∧ Below w.heap.size w w'
theorem new_ok (A : Option Addr) (c size : Nat) (l : List (Int × Int)) (w : World) (h : Holds w A l.length 2 (fcs l)) (hn : l.length ≤ 1000000) (h1 : 1 ≤ size) (h2 : size ≤ 65536) (hk : kindsB l = true) :
    Calls Tryd.prog 6 #[.int .i64 size, .slice A l.length c] w (NewPost w size l) := by
  have H := Lib.hid h
  have HK := Lib.hid hk
  clear h hk
  have hmm := @run_makeMap Tryd.prog
  go_enter Tryd.func6, Tryd.ntmps6
  go_wp2_with (first
    | (go_at_call 25; refine (allKinds_ok A c l _ H.out hn).mono ?_; (rintro e w1 ⟨he, hb1⟩); (rw [HK.out] at he); subst he)
    | (go_at_call 26; refine (laid_ok size w1.heap.size (fun _ => zsec) _ (IsMap.new w1) h1 h2).mono ?_; rintro e w2 ⟨p, t, rfl, hd, htp, htf, hp, hb2⟩)
    | (go_at_call 27
       refine (cloneFates A c l _ (((H.out.below hb1).below ((Below.refl _ _).alloc (Nat.le_refl _) _)).below hb2) hn).mono ?_
       rintro e w3 ⟨v3, rfl, hl3, hb3⟩
       obtain ⟨A3, c3, rfl, _, _⟩ := hl3.form
       have hd3 := hd.below hb3
       have hc4 := hd3.c4
       have hf4 := hd3.free 4
       have HD := Lib.hid hd3
       have HL := Lib.hid hl3
       clear hd hd3 hl3))
  go_ret2
  have hd := HD.out
  have hs2 : w1.heap.size + 1 ≤ w2.heap.size := by have := hb2.size; simpa using this
  have hs3 := hb3.size
  have hs1 := hb1.size
  have hB : Below w.heap.size w w3 := (hb1.trans (((Below.refl _ _).alloc (Nat.le_refl _) _).mono hb1.size)).trans (((hb2.mono (by simp)).trans (hb3.mono (by omega))).mono hb1.size)
  have hpw : w.heap.size ≤ p := by simp at hp; omega
  have hrow := hd.row.set_ 4 (.slice A3 l.length c3)
  have hkp : Kept (· = p) w3 (w3.setCell ⟨p, 4, none⟩ (.slice A3 l.length c3)) := Kept.cell _ _ _ _
  refine ⟨p, rfl, ⟨⟨t.bl, t.br, t.vp, .slice A3 l.length c3⟩, ⟨h1, h2, by simp [newD]⟩, by simpa [diskCells, newD, laidD] using hrow, by exact .inr hpw, ?_, ?_, hd.ne, hd.last.row hd.row hkp, hd.read.row hd.row hkp, by show Lies _ _ _ _ t.vp 0 []; rw [htp]; exact Lies.empty _ _ _ _ _, ((HL.out.row hd.row (by decide) hkp).mono fun k hk => ?_)⟩, hB.setCell hpw _⟩
  · have := hd.fl; simp at this; exact .inr (show w.heap.size ≤ t.bl by omega)
  · have := hd.fr; simp at this; exact .inr (show w.heap.size ≤ t.br by omega)
  · rcases hk with hk | hk
    · exact hk.elim
    · exact .inr (by omega)
end Go.Proofs.YtljlkmmeedlaiaaDoor
