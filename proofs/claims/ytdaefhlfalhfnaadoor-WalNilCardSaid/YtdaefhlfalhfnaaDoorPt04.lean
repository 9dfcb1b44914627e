/- Layer 2: New, Feed, and a step. -/
import Derived.Test.YtdaefhlfalhfnaaDoorPt03
import Derived.Carry
namespace Go.Proofs.YtdaefhlfalhfnaaDoor
open Go.RowKit

def kindOk (p : Int × Int) : Bool := p.1 == 0 || p.1 == 1
def kindsB (l : List (Int × Int)) : Bool := l.all kindOk
theorem fcs_get (l : List (Int × Int)) : ∀ k, k < l.length → (fcs l)[k * 2]? = some (.int .i64 (l.getD k (0, 0)).1) ∧ (fcs l)[k * 2 + 1]? = some (.int .i64 (l.getD k (0, 0)).2) := by
  induction l with
  | nil => intro k hk; simp at hk
  | cons p r ih =>
    intro k hk
    have h1 : fcs (p :: r) = .int .i64 p.1 :: .int .i64 p.2 :: fcs r := rfl
    rw [h1]
    rcases k with _ | k
    · simp
    · have := ih k (by simpa using hk)
      rw [show (k + 1) * 2 = k * 2 + 1 + 1 by omega]
      simpa using this
theorem fate_cells {w : World} {A : Option Addr} {l : List (Int × Int)} (h : Holds w A l.length 2 (fcs l)) {k : Nat} (hk : k < l.length) :
    ∃ b off, A = some ⟨b, off, none⟩ ∧ b < w.heap.size ∧ w.cell? ⟨b, off + k * 2, none⟩ = some (.int .i64 (l.getD k (0, 0)).1) ∧ w.cell? ⟨b, off + k * 2 + 1, none⟩ = some (.int .i64 (l.getD k (0, 0)).2) := by
  obtain ⟨b, off, e, hb, hr⟩ := h.2 (by omega)
  have hc := fcs_get l k hk
  exact ⟨b, off, e, hb, hr _ _ hc.1, by have := hr _ _ hc.2; rwa [← Nat.add_assoc] at this⟩
theorem kinds_take (l : List (Int × Int)) (k : Nat) (hk : k < l.length) : kindsB (l.take (k + 1)) = (kindsB (l.take k) && kindOk (l.getD k (0, 0))) := by
  rw [List.take_succ_eq_append_getElem hk, kindsB, kindsB, List.all_append]
  simp only [List.all_cons, List.all_nil, Bool.and_true, List.getD_eq_getElem?_getD, List.getElem?_eq_getElem hk, Option.getD_some]
theorem kinds_false (l : List (Int × Int)) (k : Nat) (hk : k < l.length) (h : kindOk (l.getD k (0, 0)) = false) : kindsB l = false := by
  rw [Bool.eq_false_iff]
  intro ht
  have := List.all_eq_true.1 ht (l.getD k (0, 0)) (by rw [List.getD_eq_getElem?_getD, List.getElem?_eq_getElem hk]; exact List.getElem_mem hk)
  rw [h] at this; cases this

set_option maxHeartbeats 1000000 in
theorem allKinds_ok (A : Option Addr) (c : Nat) (l : List (Int × Int)) (w : World) (h : Holds w A l.length 2 (fcs l)) (hn : l.length ≤ 1000000) :
    Calls Tryd.prog 25 #[.slice A l.length c] w fun e w' => e = .returned (.bool (kindsB l)) ∧ Below w.heap.size w w' := by
  have H := Lib.hid h
  clear h
  go_enter Tryd.func25, Tryd.ntmps25
  go_wp2_with fail
  go_loopw [7] (fun v7 wr => ∃ k : Nat, k ≤ l.length ∧ v7 = .int .i64 k ∧ kindsB (l.take k) = true ∧ Below w.heap.size w wr) (fun v7 _ => l.length - (intOf v7).toNat)
  case atStart => exact ⟨0, Nat.zero_le _, rfl, by simp [kindsB], Below.refl _ _⟩
  case round =>
    obtain ⟨k, hk, rfl, hkb, hb⟩ := hrel
    by_cases hlt : k < l.length
    · obtain ⟨b, off, rfl, hbl, hc0, hc1⟩ := fate_cells (H.out.below hb) hlt
      have HT := Lib.hid (kinds_take l k hlt)
      have HF := Lib.hid (kinds_false l k hlt)
      have HK := Lib.hid hkb
      clear hkb
      generalize hp : l.getD k (0, 0) = q at *
      obtain ⟨x, y⟩ := q
      clear hp
      by_cases hx0 : x = 0
      · subst hx0
        have HK2 : Hid (kindsB (l.take (k + 1)) = true) := Lib.hid (by rw [HT.out, HK.out]; rfl)
        clear HT HF HK
        go_wp2
        go_roundw
        case rel => exact ⟨k + 1, by omega, by go_num, HK2.out, (hb.alloc hb.size _)⟩
        case measure => simp [intOf]; omega
      · by_cases hx1 : x = 1
        · subst hx1
          have HK2 : Hid (kindsB (l.take (k + 1)) = true) := Lib.hid (by rw [HT.out, HK.out]; rfl)
          clear HT HF HK
          go_wp2
          go_roundw
          case rel => exact ⟨k + 1, by omega, by go_num, HK2.out, (hb.alloc hb.size _)⟩
          case measure => simp [intOf]; omega
        · have HK2 : Hid (kindsB l = false) := Lib.hid (HF.out (by simp [kindOk, hx0, hx1]))
          have e0 : (x != 0) = true := by simp [hx0]
          have e1 : (x != 1) = true := by simp [hx1]
          clear HT HF HK hx0 hx1
          go_wp2
          go_ret
          exact ⟨ret_val (by rw [HK2.out]; rfl), hb.alloc hb.size _⟩
    · obtain rfl : k = l.length := by omega
      rw [List.take_length] at hkb
      have HK := Lib.hid hkb
      clear hkb
      go_wp2
      go_ret
      exact ⟨ret_val (by rw [HK.out]; rfl), hb⟩

/-- A new disk. -/
def newD (size : Nat) (l : List (Int × Int)) : D := ⟨size, fun _ => zsec, fun _ => zsec, [], l, 0⟩
def NewPost (w : World) (size : Nat) (l : List (Int × Int)) (e : Ending) (w' : World) : Prop :=
  ∃ p, e = .returned (.tuple #[.pointer (some ⟨p, 0, none⟩), .int .i64 0]) ∧ DiskAt w' (grow noBlock w) p (newD size l) ∧ Below w.heap.size w w'
theorem new_ok (A : Option Addr) (c size : Nat) (l : List (Int × Int)) (w : World) (h : Holds w A l.length 2 (fcs l)) (hn : l.length ≤ 1000000) (h1 : 1 ≤ size) (h2 : size ≤ 65536) (hk : kindsB l = true) :
    Calls Tryd.prog 6 #[.int .i64 size, .slice A l.length c] w (NewPost w size l) := by
  have H := Lib.hid h
  have HK := Lib.hid hk
  clear h hk
  have hmm := @run_makeMap Tryd.prog
  go_enter Tryd.func6, Tryd.ntmps6
  go_wp2_with (first
    | (go_at_call 25; refine (allKinds_ok A c l _ H.out hn).mono ?_; (rintro e w1 ⟨he, hb1⟩); (rw [HK.out] at he); subst he)
    | (go_at_call 26; refine (laid_ok size w1.heap.size (fun _ => zsec) _ (IsMap.new w1) h1 h2).mono ?_; rintro e w2 ⟨p, t, rfl, hd, htp, htf, hp, hb2⟩)
    | (go_at_call 27
       refine (cloneFates A c l _ (((H.out.below hb1).below ((Below.refl _ _).alloc (Nat.le_refl _) _)).below hb2) hn).mono ?_
       rintro e w3 ⟨v3, rfl, hl3, hb3⟩
       obtain ⟨A3, c3, rfl, _, _⟩ := hl3.form
       have hd3 := hd.below hb3
       have hc4 := hd3.c4
       have hf4 := hd3.free 4
       have HD := Lib.hid hd3
       have HL := Lib.hid hl3
       clear hd hd3 hl3))
  go_ret2
  have hd := HD.out
  have hs2 : w1.heap.size + 1 ≤ w2.heap.size := by have := hb2.size; simpa using this
  have hs3 := hb3.size
  have hs1 := hb1.size
  have hB : Below w.heap.size w w3 := (hb1.trans (((Below.refl _ _).alloc (Nat.le_refl _) _).mono hb1.size)).trans (((hb2.mono (by simp)).trans (hb3.mono (by omega))).mono hb1.size)
  have hpw : w.heap.size ≤ p := by simp at hp; omega
  have hrow := hd.row.set_ 4 (.slice A3 l.length c3)
  have hkp : Kept (· = p) w3 (w3.setCell ⟨p, 4, none⟩ (.slice A3 l.length c3)) := Kept.cell _ _ _ _
  refine ⟨p, rfl, ⟨⟨t.bl, t.br, t.vp, .slice A3 l.length c3⟩, ⟨h1, h2, by simp [newD]⟩, by simpa [diskCells, newD, laidD] using hrow, by exact .inr hpw, ?_, ?_, hd.ne, hd.last.row hd.row hkp, hd.read.row hd.row hkp, by show Lies _ _ _ _ t.vp 0 []; rw [htp]; exact Lies.empty _ _ _ _ _, ((HL.out.row hd.row (by decide) hkp).mono fun k hk => ?_)⟩, hB.setCell hpw _⟩
  · have := hd.fl; simp at this; exact .inr (show w.heap.size ≤ t.bl by omega)
  · have := hd.fr; simp at this; exact .inr (show w.heap.size ≤ t.br by omega)
  · rcases hk with hk | hk
    · exact hk.elim
    · exact .inr (by omega)
end Go.Proofs.YtdaefhlfalhfnaaDoor
