/- Layer 2: the picks of a crash. -/
import Derived.Test.YtljlkmmeedlaiaaDoorPt07
namespace Go.Proofs.YtljlkmmeedlaiaaDoor
open Go.RowKit

def ints (l : List Int) : List Value := l.map (Value.int .i64)
/-- Block q is a variable that holds a slice of these numbers. -/
def PicksIs (w : World) (q : Nat) (l : List Int) : Prop :=
  ∃ A c, Row w q 57 #[.slice A l.length c] ∧ Holds w A l.length 1 (ints l) ∧ l.length ≤ c ∧ c ≤ 9223372036854775807 ∧ ∀ x, 0 < l.length → A = some x → x.block < q
theorem PicksIs.kept {w w' : World} {q : Nat} {l : List Int} (h : PicksIs w q l) (hb : Below w.heap.size w w') : PicksIs w' q l := by
  obtain ⟨A, c, hr, hh, h1, h2, h3⟩ := h
  exact ⟨A, c, hr.call hb, hh.below hb, h1, h2, h3⟩
theorem Holds.kept {F : Nat → Prop} {w w' : World} {A : Option Addr} {n size : Nat} {xs : List Value} (h : Holds w A n size xs) (hk : Kept F w w') (hF : ∀ x, A = some x → ¬ F x.block) : Holds w' A n size xs :=
  ⟨h.1, fun h0 => by
    obtain ⟨b, off, e, hb, hr⟩ := h.2 h0
    exact ⟨b, off, e, Nat.lt_of_lt_of_le hb hk.size, fun j v hv => (World.cell?_of_block (w := w) (a := ⟨b, off + j, none⟩) (hk.block b hb (hF _ e))).trans (hr j v hv)⟩⟩
theorem PicksIs.upto {w w' : World} {q B : Nat} {l : List Int} (h : PicksIs w q l) (hb : Below B w w') (hq : q < B) : PicksIs w' q l := by
  obtain ⟨A, c, hr, hh, h1, h2, h3⟩ := h
  refine ⟨A, c, hr.below hb hq, ⟨hh.1, fun h0 => ?_⟩, h1, h2, h3⟩
  obtain ⟨b, off, e, hlt, hg⟩ := hh.2 h0
  have := h3 _ h0 e
  exact ⟨b, off, e, Nat.lt_of_lt_of_le hlt hb.size, fun j v hv => (hb.cell (p := ⟨b, off + j, none⟩) (by show b < B; simp at this; omega)).trans (hg j v hv)⟩
def NextPost (w : World) (q : Nat) (l : List Int) (e : Ending) (w' : World) : Prop :=
  e = .returned (.int .i64 (l.headD 0)) ∧ PicksIs w' q l.tail ∧ Kept (· = q) w w'
theorem next_ok (q : Nat) (l : List Int) (w : World) (h : PicksIs w q l) :
    Calls Tryd.prog 48 #[.pointer (some ⟨q, 0, none⟩)] w (NextPost w q l) := by
  have H := Lib.hid h
  obtain ⟨A, c, hr, hh, h1, h2, h3⟩ := h
  have hc0 := hr.cell (i := 0) (v := .slice A l.length c) rfl
  have hf0 := hr.free 0
  rcases l with _ | ⟨x, r⟩
  · simp only [List.length_nil] at hc0
    clear hr hh h3
    go_enter Tryd.func48, Tryd.ntmps48
    go_wp2
    go_ret
    exact ⟨rfl, H.out, Kept.refl _ _⟩
  · obtain ⟨b, off, rfl, hb, hg⟩ := hh.2 (by simp)
    have hx := hg 0 (.int .i64 x) rfl
    simp only [List.length_cons, Nat.add_zero] at hc0 hx h1
    have hbq' : b < q := h3 ⟨b, off, none⟩ (by simp) rfl
    have hbq : b ≠ q := by omega
    have key : Hid (∀ A' c', (c = 1 → A' = some ⟨b, off, none⟩ ∧ c' = 0) → (c ≠ 1 → A' = some ⟨b, off + 1, none⟩ ∧ c' = c - 1) → NextPost w q (x :: r) (.returned (.int .i64 x)) (w.setCell ⟨q, 0, none⟩ (.slice A' r.length c'))) := Lib.hid fun A' c' ha hb' => by
      have k1 := Kept.cell w q 0 (.slice A' r.length c')
      have hrow := hr.set_ 0 (.slice A' r.length c')
      have hh' := hh.kept k1 (fun y hy e => by have := h3 y (by simp) hy; omega)
      refine ⟨rfl, ⟨A', c', by simpa using hrow, ⟨by simp [ints], fun h0 => ?_⟩, ?_, ?_, ?_⟩, k1⟩
      · have hc1 : c ≠ 1 := by simp only [List.tail_cons] at h0; omega
        obtain ⟨b2, off2, e2, hb2, hg2⟩ := hh'.2 (by simp)
        injection e2 with e2
        injection e2 with e3 e4
        subst e3; subst e4
        refine ⟨b, off + 1, (hb' hc1).1, hb2, fun j v hv => ?_⟩
        have := hg2 (j + 1) v (by simpa [ints] using hv)
        rwa [show off + 1 + j = off + (j + 1) by omega]
      · by_cases hc1 : c = 1
        · simp only [List.tail_cons]; rw [(ha hc1).2]; omega
        · simp only [List.tail_cons]; rw [(hb' hc1).2]; omega
      · by_cases hc1 : c = 1
        · rw [(ha hc1).2]; omega
        · rw [(hb' hc1).2]; omega
      · intro y _ hy
        by_cases hc1 : c = 1
        · rw [(ha hc1).1] at hy; injection hy with hy; subst hy; exact hbq'
        · rw [(hb' hc1).1] at hy; injection hy with hy; subst hy; exact hbq'
    clear hr hh hg h3
    by_cases hc1 : c = 1
    · subst hc1
      obtain rfl : r = [] := List.eq_nil_of_length_eq_zero (by omega)
      go_enter Tryd.func48, Tryd.ntmps48
      go_wp2
      go_ret
      exact key.out _ _ (fun _ => ⟨rfl, rfl⟩) (fun h => absurd rfl h)
    · go_enter Tryd.func48, Tryd.ntmps48
      go_wp2
      go_ret
      exact key.out _ _ (fun h => absurd h hc1) (fun _ => ⟨rfl, rfl⟩)

/-- Is a pick below 0? -/
theorem neg_ok (x : Int) (w : World) : Calls Tryd.prog 47 #[.int .i64 x] w fun e w' => e = .returned (.bool (decide (x < 0))) ∧ w = w' := by
  go_enter Tryd.func47, Tryd.ntmps47
  go_wp2
  go_ret
  exact ⟨rfl, rfl⟩

theorem ints_at {w : World} {A : Option Addr} {l : List Int} (h : Holds w A l.length 1 (ints l)) {k : Nat} (hk : k < l.length) : ∃ b off, A = some ⟨b, off, none⟩ ∧ b < w.heap.size ∧ w.cell? ⟨b, off + k, none⟩ = some (.int .i64 (l.getD k 0)) := by
  obtain ⟨b, off, e, hb, hr⟩ := h.2 (by omega)
  exact ⟨b, off, e, hb, hr k _ (by simp [ints, List.getD_eq_getElem?_getD, hk])⟩
def noneBelow (l : List Int) : Prop := ∀ x ∈ l, 0 ≤ x
theorem noneBelow.get {l : List Int} (h : noneBelow l) (k : Nat) : 0 ≤ l.getD k 0 := by
  rcases Nat.lt_or_ge k l.length with hk | hk
  · rw [List.getD_eq_getElem?_getD, List.getElem?_eq_getElem hk]; exact h _ (List.getElem_mem hk)
  · rw [List.getD_eq_getElem?_getD, List.getElem?_eq_none hk]; exact Int.le_refl 0
set_option maxHeartbeats 1000000 in
theorem index_none (A : Option Addr) (c : Nat) (l : List Int) (w : World) (h : Holds w A l.length 1 (ints l)) (hn : l.length ≤ 9223372036854775807) (hb : noneBelow l) :
    Calls Tryd.prog 65 #[.slice A l.length c, .func (.func 47) #[] #[]] w fun e w' => e = .returned (.int .i64 (-1)) ∧ w = w' := by
  have H := Lib.hid h
  have HB := Lib.hid hb
  clear h hb
  go_enter Tryd.func65, Tryd.ntmps65
  go_wp2_with fail
  go_loop [8] (fun v8 => ∃ k : Nat, k ≤ l.length ∧ v8 = .int .i64 k) (fun v8 => l.length - (intOf v8).toNat)
  case atStart => exact ⟨0, Nat.zero_le _, rfl⟩
  case round =>
    obtain ⟨k, hk, rfl⟩ := hrel
    by_cases hlt : k < l.length
    · obtain ⟨b, off, rfl, _, hc⟩ := ints_at H.out hlt
      have hx := HB.out.get k
      generalize l.getD k 0 = x at *
      have hx2 : decide (x < 0) = false := by simp; omega
      go_wp2_with (go_at_call 47; refine (neg_ok x _).mono ?_; rintro e w' ⟨rfl, rfl⟩)
      go_round
      case rel => exact ⟨k + 1, by omega, by go_num⟩
      case measure => simp [intOf]; omega
    · obtain rfl : k = l.length := by omega
      go_wp2
      go_ret
      exact ⟨rfl, rfl⟩
def FoundAt (w : World) (e : Ending) (w' : World) : Prop := ∃ k : Nat, e = .returned (.int .i64 k) ∧ w = w'
set_option maxHeartbeats 1000000 in
theorem index_some (A : Option Addr) (c : Nat) (l : List Int) (w : World) (h : Holds w A l.length 1 (ints l)) (hn : l.length ≤ 9223372036854775807) (hb : ¬ noneBelow l) :
    Calls Tryd.prog 65 #[.slice A l.length c, .func (.func 47) #[] #[]] w (FoundAt w) := by
  have H := Lib.hid h
  have HB := Lib.hid hb
  clear h hb
  go_enter Tryd.func65, Tryd.ntmps65
  go_wp2_with fail
  go_loop [8] (fun v8 => ∃ k : Nat, k ≤ l.length ∧ v8 = .int .i64 k ∧ noneBelow (l.take k)) (fun v8 => l.length - (intOf v8).toNat)
  case atStart => exact ⟨0, Nat.zero_le _, rfl, fun x hx => by simp at hx⟩
  case round =>
    obtain ⟨k, hk, rfl, hnb⟩ := hrel
    have HN := Lib.hid hnb
    clear hnb
    by_cases hlt : k < l.length
    · obtain ⟨b, off, rfl, _, hc⟩ := ints_at H.out hlt
      have HT : Hid (0 ≤ l.getD k 0 → noneBelow (l.take (k + 1))) := Lib.hid fun h0 x hx => by
        rw [List.take_succ_eq_append_getElem hlt] at hx
        rcases List.mem_append.1 hx with hx | hx
        · exact HN.out x hx
        · simp at hx; subst hx; simpa [List.getD_eq_getElem?_getD, hlt] using h0
      generalize l.getD k 0 = x at *
      by_cases hx : 0 ≤ x
      · have hx2 : decide (x < 0) = false := by simp; omega
        have HT2 := Lib.hid (HT.out hx)
        go_wp2_with (go_at_call 47; refine (neg_ok x _).mono ?_; rintro e w' ⟨rfl, rfl⟩)
        go_round
        case rel => exact ⟨k + 1, by omega, by go_num, HT2.out⟩
        case measure => simp [intOf]; omega
      · have hx2 : decide (x < 0) = true := by simp; omega
        clear hx
        go_wp2_with (go_at_call 47; refine (neg_ok x _).mono ?_; rintro e w' ⟨rfl, rfl⟩)
        go_ret
        exact ⟨k, rfl, rfl⟩
    · obtain rfl : k = l.length := by omega
      exact absurd (by have := HN.out; rwa [List.take_length] at this) HB.out
theorem contains_ok (A : Option Addr) (c : Nat) (l : List Int) (w : World) (h : Holds w A l.length 1 (ints l)) (hn : l.length ≤ 9223372036854775807) (B : Bool) (hB : B = true ↔ ¬ noneBelow l) :
    Calls Tryd.prog 46 #[.slice A l.length c, .func (.func 47) #[] #[]] w fun e w' => e = .returned (.bool B) ∧ w = w' := by
  have H := Lib.hid h
  have HB := Lib.hid hB
  clear h hB
  by_cases hb : noneBelow l
  · obtain rfl : B = false := by
      cases B
      · rfl
      · exact absurd hb (HB.out.1 rfl)
    have HN := Lib.hid hb
    clear hb
    go_enter Tryd.func46, Tryd.ntmps46
    go_wp2_with (go_at_call 65; refine (index_none A c l _ H.out hn HN.out).mono ?_; rintro e w' ⟨rfl, rfl⟩)
    go_ret
    exact ⟨rfl, rfl⟩
  · obtain rfl : B = true := HB.out.2 hb
    have HN := Lib.hid hb
    clear hb
    go_enter Tryd.func46, Tryd.ntmps46
    go_wp2_with (go_at_call 65; refine (index_some A c l _ H.out hn HN.out).mono ?_; rintro e w' ⟨k, rfl, rfl⟩)
    go_ret
    exact ⟨rfl, rfl⟩
end Go.Proofs.YtljlkmmeedlaiaaDoor
