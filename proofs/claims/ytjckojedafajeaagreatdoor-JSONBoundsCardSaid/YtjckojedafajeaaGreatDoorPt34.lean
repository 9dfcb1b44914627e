/- Layer 8: what Print hands on: each piece is laid behind what there is. -/
import Derived.Test.YtjckojedafajeaaGreatDoorPt33
import Derived.Test.YtjckojedafajeaaGreatDoorPt27
namespace Go.Proofs.YtjckojedafajeaaGreatDoor
open Go.RowKit

/-- What has been laid, in the variable's slice; B: nothing older is turned. -/
def PrI (B gb : Nat) (own : Nat → Prop) (t : List UInt8) (W : World) : Prop :=
  ∃ v, Row W gb 22 #[v] ∧ Lies W (fun q => own q ∧ q ≠ gb) 5 1 v t.length (u8s t) ∧ own gb ∧ ∀ q, own q → B ≤ q ∧ q < W.heap.size
def PrBad (_ : List PanicEntry) (_ : List UInt8) : Prop := False
def PrOk (t : List UInt8) : Prop := t.length ≤ 100000000000000
set_option maxRecDepth 100000 in
set_option maxHeartbeats 4000000 in
theorem print1_ok (B gb : Nat) (own : Nat → Prop) (t p : List UInt8) (W : World) (h : PrI B gb own t W) (hp : PrOk (t ++ p)) :
    Calls Tryz.prog 43 #[.string (bs p), .pointer (some ⟨gb, 0, none⟩)] W (LayPost (PrI B gb) PrBad own W (t ++ p)) := by
  obtain ⟨v, hr, hl, ho, hlt⟩ := h
  obtain ⟨A, c, rfl, _, _⟩ := hl.form
  have c0 := hr.cell (i := 0) (v := .slice A t.length c) rfl
  unfold PrOk at hp
  rw [List.length_append] at hp
  have hB := hlt gb ho
  have FI : Hid (∀ v' w', Lies w' (grow (fun q => own q ∧ q ≠ gb) W) 5 1 v' (t.length + p.length) (u8s t ++ p.map fun b => Value.int .u8 b.toNat) → Kept (fun g => (own g ∧ g ≠ gb) ∧ Spare (.slice A t.length c) g ∧ ∃ cur, W.heap[g]? = some (.cells cur 5 (0, 0))) W w' →
      w'.cell? ⟨gb, 0, none⟩ = some (.slice A t.length c) ∧ w'.frozen? ⟨gb, 0, none⟩ = false ∧ LayPost (PrI B gb) PrBad own W (t ++ p) (.returned (.tuple #[])) (w'.setCell ⟨gb, 0, none⟩ v')) := Lib.hid (by
    intro v' w' h1 h2
    have hr' : Row w' gb 22 #[.slice A t.length c] := hr.kept h2 (fun e => e.1.2 rfl)
    have hk : Kept own W (w'.setCell ⟨gb, 0, none⟩ v') := (kept_mono h2 fun q e => e.1.1).setCell (grow.old ho) v'
    refine ⟨hr'.cell rfl, hr'.free 0, .inl ⟨rfl, fun q => own q ∨ (W.heap.size ≤ q ∧ q < w'.heap.size), ⟨v', ?_, ?_, .inl ho, ?_⟩, hk, fun q hq => hq.imp id fun e => e.1⟩⟩
    · simpa using hr'.set_ 0 v'
    · have e : u8s (t ++ p) = u8s t ++ p.map fun b => Value.int .u8 b.toNat := by unfold u8s; rw [List.map_append]
      rw [e, List.length_append]
      refine (h1.there.kept (Kept.cell w' gb 0 v') (fun q hq e => ?_)).mono fun q hq => ?_
      · rcases hq.1 with h9 | h9
        · exact h9.2 e
        · omega
      · rcases hq.1 with h9 | h9
        · exact ⟨.inl h9.1, h9.2⟩
        · exact ⟨.inr ⟨h9, hq.2⟩, by omega⟩
    · intro q hq
      have hs := h2.size
      have e9 : (w'.setCell ⟨gb, 0, none⟩ v').heap.size = w'.heap.size := by simp [World.setCell]
      rw [e9]
      rcases hq with h9 | h9
      · have := hlt q h9; omega
      · omega)
  have HL := Lib.hid hl
  clear hr hl ho hlt hB
  generalize hn : t.length = n at *
  clear hn
  go_enter Tryz.func43, Tryz.ntmps43
  go_wp2_with (first
    | (refine wpList_append_text ?_ (fun q => own q ∧ q ≠ gb) (.tmp 3) (.tmp 4) 22 9 ?_ 5 Tryz.underlying22 Tryz.underlying9 infoU8 (.slice A n c) n (u8s t) ?_ HL.out p ?_ (by omega) ?_
       · with_reducible rfl
       · with_reducible rfl
       · rfl
       · rfl
       intro v' w' h1 h2
       obtain ⟨A2, c2, rfl, _, _⟩ := h1.form
       obtain ⟨d1, d2, d3⟩ := FI.out _ w' h1 h2
       have HD3 := Lib.hid d3
       clear d3 h1 h2))
  go_end0
  exact HD3.out
theorem print_lay (B gb : Nat) : LayC 43 #[.pointer (some ⟨gb, 0, none⟩)] (PrI B gb) PrBad PrOk where
  call own t p W h _ ho := print1_ok B gb own t p W h ho
  stay own t W W' h hk := by
    obtain ⟨v, h1, h2, h3, h4⟩ := h
    exact ⟨v, h1.kept hk (fun hn => hn h3), h2.kept hk (fun q hq hn => hn hq.1), h3, fun q hq => ⟨(h4 q hq).1, Nat.lt_of_lt_of_le (h4 q hq).2 hk.size⟩⟩
  lt own t W q h hq := by
    obtain ⟨v, h1, h2, h3, h4⟩ := h
    exact (h4 q hq).2
  mono π a b h := h.elim
  ok a b h := by unfold PrOk at *; rw [List.length_append] at h; omega
end Go.Proofs.YtjckojedafajeaaGreatDoor
/- Layer 8: name: a member's name is passed. -/
namespace Go.Proofs.YtjckojedafajeaaGreatDoor
open Go.RowKit Go.MapKept Go.Maps

theorem letsL_long (s : List UInt8) : ∀ {l : List UInt8} {a : Bool} {t : List UInt8}, letsL s = some (l, a, t) → l.length + 4 * t.length ≤ 4 * s.length := by
  suffices key : ∀ (n : Nat) (s : List UInt8), s.length ≤ n → ∀ {l : List UInt8} {a : Bool} {t : List UInt8}, letsL s = some (l, a, t) → l.length + 4 * t.length ≤ 4 * s.length from fun {l a t} h => key s.length s (Nat.le_refl _) h
  intro n
  induction n with
  | zero =>
    intro s hs l a t h
    cases s with
    | nil => rw [letsL] at h; cases h
    | cons b r => simp at hs
  | succ n ih =>
    intro s hs l a t h
    cases s with
    | nil => rw [letsL] at h; cases h
    | cons b r =>
      rw [letsL] at h
      simp only [List.length_cons] at hs ⊢
      split at h
      · injection h with h; injection h with h1 h; injection h with _ h; subst h1 h; simp; omega
      · split at h
        · split at h
          · cases h
          · rename_i x a1 r1 h1
            have l1 := letterL_len h1
            split at h
            · cases h
            · rename_i l2 a2 q h2
              have := ih r1 (by omega) h2
              have hr := runeL_len x
              injection h with h; injection h with h3 h; injection h with _ h; subst h3 h
              rw [List.length_append]; omega
        · split at h
          · cases h
          · split at h
            · cases h
            · rename_i l2 a2 q h2
              have := ih r (by omega) h2
              injection h with h; injection h with h3 h; injection h with _ h; subst h3 h
              simp only [List.length_cons]; omega
theorem infoStr : (Tryz.prog.info? 9).map (fun i => (i.zero, i.size, i.bytes)) = some (some (.string ⟨#[]⟩), 1, 16) := by kernel_rfl
/-- A text is put into a set, at an operation. -/
theorem wpList_putS {ops : Array Oper} {rest : List Oper} {o : Oper} {a : Act} {w : World} {Q : Exit → Act → World → Prop} (hgd : o.guard = none) (m x v : Operand) (hop : o.op = .mapUpdate 116 m x v) (b : Nat) (S : List (List UInt8)) (hown : IsSet w b S)
    (l : List UInt8) (hm : a.eval m = .map (some b)) (hx : a.eval x = .string (bs l)) (hv : a.eval v = .agg #[]) (hl : l.length ≤ maxLen)
    (h : ∀ w', IsSet w' b (addS S l) → Kept (· = b) w w' → wpList Tryz.prog ops Q rest (a.put o.dst undef) w') : wpList Tryz.prog ops Q (o :: rest) a w :=
  wpList_plain hgd fun _ hK => by
    obtain ⟨w', hr, h1, h2⟩ := hown.put hl
    unfold Oper.wp
    simp [execOp, hop, hm, hx, hv, hr, Result.andThen]
    exact hK _ _ (h w' h1 h2)
/-- A name under way. -/
structure NmS (w0 w W : World) (own own1 : Nat → Nat) (p : Nat) (X : Txt) (q : List UInt8) (E : Value) (f : Fl) (t : Fr) (r : List Fr) (g off cap : Nat) (cs0 : List (List Value)) (L N : Value) (css : List (List Value)) (b : Nat) (S : List (List UInt8)) : Prop where
  top : TopW W own1 w0.heap.size t r g off cap cs0 L N (.map (some b)) css
  mine : FB own1 w0.heap.size (6 + 3 * r.length) b
  set_ : IsSet W b S
  ends : Lies W (FB own1 w0.heap.size 1) 5 1 E (r.length + 1) (u8s ((t :: r).reverse.map endB))
  jat : JAt W p X q E (.slice (some ⟨g, off, none⟩) (r.length + 1) cap) f
  still : Still w W (StkG own w0.heap.size p) own own1
  big : w0.heap.size ≤ w.heap.size
section
variable {w0 w W W' : World} {own own1 : Nat → Nat} {p : Nat} {X : Txt} {q s0 : List UInt8} {E E0 O0 : Value} {f f0 : Fl} {t : Fr} {r : List Fr} {g off cap : Nat} {cs0 : List (List Value)} {L N : Value} {css : List (List Value)} {b : Nat} {S : List (List UInt8)}
theorem NmS.below (h0 : JAt w0 p X s0 E0 O0 f0) (h : NmS w0 w W own own1 p X q E f t r g off cap cs0 L N css b S) (hb : Below W.heap.size W W') : NmS w0 w W' own own1 p X q E f t r g off cap cs0 L N css b S := by
  have s : Still W W' (fun _ => False) own1 own1 := ⟨keptOf_below hb, fun _ _ => rfl⟩
  exact ⟨h.top.still s (fun _ h => h.elim), h.mine, h.set_.below hb, h.ends.still s (fun _ h => h.elim), h0.above h.jat (keptOf_below hb), still_trans h.still (still_mono s fun _ h => h.elim), h.big⟩
theorem NmS.twice (h0 : JAt w0 p X s0 E0 O0 f0) (h : NmS w0 w W own own1 p X q E f t r g off cap cs0 L N css b S) : NmS w0 w (W.setCell ⟨p, 6, none⟩ (.bool true)) own own1 p X q E { f with twice := true } t r g off cap cs0 L N css b S := by
  have hp := h0.lt
  have k : Kept (· = p) W (W.setCell ⟨p, 6, none⟩ (.bool true)) := Kept.cell _ _ _ _
  have s : Still W (W.setCell ⟨p, 6, none⟩ (.bool true)) (· = p) own1 own1 := ⟨k, fun _ _ => rfl⟩
  exact ⟨h.top.still s (fun q e hq => by omega), h.mine, h.set_.kept k (fun e => by have := h.mine.2; omega), h.ends.still s (fun q e hq => by omega), h.jat.turn k fun k' hr' => by simpa [rdCells] using hr'.set_ 6 (.bool true), still_trans h.still (still_mono s fun q e => .inl (.inl e)), h.big⟩
theorem NmS.put (h0 : JAt w0 p X s0 E0 O0 f0) (h : NmS w0 w W own own1 p X q E f t r g off cap cs0 L N css b S) {S' : List (List UInt8)} (hs : IsSet W' b S') (hk : Kept (· = b) W W') : NmS w0 w W' own own1 p X q E f t r g off cap cs0 L N css b S' := by
  have s : Still W W' (· = b) own1 own1 := ⟨hk, fun _ _ => rfl⟩
  have hb := h.mine
  refine ⟨h.top.still s (fun q e _ => .inr (by rw [e]; exact hb.1)), h.mine, hs, h.ends.still s (fun q e _ => by rw [e, hb.1]; omega), h0.above h.jat (kept_mono hk fun q e => by show w0.heap.size ≤ q; rw [e]; exact hb.2), still_trans h.still (still_mono s fun q e => ?_), h.big⟩
  by_cases hlt : q < w.heap.size
  · have h9 := h.still.own q hlt
    have h8 := hb.1
    rw [← e] at h8
    exact .inl (.inr ⟨by rw [e]; exact hb.2, by omega, by omega⟩)
  · exact .inr (by omega)
theorem NmS.cell8 (h : NmS w0 w W own own1 p X q E f t r g off cap cs0 L N css b S) : W.cell? ⟨g, off + r.length * 9 + 8, none⟩ = some (.map (some b)) := h.top.cell 8 _ rfl
theorem NmS.cell7 (h : NmS w0 w W own own1 p X q E f t r g off cap cs0 L N css b S) : W.cell? ⟨g, off + r.length * 9 + 7, none⟩ = some N := h.top.cell 7 _ rfl
/-- The name has been laid behind the others. -/
theorem NmS.fin (h0 : JAt w0 p X s0 E0 O0 f0) {l : List UInt8} {N' : Value} {W1 : World} (h : NmS w0 w W own own1 p X q E f t r g off cap cs0 L N css b (setL (t.names ++ [l]))) (hr : r.length < 64)
    (hl : Lies W1 (grow (FB own1 w0.heap.size (5 + 3 * r.length)) W) 9 1 N' (t.names.length + 1) (t.names.map keyV ++ [keyV l])) (hk : Kept (FB own1 w0.heap.size (5 + 3 * r.length)) W W1) :
    ∃ own2, Stk (W1.setCell ⟨g, off + r.length * 9 + 7, none⟩ N') own2 w0.heap.size (⟨t.obj, t.list, t.names ++ [l]⟩ :: r) E (.slice (some ⟨g, off, none⟩) (r.length + 1) cap) ∧ JAt (W1.setCell ⟨g, off + r.length * 9 + 7, none⟩ N') p X q E (.slice (some ⟨g, off, none⟩) (r.length + 1) cap) f ∧
      Still w (W1.setCell ⟨g, off + r.length * 9 + 7, none⟩ N') (StkG own w0.heap.size p) own own2 := by
  have hsz : w.heap.size ≤ W.heap.size := h.still.kept.size
  have hbg := h.big
  have s1 : Still W W1 (FB own1 w0.heap.size (5 + 3 * r.length)) own1 (ownNew own1 W.heap.size (5 + 3 * r.length)) := still_new hk
  have hl2 := lies_new hl (by omega)
  have TF := h.top.named s1 hl2 (.inr ⟨b, rfl, h.mine, h.set_⟩)
  have hg := h.top.block
  have hg1 : (ownNew own1 W.heap.size (5 + 3 * r.length)) g = 2 := by unfold ownNew; rw [if_pos hg.2]; exact hg.1.1
  have s2 := cell_still W1 (ownNew own1 W.heap.size (5 + 3 * r.length)) g (off + r.length * 9 + 7) N'
  have hE := (h.ends.still s1 (fun q hq _ => by rw [hq.1]; omega)).still s2 (fun q e _ => by rw [e, hg1]; omega)
  have e4 : ((⟨t.obj, t.list, t.names ++ [l]⟩ : Fr) :: r).reverse.map endB = (t :: r).reverse.map endB := by simp [endB]
  refine ⟨_, TF.stk hr (by rw [e4]; exact hE), ?_, ?_⟩
  · exact h0.above h.jat ((kept_mono hk fun q hq => hq.2).trans' (kept_mono s2.kept fun q e => by show w0.heap.size ≤ q; rw [e]; exact hg.1.2))
  · refine still_trans h.still (still_trans (still_mono s1 fun q hq => ?_) (still_mono s2 fun q e => .inl ?_))
    · by_cases hlt : q < w.heap.size
      · have h9 := h.still.own q hlt
        have h8 := hq.1
        exact .inl (.inr ⟨hq.2, by omega, by omega⟩)
      · exact .inr (by omega)
    · by_cases hlt : q < w.heap.size
      · have h9 := h.still.own q hlt
        have h8 := hg.1.1
        rw [← e] at h8
        exact .inl (.inr ⟨by rw [e]; exact hg.1.2, by omega, by omega⟩)
      · exact .inr (by omega)
end
end Go.Proofs.YtjckojedafajeaaGreatDoor
