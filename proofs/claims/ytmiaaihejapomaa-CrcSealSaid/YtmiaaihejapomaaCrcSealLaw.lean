/- The law CrcSeal: its walk. -/
import Derived.Test.YtmiaaihejapomaaCrcKnown
import Derived.Test.YtmiaaihejapomaaCrcLow
import Derived.Test.YtmiaaihejapomaaCrcBad
import Derived.Test.YtmiaaihejapomaaCrcCut
import Derived.Deep.QuietTactic
import Derived.BigQuiet
import Derived.Deep.RegionWith
import Derived.Deep.RegionHeld3
import Derived.Deep.DeepCutAuto
namespace Go.Proofs.Ytmiaaihejapomaa
open Go.RowKit
open Crc

theorem seal_law_long (A : Option Addr) (n c : Nat) (at_ by_ : Int) (w : World) (hn : 20000 < n) :
    Calls Try.prog 4 #[.slice A n c, .int .i64 at_, .int .u8 by_] w fun e w' => e = .returned (.bool true) ∧ Below w.heap.size w w' := by
  go_enter Try.func4, Try.ntmps4
  go_wp2_with (go_at_call 6; refine (known_calls _).mono ?_; rintro e w1 ⟨rfl, hb1⟩)
  go_ret
  exact ⟨rfl, hb1⟩

/-- What Open answers of any bytes: an error and nothing, or the head. -/
def OpenKind (w : World) (l : List Nat) (n : Nat) (Y : Option Addr) (ny : Nat) (f : Int) (w' : World) : Prop :=
  (n < 4 ∧ f = 4 ∧ ny = 0) ∨ (4 ≤ n ∧ agree l 4 ∧ f = 0 ∧ ny = n - 4 ∧ ∃ g, Y = some ⟨g, 0, none⟩ ∧ w.heap.size ≤ g ∧ Row w' g 5 (cellsOf (headOf l)).toArray) ∨ (4 ≤ n ∧ ¬ agree l 4 ∧ f = 110 ∧ ny = 0)
def OpenAny (w : World) (l : List Nat) (n : Nat) (e : Ending) (w' : World) : Prop :=
  ∃ (Y : Option Addr) (ny : Nat) (f : Int), e = .returned (.tuple #[.slice Y ny ny, .int .i64 f]) ∧ Below w.heap.size w w' ∧ OpenKind w l n Y ny f w'
theorem open_any (A : Option Addr) (n c : Nat) (l : List Nat) (w : World) (hA : Bytes w A n l) (hcap : n ≤ c) (hbig : n ≤ 140737488355328) :
    Calls Try.prog 15 #[.slice A n c] w (OpenAny w l n) := by
  by_cases h4 : n < 4
  · refine (open_short A n c w h4).mono ?_
    rintro e w' ⟨rfl, rfl⟩
    exact ⟨none, 0, 4, rfl, Below.refl _ _, .inl ⟨h4, rfl, rfl⟩⟩
  · obtain ⟨m, rfl⟩ : ∃ m, n = m + 4 := ⟨n - 4, by omega⟩
    refine (open_long A m c l w hA hcap hbig).mono ?_
    rintro e w' ⟨hb, ⟨hag, g, rfl, hg, hr⟩ | ⟨hag, rfl⟩⟩
    · exact ⟨_, m, 0, rfl, hb, .inr (.inl ⟨by omega, hag, rfl, by omega, g, rfl, hg, hr⟩)⟩
    · exact ⟨none, 0, 110, rfl, hb, .inr (.inr ⟨by omega, hag, rfl, rfl⟩)⟩

/-- Nothing but one block has turned. -/
def Only (g : Nat) (a b : World) : Prop := a.heap.size ≤ b.heap.size ∧ ∀ k, k < a.heap.size → k ≠ g → b.heap[k]? = a.heap[k]?
theorem Only.refl (g : Nat) (a : World) : Only g a a := ⟨Nat.le_refl _, fun _ _ _ => rfl⟩
theorem Only.setCell {g : Nat} {a b : World} (h : Only g a b) (i : Nat) (v : Value) : Only g a (b.setCell ⟨g, i, none⟩ v) :=
  ⟨by simpa using h.1, fun k hk hg => (heap_setCell_other b ⟨g, i, none⟩ k v hg).trans (h.2 k hk hg)⟩
theorem Row.only {a b : World} {g k : Nat} {t : TypeId} {cs : Array Value} (h : Row a k t cs) (ho : Only g a b) (hne : k ≠ g) : Row b k t cs := (ho.2 k h.lt hne).trans h
/-- A row of n bytes, whichever. -/
def Some8 (w : World) (g n : Nat) : Prop := ∃ l : List Nat, Small l ∧ l.length = n ∧ Row w g 5 (cellsOf l).toArray

set_option maxRecDepth 100000 in
set_option maxHeartbeats 2000000 in
theorem seal_law_short (A : Option Addr) (n c : Nat) (at_ : Int) (by_ : Nat) (l : List Nat) (w : World) (hA : Bytes w A n l) (hnil : A = none → n = 0 ∧ c = 0) (hcap : n ≤ c) (hn : n ≤ 20000) (hby : by_ < 256) :
    Calls Try.prog 4 #[.slice A n c, .int .i64 at_, .int .u8 by_] w fun e w' => e = .returned (.bool true) ∧ Below w.heap.size w w' := by
  have HN := Lib.hid hnil
  have HA := Lib.hid hA
  clear hnil hA
  go_enter Try.func4, Try.ntmps4
  go_upto_region 4 with (go_at_call 13; refine (seal_ A n c l _ HA.out (by omega)).mono ?_; rintro e w1 ⟨g, rfl, hl1, hg, hr1, hb1⟩)
  have hsm := sealed_small l HA.out.lt
  go_cut [28] (fun v28 W => v28 = .bool false ∧ Below w1.heap.size w1 W)
  case first =>
    have hconv : ∀ W, Below w1.heap.size w1 W → (convert 22 9 (.slice (some ⟨g, 0, none⟩) (n + 4) (n + 4))).run Try.prog W = .ok (.string (textOf (sealed l))) W := fun W hW =>
      run_text (Bytes.of_row' (hr1.call hW) hsm hl1.out) _ _ 5 (n + 4) Try.underlying22 Try.underlying5 Try.underlying9
    have hd1 : Below w1.heap.size w1 w1.drew := (Below.refl _ _).drew
    have hc1 := hconv w1.drew hd1
    go_region_with (first
      | (go_at_call 14
         refine (refSeal A n c l _ (HA.out.below hb1.drew) HN.out (by omega)).mono ?_
         rintro e w2 ⟨v2, rfl, hown2, hb2⟩
         obtain ⟨g2, cap2, rfl, _, _, _⟩ := own_form hown2 (by omega)
         have hc2 : (convert 22 9 (.slice (some ⟨g2, 0, none⟩) (n + 4) cap2)).run Try.prog w2 = .ok (.string (textOf (sealed l))) w2 := run_text (Bytes.of_own hown2 hsm) _ _ 5 cap2 Try.underlying22 Try.underlying5 Try.underlying9
         have hb3 := hd1.call hb2
         have hc3 := hconv w2 hb3))
    all_goals (go_wp2_with fail; go_meet; exact ⟨rfl, hb3⟩)
  case rest =>
    obtain ⟨rfl, hb2⟩ := hcut
    have hr2 := hr1.call hb2
    have hb3 := hb1.call hb2
    clear hr1 hb1 hb2
    have HR2 := Lib.hid (Bytes.of_row' hr2 hsm hl1.out)
    have hag := agree_sealed l
    go_wp2_with fail
    refine (open_good _ n (n + 4) (sealed l) _ HR2.out (by omega) (by omega) hag).mono ?_
    rintro e w3 ⟨gx, rfl, hgx, hrx, hb4⟩
    rw [headOf_sealed] at hrx
    have hr3 := hr2.call hb4
    have hb5 := hb3.call hb4
    have hgxs : g ≠ gx := by have := hr2.lt; omega
    have hbx : w.heap.size ≤ gx := Nat.le_trans hb3.size hgx
    go_wp2_with fail
    refine (open_any A n c l _ (HA.out.below hb5) hcap (by omega)).mono ?_
    rintro e w4 ⟨Y, ny, f, rfl, hb6, hkind⟩
    have hr4 := hr3.call hb6
    have hrx4 := hrx.call hb6
    have hb7 := hb5.call hb6
    have hgxl := hrx.lt
    have HK := Lib.hid hkind
    have hcx : (convert 22 9 (.slice (some ⟨gx, 0, none⟩) n n)).run Try.prog w4 = .ok (.string (textOf l)) w4 := run_text (Bytes.of_row' hrx4 HA.out.lt HA.out.len) _ _ 5 n Try.underlying22 Try.underlying5 Try.underlying9
    have hcb : (convert 22 9 (.slice A n c)).run Try.prog w4 = .ok (.string (textOf l)) w4 := run_text (HA.out.below hb7) _ _ 5 c Try.underlying22 Try.underlying5 Try.underlying9
    clear hr2 hb3 hrx hr3 hb4 hb5 hb6 hkind HR2 hag
    go_wp2_with fail
    go_loopw [12] (fun v12 wr => ∃ i : Nat, i ≤ n ∧ v12 = .int .i64 i ∧ Some8 wr gx n ∧ Only gx w4 wr ∧ Below w.heap.size w wr) (fun v12 _ => n - (intOf v12).toNat)
    case atStart => exact ⟨0, Nat.zero_le _, rfl, ⟨l, HA.out.lt, HA.out.len, hrx4⟩, Only.refl _ _, hb7⟩
    case round =>
      obtain ⟨i, hi, rfl, h8, honly, hbr⟩ := hrel
      by_cases hlt : i < n
      · obtain ⟨l8, hs8, hl8, hr8⟩ := h8
        have hck : wr.cell? ⟨gx, i, none⟩ = some (.int .u8 (l8.getD i 0 : Nat)) := hr8.cell (by rw [List.getElem?_toArray]; exact cellsOf_get _ (by omega))
        have hfk : wr.frozen? ⟨gx, i, none⟩ = false := hr8.free _
        have hnew : Some8 (wr.setCell ⟨gx, i, none⟩ (.int .u8 ((((l8.getD i 0 : Nat) : Int) + 1) % 256))) gx n := by
          have h1 := hr8.set_ i (.int .u8 (((l8.getD i 0 + 1) % 256 : Nat) : Int))
          rw [cellsOf_set] at h1
          refine ⟨_, ?_, ?_, by rw [show ((((l8.getD i 0 : Nat) : Int) + 1) % 256) = (((l8.getD i 0 + 1) % 256 : Nat) : Int) by omega]; exact h1⟩
          · intro y hy
            rcases List.mem_or_eq_of_mem_set hy with h2 | h2
            · exact hs8 y h2
            · omega
          · rw [List.length_set]; exact hl8
        generalize l8.getD i 0 = v at *
        clear hr8 hcx hcb
        go_wp2
        exact ⟨⟨i + 1, by omega, by go_num, hnew, honly.setCell _ _, hbr.setCell (p := ⟨gx, i, none⟩) hbx _⟩, by simp [intOf]; omega⟩
      · have hr5 := hr4.only honly hgxs
        have HK5 : Hid (OpenKind w3 l n Y ny f wr) := Lib.hid (by
          rcases HK.out with h1 | ⟨h1, h2, h3, h4, gy, h5, h6, h7⟩ | h1
          · exact .inl h1
          · exact .inr (.inl ⟨h1, h2, h3, h4, gy, h5, h6, h7.only honly (by omega)⟩)
          · exact .inr (.inr h1))
        clear hr4 hrx4 hb7 HK h8 honly hcx hcb
        go_upto_region 14 with (fail)
        obtain ⟨R, hR⟩ : ∃ R : Bool, (R = true ↔ (4 ≤ n ∧ agree l 4)) := by
          by_cases h : 4 ≤ n ∧ agree l 4
          · exact ⟨true, by simp [h]⟩
          · exact ⟨false, by simp [h]⟩
        have HRR := Lib.hid hR
        clear hR
        go_cut [13] (fun v13 W => v13 = .bool R ∧ Below wr.heap.size wr W)
        case first =>
          by_cases h4 : n < 4
          · obtain rfl : R = false := by
              have h1 := HRR.out
              cases R
              · rfl
              · have := (h1.1 rfl).1; omega
            have hd : decide ((4 : Int) ≤ (n : Int)) = false := by simp; omega
            go_wp2_with fail
            go_quiet (fail)
            go_wp2_with fail
            go_meet
            exact ⟨rfl, below_drewN (Below.refl _ _) nq⟩
          · have hd : decide ((4 : Int) ≤ (n : Int)) = true := decide_eq_true (by omega)
            have hcb : ∀ W, Below wr.heap.size wr W → (convert 22 9 (.slice A n c)).run Try.prog W = .ok (.string (textOf l)) W := fun W hW =>
              run_text (HA.out.below (hbr.call hW)) _ _ 5 c Try.underlying22 Try.underlying5 Try.underlying9
            have HCB := Lib.hid hcb
            clear hcb
            have hbeq : ((textOf (sealed (headOf l))).toList == (textOf l).toList) = R := by
              have h1 := HRR.out
              have h2 := agree_iff l (by rw [HA.out.len]; omega)
              cases R
              · rw [beq_eq_false_iff_ne]
                intro h3
                have h5 := textOf_inj (sealed_small _ (Small.take HA.out.lt _)) HA.out.lt h3
                have := h1.2 ⟨by omega, h2.2 h5⟩
                cases this
              · rw [h2.1 (h1.1 rfl).2]; simp
            have hss := sealed_small (headOf l) (Small.take HA.out.lt _)
            obtain ⟨m, hm⟩ : ∃ m, n = m + 4 := ⟨n - 4, by omega⟩
            have HH := Lib.hid (show headOf l = l.take m by unfold headOf; rw [HA.out.len, hm, Nat.add_sub_cancel])
            have Hm := Lib.hid hm
            have hm0 : (0 : Int) ≤ (m : Int) := by omega
            have hm1 : (m : Int) ≤ (c : Int) := by omega
            clear hm
            have hd1 : Below wr.heap.size wr wr.drew := (Below.refl _ _).drew
            go_wp2_with fail
            refine wp_region_held_drew (S := fun W => Below wr.heap.size wr W) (by kernel_rfl) hd1 (fun hHeld => ?_)
            refine wpAnyH_take (i := 0) (oi := ?_) (v := ?_) ?_ (by kernel_rfl) (by kernel_rfl) (by kernel_rfl) ?_ ?_ (by assumption) ?_
            rotate_left 2
            · simp only [List.getElem?_toArray, List.getElem?_cons_zero]; with_reducible rfl
            · exact fun _ _ _ h => h
            · refine Or.inl ⟨by rfl, ?_⟩; intro W hSw; go_simp; try with_reducible rfl
            simp only [Act.put, List.setIfInBounds_toArray, List.set_cons_zero, List.set_cons_succ]
            refine wpAnyH_take (i := 1) (oi := ?_) (v := ?_) ?_ (by kernel_rfl) (by kernel_rfl) (by kernel_rfl) ?_ ?_ (by assumption) ?_
            rotate_left 2
            · simp only [List.getElem?_toArray, List.getElem?_cons_succ, List.getElem?_cons_zero]; with_reducible rfl
            · exact fun _ _ _ h => h
            · refine Or.inl ⟨by rfl, ?_⟩; intro W hSw; go_simp; try with_reducible rfl
            simp only [Act.put, List.setIfInBounds_toArray, List.set_cons_zero, List.set_cons_succ]
            refine wpAnyH_take (i := 2) (oi := ?_) (v := ?_) ?_ (by kernel_rfl) (by kernel_rfl) (by kernel_rfl) ?_ ?_ (by assumption) ?_
            rotate_left 2
            · simp only [List.getElem?_toArray, List.getElem?_cons_succ, List.getElem?_cons_zero]; with_reducible rfl
            · exact fun _ _ _ h => h
            · refine Or.inl ⟨by rfl, ?_⟩; intro W hSw; go_simp; try with_reducible rfl
            simp only [Act.put, List.setIfInBounds_toArray, List.set_cons_zero, List.set_cons_succ]
            refine wpAnyH_take (i := 3) (oi := ?_) (v := ?_) ?_ (by kernel_rfl) (by kernel_rfl) (by kernel_rfl) ?_ ?_ (by assumption) ?_
            rotate_left 2
            · simp only [List.getElem?_toArray, List.getElem?_cons_succ, List.getElem?_cons_zero]; with_reducible rfl
            · exact fun _ _ _ h => h
            · refine Or.inl ⟨by rfl, ?_⟩; intro W hSw; go_simp; try with_reducible rfl
            simp only [Act.put, List.setIfInBounds_toArray, List.set_cons_zero, List.set_cons_succ]
            refine wpAnyH_take (i := 4) (oi := ?_) (v := ?_) ?_ (by kernel_rfl) (by kernel_rfl) (by kernel_rfl) ?_ ?_ (by assumption) ?_
            rotate_left 2
            · simp only [List.getElem?_toArray, List.getElem?_cons_succ, List.getElem?_cons_zero]; with_reducible rfl
            · exact fun _ _ _ h => h
            · refine Or.inl ⟨by rfl, ?_⟩; intro W hSw; go_simp; try with_reducible rfl
            simp only [Act.put, List.setIfInBounds_toArray, List.set_cons_zero, List.set_cons_succ]
            refine wpAnyH_take (i := 5) (oi := ?_) (v := ?_) ?_ (by kernel_rfl) (by kernel_rfl) (by kernel_rfl) ?_ ?_ (by assumption) ?_
            rotate_left 2
            · simp only [List.getElem?_toArray, List.getElem?_cons_succ, List.getElem?_cons_zero]; with_reducible rfl
            · exact fun _ _ _ h => h
            · refine Or.inl ⟨by rfl, ?_⟩; intro W hSw; go_simp; try with_reducible rfl
            simp only [Act.put, List.setIfInBounds_toArray, List.set_cons_zero, List.set_cons_succ]
            refine wpAnyH_take (i := 6) (oi := ?_) (v := ?_) ?_ (by kernel_rfl) (by kernel_rfl) (by kernel_rfl) ?_ ?_ (by assumption) ?_
            rotate_left 2
            · simp only [List.getElem?_toArray, List.getElem?_cons_succ, List.getElem?_cons_zero]; with_reducible rfl
            · exact fun _ _ _ h => h
            · refine Or.inl ⟨by rfl, ?_⟩; intro W hSw; go_simp; try with_reducible rfl
            simp only [Act.put, List.setIfInBounds_toArray, List.set_cons_zero, List.set_cons_succ]
            refine wpAnyH_take (i := 7) (oi := ?_) (v := ?_) ?_ (by kernel_rfl) (by kernel_rfl) (by kernel_rfl) ?_ ?_ (by assumption) ?_
            rotate_left 2
            · simp only [List.getElem?_toArray, List.getElem?_cons_succ, List.getElem?_cons_zero]; with_reducible rfl
            · exact fun _ _ _ h => h
            · refine Or.inl ⟨by rfl, ?_⟩; intro W hSw; go_simp; try with_reducible rfl
            simp only [Act.put, List.setIfInBounds_toArray, List.set_cons_zero, List.set_cons_succ]
            refine wpAnyH_take (i := 12) (oi := ?_) (v := ?_) ?_ (by kernel_rfl) (by kernel_rfl) (by kernel_rfl) ?_ ?_ (by assumption) ?_
            rotate_left 2
            · simp only [List.getElem?_toArray, List.getElem?_cons_succ, List.getElem?_cons_zero]; with_reducible rfl
            · exact fun _ _ _ h => h
            · refine Or.inl ⟨by rfl, ?_⟩; intro W hSw; go_simp; try with_reducible rfl
            simp only [Act.put, List.setIfInBounds_toArray, List.set_cons_zero, List.set_cons_succ]
            refine wpAnyH_take (i := 13) (oi := ?_) (v := ?_) ?_ (by kernel_rfl) (by kernel_rfl) (by kernel_rfl) ?_ ?_ (by assumption) ?_
            rotate_left 2
            · simp only [List.getElem?_toArray, List.getElem?_cons_succ, List.getElem?_cons_zero]; with_reducible rfl
            · exact fun _ _ _ h => h
            · refine Or.inl ⟨by rfl, ?_⟩; intro W hSw; have hcw := HCB.out W hSw; go_simp; try with_reducible rfl
            simp only [Act.put, List.setIfInBounds_toArray, List.set_cons_zero, List.set_cons_succ]
            refine wpAnyH_take (i := 8) (oi := ?_) (v := .int .i64 m) ?_ (by kernel_rfl) (by kernel_rfl) (by kernel_rfl) ?_ ?_ (by assumption) ?_
            rotate_left 1
            · simp only [List.getElem?_toArray, List.getElem?_cons_succ, List.getElem?_cons_zero]; with_reducible rfl
            · exact fun _ _ _ h => h
            · refine Or.inl ⟨by rfl, ?_⟩; intro W hSw; go_simp; (have h8 := Hm.out); rw [IntWalk.i64_in _ (by omega)]; split <;> omega
            simp only [Act.put, List.setIfInBounds_toArray, List.set_cons_zero, List.set_cons_succ]
            refine wpAnyH_take (i := 9) (oi := ?_) (v := ?_) ?_ (by kernel_rfl) (by kernel_rfl) (by kernel_rfl) ?_ ?_ (by assumption) ?_
            rotate_left 2
            · simp only [List.getElem?_toArray, List.getElem?_cons_succ, List.getElem?_cons_zero]; with_reducible rfl
            · exact fun _ _ _ h => h
            · refine Or.inl ⟨by rfl, ?_⟩; intro W hSw; go_simp; try with_reducible rfl
            simp only [Act.put, List.setIfInBounds_toArray, List.set_cons_zero, List.set_cons_succ]
            refine wpAnyH_ready (rs := [10]) (by kernel_rfl) (by simp) ?_
            refine AllReadyH.cons (o := ?_) ?_ (fun K1 hK1 => ?_) AllReadyH.nil
            rotate_left 1
            · simp only [List.getElem?_toArray, List.getElem?_cons_succ, List.getElem?_cons_zero]; with_reducible rfl
            rw [if_pos (by rfl)]
            go_simp
            refine (refSeal A m c (headOf l) _ (by rw [HH.out]; exact (HA.out.below (hbr.call hd1)).take (by have := Hm.out; omega)) (fun h => by have h9 := HN.out h; have := Hm.out; omega) (by have := Hm.out; omega)).mono ?_
            rintro e w5 ⟨v5, rfl, hown5, hb5⟩
            obtain ⟨g5, cap5, rfl, _, _, _⟩ := own_form hown5 (by omega)
            have hc5 : (convert 22 9 (.slice (some ⟨g5, 0, none⟩) (m + 4) cap5)).run Try.prog w5 = .ok (.string (textOf (sealed (headOf l)))) w5 := run_text (Bytes.of_own hown5 hss) _ _ 5 cap5 Try.underlying22 Try.underlying5 Try.underlying9
            have hb6 := hd1.call hb5
            clear hown5 hb5
            go_wp2_with fail
            refine hK1.out _ _ hb6 (fun hHeld1 => ?_)
            clear hK1 K1
            try simp only [Act.put, List.setIfInBounds_toArray, List.set_cons_zero, List.set_cons_succ]
            refine wpAnyH_ready (rs := [11]) (by kernel_rfl) (by simp) ?_
            refine AllReadyH.cons (o := ?_) ?_ (fun K2 hK2 => ?_) AllReadyH.nil
            rotate_left 1
            · simp only [List.getElem?_toArray, List.getElem?_cons_succ, List.getElem?_cons_zero]; with_reducible rfl
            rw [if_pos (by rfl)]
            go_simp
            refine hK2.out _ _ hHeld1 (fun hHeld2 => ?_)
            clear hK2 K2
            try simp only [Act.put, List.setIfInBounds_toArray, List.set_cons_zero, List.set_cons_succ]
            refine wpAnyH_take (i := 14) (oi := ?_) (v := ?_) ?_ (by kernel_rfl) (by kernel_rfl) (by kernel_rfl) ?_ ?_ (by assumption) ?_
            rotate_left 2
            · simp only [List.getElem?_toArray, List.getElem?_cons_succ, List.getElem?_cons_zero]; with_reducible rfl
            · exact fun _ _ _ h => h
            · refine Or.inl ⟨by rfl, ?_⟩; intro W hSw; go_simp; try with_reducible rfl
            simp only [Act.put, List.setIfInBounds_toArray, List.set_cons_zero, List.set_cons_succ]
            refine wpAnyH_take (i := 15) (oi := ?_) (v := ?_) ?_ (by kernel_rfl) (by kernel_rfl) (by kernel_rfl) ?_ ?_ (by assumption) ?_
            rotate_left 2
            · simp only [List.getElem?_toArray, List.getElem?_cons_succ, List.getElem?_cons_zero]; with_reducible rfl
            · exact fun _ _ _ h => h
            · refine Or.inl ⟨by rfl, ?_⟩; intro W hSw; go_simp; try with_reducible rfl
            simp only [Act.put, List.setIfInBounds_toArray, List.set_cons_zero, List.set_cons_succ]
            refine wpAnyH_take (i := 16) (oi := ?_) (v := ?_) ?_ (by kernel_rfl) (by kernel_rfl) (by kernel_rfl) ?_ ?_ (by assumption) ?_
            rotate_left 2
            · simp only [List.getElem?_toArray, List.getElem?_cons_succ, List.getElem?_cons_zero]; with_reducible rfl
            · exact fun _ _ _ h => h
            · refine Or.inl ⟨by rfl, ?_⟩; intro W hSw; go_simp; try with_reducible rfl
            simp only [Act.put, List.setIfInBounds_toArray, List.set_cons_zero, List.set_cons_succ]
            refine wpAnyH_done (by kernel_rfl) ?_ _
            go_wp2_with fail
            go_meet
            exact ⟨rfl, hb6⟩
        case rest =>
          obtain ⟨rfl, hb5⟩ := hcut
          have hr6 := hr5.call hb5
          have hb6 := hbr.call hb5
          have HK6 : Hid (OpenKind w3 l n Y ny f wc) := Lib.hid (by
            rcases HK5.out with h1 | ⟨h1, h2, h3, h4, gy, h5, h6, h7⟩ | h1
            · exact .inl h1
            · exact .inr (.inl ⟨h1, h2, h3, h4, gy, h5, h6, h7.call hb5⟩)
            · exact .inr (.inr h1))
          clear hr5 hbr hb5 HK5
          go_upto_region 15 with (fail)
          go_cut [118] (fun v118 W => v118 = .bool false ∧ Below wc.heap.size wc W)
          case first =>
            have hRR := HRR.out
            rcases HK6.out with ⟨h1, rfl, rfl⟩ | ⟨h1, h2, rfl, h3, gy, rfl, _, h6⟩ | ⟨h1, h2, rfl, rfl⟩
            · obtain rfl : R = false := by
                cases R
                · rfl
                · have := (hRR.1 rfl).1; omega
              have hd1 : decide ((n : Int) < 4) = true := decide_eq_true (by omega)
              have hd2 : decide ((4 : Int) ≤ (n : Int)) = false := decide_eq_false (by omega)
              clear hRR
              go_wp2_with fail
              go_quiet (fail)
              go_wp2_with fail
              go_meet
              exact ⟨rfl, below_drewN (Below.refl _ _) nq⟩
            · obtain rfl : R = true := hRR.2 ⟨h1, h2⟩
              obtain ⟨m, hm⟩ : ∃ m, n = m + 4 := ⟨n - 4, by omega⟩
              obtain rfl : ny = m := by omega
              have hw : IntKind.i64.wrap ((n : Int) - 4) = (ny : Int) := by rw [IntWalk.i64_in _ (by omega)]; omega
              have hm0 : (0 : Int) ≤ (ny : Int) := by omega
              have hm1 : (ny : Int) ≤ (c : Int) := by omega
              have hh : headOf l = l.take ny := by unfold headOf; rw [HA.out.len, hm, Nat.add_sub_cancel]
              have hBy : Bytes wc (some ⟨gy, 0, none⟩) ny (headOf l) := Bytes.of_row' h6 (Small.take HA.out.lt _) (by rw [hh, List.length_take, HA.out.len]; omega)
              have hBb : Bytes wc A ny (headOf l) := by rw [hh]; exact (HA.out.below hb6).take (by omega)
              have hcy : ∀ q, (convert 22 9 (.slice (some ⟨gy, 0, none⟩) ny ny)).run Try.prog (wc.drewN q) = .ok (.string (textOf (headOf l))) (wc.drewN q) := fun q =>
                run_text (w := wc.drewN q) hBy _ _ 5 ny Try.underlying22 Try.underlying5 Try.underlying9
              have hcb : ∀ q, (convert 22 9 (.slice A ny c)).run Try.prog (wc.drewN q) = .ok (.string (textOf (headOf l))) (wc.drewN q) := fun q =>
                run_text (w := wc.drewN q) hBb _ _ 5 c Try.underlying22 Try.underlying5 Try.underlying9
              clear hRR hm hh h3 h6 hBy hBb
              go_wp2_with fail
              go_quiet (fail)
              go_wp2_with fail
              go_meet
              exact ⟨rfl, below_drewN (Below.refl _ _) nq⟩
            · obtain rfl : R = false := by
                cases R
                · rfl
                · exact absurd (hRR.1 rfl).2 h2
              have hd1 : decide ((n : Int) < 4) = false := decide_eq_false (by omega)
              have hd2 : decide ((4 : Int) ≤ (n : Int)) = true := decide_eq_true (by omega)
              clear hRR h2
              go_wp2_with fail
              go_quiet (fail)
              go_wp2_with fail
              go_meet
              exact ⟨rfl, below_drewN (Below.refl _ _) nq⟩
          case rest =>
            obtain ⟨rfl, hb7⟩ := hcut
            have hr8 := hr6.call hb7
            have hb8 := hb6.call hb7
            clear hr6 hb6 hb7 HK6 HRR
            by_cases h0 : by_ = 0
            · subst h0
              go_wp2_with (go_at_call 6; refine (known_calls _).mono ?_; rintro e w9 ⟨rfl, hb9⟩)
              go_ret
              exact ⟨rfl, hb8.call hb9⟩
            · obtain ⟨k, hk, hcut⟩ := cut_there at_ (n + 4) (by omega) (by omega)
              rw [show ((n + 4 : Nat) : Int) = (n : Int) + 4 by omega] at hcut
              have hne : ((by_ : Int) == 0) = false := by simp; omega
              have hx : (sealed l).getD k 0 < 256 := by
                rw [List.getD_eq_getElem?_getD, List.getElem?_eq_getElem (by rw [hl1.out]; exact hk)]
                exact hsm _ (List.getElem_mem _)
              have hbad := changed_bad l HA.out.lt k by_ (by rw [HA.out.len]; exact hk) hby h0
              have hck : wc.cell? ⟨g, k, none⟩ = some (.int .u8 ((sealed l).getD k 0 : Nat)) := hr8.cell (by rw [List.getElem?_toArray]; exact cellsOf_get _ (by rw [hl1.out]; exact hk))
              have hfk : wc.frozen? ⟨g, k, none⟩ = false := hr8.free _
              have hxor : bits BinOp.xor IntKind.u8 ((sealed l).getD k 0 : Nat) (by_ : Int) = (((sealed l).getD k 0 ^^^ by_ : Nat) : Int) := u8_xor_nat _ _ hx hby
              have hnew := hr8.set_ k (.int .u8 (((sealed l).getD k 0 ^^^ by_ : Nat) : Int))
              rw [cellsOf_set] at hnew
              have hsm2 : Small ((sealed l).set k ((sealed l).getD k 0 ^^^ by_)) := by
                intro y hy
                rcases List.mem_or_eq_of_mem_set hy with h1 | h1
                · exact hsm y h1
                · subst h1; exact Nat.xor_lt_two_pow (n := 8) hx hby
              have HB := Lib.hid (Bytes.of_row' (n := n + 4) hnew hsm2 (by rw [List.length_set]; exact hl1.out))
              have HBad := Lib.hid hbad
              have hb9 := hb8.setCell (p := ⟨g, k, none⟩) hg (.int .u8 (((sealed l).getD k 0 ^^^ by_ : Nat) : Int))
              clear hnew hsm2 hbad hr8 hb8 hsm hx
              generalize (sealed l).set k ((sealed l).getD k 0 ^^^ by_) = l2 at *
              generalize (sealed l).getD k 0 ^^^ by_ = x2 at *
              generalize (sealed l).getD k 0 = x1 at *
              have hk0 : (k : Int) < (n : Int) + 4 := by omega
              go_wp2_with fail
              refine (open_bad _ n (n + 4) l2 _ HB.out (by omega) (by omega) HBad.out).mono ?_
              rintro e wz ⟨rfl, hbz⟩
              have hbf := hb9.call hbz
              clear hb9 hbz HB HBad
              go_wp2_with (go_at_call 6; refine (known_calls _).mono ?_; rintro e wf ⟨rfl, hbk⟩)
              go_ret
              exact ⟨rfl, hbf.call hbk⟩
end Go.Proofs.Ytmiaaihejapomaa
