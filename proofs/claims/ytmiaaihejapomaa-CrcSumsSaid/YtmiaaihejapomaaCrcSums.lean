/- The law CrcSums: its walk. -/
import Derived.Test.YtmiaaihejapomaaCrcKnown
import Derived.Test.YtmiaaihejapomaaCrcCut
import Derived.Deep.RegionHeld3
namespace Go.Proofs.Ytmiaaihejapomaa
open Go.RowKit
open Crc

theorem sums_long (A : Option Addr) (n c : Nat) (cut : Int) (w : World) (hn : 20000 < n) :
    Calls Try.prog 3 #[.slice A n c, .int .i64 cut] w fun e w' => e = .returned (.bool true) ∧ Below w.heap.size w w' := by
  go_enter Try.func3, Try.ntmps3
  go_wp2_with (go_at_call 6; refine (known_calls _).mono ?_; rintro e w1 ⟨rfl, hb1⟩)
  go_ret
  exact ⟨rfl, hb1⟩

set_option maxRecDepth 100000 in
set_option maxHeartbeats 1000000 in
theorem sums_short (A : Option Addr) (n c k : Nat) (cut : Int) (l : List Nat) (w : World) (hA : Bytes w A n l) (hnil : A = none → n = 0 ∧ c = 0) (hn : n ≤ 20000) (h0 : 0 < n) (hk : k < n) (hcut : (wrap64 (cut.tmod n + n)).tmod n = (k : Int)) :
    Calls Try.prog 3 #[.slice A n c, .int .i64 cut] w fun e w' => e = .returned (.bool true) ∧ Below w.heap.size w w' := by
  have HN := Lib.hid hnil
  clear hnil
  go_enter Try.func3, Try.ntmps3
  go_wp2_with (first
    | (refine wpList_append_bytes ?_ (.const (.slice none 0 0)) (.tmp 28) 22 5 ?_ Try.underlying22 infoU8 w.heap.size (.slice none 0 0) 0 [] ?_ ?_ A n c l ?_ hA HN.out (by omega) (Nat.le_refl _) ?_
       · with_reducible rfl
       · with_reducible rfl
       · rfl
       · exact ⟨rfl, .inl ⟨rfl, rfl⟩⟩
       · rfl
       intro v1 w1 hown1 hgr1 hat1 _
       have hb1 : Below w.heap.size w w1 := (Below.refl _ _).grown hgr1 (Nat.le_refl _) (by simp [Value.ownBlock])
       rw [Nat.zero_add, List.nil_append] at hown1
       obtain ⟨g1, cap1, rfl, hg1, hcap1, _⟩ := own_form hown1 h0
       have HO1 := Lib.hid hown1
       clear hown1 hgr1 hat1)
    | (refine wpList_append_bytes ?_ (.tmp 29) (.tmp 30) 22 5 ?_ Try.underlying22 infoU8 w.heap.size (.slice (some ⟨g1, 0, none⟩) n cap1) n l ?_ (HO1.out.alloc _) (some ⟨w1.heap.size, 0, none⟩) 1 1 [77] ?_ (Bytes.of_lit w1 5 #[.int .u8 77] (0, 0) [77] 1 rfl (by unfold Small; decide) rfl) (fun h => by cases h) (by omega) (by have := hb1.size; simp; omega) ?_
       · with_reducible rfl
       · with_reducible rfl
       · rfl
       · rfl
       intro v2 w2 hown2 hgr2 hat2 _
       obtain ⟨g2, cap2, rfl, hg2, hcap2, hmax2⟩ := own_form hown2 (by omega)
       have hb2 : Below w.heap.size w w2 := (hb1.alloc hb1.size _).grown hgr2 (by have := hb1.size; simp; omega) (by intro k hk; simp [Value.ownBlock] at hk; omega)
       have HB2 := Lib.hid (Bytes.of_own hown2 ((Small.append hA.lt (by unfold Small; decide))))
       have HB3 := Lib.hid HB2.out.snoc.1
       unfold maxLen at hmax2
       clear hown2 hgr2 hat2))
  refine (sum32 _ n cap2 l _ HB3.out (by omega)).mono ?_
  rintro e w3 ⟨rfl, hb3⟩
  have HB4 := Lib.hid (HB3.out.below hb3)
  go_wp2_with fail
  refine (finger _ n cap2 l _ HB4.out (by omega)).mono ?_
  rintro e w4 ⟨rfl, hb4⟩
  have HB5 := Lib.hid (HB4.out.below hb4)
  have HB6 := Lib.hid ((HB2.out.below hb3).below hb4)
  have hb5 := (hb2.call hb3).call hb4
  clear hb1 hb2 hb3 hb4 HO1 HB2 HB3 HB4
  have hne : ¬ cap2 = k := by omega
  have hl1 := Lib.hid (show moreL (sumL (l.take k)) (l.drop k) = sumL l by rw [moreL_sumL, List.take_append_drop])
  have hl2 := Lib.hid (show moreF (fingerL (l.take k)) (l.drop k) = fingerL l by rw [moreF_fingerL, List.take_append_drop])
  have hu1 : U32 (sumL (l.take k)) := sumL_lt _ (Small.take hA.lt k)
  have hu2 : U64 (fingerL (l.take k)) := run_lt 64 _ _ _ (by decide) P64_lt P64_lt (Small.take hA.lt k)
  have hk0 : (0 : Int) ≤ (k : Int) := by omega
  have hk1 : (k : Int) ≤ (cap2 : Int) := by omega
  have hk2 : (k : Int) ≤ (n : Int) := by omega
  go_wp2_with fail
  go_region_held3 (fun W => Below w4.heap.size w4 W) (first | exact Below.refl _ _ | exact (Below.refl _ _).drew | assumption | (exact Below.call (by assumption) (by assumption)))
    (first
      | (go_at_call 7; refine (sum32 _ k cap2 (l.take k) _ ((HB5.out.below (by assumption)).take (by omega)) (by omega)).mono ?_; rintro e w' ⟨rfl, hbx⟩)
      | (go_at_call 9; refine (more32 (sumL (l.take k)) _ rfl _ (n - k) (cap2 - k) (l.drop k) _ hu1 ((HB5.out.below (by assumption)).drop0 (by omega)) (by omega)).mono ?_; rintro e w' ⟨he, hbx⟩; rw [hl1.out] at he; subst he)
      | (go_at_call 8; refine (finger _ k cap2 (l.take k) _ ((HB5.out.below (by assumption)).take (by omega)) (by omega)).mono ?_; rintro e w' ⟨rfl, hbx⟩)
      | (go_at_call 10; refine (moreFinger (fingerL (l.take k)) _ rfl _ (n - k) (cap2 - k) (l.drop k) _ hu2 ((HB5.out.below (by assumption)).drop0 (by omega)) (by omega)).mono ?_; rintro e w5 ⟨he, hbx⟩; rw [hl2.out] at he; subst he))
  have hS : Below w4.heap.size w4 w5 := by assumption
  have hb6 := hb5.call hS
  have HM := HB5.out.below hS
  have HM1 := HB6.out.below hS
  have HA := Lib.hid (hA.below hb6)
  have cm : (convert 22 9 (.slice (some ⟨g2, 0, none⟩) n cap2)).run Try.prog w5 = .ok (.string (textOf l)) w5 := run_text HM _ _ 5 cap2 Try.underlying22 Try.underlying5 Try.underlying9
  have cb : (convert 22 9 (.slice A n c)).run Try.prog w5 = .ok (.string (textOf l)) w5 := run_text HA.out _ _ 5 c Try.underlying22 Try.underlying5 Try.underlying9
  have c77 : w5.cell? ⟨g2, n, none⟩ = some (.int .u8 77) := by
    obtain ⟨b, off, e, _, hc⟩ := HM1.2.2 (by omega)
    cases e
    have := hc n (by omega)
    rw [Nat.zero_add] at this
    rw [this]
    simp [List.getD_eq_getElem?_getD, ← hA.len]
  have hi1 : (n : Int) + 1 ≤ (cap2 : Int) := by omega
  clear hb5 hS HM HM1 HB5 HB6 hl1 hl2 hu1 hu2 hA
  go_wp2_with (first
    | (go_at_call 11; refine (refSum A n c l _ HA.out (by omega)).mono ?_; rintro e w6 ⟨rfl, rfl⟩)
    | (go_at_call 12; refine (refFinger A n c l _ HA.out (by omega)).mono ?_; rintro e w6 ⟨rfl, rfl⟩)
    | (go_at_call 6; refine (known_calls _).mono ?_; rintro e w6 ⟨rfl, hb7⟩))
  go_ret
  exact ⟨rfl, hb6.call hb7⟩

set_option maxRecDepth 100000 in
set_option maxHeartbeats 1000000 in
theorem sums_none (A : Option Addr) (c : Nat) (cut : Int) (w : World) (hA : Bytes w A 0 []) (hnil : A = none → c = 0) :
    Calls Try.prog 3 #[.slice A 0 c, .int .i64 cut] w fun e w' => e = .returned (.bool true) ∧ Below w.heap.size w w' := by
  have HN := Lib.hid hnil
  clear hnil
  go_enter Try.func3, Try.ntmps3
  go_wp2_with (first
    | (refine wpList_append_bytes ?_ (.const (.slice none 0 0)) (.tmp 28) 22 5 ?_ Try.underlying22 infoU8 w.heap.size (.slice none 0 0) 0 [] ?_ ?_ A 0 c [] ?_ hA (fun h => ⟨rfl, HN.out h⟩) (by omega) (Nat.le_refl _) ?_
       · with_reducible rfl
       · with_reducible rfl
       · rfl
       · exact ⟨rfl, .inl ⟨rfl, rfl⟩⟩
       · rfl
       intro v1 w1 hown1 hgr1 hat1 hv1
       have hb1 : Below w.heap.size w w1 := (Below.refl _ _).grown hgr1 (Nat.le_refl _) (by simp [Value.ownBlock])
       rw [Nat.zero_add, List.nil_append] at hown1
       obtain rfl := hv1 rfl rfl
       have HO1 := Lib.hid hown1
       clear hown1 hgr1 hat1 hv1)
    | (refine wpList_append_bytes ?_ (.tmp 29) (.tmp 30) 22 5 ?_ Try.underlying22 infoU8 w.heap.size (.slice none 0 0) 0 [] ?_ (HO1.out.alloc _) (some ⟨w1.heap.size, 0, none⟩) 1 1 [77] ?_ (Bytes.of_lit w1 5 #[.int .u8 77] (0, 0) [77] 1 rfl (by unfold Small; decide) rfl) (fun h => by cases h) (by omega) (by have := hb1.size; simp; omega) ?_
       · with_reducible rfl
       · with_reducible rfl
       · rfl
       · rfl
       intro v2 w2 hown2 hgr2 hat2 _
       obtain ⟨g2, cap2, rfl, hg2, hcap2, hmax2⟩ := own_form hown2 (by omega)
       have hb2 : Below w.heap.size w w2 := (hb1.alloc hb1.size _).grown hgr2 (by have := hb1.size; simp; omega) (by intro k hk; simp [Value.ownBlock] at hk)
       have HB2 := Lib.hid (Bytes.of_own hown2 ((Small.append hA.lt (by unfold Small; decide))))
       have HB3 := Lib.hid HB2.out.snoc.1
       unfold maxLen at hmax2
       clear hown2 hgr2 hat2))
  refine (sum32 _ 0 cap2 [] _ HB3.out (by omega)).mono ?_
  rintro e w3 ⟨rfl, hb3⟩
  have HB4 := Lib.hid (HB3.out.below hb3)
  go_wp2_with fail
  refine (finger _ 0 cap2 [] _ HB4.out (by omega)).mono ?_
  rintro e w4 ⟨rfl, hb4⟩
  have HB5 := Lib.hid (HB4.out.below hb4)
  have HB6 := Lib.hid ((HB2.out.below hb3).below hb4)
  have hb5 := (hb2.call hb3).call hb4
  clear hb1 hb2 hb3 hb4 HO1 HB2 HB3 HB4
  have hne : ¬ cap2 = 0 := by omega
  have hl1 := Lib.hid (show moreL (sumL []) [] = sumL [] by rw [moreL_sumL]; rfl)
  have hl2 := Lib.hid (show moreF (fingerL []) [] = fingerL [] by rw [moreF_fingerL]; rfl)
  have hu1 : U32 (sumL []) := sumL_lt _ Small.nil
  have hu2 : U64 (fingerL []) := run_lt 64 _ _ _ (by decide) P64_lt P64_lt Small.nil
  have hk1 : (0 : Int) ≤ (cap2 : Int) := by omega
  go_wp2_with fail
  go_region_held3 (fun W => Below w4.heap.size w4 W) (first | exact Below.refl _ _ | exact (Below.refl _ _).drew | assumption | (exact Below.call (by assumption) (by assumption)))
    (first
      | (go_at_call 7; refine (sum32 _ 0 cap2 [] _ (HB5.out.below (by assumption)) (by omega)).mono ?_; rintro e w' ⟨rfl, hbx⟩)
      | (go_at_call 9; refine (more32 (sumL []) _ rfl _ 0 cap2 [] _ hu1 (HB5.out.below (by assumption)) (by omega)).mono ?_; rintro e w' ⟨he, hbx⟩; rw [hl1.out] at he; subst he)
      | (go_at_call 8; refine (finger _ 0 cap2 [] _ (HB5.out.below (by assumption)) (by omega)).mono ?_; rintro e w' ⟨rfl, hbx⟩)
      | (go_at_call 10; refine (moreFinger (fingerL []) _ rfl _ 0 cap2 [] _ hu2 (HB5.out.below (by assumption)) (by omega)).mono ?_; rintro e w5 ⟨he, hbx⟩; rw [hl2.out] at he; subst he))
  have hS : Below w4.heap.size w4 w5 := by assumption
  have hb6 := hb5.call hS
  have HM := HB5.out.below hS
  have HM1 := HB6.out.below hS
  have HA := Lib.hid (hA.below hb6)
  have cm : (convert 22 9 (.slice (some ⟨g2, 0, none⟩) 0 cap2)).run Try.prog w5 = .ok (.string (textOf [])) w5 := run_text HM _ _ 5 cap2 Try.underlying22 Try.underlying5 Try.underlying9
  have cb : (convert 22 9 (.slice A 0 c)).run Try.prog w5 = .ok (.string (textOf [])) w5 := run_text HA.out _ _ 5 c Try.underlying22 Try.underlying5 Try.underlying9
  have c77 : w5.cell? ⟨g2, 0, none⟩ = some (.int .u8 77) := by
    obtain ⟨b, off, e, _, hc⟩ := HM1.2.2 (by omega)
    cases e
    exact hc 0 (by omega)
  have hi1 : (1 : Int) ≤ (cap2 : Int) := by omega
  clear hb5 hS HM HM1 HB5 HB6 hl1 hl2 hu1 hu2 hA
  go_wp2_with (first
    | (go_at_call 11; refine (refSum A 0 c [] _ HA.out (by omega)).mono ?_; rintro e w6 ⟨rfl, rfl⟩)
    | (go_at_call 12; refine (refFinger A 0 c [] _ HA.out (by omega)).mono ?_; rintro e w6 ⟨rfl, rfl⟩)
    | (go_at_call 6; refine (known_calls _).mono ?_; rintro e w6 ⟨rfl, hb7⟩))
  go_ret
  exact ⟨rfl, hb6.call hb7⟩
end Go.Proofs.Ytmiaaihejapomaa
