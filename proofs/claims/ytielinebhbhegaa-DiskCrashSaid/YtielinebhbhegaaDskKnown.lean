/- Layer 2: the chapter's rows (known of package lexiconlaw02): they hold. -/
import Derived.Test.YtielinebhbhegaaDskIter
namespace Go.Proofs.Ytielinebhbhegaa
open Go.RowKit

def fillTo (k : Nat) : List Nat := List.replicate k 120 ++ List.replicate (512 - k) 0
theorem fillTo_length (k : Nat) (h : k ≤ 512) : (fillTo k).length = 512 := by simp only [fillTo, List.length_append, List.length_replicate]; omega
theorem fillTo_set (k : Nat) (h : k < 512) : (fillTo k).set k 120 = fillTo (k + 1) := by
  unfold fillTo
  rw [List.set_append_right _ _ (by simp)]
  simp only [List.length_replicate, Nat.sub_self]
  obtain ⟨j, hj⟩ : ∃ j, 512 - k = j + 1 := ⟨511 - k, by omega⟩
  rw [hj, List.replicate_succ, List.set_cons_zero, show 512 - (k + 1) = j by omega, List.replicate_succ', List.append_assoc]
  rfl
theorem fillTo_small (k : Nat) : Small (fillTo k) := by
  intro x hx
  unfold fillTo at hx
  rcases List.mem_append.1 hx with h | h
  · rw [List.eq_of_mem_replicate h]; decide
  · rw [List.eq_of_mem_replicate h]; decide
theorem kept5 : keptN 5 = 3 := by decide
theorem torn5 : (tear (secOf (fillTo 512) 0) zsec 5).take 5 = [120, 120, 120, 0, 0] := by decide +kernel

/-- What is read of the sector that was torn. -/
def tornF : Int → List Nat := crashTo (fun _ => zsec) [(1, secOf (fillTo 512) 0)] [5] 1
theorem tornF_at : tornF 1 = tear (secOf (fillTo 512) 0) zsec 5 := by
  simp [tornF, crashTo, upd]
theorem readL_one (f : Int → List Nat) (a : Int) : readL f a 1 = f a := by simp [readL]

set_option maxRecDepth 100000 in
set_option maxHeartbeats 2000000 in
theorem known_ok (w : World) : Calls Try.prog 7 #[] w fun e w' => e = .returned (.bool true) ∧ Below w.heap.size w w' := by
  go_enter Try.func7, Try.ntmps7
  go_wp2_with fail
  refine (new_ok none 0 4 [] w (Holds.nil _ _ _) (by simp) (by omega) (by omega) rfl).mono ?_
  rintro e w1 ⟨p, rfl, hd1, hb1⟩
  have HD1 := Lib.hid hd1.there
  have HB1 := Lib.hid hb1
  clear hd1 hb1
  obtain ⟨N, hN⟩ : ∃ N : Nat, N = 512 := ⟨_, rfl⟩
  have HN := Lib.hid hN
  clear hN
  go_wp2_with (refine wpList_make_bytes ?_ 39 5 (.const (.int .i64 512)) ?_ N ?_ Try.underlying39 infoU8s (by have := HN.out; omega) ?_
               · with_reducible rfl
               · with_reducible rfl
               · rw [HN.out]; rfl)
  have hr0 : Row (w1.alloc (.cells (cellsOf (List.replicate N 0)).toArray 5)) w1.heap.size 5 (cellsOf (fillTo 0)).toArray := by
    have e : fillTo 0 = List.replicate N 0 := by rw [HN.out]; rfl
    rw [e]
    exact Row.new _ _ _
  have hb0 : Below w1.heap.size w1 (w1.alloc (.cells (cellsOf (List.replicate N 0)).toArray 5)) := (Below.refl _ _).alloc (Nat.le_refl _) _
  have HR0 := Lib.hid hr0
  have HB0 := Lib.hid hb0
  clear hr0 hb0
  generalize w1.alloc (.cells (cellsOf (List.replicate N 0)).toArray 5) = W0 at *
  obtain rfl := HN.out
  clear HN
  obtain ⟨g, hg⟩ : ∃ g, w1.heap.size = g := ⟨_, rfl⟩
  rw [hg]
  have HR1 : Hid (Row W0 g 5 (cellsOf (fillTo 0)).toArray) := Lib.hid (by rw [← hg]; exact HR0.out)
  have HG := Lib.hid hg
  clear hg HR0
  go_loopw [4] (fun v4 wr => ∃ k : Nat, k ≤ 512 ∧ v4 = .int .i64 k ∧ Row wr g 5 (cellsOf (fillTo k)).toArray ∧ Below w1.heap.size w1 wr) (fun v4 _ => 512 - (intOf v4).toNat)
  case atStart => exact ⟨0, Nat.zero_le _, rfl, HR1.out, HB0.out⟩
  case round =>
    obtain ⟨k, hk, rfl, hrk, hbk⟩ := hrel
    by_cases hlt : k < 512
    · have hck : wr.cell? ⟨g, k, none⟩ = some (.int .u8 ((fillTo k).getD k 0 : Nat)) := hrk.cell (by rw [List.getElem?_toArray]; exact cellsOf_get _ (by rw [fillTo_length k hk]; exact hlt))
      have hfk : wr.frozen? ⟨g, k, none⟩ = false := hrk.free _
      have HN : Hid (Row (wr.setCell ⟨g, k, none⟩ (.int .u8 120)) g 5 (cellsOf (fillTo (k + 1))).toArray) := Lib.hid (by
        have := hrk.set_ k (.int .u8 ((120 : Nat) : Int))
        rw [cellsOf_set, fillTo_set k hlt] at this
        exact this)
      have HBN : Hid (Below w1.heap.size w1 (wr.setCell ⟨g, k, none⟩ (.int .u8 120))) := Lib.hid (hbk.setCell (p := ⟨g, k, none⟩) (by rw [HG.out]; exact Nat.le_refl _) _)
      generalize (fillTo k).getD k 0 = x at *
      clear hrk hbk
      go_wp2
      exact ⟨⟨k + 1, by omega, by go_num, HN.out, HBN.out⟩, by simp [intOf]; omega⟩
    · obtain rfl : k = 512 := by omega
      have hd := HD1.out.below hbk
      have HRW := Lib.hid hrk
      have HBW := Lib.hid hbk
      obtain ⟨t, ht⟩ := hd
      have hby : Hid (Bytes wr (some ⟨g, 0, none⟩) 512 (fillTo 512)) := Lib.hid (Bytes.of_row' hrk (fillTo_small _) (fillTo_length _ (Nat.le_refl _)))
      have HT := Lib.hid ht
      have hFg : Hid (0 < 512 → ∀ x, some (⟨g, 0, none⟩ : Addr) = some x → ¬ (grow noBlock w x.block ∧ x.block < w1.heap.size)) := Lib.hid fun _ x hx h => by
        injection hx with hx
        subst hx
        have := HG.out
        have h2 := h.2
        simp at h2
        omega
      clear hrk hbk ht
      go_wp2_with fail
      refine (write_ok _ p (newD 4 []) t 1 _ 512 1 512 (fillTo 512) wr HT.out hby.out hFg.out (Nat.le_refl _) (by omega) rfl (by omega) (by simp [newD]) (by simp [newD])).mono ?_
      rintro e w3 ⟨s3, he, hd3, hk3⟩
      have he2 : e = .returned (.int .i64 0) := he
      subst he2
      clear he
      obtain ⟨t3, ht3⟩ := hd3
      have hd3e : wrD { newD 4 [] with fates := (newD 4 []).fates.tail, steps := s3 } 1 (fillTo 512) (stepOf (newD 4 []).fates 1).1 = ⟨4, fun _ => zsec, upd (fun _ => zsec) 1 (secOf (fillTo 512) 0), [(1, secOf (fillTo 512) 0)], [], s3⟩ := rfl
      rw [hd3e] at ht3
      have HD3 : Hid (DiskAt w3 (grow noBlock w) p ⟨4, fun _ => zsec, upd (fun _ => zsec) 1 (secOf (fillTo 512) 0), [(1, secOf (fillTo 512) 0)], [], s3⟩) := Lib.hid ⟨t3, ht3.mono fun k hk => by
        rcases hk with hk | hk
        · exact hk.1
        · exact .inr (Nat.le_trans (Nat.le_trans HB1.out.size HBW.out.size) hk)⟩
      have HB3 : Hid (Below w.heap.size w w3) := Lib.hid ((HB1.out.trans (HBW.out.mono HB1.out.size)).trans (hk3.below (Nat.le_trans HB1.out.size HBW.out.size) fun k hk => by
        rcases hk.1 with h1 | h1
        · exact h1.elim
        · exact h1))
      have HG3 : Hid (Bytes w3 (some ⟨g, 0, none⟩) 512 (fillTo 512)) := Lib.hid (hby.out.kept hk3 hFg.out)
      clear hd3e ht3 hk3 HBW HRW HT hby hFg HR1 HB0
      have hb4 : Below w3.heap.size w3 (w3.alloc (.cells #[.int .i64 5] 3)) := (Below.refl _ _).alloc (Nat.le_refl _) _
      have HP4 : Hid (Holds (w3.alloc (.cells #[.int .i64 5] 3)) (some ⟨w3.heap.size, 0, none⟩) 1 1 (ints [5])) := Lib.hid ⟨rfl, fun _ => ⟨_, 0, rfl, by simp, fun j v hv => by
        rw [Nat.zero_add]
        exact (Row.new w3 _ _).cell (by rw [List.getElem?_toArray]; exact hv)⟩⟩
      have HB4 := Lib.hid hb4
      clear hb4
      go_wp2_with fail
      refine (crash_ok p _ _ 1 [5] _ (HD3.out.below HB4.out) HP4.out (Nat.le_refl _) (by omega) (fun x hx => by simp at hx; omega) (fun x hx => by simp at hx; subst hx; decide) (by simp)).mono ?_
      rintro e w5 ⟨p5, rfl, hd5, hb5⟩
      have HD5 : Hid (DiskAt w5 (grow noBlock (w3.alloc (.cells #[.int .i64 5] 3))) p5 (laidD 4 tornF)) := Lib.hid hd5
      have HB5 : Hid (Below w3.heap.size w3 w5) := Lib.hid (HB4.out.call hb5)
      clear hd5 hb5 HP4 HB4
      go_wp2_with fail
      refine (read_ok p5 (laidD 4 tornF) 1 _ 1 _ HD5.out rfl (by omega) (by simp [laidD])).mono ?_
      rintro e w6 ⟨g6, rfl, hg6, hr6, hb6⟩
      have hr6' : Row w6 g6 5 (cellsOf (tear (secOf (fillTo 512) 0) zsec 5)).toArray := by
        have : (laidD 4 tornF).read = tornF := rfl
        rw [this, readL_one, tornF_at] at hr6
        exact hr6
      have HR6 := Lib.hid hr6'
      have HB6 : Hid (Below w3.heap.size w3 w6) := Lib.hid (HB5.out.call hb6)
      have HD6 := Lib.hid (HD3.out.below HB6.out)
      clear hr6 hr6' hb6 hg6 HD5
      go_wp2_with fail
      refine (read_range p _ 4 1 _ HD6.out (by decide) (by omega) (by rfl)).mono ?_
      rintro e w7 ⟨rfl, rfl⟩
      have hconv : (convert 39 9 (.slice (some ⟨g6, 0, none⟩) 5 512)).run Try.prog w6 = .ok (.string ⟨#[120, 120, 120, 0, 0]⟩) w6 := by
        have hsec : Sec (tear (secOf (fillTo 512) 0) zsec 5) := tear_sec (secOf_sec (fillTo_small _) (fillTo_length _ (Nat.le_refl _)) (by omega)) Sec.zero 5
        have hb := (Bytes.of_row' HR6.out hsec.2 hsec.1).take (k := 5) (by omega)
        rw [torn5] at hb
        exact run_text hb 39 9 5 512 Try.underlying39 Try.underlying5 Try.underlying9
      have HB7 : Hid (Below w.heap.size w w6) := Lib.hid (HB3.out.call HB6.out)
      clear HR6 HB6 HB5 HB3 HD3 HG3 HD1 HB1
      go_wp2_with (first
        | (go_at_call 14; refine (write_arg p _ 0 _ 3 512 _ HD6.out (by decide)).mono ?_; rintro e w' ⟨rfl, rfl⟩)
        | (go_at_call 18; refine (size_ok p _ _ HD6.out).mono ?_; rintro e w' ⟨rfl, rfl⟩))
      go_ret
      exact ⟨rfl, HB7.out⟩
end Go.Proofs.Ytielinebhbhegaa
