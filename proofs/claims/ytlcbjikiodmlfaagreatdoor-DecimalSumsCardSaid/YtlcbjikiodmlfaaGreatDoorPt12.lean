/- Layer 7: sums of words, and how far words are from each other. -/
import Derived.Test.YtlcbjikiodmlfaaGreatDoorPt11
namespace Go.Proofs.YtlcbjikiodmlfaaGreatDoor
open Go.RowKit

theorem up_ok (x y c H : Nat) (W : World) (hx : x < 1000000000) (hy : y < 1000000000) (hc : c ≤ 1) (hr : Row W H 67 #[.int .u64 (c : Int)]) :
    Calls Tryz.prog 41 #[.int .u64 (x : Int), .int .u64 (y : Int), .pointer (some ⟨H, 0, none⟩)] W fun e w' => e = .returned (.int .u64 ((x + y + c) % 1000000000 : Nat)) ∧ w' = W.setCell ⟨H, 0, none⟩ (.int .u64 ((x + y + c) / 1000000000 : Nat)) := by
  have c0 := hr.cell (i := 0) (v := .int .u64 (c : Int)) rfl
  have f0 := hr.free 0
  obtain ⟨s, hs⟩ : ∃ s, s = x + y + c := ⟨_, rfl⟩
  have h1 : (x : Int) + (y : Int) + (c : Int) = (s : Int) := by omega
  have hsl : s < 3000000000 := by omega
  rw [← hs]
  obtain ⟨q, hq⟩ : ∃ q, q = s / 1000000000 := ⟨_, rfl⟩
  obtain ⟨r, hr9⟩ : ∃ r, r = s % 1000000000 := ⟨_, rfl⟩
  have h2 : (s : Int) / 1000000000 = (q : Int) := by omega
  have h3 : (s : Int) % 1000000000 = (r : Int) := by omega
  rw [← hq, ← hr9]
  clear hr hs hq hr9
  go_enter Tryz.func41, Tryz.ntmps41
  go_wp2
  go_ret
  exact ⟨ret_int h3, rfl⟩
theorem down_ok (x y c H : Nat) (W : World) (hx : x ≤ 1000000000) (hy : y < 1000000000) (hc : c ≤ 1) (hle : y + c ≤ 1000000000 + x) (hs2 : 1000000000 + x - y - c < 2000000000) (hr : Row W H 67 #[.int .u64 (c : Int)]) :
    Calls Tryz.prog 42 #[.int .u64 (x : Int), .int .u64 (y : Int), .pointer (some ⟨H, 0, none⟩)] W fun e w' => e = .returned (.int .u64 ((1000000000 + x - y - c) % 1000000000 : Nat)) ∧ w' = W.setCell ⟨H, 0, none⟩ (.int .u64 ((1 - (1000000000 + x - y - c) / 1000000000 : Nat) : Int)) := by
  have c0 := hr.cell (i := 0) (v := .int .u64 (c : Int)) rfl
  have f0 := hr.free 0
  obtain ⟨s, hs⟩ : ∃ s, s = 1000000000 + x - y - c := ⟨_, rfl⟩
  have h0 : (1000000000 : Int) + (x : Int) - (y : Int) = ((1000000000 + x - y : Nat) : Int) := by omega
  have h1 : (1000000000 : Int) + (x : Int) - (y : Int) - (c : Int) = (s : Int) := by omega
  rw [← hs] at hs2 ⊢
  obtain ⟨q, hq⟩ : ∃ q, q = s / 1000000000 := ⟨_, rfl⟩
  obtain ⟨r, hr9⟩ : ∃ r, r = s % 1000000000 := ⟨_, rfl⟩
  obtain ⟨k, hk⟩ : ∃ k, k = 1 - q := ⟨_, rfl⟩
  have h2 : (s : Int) / 1000000000 = (q : Int) := by omega
  have h3 : (s : Int) % 1000000000 = (r : Int) := by omega
  have h4 : (1 : Int) - (q : Int) = (k : Int) := by omega
  rw [← hq, ← hr9, ← hk]
  clear hr hs hq hr9 hk h0
  go_enter Tryz.func42, Tryz.ntmps42
  go_wp2
  go_ret
  exact ⟨ret_int h3, rfl⟩
section
variable {P : Program} {ops : Array Oper} {rest : List Oper} {o : Oper} {a : Act} {w : World} {Q : Exit → Act → World → Prop}
/-- 'make([]uint64, 0, n)'. -/
theorem wpList_make_u64c (hgd : o.guard = none) (t e : TypeId) (x : Operand) (ho : o.op = .makeSlice t (.const (.int .i64 0)) x) (n : Nat) (hx : a.eval x = .int .i64 n) (ht : P.underlying t = some (.slice e))
    (hi : (P.info? e).map (fun i => (i.zero, i.size, i.bytes)) = some (some (.int .u64 0), 1, 8)) (hn : n ≤ 17592186044416)
    (h : wpList P ops Q rest (a.put o.dst (.slice (some ⟨w.heap.size, 0, none⟩) 0 n)) (w.alloc (.cells (u64s (List.replicate n 0)).toArray e))) : wpList P ops Q (o :: rest) a w := by
  obtain ⟨i, hi, hz, hs, hb⟩ := info_parts hi
  have hr := run_make (P := P) w t e i _ ht hi hz .i64 .i64 0 n (by omega) (by omega) (by rw [hb]; omega) (by omega)
  rw [hs, Nat.mul_one] at hr
  have e1 : madeCells (Value.int .u64 0).cells n = (u64s (List.replicate n 0)).toArray := by
    apply Array.toList_inj.1
    have := toList_madeCells_one (.int .u64 0) n
    simp only [u64s, List.map_replicate]
    exact this
  simp only [Int.toNat_natCast] at hr
  rw [e1] at hr
  have hev : a.eval (.const (.int .i64 0)) = .int .i64 0 := rfl
  refine wpList_plain hgd fun K hK => ?_
  unfold Oper.wp
  simp [execOp, ho, hx, hev, hr, Result.andThen]
  exact hK _ _ h
end
theorem Lies.made0 (w : World) (F : Nat → Prop) (n : Nat) (hn : n ≤ maxLen) (hF : F w.heap.size) : Lies (w.alloc (.cells (u64s (List.replicate n 0)).toArray 67)) F 67 1 (.slice (some ⟨w.heap.size, 0, none⟩) 0 n) 0 [] :=
  ⟨by simp, .inr ⟨w.heap.size, 0, n, (u64s (List.replicate n 0)).toArray, rfl, hF, heap_alloc_new w _, by omega, hn, by simp [u64s_length], by simp⟩⟩
abbrev KeptCell (g : Nat) (w w' : World) : Prop := Kept (· = g) w w'
/-- What joined hands back. -/
def JoinPost (w : World) (n : Nat) (t : Bool) (e : Ending) (w' : World) : Prop := ∃ v, e = .returned (.tuple #[v, .bool t]) ∧ Wds w' v (wds n) ∧ Below w.heap.size w w'
/-- It lies in a block from B on (if it has anything). -/
def From (B : Nat) (v : Value) : Prop := ∀ b o n c, v = .slice (some ⟨b, o, none⟩) n c → 0 < n → B ≤ b
def JoinF (w : World) (n : Nat) (t : Bool) (e : Ending) (w' : World) : Prop := ∃ v, e = .returned (.tuple #[v, .bool t]) ∧ Wds w' v (wds n) ∧ Below w.heap.size w w' ∧ From w.heap.size v
theorem JoinF.post {w : World} {n : Nat} {t : Bool} {e : Ending} {w' : World} (h : JoinF w n t e w') : JoinPost w n t e w' := by
  obtain ⟨v, h1, h2, h3, _⟩ := h
  exact ⟨v, h1, h2, h3⟩
theorem Lies.from_ {w : World} {F : Nat → Prop} {e : TypeId} {n k c B : Nat} {A : Option Addr} {xs : List Value} (h : Lies w F e 1 (.slice A n c) n xs) (hF : ∀ g, F g → B ≤ g) (hk : k ≤ n) : From B (.slice A k c) := by
  intro b o n' c' e' hp
  injection e' with e1 e2 e3
  obtain ⟨g, off, cap, e9, hg, _⟩ := h.cells (by omega)
  injection e9 with e91 _ _
  rw [e1] at e91
  injection e91 with e91
  injection e91 with e91 _
  subst e91
  exact hF _ hg

set_option maxRecDepth 100000 in
set_option maxHeartbeats 4000000 in
theorem joined_up (A B : Option Addr) (c d N M : Nat) (a b : List Nat) (w : World) (hN : a.length = N) (hM : b.length = M) (ha : Wds w (.slice A N c) a) (hb : Wds w (.slice B M d) b) (hn : N ≤ 1000000) (hn2 : M ≤ 1000000) (hwa : Words a) (hwb : Words b) :
    Calls Tryz.prog 19 #[.slice A N c, .slice B M d, .bool false] w (JoinF w (wval a + wval b) false) := by
  have HN := Lib.hid hN
  have HM := Lib.hid hM
  have hmax : max (N : Int) (M : Int) + 1 = ((max N M + 1 : Nat) : Int) := by omega
  obtain ⟨T, hTT⟩ : ∃ T, T = max N M + 1 := ⟨_, rfl⟩
  rw [← hTT] at hmax
  have hT9 : T ≤ 1000001 := by omega
  have hmax2 : max (N : Int) (M : Int) = (T : Int) - 1 := by omega
  have hmax3 : max (M : Int) (N : Int) = (T : Int) - 1 := by omega
  have HTT : Hid (max a.length b.length + 1 = T) := Lib.hid (by rw [hN, hM, hTT])
  have HTT2 : Hid (max b.length a.length + 1 = T) := Lib.hid (by rw [hN, hM, hTT]; omega)
  have HA := Lib.hid ha
  have HB := Lib.hid hb
  have HWA := Lib.hid hwa
  have HWB := Lib.hid hwb
  clear hwa hwb
  obtain ⟨w0, hw0⟩ : ∃ w0, w0 = w.alloc (.cells #[.int .u64 0] 67) := ⟨_, rfl⟩
  have hb0 : Below w.heap.size w w0 := by subst hw0; exact (Below.refl _ _).alloc (Nat.le_refl _) _
  have hr0 : Row w0 w.heap.size 67 #[.int .u64 0] := by subst hw0; exact Row.new _ _ _
  have hz0 : w0.heap.size = w.heap.size + 1 := by subst hw0; simp
  have HB0 := Lib.hid hb0
  have HR0 := Lib.hid hr0
  have HZ0 := Lib.hid hz0
  clear hN hM ha hb hTT hb0 hr0 hz0
  go_enter Tryz.func19, Tryz.ntmps19
  go_upto_region 2 with fail
  rw [← hw0]
  clear hw0

  go_wp2_with (refine wpList_make_u64c ?_ 46 67 (.tmp 35) ?_ T ?_ Tryz.underlying46 infoU64 (by omega) ?_
               · with_reducible rfl
               · with_reducible rfl
               · exact congrArg (Value.int .i64) (by omega))
  have hmk : Below w0.heap.size w0 (w0.alloc (.cells (u64s (List.replicate T 0)).toArray 67)) := (Below.refl _ _).alloc (Nat.le_refl _) _
  have HL1 := Lib.hid (Lies.made0 w0 (fun g => w.heap.size + 1 ≤ g) T (by unfold maxLen; omega) (by have := HZ0.out; show w.heap.size + 1 ≤ w0.heap.size; omega))
  have HR1 := Lib.hid (HR0.out.call hmk)
  have HB1 := Lib.hid (HB0.out.call hmk)
  clear hmk
  generalize w0.alloc (.cells (u64s (List.replicate T 0)).toArray 67) = w1 at *
  go_wp2_with fail
  go_loopw [14, 38] (fun v14 v38 wr => ∃ i out cc, i ≤ T ∧ v38 = .int .i64 (i : Nat) ∧ Hid (UpAt a b i out cc) ∧ cc ≤ 1 ∧ out.length ≤ 1000001 ∧ Hid (Lies wr (fun g => w.heap.size + 1 ≤ g) 67 1 v14 out.length (u64s out)) ∧ Hid (Row wr w.heap.size 67 #[.int .u64 (cc : Int)]) ∧ Hid (Below w.heap.size w wr)) (fun _ v38 _ => T - (intOf v38).toNat)
  case atStart => exact ⟨0, [], 0, Nat.zero_le _, rfl, Lib.hid (UpAt.zero _ _), Nat.zero_le _, by simp, HL1, HR1, HB1⟩
  case round =>
    obtain ⟨i, out, cc, hi, rfl, HST, hcc, hol, HL, HR, HBW⟩ := hrel
    obtain ⟨A2, c2, rfl, _, _⟩ := HL.out.form
    by_cases hlt : i < T
    · have HWX := Lib.hid (HA.out.below HBW.out)
      have HWY := Lib.hid (HB.out.below HBW.out)
      go_wp2_with fail
      refine (wordAt_ok _ a i _ HWX.out (by omega)).mono ?_
      rintro e wr2 ⟨rfl, rfl⟩
      go_wp2_with fail
      refine (wordAt_ok _ b i _ HWY.out (by omega)).mono ?_
      rintro e wr2 ⟨rfl, rfl⟩
      go_wp2_with fail
      have HSTEP0 := HST.out.step HWA.out HWB.out
      obtain ⟨D, hD⟩ : ∃ D, D = (wat a i + wat b i + cc) % 1000000000 := ⟨_, rfl⟩
      obtain ⟨C, hC⟩ : ∃ C, C = (wat a i + wat b i + cc) / 1000000000 := ⟨_, rfl⟩
      have hcl := up_ok (wat a i) (wat b i) cc w.heap.size wr (wat_lt HWA.out i) (wat_lt HWB.out i) hcc HR.out
      rw [← hD, ← hC] at HSTEP0 hcl
      have HSTEP := Lib.hid HSTEP0
      clear HSTEP0 hD hC
      refine hcl.mono ?_
      rintro e wr2 ⟨rfl, rfl⟩
      clear hcl
      have hwc : KeptCell w.heap.size wr (wr.setCell ⟨w.heap.size, 0, none⟩ (.int .u64 (C : Int))) := Kept.cell _ _ _ _
      have HR2 : Hid (Row (wr.setCell ⟨w.heap.size, 0, none⟩ (.int .u64 (C : Int))) w.heap.size 67 #[.int .u64 (C : Int)]) := Lib.hid (by simpa using HR.out.set_ 0 (.int .u64 (C : Int)))
      have HL2 : Hid (Lies (wr.setCell ⟨w.heap.size, 0, none⟩ (.int .u64 (C : Int))) (fun g => w.heap.size + 1 ≤ g) 67 1 (.slice A2 out.length c2) out.length (u64s out)) := Lib.hid (HL.out.kept hwc (fun k hk h8 => by omega))
      have HB2 : Hid (Below w.heap.size w (wr.setCell ⟨w.heap.size, 0, none⟩ (.int .u64 (C : Int)))) := Lib.hid (HBW.out.setCell (p := ⟨w.heap.size, 0, none⟩) (Nat.le_refl _) _)
      clear hwc HR HL HBW HWX HWY HST
      generalize wr.setCell ⟨w.heap.size, 0, none⟩ (.int .u64 (C : Int)) = w3 at *
      have hb5 : Below w3.heap.size w3 (w3.alloc (.cells #[.int .u64 (D : Int)] 67)) := (Below.refl _ _).alloc (Nat.le_refl _) _
      have HL5 := Lib.hid (Lies.below HL2.out hb5)
      have HR5 := Lib.hid (HR2.out.call hb5)
      have HB5 := Lib.hid (HB2.out.call hb5)
      have hsrc : Hid (Source (w3.alloc (.cells #[.int .u64 (D : Int)] 67)) (some ⟨w3.heap.size, 0, none⟩) 1 [.int .u64 (D : Int)]) := Lib.hid (.inr ⟨_, rfl, World.news_of_block (w := w3.alloc (.cells #[.int .u64 (D : Int)] 67)) (heap_alloc_new w3 _)⟩)
      clear hb5 HL2 HR2 HB2
      go_wp2_with (
           at_builtin
           refine wpList_append_any ?_ (fun g => w.heap.size + 1 ≤ g) (.tmp 41) (.tmp 50) 46 ?_ 67 1 8 (.int .u64 0) Tryz.underlying46 infoU64 rfl (by decide) (.slice A2 out.length c2) out.length (u64s out) ?_ HL5.out _ 1 1 [.int .u64 (D : Int)] ?_ rfl hsrc.out ?_ (by omega) (by decide) ?_
           · with_reducible rfl
           · with_reducible rfl
           · rfl
           · rfl
           · intro u hu; simp at hu; subst hu; rfl
           intro v' w6 hl6 hk6
           have hsz : w.heap.size + 1 ≤ (w3.alloc (.cells #[.int .u64 (D : Int)] 67)).heap.size := HR5.out.lt
           have HL6 : Hid (Lies w6 (fun g => w.heap.size + 1 ≤ g) 67 1 v' (out ++ [D]).length (u64s (out ++ [D]))) := Lib.hid (by
             rw [u64s_append, List.length_append, List.length_singleton]
             exact hl6.mono fun y hy => by
               rcases hy with hy | hy
               · exact hy
               · exact Nat.le_trans hsz hy)
           have HR6 := Lib.hid (HR5.out.kept hk6 (fun h9 => by have := h9.1; omega))
           have HB6 := Lib.hid (HB5.out.trans (hk6.below HB5.out.size fun y hy => by have := hy.1; omega))
           clear hl6 hk6 hsz)
      exact ⟨⟨i + 1, out ++ [D], C, by omega, by go_num, HSTEP.out, HSTEP.out.kept, by rw [HSTEP.out.len]; omega, HL6, HR6, HB6⟩, by simp [intOf]; omega⟩
    · obtain rfl : i = T := by omega
      have HD : Hid (crop out = wds (wval a + wval b)) := Lib.hid (HST.out.done HWA.out HWB.out HTT.out)
      have HW := Lib.hid (show Wds wr (.slice A2 out.length c2) out from by
        obtain ⟨A9, c9, e9, h91, h92, h9⟩ := HL.out.holds
        injection e9 with e1 e2 e3
        subst e1 e3
        exact ⟨fun j => by have := wat_lt HST.out.words j; omega, A2, c2, rfl, h91, h92, h9⟩)
      have HFR : Hid (From w.heap.size (.slice A2 (crop out).length c2)) := Lib.hid (HL.out.from_ (fun g hg => by omega) (crop_length_le out))
      clear HL HR HST
      go_wp2_with fail
      refine (cropped_ok A2 out.length c2 out wr HW.out).mono ?_
      rintro e w9 ⟨rfl, rfl⟩
      go_wp2
      refine bodyPost_ret_by (results_tmp2 rfl _ _ _) rfl ?_
      refine ⟨_, rfl, ?_, HBW.out, HFR.out⟩
      have h9 := HW.out.take (crop_length_le out)
      rw [← crop_eq_take, HD.out] at h9
      rw [HD.out]
      exact h9

set_option maxRecDepth 100000 in
set_option maxHeartbeats 4000000 in
theorem joined_down (A B : Option Addr) (c d N M : Nat) (a b : List Nat) (w : World) (hN : a.length = N) (hM : b.length = M) (ha : Wds w (.slice A N c) a) (hb : Wds w (.slice B M d) b) (hd1 : M ≤ d) (hn : N ≤ 1000000) (hn2 : M ≤ 1000000) (hls : lessL a b = false) (ho : Over a b) :
    Calls Tryz.prog 19 #[.slice A N c, .slice B M d, .bool true] w (JoinF w (wval a - wval b) false) := by
  have HN := Lib.hid hN
  have HM := Lib.hid hM
  have hmax : max (N : Int) (M : Int) + 1 = ((max N M + 1 : Nat) : Int) := by omega
  obtain ⟨T, hTT⟩ : ∃ T, T = max N M + 1 := ⟨_, rfl⟩
  rw [← hTT] at hmax
  have hT9 : T ≤ 1000001 := by omega
  have hmax2 : max (N : Int) (M : Int) = (T : Int) - 1 := by omega
  have hmax3 : max (M : Int) (N : Int) = (T : Int) - 1 := by omega
  have HTT : Hid (max a.length b.length + 1 = T) := Lib.hid (by rw [hN, hM, hTT])
  have HTT2 : Hid (max b.length a.length + 1 = T) := Lib.hid (by rw [hN, hM, hTT]; omega)
  have HA := Lib.hid ha
  have HB := Lib.hid hb
  have HLS := Lib.hid hls
  have HO := Lib.hid ho
  clear hls ho
  obtain ⟨w0, hw0⟩ : ∃ w0, w0 = w.alloc (.cells #[.int .u64 0] 67) := ⟨_, rfl⟩
  have hb0 : Below w.heap.size w w0 := by subst hw0; exact (Below.refl _ _).alloc (Nat.le_refl _) _
  have hr0 : Row w0 w.heap.size 67 #[.int .u64 0] := by subst hw0; exact Row.new _ _ _
  have hz0 : w0.heap.size = w.heap.size + 1 := by subst hw0; simp
  have HB0 := Lib.hid hb0
  have HR0 := Lib.hid hr0
  have HZ0 := Lib.hid hz0
  clear hN hM ha hb hTT hb0 hr0 hz0
  go_enter Tryz.func19, Tryz.ntmps19
  go_upto_region 2 with fail
  rw [← hw0]
  clear hw0
  go_wp2_with fail
  refine (less_at A B c d N M a b w0 HN.out HM.out (HA.out.below HB0.out) (HB.out.below HB0.out) hd1 (by omega) (by omega)).mono ?_
  rintro e w8 ⟨rfl, hb8⟩
  rw [HLS.out]
  have HB8 := Lib.hid (HB0.out.call hb8)
  have HR8 := Lib.hid (HR0.out.call hb8)
  have HZ8 := Lib.hid (show w.heap.size + 1 ≤ w8.heap.size by have := HZ0.out; have := hb8.size; omega)
  clear hb8 HB0 HR0 HZ0
  go_wp2_with (refine wpList_make_u64c ?_ 46 67 (.tmp 35) ?_ T ?_ Tryz.underlying46 infoU64 (by omega) ?_
               · with_reducible rfl
               · with_reducible rfl
               · exact congrArg (Value.int .i64) (by omega))
  have hmk : Below w8.heap.size w8 (w8.alloc (.cells (u64s (List.replicate T 0)).toArray 67)) := (Below.refl _ _).alloc (Nat.le_refl _) _
  have HL1 := Lib.hid (Lies.made0 w8 (fun g => w.heap.size + 1 ≤ g) T (by unfold maxLen; omega) (by have := HZ8.out; show w.heap.size + 1 ≤ w8.heap.size; omega))
  have HR1 := Lib.hid (HR8.out.call hmk)
  have HB1 := Lib.hid (HB8.out.call hmk)
  clear hmk
  generalize w8.alloc (.cells (u64s (List.replicate T 0)).toArray 67) = w1 at *
  go_wp2_with fail
  go_loopw [14, 38] (fun v14 v38 wr => ∃ i out cc, i ≤ T ∧ v38 = .int .i64 (i : Nat) ∧ Hid (DownAt a b i out cc) ∧ cc ≤ 1 ∧ out.length ≤ 1000001 ∧ Hid (Lies wr (fun g => w.heap.size + 1 ≤ g) 67 1 v14 out.length (u64s out)) ∧ Hid (Row wr w.heap.size 67 #[.int .u64 (cc : Int)]) ∧ Hid (Below w.heap.size w wr)) (fun _ v38 _ => T - (intOf v38).toNat)
  case atStart => exact ⟨0, [], 0, Nat.zero_le _, rfl, Lib.hid (DownAt.zero _ _), Nat.zero_le _, by simp, HL1, HR1, HB1⟩
  case round =>
    obtain ⟨i, out, cc, hi, rfl, HST, hcc, hol, HL, HR, HBW⟩ := hrel
    obtain ⟨A2, c2, rfl, _, _⟩ := HL.out.form
    by_cases hlt : i < T
    · have HWX := Lib.hid (HA.out.below HBW.out)
      have HWY := Lib.hid (HB.out.below HBW.out)
      go_wp2_with fail
      refine (wordAt_ok _ a i _ HWX.out (by omega)).mono ?_
      rintro e wr2 ⟨rfl, rfl⟩
      go_wp2_with fail
      refine (wordAt_ok _ b i _ HWY.out (by omega)).mono ?_
      rintro e wr2 ⟨rfl, rfl⟩
      go_wp2_with fail
      have HSTEP0 := HST.out.step HO.out
      obtain ⟨hsm, hle⟩ := HST.out.small HO.out
      obtain ⟨D, hD⟩ : ∃ D, D = (1000000000 + wat a i - wat b i - cc) % 1000000000 := ⟨_, rfl⟩
      obtain ⟨C, hC⟩ : ∃ C, C = 1 - (1000000000 + wat a i - wat b i - cc) / 1000000000 := ⟨_, rfl⟩
      have hcl := down_ok (wat a i) (wat b i) cc w.heap.size wr (HO.out.le i) (wat_lt HO.out.words i) hcc (by omega) (by omega) HR.out
      rw [← hD, ← hC] at HSTEP0 hcl
      have HSTEP := Lib.hid HSTEP0
      clear HSTEP0 hD hC hsm hle
      refine hcl.mono ?_
      rintro e wr2 ⟨rfl, rfl⟩
      clear hcl
      have hwc : KeptCell w.heap.size wr (wr.setCell ⟨w.heap.size, 0, none⟩ (.int .u64 (C : Int))) := Kept.cell _ _ _ _
      have HR2 : Hid (Row (wr.setCell ⟨w.heap.size, 0, none⟩ (.int .u64 (C : Int))) w.heap.size 67 #[.int .u64 (C : Int)]) := Lib.hid (by simpa using HR.out.set_ 0 (.int .u64 (C : Int)))
      have HL2 : Hid (Lies (wr.setCell ⟨w.heap.size, 0, none⟩ (.int .u64 (C : Int))) (fun g => w.heap.size + 1 ≤ g) 67 1 (.slice A2 out.length c2) out.length (u64s out)) := Lib.hid (HL.out.kept hwc (fun k hk h8 => by omega))
      have HB2 : Hid (Below w.heap.size w (wr.setCell ⟨w.heap.size, 0, none⟩ (.int .u64 (C : Int)))) := Lib.hid (HBW.out.setCell (p := ⟨w.heap.size, 0, none⟩) (Nat.le_refl _) _)
      clear hwc HR HL HBW HWX HWY HST
      generalize wr.setCell ⟨w.heap.size, 0, none⟩ (.int .u64 (C : Int)) = w3 at *
      have hb5 : Below w3.heap.size w3 (w3.alloc (.cells #[.int .u64 (D : Int)] 67)) := (Below.refl _ _).alloc (Nat.le_refl _) _
      have HL5 := Lib.hid (Lies.below HL2.out hb5)
      have HR5 := Lib.hid (HR2.out.call hb5)
      have HB5 := Lib.hid (HB2.out.call hb5)
      have hsrc : Hid (Source (w3.alloc (.cells #[.int .u64 (D : Int)] 67)) (some ⟨w3.heap.size, 0, none⟩) 1 [.int .u64 (D : Int)]) := Lib.hid (.inr ⟨_, rfl, World.news_of_block (w := w3.alloc (.cells #[.int .u64 (D : Int)] 67)) (heap_alloc_new w3 _)⟩)
      clear hb5 HL2 HR2 HB2
      go_wp2_with (
           at_builtin
           refine wpList_append_any ?_ (fun g => w.heap.size + 1 ≤ g) (.tmp 41) (.tmp 50) 46 ?_ 67 1 8 (.int .u64 0) Tryz.underlying46 infoU64 rfl (by decide) (.slice A2 out.length c2) out.length (u64s out) ?_ HL5.out _ 1 1 [.int .u64 (D : Int)] ?_ rfl hsrc.out ?_ (by omega) (by decide) ?_
           · with_reducible rfl
           · with_reducible rfl
           · rfl
           · rfl
           · intro u hu; simp at hu; subst hu; rfl
           intro v' w6 hl6 hk6
           have hsz : w.heap.size + 1 ≤ (w3.alloc (.cells #[.int .u64 (D : Int)] 67)).heap.size := HR5.out.lt
           have HL6 : Hid (Lies w6 (fun g => w.heap.size + 1 ≤ g) 67 1 v' (out ++ [D]).length (u64s (out ++ [D]))) := Lib.hid (by
             rw [u64s_append, List.length_append, List.length_singleton]
             exact hl6.mono fun y hy => by
               rcases hy with hy | hy
               · exact hy
               · exact Nat.le_trans hsz hy)
           have HR6 := Lib.hid (HR5.out.kept hk6 (fun h9 => by have := h9.1; omega))
           have HB6 := Lib.hid (HB5.out.trans (hk6.below HB5.out.size fun y hy => by have := hy.1; omega))
           clear hl6 hk6 hsz)
      exact ⟨⟨i + 1, out ++ [D], C, by omega, by go_num, HSTEP.out, HSTEP.out.kept, by rw [HSTEP.out.len]; omega, HL6, HR6, HB6⟩, by simp [intOf]; omega⟩
    · obtain rfl : i = T := by omega
      have HD : Hid (crop out = wds (wval a - wval b)) := Lib.hid (HST.out.done HO.out HTT.out)
      have HW := Lib.hid (show Wds wr (.slice A2 out.length c2) out from by
        obtain ⟨A9, c9, e9, h91, h92, h9⟩ := HL.out.holds
        injection e9 with e1 e2 e3
        subst e1 e3
        exact ⟨fun j => by have := wat_lt HST.out.words j; omega, A2, c2, rfl, h91, h92, h9⟩)
      have HFR : Hid (From w.heap.size (.slice A2 (crop out).length c2)) := Lib.hid (HL.out.from_ (fun g hg => by omega) (crop_length_le out))
      clear HL HR HST
      go_wp2_with fail
      refine (cropped_ok A2 out.length c2 out wr HW.out).mono ?_
      rintro e w9 ⟨rfl, rfl⟩
      go_wp2
      refine bodyPost_ret_by (results_tmp2 rfl _ _ _) rfl ?_
      refine ⟨_, rfl, ?_, HBW.out, HFR.out⟩
      have h9 := HW.out.take (crop_length_le out)
      rw [← crop_eq_take, HD.out] at h9
      rw [HD.out]
      exact h9

set_option maxRecDepth 100000 in
set_option maxHeartbeats 4000000 in
theorem joined_swap (A B : Option Addr) (c d N M : Nat) (a b : List Nat) (w : World) (hN : a.length = N) (hM : b.length = M) (ha : Wds w (.slice A N c) a) (hb : Wds w (.slice B M d) b) (hd1 : M ≤ d) (hn : N ≤ 1000000) (hn2 : M ≤ 1000000) (hls : lessL a b = true) (ho : Over b a) :
    Calls Tryz.prog 19 #[.slice A N c, .slice B M d, .bool true] w (JoinF w (wval b - wval a) true) := by
  have HN := Lib.hid hN
  have HM := Lib.hid hM
  have hmax : max (N : Int) (M : Int) + 1 = ((max N M + 1 : Nat) : Int) := by omega
  obtain ⟨T, hTT⟩ : ∃ T, T = max N M + 1 := ⟨_, rfl⟩
  rw [← hTT] at hmax
  have hT9 : T ≤ 1000001 := by omega
  have hmax2 : max (N : Int) (M : Int) = (T : Int) - 1 := by omega
  have hmax3 : max (M : Int) (N : Int) = (T : Int) - 1 := by omega
  have HTT : Hid (max a.length b.length + 1 = T) := Lib.hid (by rw [hN, hM, hTT])
  have HTT2 : Hid (max b.length a.length + 1 = T) := Lib.hid (by rw [hN, hM, hTT]; omega)
  have HA := Lib.hid ha
  have HB := Lib.hid hb
  have HLS := Lib.hid hls
  have HO := Lib.hid ho
  clear hls ho
  obtain ⟨w0, hw0⟩ : ∃ w0, w0 = w.alloc (.cells #[.int .u64 0] 67) := ⟨_, rfl⟩
  have hb0 : Below w.heap.size w w0 := by subst hw0; exact (Below.refl _ _).alloc (Nat.le_refl _) _
  have hr0 : Row w0 w.heap.size 67 #[.int .u64 0] := by subst hw0; exact Row.new _ _ _
  have hz0 : w0.heap.size = w.heap.size + 1 := by subst hw0; simp
  have HB0 := Lib.hid hb0
  have HR0 := Lib.hid hr0
  have HZ0 := Lib.hid hz0
  clear hN hM ha hb hTT hb0 hr0 hz0
  go_enter Tryz.func19, Tryz.ntmps19
  go_upto_region 2 with fail
  rw [← hw0]
  clear hw0
  go_wp2_with fail
  refine (less_at A B c d N M a b w0 HN.out HM.out (HA.out.below HB0.out) (HB.out.below HB0.out) hd1 (by omega) (by omega)).mono ?_
  rintro e w8 ⟨rfl, hb8⟩
  rw [HLS.out]
  have HB8 := Lib.hid (HB0.out.call hb8)
  have HR8 := Lib.hid (HR0.out.call hb8)
  have HZ8 := Lib.hid (show w.heap.size + 1 ≤ w8.heap.size by have := HZ0.out; have := hb8.size; omega)
  clear hb8 HB0 HR0 HZ0
  go_wp2_with (refine wpList_make_u64c ?_ 46 67 (.tmp 35) ?_ T ?_ Tryz.underlying46 infoU64 (by omega) ?_
               · with_reducible rfl
               · with_reducible rfl
               · exact congrArg (Value.int .i64) (by omega))
  have hmk : Below w8.heap.size w8 (w8.alloc (.cells (u64s (List.replicate T 0)).toArray 67)) := (Below.refl _ _).alloc (Nat.le_refl _) _
  have HL1 := Lib.hid (Lies.made0 w8 (fun g => w.heap.size + 1 ≤ g) T (by unfold maxLen; omega) (by have := HZ8.out; show w.heap.size + 1 ≤ w8.heap.size; omega))
  have HR1 := Lib.hid (HR8.out.call hmk)
  have HB1 := Lib.hid (HB8.out.call hmk)
  clear hmk
  generalize w8.alloc (.cells (u64s (List.replicate T 0)).toArray 67) = w1 at *
  go_wp2_with fail
  go_loopw [14, 38] (fun v14 v38 wr => ∃ i out cc, i ≤ T ∧ v38 = .int .i64 (i : Nat) ∧ Hid (DownAt b a i out cc) ∧ cc ≤ 1 ∧ out.length ≤ 1000001 ∧ Hid (Lies wr (fun g => w.heap.size + 1 ≤ g) 67 1 v14 out.length (u64s out)) ∧ Hid (Row wr w.heap.size 67 #[.int .u64 (cc : Int)]) ∧ Hid (Below w.heap.size w wr)) (fun _ v38 _ => T - (intOf v38).toNat)
  case atStart => exact ⟨0, [], 0, Nat.zero_le _, rfl, Lib.hid (DownAt.zero _ _), Nat.zero_le _, by simp, HL1, HR1, HB1⟩
  case round =>
    obtain ⟨i, out, cc, hi, rfl, HST, hcc, hol, HL, HR, HBW⟩ := hrel
    obtain ⟨A2, c2, rfl, _, _⟩ := HL.out.form
    by_cases hlt : i < T
    · have HWX := Lib.hid (HB.out.below HBW.out)
      have HWY := Lib.hid (HA.out.below HBW.out)
      go_wp2_with fail
      refine (wordAt_ok _ b i _ HWX.out (by omega)).mono ?_
      rintro e wr2 ⟨rfl, rfl⟩
      go_wp2_with fail
      refine (wordAt_ok _ a i _ HWY.out (by omega)).mono ?_
      rintro e wr2 ⟨rfl, rfl⟩
      go_wp2_with fail
      have HSTEP0 := HST.out.step HO.out
      obtain ⟨hsm, hle⟩ := HST.out.small HO.out
      obtain ⟨D, hD⟩ : ∃ D, D = (1000000000 + wat b i - wat a i - cc) % 1000000000 := ⟨_, rfl⟩
      obtain ⟨C, hC⟩ : ∃ C, C = 1 - (1000000000 + wat b i - wat a i - cc) / 1000000000 := ⟨_, rfl⟩
      have hcl := down_ok (wat b i) (wat a i) cc w.heap.size wr (HO.out.le i) (wat_lt HO.out.words i) hcc (by omega) (by omega) HR.out
      rw [← hD, ← hC] at HSTEP0 hcl
      have HSTEP := Lib.hid HSTEP0
      clear HSTEP0 hD hC hsm hle
      refine hcl.mono ?_
      rintro e wr2 ⟨rfl, rfl⟩
      clear hcl
      have hwc : KeptCell w.heap.size wr (wr.setCell ⟨w.heap.size, 0, none⟩ (.int .u64 (C : Int))) := Kept.cell _ _ _ _
      have HR2 : Hid (Row (wr.setCell ⟨w.heap.size, 0, none⟩ (.int .u64 (C : Int))) w.heap.size 67 #[.int .u64 (C : Int)]) := Lib.hid (by simpa using HR.out.set_ 0 (.int .u64 (C : Int)))
      have HL2 : Hid (Lies (wr.setCell ⟨w.heap.size, 0, none⟩ (.int .u64 (C : Int))) (fun g => w.heap.size + 1 ≤ g) 67 1 (.slice A2 out.length c2) out.length (u64s out)) := Lib.hid (HL.out.kept hwc (fun k hk h8 => by omega))
      have HB2 : Hid (Below w.heap.size w (wr.setCell ⟨w.heap.size, 0, none⟩ (.int .u64 (C : Int)))) := Lib.hid (HBW.out.setCell (p := ⟨w.heap.size, 0, none⟩) (Nat.le_refl _) _)
      clear hwc HR HL HBW HWX HWY HST
      generalize wr.setCell ⟨w.heap.size, 0, none⟩ (.int .u64 (C : Int)) = w3 at *
      have hb5 : Below w3.heap.size w3 (w3.alloc (.cells #[.int .u64 (D : Int)] 67)) := (Below.refl _ _).alloc (Nat.le_refl _) _
      have HL5 := Lib.hid (Lies.below HL2.out hb5)
      have HR5 := Lib.hid (HR2.out.call hb5)
      have HB5 := Lib.hid (HB2.out.call hb5)
      have hsrc : Hid (Source (w3.alloc (.cells #[.int .u64 (D : Int)] 67)) (some ⟨w3.heap.size, 0, none⟩) 1 [.int .u64 (D : Int)]) := Lib.hid (.inr ⟨_, rfl, World.news_of_block (w := w3.alloc (.cells #[.int .u64 (D : Int)] 67)) (heap_alloc_new w3 _)⟩)
      clear hb5 HL2 HR2 HB2
      go_wp2_with (
           at_builtin
           refine wpList_append_any ?_ (fun g => w.heap.size + 1 ≤ g) (.tmp 41) (.tmp 50) 46 ?_ 67 1 8 (.int .u64 0) Tryz.underlying46 infoU64 rfl (by decide) (.slice A2 out.length c2) out.length (u64s out) ?_ HL5.out _ 1 1 [.int .u64 (D : Int)] ?_ rfl hsrc.out ?_ (by omega) (by decide) ?_
           · with_reducible rfl
           · with_reducible rfl
           · rfl
           · rfl
           · intro u hu; simp at hu; subst hu; rfl
           intro v' w6 hl6 hk6
           have hsz : w.heap.size + 1 ≤ (w3.alloc (.cells #[.int .u64 (D : Int)] 67)).heap.size := HR5.out.lt
           have HL6 : Hid (Lies w6 (fun g => w.heap.size + 1 ≤ g) 67 1 v' (out ++ [D]).length (u64s (out ++ [D]))) := Lib.hid (by
             rw [u64s_append, List.length_append, List.length_singleton]
             exact hl6.mono fun y hy => by
               rcases hy with hy | hy
               · exact hy
               · exact Nat.le_trans hsz hy)
           have HR6 := Lib.hid (HR5.out.kept hk6 (fun h9 => by have := h9.1; omega))
           have HB6 := Lib.hid (HB5.out.trans (hk6.below HB5.out.size fun y hy => by have := hy.1; omega))
           clear hl6 hk6 hsz)
      exact ⟨⟨i + 1, out ++ [D], C, by omega, by go_num, HSTEP.out, HSTEP.out.kept, by rw [HSTEP.out.len]; omega, HL6, HR6, HB6⟩, by simp [intOf]; omega⟩
    · obtain rfl : i = T := by omega
      have HD : Hid (crop out = wds (wval b - wval a)) := Lib.hid (HST.out.done HO.out HTT2.out)
      have HW := Lib.hid (show Wds wr (.slice A2 out.length c2) out from by
        obtain ⟨A9, c9, e9, h91, h92, h9⟩ := HL.out.holds
        injection e9 with e1 e2 e3
        subst e1 e3
        exact ⟨fun j => by have := wat_lt HST.out.words j; omega, A2, c2, rfl, h91, h92, h9⟩)
      have HFR : Hid (From w.heap.size (.slice A2 (crop out).length c2)) := Lib.hid (HL.out.from_ (fun g hg => by omega) (crop_length_le out))
      clear HL HR HST
      go_wp2_with fail
      refine (cropped_ok A2 out.length c2 out wr HW.out).mono ?_
      rintro e w9 ⟨rfl, rfl⟩
      go_wp2
      refine bodyPost_ret_by (results_tmp2 rfl _ _ _) rfl ?_
      refine ⟨_, rfl, ?_, HBW.out, HFR.out⟩
      have h9 := HW.out.take (crop_length_le out)
      rw [← crop_eq_take, HD.out] at h9
      rw [HD.out]
      exact h9

/-- What joined tells: the sum, or how far they are from each other. -/
def joinN (m n : Nat) (unlike : Bool) : Nat := if unlike then (if m < n then n - m else m - n) else m + n
def joinT (m n : Nat) (unlike : Bool) : Bool := unlike && decide (m < n)
theorem joinedF_ok (va vb : Value) (m n : Nat) (unlike : Bool) (w : World) (ha : Wds w va (wds m)) (hb : Wds w vb (wds n)) (hn : (wds m).length ≤ 1000000) (hn2 : (wds n).length ≤ 1000000) :
    Calls Tryz.prog 19 #[va, vb, .bool unlike] w (JoinF w (joinN m n unlike) (joinT m n unlike)) := by
  have ha' := ha
  have hb' := hb
  obtain ⟨_, A, c, rfl, _⟩ := ha'
  obtain ⟨_, B, d, rfl, hd1, _⟩ := hb'
  cases unlike with
  | false =>
    have h := joined_up A B c d _ _ (wds m) (wds n) w rfl rfl ha hb hn hn2 (wds_words m) (wds_words n)
    rw [wval_wds, wval_wds] at h
    exact h
  | true =>
    by_cases hlt : m < n
    · have hls : lessL (wds m) (wds n) = true := by rw [lessL_wds, decide_eq_true hlt]
      have hle : (wds m).length ≤ (wds n).length := by
        rcases Nat.lt_or_ge (wds n).length (wds m).length with h | h
        · have := wds_len_lt h; omega
        · exact h
      have h := joined_swap A B c d _ _ (wds m) (wds n) w rfl rfl ha hb hd1 hn hn2 hls (Over.of (wds_words n) (wds_words m) hle (by rw [wval_wds, wval_wds]; omega))
      rw [wval_wds, wval_wds] at h
      unfold joinN joinT
      rw [if_pos rfl, if_pos hlt, decide_eq_true hlt]
      exact h
    · have hls : lessL (wds m) (wds n) = false := by rw [lessL_wds, decide_eq_false hlt]
      have hle : (wds n).length ≤ (wds m).length := by
        rcases Nat.lt_or_ge (wds m).length (wds n).length with h | h
        · have := wds_len_lt h; omega
        · exact h
      have h := joined_down A B c d _ _ (wds m) (wds n) w rfl rfl ha hb hd1 hn hn2 hls (Over.of (wds_words m) (wds_words n) hle (by rw [wval_wds, wval_wds]; omega))
      rw [wval_wds, wval_wds] at h
      unfold joinN joinT
      rw [if_pos rfl, if_neg hlt, decide_eq_false hlt]
      exact h
theorem joined_ok (va vb : Value) (m n : Nat) (unlike : Bool) (w : World) (ha : Wds w va (wds m)) (hb : Wds w vb (wds n)) (hn : (wds m).length ≤ 1000000) (hn2 : (wds n).length ≤ 1000000) :
    Calls Tryz.prog 19 #[va, vb, .bool unlike] w (JoinPost w (joinN m n unlike) (joinT m n unlike)) := by
  refine (joinedF_ok va vb m n unlike w ha hb hn hn2).mono ?_
  intro e w' h
  exact h.post
end Go.Proofs.YtlcbjikiodmlfaaGreatDoor
