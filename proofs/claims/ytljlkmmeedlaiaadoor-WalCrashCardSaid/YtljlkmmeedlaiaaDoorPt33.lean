/- Layer 3: may a log lie there? -/
import Derived.Test.YtljlkmmeedlaiaaDoorPt21
import Derived.Test.YtljlkmmeedlaiaaDoorPt25
import Derived.Deep.RegionLaw
namespace Go.Proofs.YtljlkmmeedlaiaaDoor
open Go.RowKit

theorem allowed_no (v : Value) (from_ n : Int) (w : World) (h : NoDisk w v) :
    Calls Tryd.prog 28 #[v, .int .i64 from_, .int .i64 n] w fun e w' => e = .returned (.int .i64 1) ∧ w = w' := by
  have H := Lib.hid h
  clear h
  go_enter Tryd.func28, Tryd.ntmps28
  go_wp2_with (go_at_call 50; refine (size_no v _ H.out).mono ?_; rintro e w' ⟨rfl, rfl⟩)
  go_ret
  exact ⟨rfl, rfl⟩
/-- The error of a place of n sectors from a place on. -/
def placeE (size : Nat) (from_ n : Int) : Int := if n < 4 ∨ from_ < 0 then 2 else if (size : Int) - from_ < n then 4 else 0
theorem allowed_ok {F : Nat → Prop} (p : Nat) (d : D) (from_ n : Int) (w : World) (h : DiskAt w F p d) (hw : (Lit.int .i64 from_).wf = true) :
    Calls Tryd.prog 28 #[.pointer (some ⟨p, 0, none⟩), .int .i64 from_, .int .i64 n] w fun e w' => e = .returned (.int .i64 (placeE d.size from_ n)) ∧ w = w' := by
  have H := Lib.hid h
  obtain ⟨t, ht⟩ := h
  have hs := ht.good.most
  have hp := ht.good.pos
  have hfw := bounds_i64 hw
  clear ht hw
  have hne : ((d.size : Int) == 0) = false := by simp; omega
  by_cases h1 : n < 4
  · have HE : Hid (placeE d.size from_ n = 2) := Lib.hid (by simp [placeE, h1])
    go_enter Tryd.func28, Tryd.ntmps28
    go_wp2_with (go_at_call 50; refine (size_ok p d _ H.out).mono ?_; rintro e w' ⟨rfl, rfl⟩)
    go_ret
    exact ⟨ret_int HE.out.symm, rfl⟩
  · have d1 : decide (n < 4) = false := by simp; omega
    by_cases h2 : from_ < 0
    · have HE : Hid (placeE d.size from_ n = 2) := Lib.hid (by simp [placeE, h2])
      go_enter Tryd.func28, Tryd.ntmps28
      go_wp2_with (go_at_call 50; refine (size_ok p d _ H.out).mono ?_; rintro e w' ⟨rfl, rfl⟩)
      go_ret
      exact ⟨ret_int HE.out.symm, rfl⟩
    · have d2 : decide (from_ < 0) = false := by simp; omega
      by_cases h3 : (d.size : Int) - from_ < n
      · have HE : Hid (placeE d.size from_ n = 4) := Lib.hid (by simp [placeE, h1, h2, h3])
        go_enter Tryd.func28, Tryd.ntmps28
        go_wp2_with (go_at_call 50; refine (size_ok p d _ H.out).mono ?_; rintro e w' ⟨rfl, rfl⟩)
        go_ret
        exact ⟨ret_int HE.out.symm, rfl⟩
      · have HE : Hid (placeE d.size from_ n = 0) := Lib.hid (by simp [placeE, h1, h2, h3])
        have d3 : decide ((d.size : Int) - from_ < n) = false := by simp; omega
        go_enter Tryd.func28, Tryd.ntmps28
        go_wp2_with (go_at_call 50; refine (size_ok p d _ H.out).mono ?_; rintro e w' ⟨rfl, rfl⟩)
        go_ret
        exact ⟨ret_int HE.out.symm, rfl⟩
end Go.Proofs.YtljlkmmeedlaiaaDoor
/- Layer 3: Format. -/
namespace Go.Proofs.YtljlkmmeedlaiaaDoor
open Go.RowKit

section
variable {P : Program} {ops : Array Oper} {o : Oper} {a : Act} {w : World} {K : Act → World → Prop} {Q : Exit → Act → World → Prop} {E : Prop}
/-- 'copy(d, s)' of all of s, which is not empty, into a row of bytes, within a region that draws. -/
theorem step_copy_over (hgd : o.guard = none) (d s : Operand) (t e : TypeId) (ho : o.op = .call { callee := .builtin .copy, args := #[d, s], argTypes := #[t, t] }) (ht : P.underlying t = some (.slice e))
    (hi : (P.info? e).map (·.size) = some 1) (g off dn dc : Nat) (A : Option Addr) (n c : Nat) (l cur : List Nat) (hd : a.eval d = .slice (some ⟨g, off, none⟩) dn dc) (hs : a.eval s = .slice A n c)
    (hA : Bytes w A n l) (h0 : 0 < n) (hle : n ≤ dn) (hg : Row w g e (cellsOf cur).toArray) (hfit : off + n ≤ cur.length)
    (h : ∀ w', Row w' g e (cellsOf (over cur off l)).toArray → Kept (· = g) w w' → K (a.put o.dst (goInt n)) w') : if Region.wanted o (yielded ops a.tmps) = true then Oper.wp P o a w K Q else E := by
  have hw : Region.wanted o (yielded ops a.tmps) = true := by simp [Region.wanted, hgd]
  rw [if_pos hw]
  have hlen : (cellsOf l).length = n := by rw [cellsOf_length, hA.len]
  obtain ⟨b, off2, rfl, _, hcell⟩ := hA.at_ h0
  have hr := run_copy_row (P := P) w t t o.type e g off dn dc ⟨b, off2, none⟩ n c (cellsOf cur).toArray e (cellsOf l) ht hi hg (by rw [hlen]; exact (Nat.min_eq_left hle).symm) hcell (by rw [hlen, List.size_toArray, cellsOf_length]; exact hfit) (cellsOf_one l)
  rw [hlen] at hr
  have e1 : ((cellsOf cur).toArray.toList.take off ++ cellsOf l ++ (cellsOf cur).toArray.toList.drop (off + n)).toArray = (cellsOf (over cur off l)).toArray := by
    unfold over
    rw [hA.len]
    simp [cellsOf]
  rw [e1] at hr
  unfold Oper.wp
  simp [execOp, ho, resolve, invoke, builtin, hd, hs, hr, Result.andThen]
  exact h _ (setRow_heap _ _ _ _ _ _ hg) ((Kept.refl _ _).setRow (grow.old (F := (· = g)) rfl) _)
end
/-- All sectors of an empty log. -/
def fmtL (n : Nat) : List Nat := over (List.replicate (n * 512) 0) 512 (headL 1 1)
def FormatL (w : World) (FD : Nat → Prop) (dp : Nat) (d : D) (f : Int → List Nat) (from_ n : Nat) (e : Ending) (w' : World) : Prop :=
  e = .returned (.int .i64 0) ∧ ∃ d', DiskAt w' (grow FD w) dp d' ∧ d'.size = d.size ∧ Still d' (readW f (from_ : Int) (fmtL n) n) ∧ d'.fates = [] ∧ Kept FD w w'
theorem format_not (w : World) (FD : Nat → Prop) (dp : Nat) (d : D) (from_ n : Int) (h : DiskAt w FD dp d) (hw : (Lit.int .i64 from_).wf = true) (hp : placeE d.size from_ n ≠ 0) :
    Calls Tryd.prog 10 #[.pointer (some ⟨dp, 0, none⟩), .int .i64 from_, .int .i64 n] w fun e w' => e = .returned (.int .i64 (placeE d.size from_ n)) ∧ w = w' := by
  have H := Lib.hid h
  have hne : (placeE d.size from_ n != 0) = true := by simp [hp]
  clear h hp
  go_enter Tryd.func10, Tryd.ntmps10
  go_wp2_with (go_at_call 28; refine (allowed_ok dp d from_ n _ H.out hw).mono ?_; rintro e w' ⟨rfl, rfl⟩)
  all_goals first
    | (go_ret; exact ⟨rfl, rfl⟩)
theorem format_no (v : Value) (from_ n : Int) (w : World) (h : NoDisk w v) :
    Calls Tryd.prog 10 #[v, .int .i64 from_, .int .i64 n] w fun e w' => e = .returned (.int .i64 1) ∧ w = w' := by
  have H := Lib.hid h
  clear h
  go_enter Tryd.func10, Tryd.ntmps10
  go_wp2_with (go_at_call 28; refine (allowed_no v from_ n _ H.out).mono ?_; rintro e w' ⟨rfl, rfl⟩)
  go_ret
  exact ⟨rfl, rfl⟩
/-- A log that was just built. -/
def freshL (dp from_ n : Nat) : L := ⟨dp, from_, n, 0, 0, 0, [], false⟩
theorem fmtL_len {n : Nat} (h : 4 ≤ n) : (fmtL n).length = n * 512 := by
  unfold fmtL
  rw [over_length (by rw [headL_len, List.length_replicate]; omega), List.length_replicate]
theorem fmtL_small (n : Nat) : Small (fmtL n) := over_small (Small.zeros _) (headL_small 1 1)
theorem fresh_on {w wc : World} {FD : Nat → Prop} {dp : Nat} {d : D} {from_ n : Nat} (h : DiskAt w FD dp d) (hD : ∀ k, FD k → k < w.heap.size) (hn : 4 ≤ n) (hfit : from_ + n ≤ d.size) (hb : Below w.heap.size w wc) :
    LogOn (wc.alloc (.cells (logCells (freshL dp from_ n) (.slice none 0 0)) 68)) (· = wc.heap.size) FD wc.heap.size (freshL dp from_ n) d := by
  have hbz : Below w.heap.size w (wc.alloc (.cells (logCells (freshL dp from_ n) (.slice none 0 0)) 68)) := hb.call ((Below.refl _ _).alloc (Nat.le_refl _) _)
  refine ⟨⟨.slice none 0 0, [], ⟨Row.new _ _ _, rfl, Lies.empty _ _ _ _ _, fun b hb => (List.not_mem_nil hb).elim, rfl⟩⟩, h.below hbz, fun k hk hd => ?_, fun k hk => ?_, fun k hk => Nat.lt_of_lt_of_le (hD k hk) hbz.size, hfit, hn, by show 0 + 2 ≤ n; omega, Nat.le_refl _, by show 0 < _; decide⟩
  · have h1 := hD k hd
    have h2 := hb.size
    subst hk
    omega
  · subst hk
    simp
theorem format_write (w wc : World) (FD : Nat → Prop) (dp : Nat) (d : D) (f : Int → List Nat) (from_ n : Nat) (h : DiskAt w FD dp d) (hD : ∀ k, FD k → k < w.heap.size) (hs : Still d f) (hft : d.fates = []) (hn : 4 ≤ n) (hfit : from_ + n ≤ d.size)
    (hg : Row wc (w.heap.size + 1) 5 (cellsOf (fmtL n)).toArray) (hb : Below w.heap.size w wc) :
    Calls Tryd.prog 31 #[.pointer (some ⟨wc.heap.size, 0, none⟩), .int .i64 0, .slice (some ⟨w.heap.size + 1, 0, none⟩) (n * 512) (n * 512)] (wc.alloc (.cells (logCells (freshL dp from_ n) (.slice none 0 0)) 68)) (FormatL w FD dp d f from_ n) := by
  have hmost : d.size ≤ 65536 := by obtain ⟨t, ht⟩ := h; exact ht.good.most
  have hon := fresh_on h hD hn hfit hb
  have hbz : Below w.heap.size w (wc.alloc (.cells (logCells (freshL dp from_ n) (.slice none 0 0)) 68)) := hb.call ((Below.refl _ _).alloc (Nat.le_refl _) _)
  refine (lwrite_ok _ _ FD wc.heap.size (freshL dp from_ n) d f 0 (some ⟨w.heap.size + 1, 0, none⟩) (n * 512) n (n * 512) (fmtL n) hon hs (Bytes.of_row' (hg.alloc _) (fmtL_small n) (fmtL_len hn)) (fun _ x e hx => by
      injection e with e
      subst e
      have h1 := hD _ hx
      change w.heap.size + 1 < w.heap.size at h1
      omega) (Nat.le_refl _) (by omega) rfl (by show 0 + n ≤ n; omega)).mono ?_
  rintro e w' (⟨he, d', hl, hsz, hst, hff⟩ | ⟨_, hne, _⟩)
  · obtain ⟨⟨FL', FD', hon', _, hD'⟩, hk⟩ := hl.below hbz
    refine ⟨he, d', hon'.disk.mono hD', hsz, ?_, hff hft, hk.mono fun k hk hx => ?_⟩
    · simpa [freshL] using hst
    · rcases hx with hx | hx
      · have h2 := hb.size
        omega
      · exact hx
  · exact absurd hft hne
set_option maxRecDepth 100000 in
set_option maxHeartbeats 1000000 in
theorem format_ok (w : World) (FD : Nat → Prop) (dp : Nat) (d : D) (f : Int → List Nat) (from_ n : Nat) (h : DiskAt w FD dp d) (hD : ∀ k, FD k → k < w.heap.size) (hs : Still d f) (hft : d.fates = []) (hn : 4 ≤ n) (hfit : from_ + n ≤ d.size) :
    Calls Tryd.prog 10 #[.pointer (some ⟨dp, 0, none⟩), .int .i64 from_, .int .i64 n] w (FormatL w FD dp d f from_ n) := by
  have hmost : d.size ≤ 65536 := by obtain ⟨t, ht⟩ := h; exact ht.good.most
  have hplace : placeE d.size from_ n = 0 := by
    unfold placeE
    rw [if_neg (by omega), if_neg (by omega)]
  have HAL : Hid (Calls Tryd.prog 28 #[.pointer (some ⟨dp, 0, none⟩), .int .i64 from_, .int .i64 n] w fun e w' => e = .returned (.int .i64 0) ∧ w = w') := Lib.hid (by
    have := allowed_ok dp d from_ n w h (WalkArith.wf_i64 (by omega))
    rwa [hplace] at this)
  obtain ⟨w0, hw0⟩ : ∃ w0, w0 = (w.alloc (.cells #[.int .u64 1, .int .u64 1] 66)).alloc (.cells (cellsOf (List.replicate (n * 512) 0)).toArray 5) := ⟨_, rfl⟩
  have hb0 : Below w.heap.size w w0 := by subst hw0; exact ((Below.refl _ _).alloc (Nat.le_refl _) _).alloc (by simp) _
  have hrh : Row w0 w.heap.size 66 #[.int .u64 1, .int .u64 1] := by subst hw0; exact (Row.new _ _ _).alloc _
  have hrg : Row w0 (w.heap.size + 1) 5 (cellsOf (List.replicate (n * 512) 0)).toArray := by subst hw0; exact Row.new1 _ _ _ _
  have HC : Hid (∀ W, Below w0.heap.size w0 W → W.cell? ⟨w.heap.size, 0, none⟩ = some (.int .u64 1) ∧ W.cell? ⟨w.heap.size, 1, none⟩ = some (.int .u64 1) ∧ Row W (w.heap.size + 1) 5 (cellsOf (List.replicate (n * 512) 0)).toArray) :=
    Lib.hid fun W hb => ⟨(hrh.call hb).cell (i := 0) rfl, (hrh.call hb).cell (i := 1) rfl, hrg.call hb⟩
  have HSEC : Hid (∀ W, Calls Tryd.prog 29 #[headV 1 1] W fun e w' => e = .returned (.int .i64 1) ∧ Below W.heap.size W w') := Lib.hid fun W => sector_ok 1 1 W (by decide)
  have HBY : Hid (∀ W, Calls Tryd.prog 30 #[headV 1 1] W (BytesPost W 1 1)) := Lib.hid fun W => bytes_ok 1 1 W 512 (Nat.le_refl _) (Nat.le_refl _)
  have HB0 := Lib.hid hb0
  have H := Lib.hid h
  have HD := Lib.hid hD
  have HS := Lib.hid hs
  have HFT := Lib.hid hft
  have hw1 : IntKind.i64.wrap ((n : Int) * 512) = (n : Int) * 512 := IntWalk.i64_in _ (by omega)
  obtain ⟨k0, k1, _⟩ := HC.out w0 (Below.refl _ _)
  have hz0 : (List.replicate (n * 512) 0).length = n * 512 := List.length_replicate
  clear h hD hs hft hb0 hrh hrg hplace
  go_enter Tryd.func10, Tryd.ntmps10
  go_wp2_with (first
    | (go_at_call 28; refine HAL.out.mono ?_; rintro e w' ⟨rfl, rfl⟩)
    | (refine wpList_make_bytes ?_ 41 5 (.tmp 20) ?_ (n * 512) ?_ Tryd.underlying41 infoU8s (by omega) ?_
       · with_reducible rfl
       · with_reducible rfl
       · exact congrArg (Value.int .i64) (by omega)))
  rw [← hw0]
  clear hw0
  have hfm : Hid (fmtL n = over (List.replicate (n * 512) 0) 512 (headL 1 1)) := Lib.hid rfl
  generalize List.replicate (n * 512) 0 = zs at *
  have hd0 : Below w0.heap.size w0 w0.drew := (Below.refl _ _).drew
  have hh5 : 512 + 512 ≤ zs.length := by omega
  have hw5 : IntKind.i64.wrap 512 = 512 := rfl
  have hw6 : (512 : Int) ≤ (n : Int) * 512 := by omega
  have hw7 : ¬ n * 512 = 512 := by omega
  go_cut [] from 22 to 29 (fun W => Row W (w.heap.size + 1) 5 (cellsOf (fmtL n)).toArray ∧ Below w.heap.size w W)
  case first =>
    go_wp2_with fail
    go_region_law (first
      | (go_simp; go_at_call 29; refine (HSEC.out _).mono ?_; rintro e wS ⟨rfl, hbS⟩
         have hbS2 : Below w0.heap.size w0 wS := Below.call (by assumption) hbS
         obtain ⟨s0, s1, _⟩ := HC.out wS hbS2)
      | (go_simp; go_at_call 30; refine (HBY.out _).mono ?_; rintro e wB ⟨gB, rfl, hgB, hgeB, hbB⟩
         have hbB2 : Below w0.heap.size w0 wB := Below.call (by assumption) hbB
         obtain ⟨s0, s1, _⟩ := HC.out wB hbB2)
      | (refine step_copy_over rfl (.tmp 26) (.tmp 28) 41 5 rfl Tryd.underlying41 sizeU8 (w.heap.size + 1) 512 (n * 512 - 512) (n * 512 - 512) (some ⟨gB, 0, none⟩) 512 512 (headL 1 1) zs (by simp [Act.eval]) (by simp [Act.eval]) (by first | exact Bytes.of_row' hgB (headL_small 1 1) (headL_len 1 1) | exact Bytes.of_row' (hgB.call hbS) (headL_small 1 1) (headL_len 1 1)) (by decide) (by omega) (by first | exact (HC.out _ hbB2).2.2 | exact (HC.out _ hbS2).2.2) hh5 ?_
         intro wC hrC hkC))
    all_goals (
      have hV : Row wC (w.heap.size + 1) 5 (cellsOf (fmtL n)).toArray ∧ Below w.heap.size w wC := by
        rw [hfm.out]
        refine ⟨hrC, HB0.out.trans ?_⟩
        have hk9 := hkC.below (B := w.heap.size) (by first | exact Nat.le_trans HB0.out.size hbB2.size | exact Nat.le_trans HB0.out.size hbS2.size) (fun k hk => by omega)
        first
          | exact (hbB2.mono HB0.out.size).trans hk9
          | exact (hbS2.mono HB0.out.size).trans hk9
      clear hrC hkC
      go_wp2_with fail
      go_meet
      exact hV)
  case rest =>
    obtain ⟨hg4, hb4⟩ := hcut
    have HWR : Hid (Calls Tryd.prog 31 #[.pointer (some ⟨wc.heap.size, 0, none⟩), .int .i64 0, .slice (some ⟨w.heap.size + 1, 0, none⟩) (n * 512) (n * 512)] (wc.alloc (.cells (logCells (freshL dp from_ n) (.slice none 0 0)) 68)) (FormatL w FD dp d f from_ n)) := Lib.hid (format_write w wc FD dp d f from_ n H.out HD.out HS.out HFT.out hn hfit hg4 hb4)
    clear hg4 hb4
    go_wp2_with (first
      | (go_at_call 31; refine HWR.out.mono ?_; rintro e w1 hwr; obtain ⟨rfl, _⟩ := id hwr))
    have HF := Lib.hid hwr
    clear hwr
    go_wp2
    go_ret
    exact HF.out
end Go.Proofs.YtljlkmmeedlaiaaDoor
