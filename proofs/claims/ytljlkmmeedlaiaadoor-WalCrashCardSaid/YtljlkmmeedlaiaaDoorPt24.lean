/- Layer 3: the sectors of a batch: the walk. -/
import Derived.Test.YtljlkmmeedlaiaaDoorPt17
namespace Go.Proofs.YtljlkmmeedlaiaaDoor
open Go.RowKit Go.Shelf
attribute [local go_sem] Oper.semAt_some

/-- A batch, its length ahead. -/
def batchL (b : List Nat) : List Nat := leB 4 b.length ++ b
/-- How many sectors a batch takes. -/
def costN (n : Nat) : Nat := (n + 4 + 487) / 488
def cutL (r j0 : Nat) (b : List Nat) : List Nat := cutP r j0 (batchL b) (frTo (costN b.length) (costN b.length))
def CutPost (w : World) (r j0 : Nat) (b : List Nat) (e : Ending) (w' : World) : Prop :=
  ∃ g off c, e = .returned (slc g off (costN b.length * 512) c) ∧ Bytes w' (some ⟨g, off, none⟩) (costN b.length * 512) (cutL r j0 b) ∧ costN b.length * 512 ≤ c ∧ c ≤ maxLen ∧ w.heap.size ≤ g ∧ Below w.heap.size w w'
set_option maxRecDepth 100000 in
set_option maxHeartbeats 400000 in
theorem cut_ok (w : World) (FL FD : Nat → Prop) (p : Nat) (l : L) (d : D) (A : Option Addr) (n c : Nat) (b : List Nat) (N512 : Nat) (h : LogOn w FL FD p l d) (hA : Bytes w A n b) (hn : n ≤ 40000000) (h512 : 512 ≤ N512) (h513 : N512 ≤ 512) :
    Calls Tryd.prog 38 #[.pointer (some ⟨p, 0, none⟩), .slice A n c] w (CutPost w l.run l.used b) := by
  have HLG : Hid (∀ W, Below w.heap.size w W → W.cell? ⟨p, 3, none⟩ = some (.int .u64 l.run) ∧ W.cell? ⟨p, 5, none⟩ = some (.int .i64 l.used)) := Lib.hid fun W hb => by
    obtain ⟨vb, mm, _, _, _, h3, _, h5, _⟩ := (h.call hb).cells
    exact ⟨h3, h5⟩
  have hrun := h.run
  have hu := h.used
  have hs9 := h.size
  have hm9 := h.most
  have hlen := hA.len
  have HA := Lib.hid hA
  have HSM := Lib.hid hA.lt
  obtain ⟨w1, hw1⟩ : ∃ w1, w1 = w.alloc (.cells (cellsOf (List.replicate (n + 4) 0)).toArray 5) := ⟨_, rfl⟩
  have hb1 : Below w.heap.size w w1 := by subst hw1; exact (Below.refl _ _).alloc (Nat.le_refl _) _
  have hg1 : Row w1 w.heap.size 5 (cellsOf (List.replicate (n + 4) 0)).toArray := by subst hw1; exact Row.new _ _ _
  have hs1 : w1.heap.size = w.heap.size + 1 := by subst hw1; simp
  have HB1 := Lib.hid hb1
  have HG1 := Lib.hid hg1
  have HS1 := Lib.hid hs1
  have HZ : Hid ((over (List.replicate (n + 4) 0) 0 (leB 4 n)).length = n + 4 ∧ (over (List.replicate (n + 4) 0) 0 (leB 4 n)).take 4 ++ (b ++ (over (List.replicate (n + 4) 0) 0 (leB 4 n)).drop (4 + n)) = batchL b) := Lib.hid (by
    have h1 : (over (List.replicate (n + 4) 0) 0 (leB 4 n)).length = n + 4 := by rw [over_length (by rw [leB_length, List.length_replicate]; omega), List.length_replicate]
    refine ⟨h1, ?_⟩
    rw [List.drop_of_length_le (by omega), List.append_nil, batchL, hlen]
    congr 1)
  obtain ⟨x, hx⟩ : ∃ x, x = batchL b := ⟨_, rfl⟩
  have hxl : x.length = n + 4 := by rw [hx, batchL, List.length_append, leB_length, hlen]; omega
  have HXS : Hid (Small x) := Lib.hid (by rw [hx]; exact (leB_small _ _).append HSM.out)
  have HX := Lib.hid hx
  have hpos : 0 < n + 4 := by omega
  clear h hA hb1 hg1 hs1 hlen hx HSM
  refine (callsIn_wide (n := 3)).1 ?_
  refine callsIn_of_wp_marks Tryd.func38 rfl trivial ?_ rfl
  simp only [Tryd.ntmps38, List.size_toArray, List.length_cons, List.length_nil, Nat.reduceAdd, Nat.reduceSub, Array.replicate_succ, Array.replicate_zero, List.push_toArray, List.append_toArray, List.nil_append, List.cons_append]
  refine wpIn_wide.2 ?_
  go_wp2_with (first
    | (refine wpList_make_bytes ?_ 41 5 (.tmp 12) ?_ (n + 4) ?_ Tryd.underlying41 infoU8s (by omega) ?_
       · with_reducible rfl
       · with_reducible rfl
       · exact congrArg (Value.int .i64) (by omega)))
  rw [← hw1]
  have hzl : (List.replicate (n + 4) 0).length = n + 4 := List.length_replicate
  generalize List.replicate (n + 4) 0 = zs at *
  clear hw1
  refine (putter_ok _ (n + 4) (n + 4) _).mono ?_
  rintro e w2 ⟨rfl, rfl⟩
  have hq2 : Row (w1.alloc (.cells #[slc w.heap.size 0 (n + 4) (n + 4)] 41)) w1.heap.size 41 #[slc w.heap.size 0 (n + 4) (n + 4)] := Row.new _ _ _
  have hb2 : Below w1.heap.size w1 (w1.alloc (.cells #[slc w.heap.size 0 (n + 4) (n + 4)] 41)) := (Below.refl _ _).alloc (Nat.le_refl _) _
  have HQ2 := Lib.hid hq2
  have HG2 := Lib.hid (HG1.out.call hb2)
  have HB2 := Lib.hid (HB1.out.call hb2)
  clear hb2 hq2 HG1 HB1
  generalize w1.alloc (.cells #[slc w.heap.size 0 (n + 4) (n + 4)] 41) = w2 at *
  go_wp2_with fail
  refine (put_ok w1.heap.size w.heap.size 0 (n + 4) (n + 4) 4 n zs _ HQ2.out HG2.out (by have := HS1.out; omega) (by omega) (by omega) (by omega) (by omega) (by unfold maxLen; omega)).mono ?_
  rintro e w3 ⟨⟨y, rfl⟩, hl3⟩
  have HG3 := Lib.hid hl3.row
  have HB3 := Lib.hid (HB2.out.trans (hl3.kept.below HB2.out.size (fun k hk => by have := HS1.out; omega)))
  clear hl3 HQ2 HG2 HB2
  have hA3 := HA.out.below HB3.out
  have h4n : 4 + n ≤ (over zs 0 (leB 4 n)).length := by rw [HZ.out.1]; omega
  have HA3 := Lib.hid hA3
  clear hA3
  go_upto_region 3 with fail
  go_cut [] from 20 to 57 (fun W => Row W w.heap.size 5 (cellsOf x).toArray ∧ Below w.heap.size w W)
  case first =>
    by_cases hn0 : n = 0
    · subst hn0
      have hb0 : b = [] := List.eq_nil_of_length_eq_zero HA3.out.len
      subst hb0
      have HR4 : Hid ((over zs 0 (leB 4 0)).take 0 ++ (([] : List Nat) ++ (over zs 0 (leB 4 0)).drop (0 + 0)) = x) := Lib.hid (by
        have h1 := HZ.out.2
        rw [← HX.out, List.drop_of_length_le (by rw [HZ.out.1]; omega), List.append_nil, List.append_nil, List.take_of_length_le (by rw [HZ.out.1]; omega)] at h1
        simpa using h1)
      go_wp2_with (first
        | (refine wpList_copy_bytes ?_ (.tmp 21) (.tmp 22) 41 5 ?_ Tryd.underlying41 sizeU8 w.heap.size 0 0 0 A 0 c [] (over zs 0 (leB 4 0)) ?_ ?_ HA3.out (Nat.le_refl _) HG3.out (Nat.zero_le _) w.heap.size w HB3.out (Nat.le_refl _) ?_
           · with_reducible rfl
           · with_reducible rfl
           · rfl
           · rfl
           intro w4 hg4 hb4))
      go_meet
      rw [HR4.out] at hg4
      exact ⟨hg4, hb4⟩
    · have hn1 : 0 < n := by omega
      go_wp2_with (first
        | (refine wpList_copy_bytes ?_ (.tmp 21) (.tmp 22) 41 5 ?_ Tryd.underlying41 sizeU8 w.heap.size 4 n n A n c b (over zs 0 (leB 4 n)) ?_ ?_ HA3.out (Nat.le_refl _) HG3.out h4n w.heap.size w HB3.out (Nat.le_refl _) ?_
           · with_reducible rfl
           · with_reducible rfl
           · rfl
           · rfl
           intro w4 hg4 hb4))
      go_meet
      rw [HZ.out.2, ← HX.out] at hg4
      exact ⟨hg4, hb4⟩
  case rest =>
    obtain ⟨hg4, hb4⟩ := hcut
    have HG4 := Lib.hid hg4
    have HB4 := Lib.hid hb4
    obtain ⟨k3, k5⟩ := HLG.out wc hb4
    have hbz : Below wc.heap.size wc (wc.alloc (.cells #[.int .u64 0, .int .u64 0] 108)) := (Below.refl _ _).alloc (Nat.le_refl _) _
    obtain ⟨k3z, k5z⟩ := HLG.out _ (hb4.call hbz)
    clear hg4 hb4 HG3 HB3 h4n HA3 HZ hzl HA HLG HS1 hbz
    go_upto_region 4 with fail
    go_cut [6] from 6 to 57 (fun s6 W => ∃ s, s6 = .pointer (some ⟨s, 0, none⟩) ∧ Row W s 108 #[.int .u64 l.run, .int .u64 l.used] ∧ Row W w.heap.size 5 (cellsOf x).toArray ∧ Below w.heap.size w W ∧ w.heap.size < s)
    case first =>
      go_region
      go_wp2_with fail
      go_meet
      have hx1 : Below wc.heap.size wc (wc.alloc (.cells #[.int .u64 l.run, .int .u64 l.used] 108)) := (Below.refl _ _).alloc (Nat.le_refl _) _
      exact ⟨wc.heap.size, rfl, (Row.new _ _ _).drew, (HG4.out.call hx1).drew, (HB4.out.call hx1).drew, HG4.out.lt⟩
    case rest =>
    obtain ⟨s, rfl, hm5, hg5, hb5, hgs⟩ := hcut
    have HG5 := Lib.hid hg5
    have HB5 := Lib.hid hb5
    have hsl := hm5.lt
    obtain ⟨w6, hw6⟩ : ∃ w6, w6 = wc.alloc (.cells #[.slice none 0 0] 41) := ⟨_, rfl⟩
    have hb6 : Below wc.heap.size wc w6 := by subst hw6; exact (Below.refl _ _).alloc (Nat.le_refl _) _
    have hm6 := hm5.call hb6
    have hs6 : Row w6 wc.heap.size 41 #[.slice none 0 0] := by subst hw6; exact Row.new _ _ _
    have hz6 : w6.heap.size = wc.heap.size + 1 := by subst hw6; simp
    clear hm5 hg5 hb5 k3 k5 k3z k5z HG4 HB4
    have hg6 := HG5.out.call hb6
    have hbl6 := HB5.out.call hb6
    have hgl : w.heap.size < wc.heap.size := HG5.out.lt
    go_wp2_with fail
    rw [← hw6]
    have hw5 := HB5.out.size
    obtain ⟨N, hN⟩ : ∃ N, N = costN n := ⟨_, rfl⟩
    have hN1 : ∀ j, j < N → j * 488 < n + 4 := fun j hj => by unfold costN at hN; omega
    have hN2 : n + 4 ≤ N * 488 := by unfold costN at hN; omega
    have hN9 : N ≤ 100000 := by unfold costN at hN; omega
    have HN := Lib.hid hN
    clear hw6 hN
    refine (chunk_ok w.heap.size 0 (n + 4) (n + 4) 488 w6 (by decide)).mono ?_
    rintro e w7 ⟨rfl, hc7, hb7, hz7⟩
    have hm7 := hm6.call hb7
    have hs7 := hs6.call hb7
    have hg7 := hg6.call hb7
    have HB7 := Lib.hid (hbl6.call hb7)
    have HC7 := Lib.hid hc7
    have HM7 := Lib.hid hm7
    have HS7 := Lib.hid hs7
    have HG7 := Lib.hid hg7
    have hq0 : w6.heap.size = wc.heap.size + 1 := hz6
    rw [hq0] at hz7
    have HQ : Hid (w6.heap.size = wc.heap.size + 1 ∧ w7.heap.size = wc.heap.size + 1 + 2) := Lib.hid ⟨hq0, hz7⟩
    clear hm6 hs6 hb6 hz6 hg6 hbl6 hc7 hb7 hz7 hm7 hs7 hg7 hq0 HG5 HB5
    go_wp2_with fail
    refine (wpIn_wide (n := 4)).1 ?_
    refine wpIn_rangeFunc_ownF rfl (by omega) (gf := 74) (lb := #[.pointer (some ⟨w6.heap.size, 0, none⟩), .pointer (some ⟨w6.heap.size + 1, 0, none⟩)]) rfl trivial (enters_of Tryd.func74 (by kernel_rfl) rfl)
      (chunk_stops w7 w6.heap.size (w6.heap.size + 1) w.heap.size 0 (n + 4) (n + 4) 488 N HC7.out (by decide) (by decide) (Nat.le_refl _) (by omega) hN1 hN2 (Kept (CutX s wc.heap.size w7.heap.size)) (fun W W' v hk => by
        obtain ⟨h1, h2⟩ := HQ.out
        exact ⟨fun hc => hk.cellOf hc (by intro hx; rcases hx with hx | hx | hx <;> (simp only at hx; omega)), fun hc => hk.cellOf hc (by intro hx; rcases hx with hx | hx | hx <;> (simp only at hx; omega))⟩))
      (fun h k => h.trans' k) (kept_turn fun k hk => .inr (.inr hk)) (Below.refl _ _) (fun _ => rfl)
      (fun pre W => CutI w7 s wc.heap.size w.heap.size l.run l.used x pre W) (fun _ _ _ => False) ?hI ?hIx ?h0 ?a1 ?assign ?body ?done ?stop
    case assign =>
      intro l' i W K hK
      simp only [oneChunk]
      gi_wp2
      exact hK
    case hI => exact cut_own
    case hIx => exact fun _ _ _ _ _ h _ _ => h
    case h0 => exact ⟨by simpa using HM7.out, ⟨_, HS7.out, Lies.empty _ _ _ _ _⟩, HG7.out, Kept.refl _ _⟩
    case stop => exact fun _ _ _ _ _ _ h => h.elim
    case done =>
      rintro Dk ys W hD rfl hI hK
      obtain ⟨v, hv, hl⟩ := hI.s
      have hNN : (frTo N N).length = N := frTo_length (Nat.le_refl _)
      rw [hNN] at hl
      have hN0 : 0 < N := by omega
      obtain ⟨A', c', hvv, hc1, hc2, hh⟩ := hl.holds
      obtain ⟨g, off, cap, hv2, hg, hcap1, hcap2, hglt, _⟩ := hl.cells (by omega)
      rw [hvv] at hv2
      injection hv2 with hA' _ hcc
      subst hA'
      subst hcc
      have hBy := Bytes.of_holds hh (cutP_small l.run l.used HXS.out (frTo N N))
      have hQ := HQ.out
      have hbw : Below w.heap.size w W := HB7.out.trans (hI.kept.below HB7.out.size (fun k hk => by rcases hk with hk | hk | hk <;> omega))
      have hcl := hv.cell (i := 0) (v := v) rfl
      rw [hvv] at hcl
      have hbe : Below w.heap.size w (W.putObj Dk (.deferred none)) := hbw.trans (belowK_b (w := w) (Nat.le_refl _) W Dk _ (.deferred none) (by omega) hK rfl rfl)
      have hrow9 : Bytes (W.putObj Dk (.deferred none)) (some ⟨g, off, none⟩) (N * 512) (cutP l.run l.used x (frTo N N)) := by
        refine ⟨hBy.1, hBy.2.1, fun h0 => ?_⟩
        obtain ⟨b9, o9, e9, hb9, hc9⟩ := hBy.2.2 h0
        refine ⟨b9, o9, e9, Nat.lt_of_lt_of_le hb9 (grownBy_putObj' W Dk (.deferred none)).size, fun k hk => ?_⟩
        exact cell_kept (hc9 k hk) (grownBy_putObj' W Dk (.deferred none)) (fun r e => by cases e; exact ⟨_, hK, rfl⟩)
      have HFIN : Hid (CutPost w l.run l.used b (.returned (slc g off (N * 512) c')) (W.putObj Dk (.deferred none))) := Lib.hid (by
        have hxb := HX.out
        have hNb := HN.out
        have hbn : b.length = n := by have := hxl; rw [hxb, batchL, List.length_append, leB_length] at this; omega
        rw [← hbn] at hNb
        have hcut : cutL l.run l.used b = cutP l.run l.used x (frTo N N) := by unfold cutL; rw [← hxb, hNb]
        refine ⟨g, off, c', by rw [hNb], by rw [hcut, ← hNb]; exact hrow9, by rw [← hNb]; exact hc1, hc2, ?_, hbe⟩
        omega)
      have HKK := Lib.hid hK
      clear hI hv hl hNN hc1 hc2 hh hg hcap1 hcap2 hglt hBy hQ hbw hbe hrow9 hK HC7 HM7 HS7 HG7 HB7
      go_wp2
      refine ⟨by simp, .inl ⟨_, _, rfl, run_takeDeferred HKK.out, ?_⟩⟩
      refine ⟨slc g off (N * 512) c', ?_, HFIN.out⟩
      simp [results, Tryd.f38, go_sem]
    case body =>
      rintro l' pre i W hI hlen
      obtain ⟨v, hv, hlv⟩ := hI.s
      obtain ⟨A0, c0, hvv, _, _⟩ := hlv.form
      subst hvv
      have hpl : pre.length ≤ 100000 := by omega
      obtain ⟨jj, hjj⟩ : ∃ jj, jj = l.used + pre.length := ⟨_, rfl⟩
      have hi9 := hN1 i.val i.isLt
      have hpart := Bytes.of_row hI.b HXS.out (off := i.val * 488) (n := min 488 (n + 4 - i.val * 488)) (by omega)
      rw [← hxl, partL_min, hxl] at hpart
      have HP := Lib.hid hpart
      have HI := Lib.hid hI
      have HLV := Lib.hid hlv
      have HV := Lib.hid hv
      have hmin0 : 0 < min 488 (n + 4 - i.val * 488) := by omega
      have hmin1 : min 488 (n + 4 - i.val * 488) ≤ 488 := Nat.min_le_left _ _
      clear hI hv hlv hpart hi9
      unfold chunkV
      have hz0 : 0 + i.val * 488 = i.val * 488 := Nat.zero_add _
      rw [hz0]
      generalize min 488 (n + 4 - i.val * 488) = pm at *
      generalize i.val * 488 = io at *
      obtain ⟨W1, hW1⟩ : ∃ W1, W1 = W.alloc (.cells (cellsOf (List.replicate N512 0)).toArray 5) := ⟨_, rfl⟩
      have HS1 : Hid (SecAt W W.heap.size zsec W1) := Lib.hid (by
        subst hW1
        have hz : List.replicate N512 0 = zsec := by rw [show N512 = 512 by omega]; rfl
        rw [hz]
        exact ⟨Row.new _ _ _, (Below.refl _ _).alloc (Nat.le_refl _) _, Nat.le_refl _⟩)
      have HNV : Hid (Value.int .i64 512 = .int .i64 (N512 : Int)) := Lib.hid (by congr 1; omega)
      have e0 := (HI.out.m.call HS1.out.kept).cell (i := 0) (v := .int .u64 l.run) rfl
      have e1 : W1.cell? ⟨s, 1, none⟩ = some (.int .u64 jj) := (HI.out.m.call HS1.out.kept).cell (i := 1) (by rw [hjj]; rfl)
      rw [hW1] at e0 e1
      have hjb : jj < 1000000 := by omega
      have HJJ := Lib.hid hjj
      clear hjj
      gi_wp2_with (first
        | (refine wpListIn_make_bytes ?_ 41 5 (.const (.int .i64 512)) ?_ N512 ?_ Tryd.underlying41 infoU8s (by omega) ?_
           · with_reducible rfl
           · with_reducible rfl
           · exact HNV.out))
      obtain rfl : N512 = 512 := by omega
      rw [← hW1]
      clear hW1 e0 e1
      refine ⟨trivial, ?_⟩
      refine (CallsIn.inRound l' (callsIn_wide.2 (put_mark l.run jj W.heap.size 0 512 512 zsec W1 HS1.out.row (by rw [Sec.zero.1]; decide) (by decide) (by decide) (by decide)))).mono ?_
      rintro e W2 ⟨⟨z1, rfl⟩, hp2⟩
      have hs2 := HS1.out.put hp2
      have hl2 : (over zsec 0 (leB 8 l.run ++ leB 4 jj)).length = 512 := by rw [over_length (by simp [leB_length, Sec.zero.1]), Sec.zero.1]
      have HS2 := Lib.hid hs2
      have HPB2 := Lib.hid (HP.out.below hs2.kept)
      have hfit2 : 12 + pm ≤ (over zsec 0 (leB 8 l.run ++ leB 4 jj)).length := by omega
      have hz : Hid (secL l.run jj (partL x i.val) = over (over (over zsec 0 (leB 8 l.run ++ leB 4 jj)) 12 (partL x i.val)) 500 (leB 8 l.run ++ leB 4 jj)) := Lib.hid rfl
      clear hp2 hs2 HS1
      generalize over zsec 0 (leB 8 l.run ++ leB 4 jj) = c2 at *
      have hpm : pm ≤ 500 := by omega
      gi_wp2_with (first
        | (refine wpListIn_copy_bytes ?_ (.tmp 43) (.tmp 44) 41 5 ?_ Tryd.underlying41 sizeU8 W.heap.size 12 500 500 (some ⟨w.heap.size, io, none⟩) pm pm (partL x i.val) c2 ?_ ?_ HPB2.out hmin0 hpm HS2.out.row hfit2 ?_
           · with_reducible rfl
           · with_reducible rfl
           · rfl
           · rfl
           intro W3 hr3 hk3))
      have hs3 := HS2.out.copy hr3 hk3
      have hl3 : (over c2 12 (partL x i.val)).length = 512 := by rw [over_length (by rw [HPB2.out.len]; omega), hl2]
      have e0 := (HI.out.m.call hs3.kept).cell (i := 0) (v := .int .u64 l.run) rfl
      have e1 : W3.cell? ⟨s, 1, none⟩ = some (.int .u64 jj) := (HI.out.m.call hs3.kept).cell (i := 1) (by rw [HJJ.out]; rfl)
      have HS3 := Lib.hid hs3
      have hmix : Tryd.prog.follows .mixedOrders = true := by kernel_rfl
      have hfit3 : 500 + 12 ≤ (over c2 12 (partL x i.val)).length := by omega
      clear hr3 hk3 hs3 HS2 hfit2 HPB2
      generalize over c2 12 (partL x i.val) = c3 at *
      gi_region_with_o (first
        | (refine ⟨trivial, ?_⟩; gi_at_call 61; refine (CallsIn.inRound l' (callsIn_wide.2 (put_mark l.run jj W.heap.size 500 12 12 c3 W3.drew HS3.out.drew.row hfit3 (by decide) (by decide) (by decide)))).mono ?_; rintro e W4 ⟨⟨z2, rfl⟩, hp4⟩)
        | (gi_at_call 61; refine (CallsIn.inRound l' (callsIn_wide.2 (put_mark l.run jj W.heap.size 500 12 12 c3 W3.drew HS3.out.drew.row hfit3 (by decide) (by decide) (by decide)))).mono ?_; rintro e W4 ⟨⟨z2, rfl⟩, hp4⟩))
      all_goals (
        have hs4 := HS3.out.drew.put hp4
        rw [← hz.out] at hs4
        have hb4 := hs4.kept
        have hv4 := HV.out.call hb4
        have hm4 := HI.out.m.call hb4
        have hvc4 := hv4.cell (i := 0) (v := .slice A0 (pre.length * 512) c0) rfl
        have HL4 := Lib.hid (HLV.out.below hb4)
        have hsec := secL_len l.run jj (part := partL x i.val) (by rw [partL_len]; omega)
        have hsb := Bytes.of_row' hs4.row (secL_small l.run jj (partL_small HXS.out i.val)) hsec
        have hsrc := hsb.source
        have hsl : (cellsOf (secL l.run jj (partL x i.val))).length = 512 * 1 := by rw [cellsOf_length, hsec]
        have HSRC := Lib.hid hsrc
        have HSL := Lib.hid hsl
        have HS4 := Lib.hid hs4
        have HM4 := Lib.hid hm4
        have HV4 := Lib.hid hv4
        have HQQ := HQ.out
        have HJ1 : Hid (Value.int .u64 ((jj : Int) + 1) = .int .u64 ((l.used + pre.length + 1 : Nat) : Int)) := Lib.hid (by congr 1; have := HJJ.out; omega)
        clear hp4 hs4 hb4 hv4 hm4 hsb hsrc hsl HS3 e0 e1 hsec
        gi_wp2_with (first
          | (refine wpListIn_append_any ?_ (fun k => w7.heap.size ≤ k) (.tmp 50) (.tmp 51) 41 ?_ 5 1 1 (.int .u8 0) Tryd.underlying41 infoU8s rfl (by decide) (.slice A0 (pre.length * 512) c0) (pre.length * 512) (cellsOf (cutP l.run l.used x pre)) ?_ HL4.out _ 512 512 (cellsOf (secL l.run jj (partL x i.val))) ?_ HSL.out HSRC.out (cellsOf_one _) (by omega) (by decide) ?_
             · with_reducible rfl
             · with_reducible rfl
             · rfl
             · rfl
             intro v6 W6 hl6 hk6
             obtain ⟨A6, c6, rfl, _, _⟩ := hl6.form
             have hv6 := HV4.out.kept hk6 (fun h9 => by have := h9.1; omega)
             have hm6 := HM4.out.kept hk6 (fun h9 => by have := h9.1; omega)
             have f60 := hv6.free 0
             have f61 := hm6.free 1
             have m61 : W6.cell? ⟨s, 1, none⟩ = some (.int .u64 jj) := hm6.cell (i := 1) (by rw [HJJ.out]; rfl)
             have v60 := hv6.cell (i := 0) (v := .slice A0 (pre.length * 512) c0) rfl
             have HN := Lib.hid (cut_next (i := i) HI.out HS4.out (by rw [HJJ.out]) (by omega) (by omega) (by omega) (by omega) (by omega) (by omega) hl6 hk6)
             clear hl6 hk6 hv6 hm6))
        rw [HJ1.out]
        exact ⟨HN.out.2.2, HN.out.2.1, HN.out.1⟩)
end Go.Proofs.YtljlkmmeedlaiaaDoor
