/- Layer 8: Sorted, of an object of two members, b ahead of a. -/
import Derived.Test.YtjckojedafajeaaGreatDoorPt29
import Derived.Test.YtjckojedafajeaaGreatDoorPt47
namespace Go.Proofs.YtjckojedafajeaaGreatDoor
open Go.RowKit
theorem Two.jis {W : World} {nb no cn lb lo cl : Nat} {b : Bool} {d : Dec} {t : List UInt8} {x y : JV} {F G : Nat → Prop} {c0 c1 : List Value} (h : Two W nb no cn lb lo cl ⟨#[97]⟩ ⟨#[98]⟩ c0 c1) (hx : JIs W F x c0) (hy : JIs W F y c1) (hF : ∀ q, F q → q < W.heap.size → G q) (gn : G nb) (gl : G lb) :
    JIs W G (.mk 5 b d t [x, y] [[97], [98]]) (jvC 5 b d t (.slice (some ⟨lb, lo, none⟩) 2 cl) (.slice (some ⟨nb, no, none⟩) 2 cn)).toList := by
  obtain ⟨_, _, e1, a1, a2⟩ := h.list.form
  injection e1 with _ _ e1
  subst e1
  obtain ⟨_, _, e2, a3, a4⟩ := h.names.form
  injection e2 with _ _ e2
  subst e2
  obtain ⟨n0, n1, _, _⟩ := h.cells
  obtain ⟨g, off, cap, e3, _, _, _, _, hr⟩ := h.list.cells (by decide)
  injection e3 with e3 _ _
  injection e3 with e3
  injection e3 with e3 e4
  subst e3 e4
  unfold JIs
  refine ⟨some ⟨lb, lo, none⟩, cl, some ⟨nb, no, none⟩, cn, rfl, a1, a2, a3, a4, fun i hi => ?_, ?_⟩
  · refine ⟨nb, no, rfl, gn, h.nlt, ?_⟩
    have hi : i < 2 := hi
    rcases (show i = 0 ∨ i = 1 by omega) with rfl | rfl
    · exact n0
    · exact n1
  · refine JsAt.kids (F := F) gl h.llt hF [x, y] [c0, c1] 0 ⟨hx, hy, trivial⟩ ?_
    simpa using hr
/-- A copy of two members as 'Two'. -/
theorem CopAt.two {W : World} {base : Nat} {b : Bool} {d : Dec} {t : List UInt8} {x y : JV} {cs : Array Value} (h : CopAt W base (.mk 5 b d t [x, y] [[98], [97]]) cs) :
    ∃ nb no cn lb lo cl c0 c1 F, cs = jvC 5 b d t (.slice (some ⟨lb, lo, none⟩) 2 cl) (.slice (some ⟨nb, no, none⟩) 2 cn) ∧ Two W nb no cn lb lo cl ⟨#[98]⟩ ⟨#[97]⟩ c0 c1 ∧ JIs W F x c0 ∧ JIs W F y c1 ∧ base ≤ nb ∧ base ≤ lb ∧ (∀ q, F q → q ≠ nb ∧ q ≠ lb ∧ base ≤ q) := by
  obtain ⟨own, L, N, css, rfl, h1, h2, h3⟩ := h
  obtain ⟨lb, lo, cl, rfl, hl, _⟩ := h2.cells (by simp)
  obtain ⟨nb, no, cn, rfl, hn, _⟩ := h3.cells (by simp)
  match css, h1 with
  | [c0, c1], h1 =>
    refine ⟨nb, no, cn, lb, lo, cl, c0, c1, FB own base 0, rfl, ⟨?_, h3.only (by simp), ?_, h1.1.len, h1.2.1.len⟩, h1.1, h1.2.1, hn.2, hl.2, fun q hq => ⟨?_, ?_, hq.2⟩⟩
    · intro e; have a := hn.1; have b := hl.1; rw [e] at a; omega
    · have := h2.only (by simp); simpa using this
    · intro e; have a := hn.1; have b := hq.1; rw [e] at b; omega
    · intro e; have a := hl.1; have b := hq.1; rw [e] at b; omega
def SorPost (w : World) (v : JV) (e : Ending) (w' : World) : Prop := ∃ cs : Array Value, e = .returned (.agg cs) ∧ JIs w' (fun q => w.heap.size ≤ q) v cs.toList ∧ cs.size = 8 ∧ Below w.heap.size w w'
set_option maxRecDepth 1000000 in
set_option maxHeartbeats 8000000 in
theorem jsorted_two (F : Nat → Prop) (cs : Array Value) (b : Bool) (d : Dec) (t : List UInt8) (x y : JV) (w : World) (h : JIs w F (.mk 5 b d t [x, y] [[98], [97]]) cs.toList) (h8 : cs.size = 8) (hs : SmallJ (.mk 5 b d t [x, y] [[98], [97]])) (hf : askJ (.mk 5 b d t [x, y] [[98], [97]]) = true → FineJ (.mk 5 b d t [x, y] [[98], [97]]))
    (hd : depthJ (.mk 5 b d t [x, y] [[98], [97]]) ≤ 1000000) (hT : PowTab w) (hU : Lib.Utf8Tabs 0 1 w) (h0 : checkJ (.mk 5 b d t [x, y] [[98], [97]]) = 0) (nx : NoObj x) (ny : NoObj y) :
    Calls Tryz.prog 21 #[.agg cs] w (SorPost w (.mk 5 b d t [y, x] [[97], [98]])) := by
  obtain ⟨w0, hw0⟩ : ∃ w0, w0 = w.alloc (.cells cs 30) := ⟨_, rfl⟩
  obtain ⟨w1, hw1⟩ : ∃ w1, w1 = w0.alloc (.cells zeroJ 30) := ⟨_, rfl⟩
  have b0 : Below w.heap.size w w0 := by rw [hw0]; exact (Below.refl _ _).alloc (Nat.le_refl _) _
  have b01 : Below w0.heap.size w0 w1 := by rw [hw1]; exact (Below.refl _ _).alloc (Nat.le_refl _) _
  have s0 : w0.heap.size = w.heap.size + 1 := by rw [hw0]; simp
  have b1 := b0.call b01
  have r0 : Row w0 w.heap.size 30 cs := by rw [hw0]; exact Row.new _ _ _
  have r1 := r0.call b01
  have rr : Row w1 (w.heap.size + 1) 30 zeroJ := by rw [← s0, hw1]; exact Row.new _ _ _
  have HRA : Hid (w1.rangeAt w.heap.size 0 cs.toList) := Lib.hid (fun j u hu => by rw [Nat.zero_add]; exact r1.cell (by simpa using hu))
  have HIN : Hid ((Tryz.prog.info? 30).map (·.size) = some cs.size) := Lib.hid (by rw [h8]; exact infoJ)
  have HC := Lib.hid (jmayBe_ok F cs _ w1 (h.below b1) h8 hs hf hd (hT.below b1) (Utf8Tabs_below hU b1))
  have HB := Lib.hid b1
  have hj : JAtP w1 F w.heap.size 0 (.mk 5 b d t [x, y] [[98], [97]]) := by have := boxed h; rw [← hw0] at this; exact this.below b01
  have HCP := Lib.hid (fun V (hb : Below w1.heap.size w1 V) => jcopied_ok _ _ (Nat.le_refl _) (cop_of_check h0 hf) F w.heap.size 0 V (hj.below hb))
  have HRR := Lib.hid rr
  have h1 : (checkJ (.mk 5 b d t [x, y] [[98], [97]]) == 0) = true := by rw [h0]; rfl
  rw [h1] at HC
  have hz : zeroJ = zeroJ := rfl
  clear h hs hf hd hT hU b1 r1 h8 hj h0 h1 rr r0 b0 b01 hz
  have HW1 := Lib.hid hw1
  clear hw1
  go_enter Tryz.func21, Tryz.ntmps21
  go_upto_region 1 with fail
  have HW1 := HW1.out
  unfold zeroJ at HW1
  rw [← hw0, ← HW1]
  clear hw0 HW1 s0
  go_wp2_with (first
    | (refine wpList_load_mid ?_ 30 (.tmp 1) ?_ w.heap.size 0 ?_ cs.toList _ HRA.out Tryz.underlying30 rfl (by rw [Array.length_toList]; exact HIN.out) ?_
       · with_reducible rfl
       · with_reducible rfl
       · rfl))
  refine HC.out.mono ?_
  rintro e w2 ⟨rfl, hb⟩
  have HCP2 := Lib.hid (HCP.out w2 hb)
  have HB2 := Lib.hid (HB.out.call hb)
  have HRR2 := Lib.hid (HRR.out.call hb)
  clear hb HCP HRR
  go_wp2_with fail
  refine HCP2.out.mono ?_
  rintro e w3 ⟨c2, rfl, hcop, hb⟩
  obtain ⟨nb, no, cn, lb, lo, cl, c0, c1, F2, hc2, htw, hjx, hjy, gn, gl, hF2⟩ := hcop.two
  have hone : c2.all (·.oneCell') = true := by
    rw [Array.all_eq_true_iff_forall_mem]
    intro u hu
    exact jv_one hcop.jis u (Array.mem_toList_iff.2 hu)
  have hs2 : c2.size = 8 := by rw [hc2]; rfl
  have HON := Lib.hid hone
  have HI2 : Hid ((Tryz.prog.info? 30).map (·.size) = some c2.size) := Lib.hid (by rw [hs2]; exact infoJ)
  have HTH : Hid ((w3.alloc (.cells zeroJ 30)).there w3.heap.size 0 c2.size) := Lib.hid (row_there (Row.new _ _ _) (by rw [hs2]; exact Nat.le_refl _))
  obtain ⟨w4, hw4⟩ : ∃ w4, w4 = (w3.alloc (.cells zeroJ 30)).setCells w3.heap.size 0 c2.toList := ⟨_, rfl⟩
  have b34 : Below w3.heap.size w3 w4 := by rw [hw4]; exact ((Below.refl _ _).alloc (Nat.le_refl _) _).trans ((kept_setCells _ _ _ _ _ (Kept.refl _ _)).below ((Below.refl w3.heap.size w3).alloc (Nat.le_refl _) _).size fun k hk => Nat.le_of_eq hk.symm)
  have hrow : Row w4 w3.heap.size 30 c2 := by
    rw [hw4]
    have h9 := row_laid c2.toList [] zeroJ.toList (w3.alloc (.cells zeroJ 30)) (g := w3.heap.size) (by simpa using Row.new w3 30 zeroJ) (by rw [Array.length_toList, Array.length_toList, hs2]; rfl)
    simpa using h9
  have l0 : c0.toArray.toList = c0 := rfl
  have l1 : c1.toArray.toList = c1 := rfl
  have ht4 := htw.below b34
  have hj4x := hjx.below b34
  have hj4y := hjy.below b34
  have hrow4 := hrow
  rw [hc2] at hrow4
  have HAR := Lib.hid (jarr_two w3.heap.size nb no cn lb lo cl b d t x y F2 c0.toArray c1.toArray w4 hrow4 ht4 hj4x hj4y (by have := htw.nlt; omega) (by have := htw.llt; omega) (fun q hq => ⟨(hF2 q hq).1, (hF2 q hq).2.1⟩) nx ny)
  have FF : Hid (∀ w5, TwoPost nb no cn lb lo cl c0.toArray c1.toArray w4 (.returned (.tuple #[])) w5 → Row w5 w3.heap.size 30 c2 ∧ Row w5 (w.heap.size + 1) 30 zeroJ ∧ JIs w5 (fun q => w2.heap.size ≤ q) (.mk 5 b d t [y, x] [[97], [98]]) c2.toList ∧ Below w.heap.size w w5) := Lib.hid (by
    rintro w5 ⟨_, h2, h3⟩
    have hsz := hb.size
    have hw2 := HRR2.out.lt
    have hne : ∀ q, q = nb ∨ q = lb → w2.heap.size ≤ q := fun q e => e.elim (fun e => by rw [e]; exact gn) (fun e => by rw [e]; exact gl)
    have kx : JIs w5 F2 x c0 := JIs.kept h3 (fun q hq e => e.elim (hF2 q hq).1 (hF2 q hq).2.1) _ _ hj4x
    have ky : JIs w5 F2 y c1 := JIs.kept h3 (fun q hq e => e.elim (hF2 q hq).1 (hF2 q hq).2.1) _ _ hj4y
    refine ⟨hrow.kept h3 (fun e => by have := htw.nlt; have := htw.llt; omega), ((HRR2.out.call hb).call b34).kept h3 (fun e => by have := hne _ e; omega), ?_, ?_⟩
    · rw [hc2]
      exact Two.jis h2 ky kx (fun q hq _ => (hF2 q hq).2.2) gn gl
    · exact ((HB2.out.call hb).call b34).trans (h3.below (((HB2.out.call hb).call b34).size) fun q e => by have := hne q e; have := HB2.out.size; omega))
  have HW4 := Lib.hid hw4
  have HS2 := Lib.hid hs2
  clear hcop hb hc2 hone hs2 hw4 b34 hrow htw hjx hjy gn gl hF2 l0 l1 ht4 hj4x hj4y hrow4
  go_wp2_with (first
    | (refine wpList_store_mid ?_ 30 (.tmp 3) (.tmp 8) ?_ w3.heap.size 0 c2 ?_ ?_ ?_ HI2.out HON.out ?_
       · with_reducible rfl
       · with_reducible rfl
       · rfl
       · rfl
       · exact HTH.out
       show wpList _ _ _ _ _ ((w3.alloc (.cells zeroJ 30)).setCells w3.heap.size 0 c2.toList)
       rw [← HW4.out]))
  refine HAR.out.mono ?_
  rintro e w5 ⟨rfl, h2, h3⟩
  obtain ⟨f1, f2, f3, f4⟩ := FF.out w5 ⟨rfl, h2, h3⟩
  have HR5 : Hid (w5.rangeAt w3.heap.size 0 c2.toList) := Lib.hid (fun q u hu => by rw [Nat.zero_add]; exact f1.cell (by simpa using hu))
  have HT5 : Hid (w5.there (w.heap.size + 1) 0 c2.size) := Lib.hid (row_there f2 (by rw [HS2.out]; exact Nat.le_refl _))
  have kk := kept_setCells w5 (w.heap.size + 1) c2.toList 0 w5 (Kept.refl _ _)
  have HRF : Hid (Row (w5.setCells (w.heap.size + 1) 0 c2.toList) (w.heap.size + 1) 30 c2) := Lib.hid (by
    have h9 := row_laid c2.toList [] zeroJ.toList w5 (g := w.heap.size + 1) (by simpa using f2) (by rw [Array.length_toList, Array.length_toList, HS2.out]; rfl)
    simpa using h9)
  have hw2 := HRR2.out.lt
  have HFIN : Hid (SorPost w (.mk 5 b d t [y, x] [[97], [98]]) (.returned (.agg c2)) (w5.setCells (w.heap.size + 1) 0 c2.toList)) := Lib.hid
    ⟨c2, rfl, JIs.mono (fun q e1 _ => Nat.le_trans HB2.out.size e1) _ _ (JIs.kept kk (fun q e1 e2 => by omega) _ _ f3), HS2.out, f4.trans (kk.below f4.size fun q e => by omega)⟩
  clear h2 h3 f1 f2 f3 f4 kk hw2
  go_wp2_with (first
    | (refine wpList_load_mid ?_ 30 (.tmp 3) ?_ w3.heap.size 0 ?_ c2.toList _ HR5.out Tryz.underlying30 rfl (by rw [Array.length_toList]; exact HI2.out) ?_
       · with_reducible rfl
       · with_reducible rfl
       · rfl)
    | (refine wpList_store_mid ?_ 30 (.tmp 2) (.tmp 10) ?_ (w.heap.size + 1) 0 c2 ?_ ?_ HT5.out HI2.out HON.out ?_
       · with_reducible rfl
       · with_reducible rfl
       · rfl
       · rfl))
  refine bodyPost_ret_by (results_oneJ rfl _ _ (w.heap.size + 1) c2 ?_ (load_jv HRF.out HS2.out)) rfl ?_
  · rfl
  exact HFIN.out
end Go.Proofs.YtjckojedafajeaaGreatDoor
/- Layer 8: what the path /b/0 leads to. -/
namespace Go.Proofs.YtjckojedafajeaaGreatDoor
open Go.RowKit
set_option maxRecDepth 100000 in
set_option maxHeartbeats 4000000 in
theorem index_b (nb no n c : Nat) (w : World) (hn : 0 < n) (hn2 : n ≤ 1000000000000) (h : w.cell? ⟨nb, no, none⟩ = some (.string ⟨#[98]⟩)) :
    Calls Tryz.prog 108 #[.slice (some ⟨nb, no, none⟩) n c, .string ⟨#[98]⟩] w fun e w' => e = .returned (.int .i64 0) ∧ w = w' := by
  have hz : (0 : Int) < (n : Int) := by omega
  go_enter Tryz.func108, Tryz.ntmps108
  go_wp2
  go_loop [8] (fun v8 => v8 = .int .i64 0) (fun _ => 0)
  case atStart => rfl
  case round =>
    obtain rfl := hrel
    go_wp2
    go_ret
    exact ⟨rfl, rfl⟩
set_option maxRecDepth 100000 in
set_option maxHeartbeats 4000000 in
theorem member_b (g off nb no n cn lb lo m cl : Nat) (w : World) (hn : 0 < n) (hn2 : n ≤ 1000000000000) (hm : 0 < m) (h7 : w.cell? ⟨g, off + 7, none⟩ = some (.slice (some ⟨nb, no, none⟩) n cn)) (h6 : w.cell? ⟨g, off + 6, none⟩ = some (.slice (some ⟨lb, lo, none⟩) m cl)) (h : w.cell? ⟨nb, no, none⟩ = some (.string ⟨#[98]⟩)) :
    Calls Tryz.prog 85 #[.pointer (some ⟨g, off, none⟩), .string ⟨#[98]⟩] w fun e w' => e = .returned (.pointer (some ⟨lb, lo, none⟩)) ∧ w = w' := by
  have HX := Lib.hid (index_b nb no n cn w hn hn2 h)
  have hz : (0 : Int) < (m : Int) := by omega
  clear h
  go_enter Tryz.func85, Tryz.ntmps85
  go_wp2_with fail
  refine HX.out.mono ?_
  rintro e w1 ⟨rfl, rfl⟩
  go_wp2_with fail
  go_ret
  exact ⟨rfl, rfl⟩
set_option maxRecDepth 100000 in
set_option maxHeartbeats 4000000 in
theorem within_b (g off nb no n cn lb lo m cl : Nat) (w : World) (hn : 0 < n) (hn2 : n ≤ 1000000000000) (hm : 0 < m) (h0 : w.cell? ⟨g, off, none⟩ = some (.int .i64 5)) (h7 : w.cell? ⟨g, off + 7, none⟩ = some (.slice (some ⟨nb, no, none⟩) n cn)) (h6 : w.cell? ⟨g, off + 6, none⟩ = some (.slice (some ⟨lb, lo, none⟩) m cl)) (h : w.cell? ⟨nb, no, none⟩ = some (.string ⟨#[98]⟩)) :
    Calls Tryz.prog 50 #[.pointer (some ⟨g, off, none⟩), .string ⟨#[98]⟩] w fun e w' => e = .returned (.pointer (some ⟨lb, lo, none⟩)) ∧ w = w' := by
  have HX := Lib.hid (member_b g off nb no n cn lb lo m cl w hn hn2 hm h7 h6 h)
  clear h h7 h6
  go_enter Tryz.func50, Tryz.ntmps50
  go_wp2_with fail
  refine HX.out.mono ?_
  rintro e w1 ⟨rfl, rfl⟩
  go_wp2_with fail
  go_ret
  exact ⟨rfl, rfl⟩
theorem atoi_0 (w : World) : Calls Tryz.prog 86 #[.string ⟨#[48]⟩] w fun e w' => e = .returned (.tuple #[.int .i64 0, .nilIface]) ∧ Below w.heap.size w w' := by
  refine (Tryz.strconv_Atoi ⟨#[48]⟩ 0 (by decide) (by decide) w).mono ?_
  rintro e w' ⟨rfl, t, rfl⟩
  exact ⟨rfl, Lib.bytesWorld_below _ _ _⟩
theorem itoa_0 (w : World) (hT : PowTab w) : Calls Tryz.prog 53 #[.int .i64 0] w fun e w' => e = .returned (.string ⟨#[48]⟩) ∧ Below w.heap.size w w' := by
  refine (Tryz.strconv_Itoa 0 (by decide) (by decide) w hT).mono ?_
  rintro e w' ⟨rfl, k, os, rfl⟩
  exact ⟨by rw [show Lib.itoa 0 = [48] by decide +kernel], Lib.below_grow _ _ (Nat.le_refl _) _ _⟩
set_option maxRecDepth 100000 in
set_option maxHeartbeats 4000000 in
theorem within_0 (g off lb lo m cl : Nat) (w : World) (hT : PowTab w) (hg : g < w.heap.size) (hm : 0 < m) (hm2 : m ≤ 9223372036854775807) (h0 : w.cell? ⟨g, off, none⟩ = some (.int .i64 4)) (h6 : w.cell? ⟨g, off + 6, none⟩ = some (.slice (some ⟨lb, lo, none⟩) m cl)) :
    Calls Tryz.prog 50 #[.pointer (some ⟨g, off, none⟩), .string ⟨#[48]⟩] w fun e w' => e = .returned (.pointer (some ⟨lb, lo, none⟩)) ∧ Below w.heap.size w w' := by
  have HA := Lib.hid (atoi_0 w)
  have HI := Lib.hid (fun V (hb : Below w.heap.size w V) => itoa_0 V (hT.below hb))
  have H6 := Lib.hid (fun V (hb : Below w.heap.size w V) => (hb.cell (p := ⟨g, off + 6, none⟩) hg).trans h6)
  have hz : (0 : Int) < (m : Int) := by omega
  have hge : decide ((m : Int) ≤ 0) = false := by simp; omega
  clear h6 hT
  go_enter Tryz.func50, Tryz.ntmps50
  go_wp2_with fail
  refine HA.out.mono ?_
  rintro e w1 ⟨rfl, hb⟩
  have x6 := H6.out w1 hb
  have HI1 := Lib.hid (HI.out w1 hb)
  have HB := Lib.hid hb
  clear hb
  go_wp2_with fail
  refine HI1.out.mono ?_
  rintro e w2 ⟨rfl, hb⟩
  have HB2 := Lib.hid (HB.out.call hb)
  have x7 := H6.out w2 HB2.out
  clear hb x6
  go_wp2_with fail
  go_ret
  exact ⟨rfl, HB2.out⟩
set_option maxRecDepth 100000 in
set_option maxHeartbeats 4000000 in
theorem cut_0 (w : World) : Calls Tryz.prog 49 #[.string ⟨#[47, 48]⟩] w (CutPost w [48] []) := by
  have HR := Lib.hid (repl_48_49 w)
  have hx : (⟨#[47, 48]⟩ : ByteArray).extract 1 2 = ⟨#[48]⟩ := by decide
  have hy : (⟨#[47, 48]⟩ : ByteArray).extract 2 2 = ⟨#[]⟩ := by decide
  go_enter Tryz.func49, Tryz.ntmps49
  go_wp2
  go_loop [4] (fun v4 => v4 = .int .i64 1 ∨ v4 = .int .i64 2) (fun v4 => 2 - (intOf v4).toNat)
  case atStart => exact .inl rfl
  case round =>
    rcases hrel with rfl | rfl
    · go_wp2
      go_round
      case rel => exact .inr rfl
      case measure => simp [intOf]
    · go_wp2_with fail
      refine HR.out.mono ?_
      rintro e w1 ⟨rfl, rfl⟩
      go_wp2_with fail
      go_quiet ((go_at_call 84; with_reducible exact Calls.quiet_of_same (same_q (repl_48_48 _))))
      go_wp2_with fail
      go_ret2
      exact ⟨rfl, below_drewN (Below.refl _ _) _⟩
/-- The value and an error's number. -/
def PtrPost (w : World) (v : JV) (k : Int) (e : Ending) (w' : World) : Prop := ∃ cs : Array Value, e = .returned (.tuple #[.agg cs, .int .i64 k]) ∧ JIs w' (fun q => w.heap.size ≤ q) v cs.toList ∧ cs.size = 8 ∧ Below w.heap.size w w'
def sizeV : Value → Nat
  | .string s => s.size
  | _ => 0
set_option maxRecDepth 1000000 in
set_option maxHeartbeats 8000000 in
theorem jpointer_b0 (F : Nat → Prop) (cs : Array Value) (v : JV) (b : Bool) (d : Dec) (t : List UInt8) (x : JV) (l : List JV) (ns : List (List UInt8)) (b2 : Bool) (d2 : Dec) (t2 : List UInt8) (z : JV) (l2 : List JV) (ns2 : List (List UInt8)) (w : World) (hv : v = .mk 5 b d t (x :: l) ([98] :: ns)) (hx : x = .mk 4 b2 d2 t2 (z :: l2) ns2)
    (h : JIs w F v cs.toList) (h8 : cs.size = 8) (hs : SmallJ v) (hf : askJ v = true → FineJ v) (hd : depthJ v ≤ 1000000) (hT : PowTab w) (hU : Lib.Utf8Tabs 0 1 w) (h0 : checkJ v = 0) :
    Calls Tryz.prog 22 #[.agg cs, .string ⟨#[47, 98, 47, 48]⟩] w (PtrPost w z 0) := by
  have hcv := cop_of_check h0 hf
  have hcz : CopJ z ∧ ns.length + 1 ≤ 1000000000000 := by
    rw [hv] at hcv
    unfold CopJ at hcv
    have hcx := hcv.2.2.2.2.2.get x (by simp)
    rw [hx] at hcx
    unfold CopJ at hcx
    exact ⟨hcx.2.2.2.2.2.get z (by simp), by simpa using hcv.2.2.1⟩
  obtain ⟨w0, hw0⟩ : ∃ w0, w0 = w.alloc (.cells cs 30) := ⟨_, rfl⟩
  obtain ⟨w1, hw1⟩ : ∃ w1, w1 = w0.alloc (.cells zeroJ 30) := ⟨_, rfl⟩
  have b0 : Below w.heap.size w w0 := by rw [hw0]; exact (Below.refl _ _).alloc (Nat.le_refl _) _
  have b01 : Below w0.heap.size w0 w1 := by rw [hw1]; exact (Below.refl _ _).alloc (Nat.le_refl _) _
  have s0 : w0.heap.size = w.heap.size + 1 := by rw [hw0]; simp
  have b1 := b0.call b01
  have r0 : Row w0 w.heap.size 30 cs := by rw [hw0]; exact Row.new _ _ _
  have r1 := r0.call b01
  have rr : Row w1 (w.heap.size + 1) 30 zeroJ := by rw [← s0, hw1]; exact Row.new _ _ _
  have HRA : Hid (w1.rangeAt w.heap.size 0 cs.toList) := Lib.hid (fun j u hu => by rw [Nat.zero_add]; exact r1.cell (by simpa using hu))
  have HIN : Hid ((Tryz.prog.info? 30).map (·.size) = some cs.size) := Lib.hid (by rw [h8]; exact infoJ)
  have HC := Lib.hid (jmayBe_ok F cs v w1 (h.below b1) h8 hs hf hd (hT.below b1) (Utf8Tabs_below hU b1))
  have h1 : (checkJ v == 0) = true := by rw [h0]; rfl
  rw [h1] at HC
  have HB := Lib.hid b1
  have hj : JAtP w1 F w.heap.size 0 v := by have := boxed h; rw [← hw0] at this; exact this.below b01
  rw [hv] at hj
  -- what is where
  obtain ⟨A, c, A', c', p0, _, _, _, _, _, p6, p7, a1, a2, a3, a4, hnm, hkd⟩ := hj.open_
  obtain ⟨nb, no, rfl, _, hnlt, hn0⟩ := hnm 0 (by simp)
  obtain ⟨lb, lo, rfl, hjx⟩ := hkd 0 (by simp)
  have e0 : (x :: l).getD 0 JV.null = x := rfl
  rw [e0, Nat.zero_mul, Nat.add_zero, hx] at hjx
  obtain ⟨B, c2, B', c3, y0, _, _, _, _, _, y6, y7, a5, a6, a7, a8, _, hkd2⟩ := hjx.open_
  obtain ⟨mb, mo, rfl, hjz⟩ := hkd2 0 (by simp)
  have e1 : (z :: l2).getD 0 JV.null = z := rfl
  rw [e1, Nat.zero_mul, Nat.add_zero] at hjz
  rw [Nat.add_zero] at hn0
  have hlx := hjx.1
  have hlv := hj.1
  have hns : ([98] :: ns).length ≤ 1000000000000 := by simpa using hcz.2
  have W1 := Lib.hid (fun V (hb : Below w1.heap.size w1 V) => within_b w.heap.size 0 nb no ([98] :: ns).length c' lb lo (x :: l).length c V (by simp) hns (by simp) ((hb.cell (p := ⟨w.heap.size, 0, none⟩) hlv).trans p0) ((hb.cell (p := ⟨w.heap.size, 0 + 7, none⟩) hlv).trans p7) ((hb.cell (p := ⟨w.heap.size, 0 + 6, none⟩) hlv).trans p6) ((hb.cell (p := ⟨nb, no, none⟩) hnlt).trans hn0))
  have W2 := Lib.hid (fun V (hb : Below w1.heap.size w1 V) => within_0 lb lo mb mo (z :: l2).length c2 V (hT.below (b1.call hb)) (Nat.lt_of_lt_of_le hlx hb.size) (by simp) (by unfold maxLen at a6; omega) ((hb.cell (p := ⟨lb, lo, none⟩) hlx).trans y0) ((hb.cell (p := ⟨lb, lo + 6, none⟩) hlx).trans y6))
  have HCP := Lib.hid (fun V (hb : Below w1.heap.size w1 V) => jcopied_ok _ z (Nat.le_refl _) hcz.1 F mb mo V (hjz.below hb))
  have HRR := Lib.hid rr
  have HT := Lib.hid hT
  clear hv hx h hs hf hd hU hT h0 h1 hcv hcz b1 r1 r0 b0 b01 rr h8 hj p0 p6 p7 a1 a2 a3 a4 a5 a6 a7 a8 hnm hkd hnlt hn0 hjx y0 y6 y7 hkd2 hjz e0 e1 hlx hlv hns
  generalize (x :: l).length = nl at *
  generalize ([98] :: ns).length = nn at *
  generalize (z :: l2).length = nz at *
  generalize hck : checkJ v = ck at *
  clear hck
  have HW1 := hw1
  unfold zeroJ at HW1
  clear hw1
  go_enter Tryz.func22, Tryz.ntmps22
  go_upto_region 1 with fail
  rw [← hw0, ← HW1]
  clear hw0 HW1 s0
  go_wp2_with (first
    | (refine wpList_load_mid ?_ 30 (.tmp 2) ?_ w.heap.size 0 ?_ cs.toList _ HRA.out Tryz.underlying30 rfl (by rw [Array.length_toList]; exact HIN.out) ?_
       · with_reducible rfl
       · with_reducible rfl
       · rfl))
  refine HC.out.mono ?_
  rintro e w2 ⟨rfl, hb⟩
  have HB2 := Lib.hid hb
  clear hb
  go_wp2_with fail
  refine (isPath_b0 w2).mono ?_
  rintro e w3 ⟨rfl, rfl⟩
  go_wp2_with fail
  go_loopw [1, 6] (fun v1 v6 wr => Hid (Below w1.heap.size w1 wr) ∧ ((v1 = .string ⟨#[47, 98, 47, 48]⟩ ∧ v6 = .pointer (some ⟨w.heap.size, 0, none⟩)) ∨ (v1 = .string ⟨#[47, 48]⟩ ∧ v6 = .pointer (some ⟨lb, lo, none⟩)) ∨ (v1 = .string ⟨#[]⟩ ∧ v6 = .pointer (some ⟨mb, mo, none⟩)))) (fun v1 _ _ => sizeV v1)
  case atStart => exact ⟨HB2, .inl ⟨rfl, rfl⟩⟩
  case round =>
    obtain ⟨HBR, hrel⟩ := hrel
    rcases hrel with ⟨rfl, rfl⟩ | ⟨rfl, rfl⟩ | ⟨rfl, rfl⟩
    · have HCT := Lib.hid (cut_b wr)
      go_wp2_with fail
      refine HCT.out.mono ?_
      rintro e u1 ⟨rfl, hb⟩
      have HB3 := Lib.hid (HBR.out.call hb)
      have HX := Lib.hid (W1.out u1 HB3.out)
      clear hb
      go_wp2_with fail
      refine HX.out.mono ?_
      rintro e u2 ⟨rfl, rfl⟩
      go_wp2_with fail
      exact ⟨⟨HB3, .inr (.inl ⟨rfl, rfl⟩)⟩, by decide⟩
    · have HCT := Lib.hid (cut_0 wr)
      go_wp2_with fail
      refine HCT.out.mono ?_
      rintro e u1 ⟨rfl, hb⟩
      have HB3 := Lib.hid (HBR.out.call hb)
      have HX := Lib.hid (W2.out u1 HB3.out)
      clear hb
      go_wp2_with fail
      refine HX.out.mono ?_
      rintro e u2 ⟨rfl, hb⟩
      have HB4 := Lib.hid (HB3.out.call hb)
      clear hb
      go_wp2_with fail
      exact ⟨⟨HB4, .inr (.inr ⟨rfl, rfl⟩)⟩, by decide⟩
    · have HCC := Lib.hid (HCP.out wr HBR.out)
      have HRR2 := Lib.hid (HRR.out.call HBR.out)
      go_wp2_with fail
      refine HCC.out.mono ?_
      rintro e u1 ⟨c2z, rfl, hcop, hb⟩
      obtain ⟨_, _, _, _, _, _, hcf⟩ := hcop.form
      have hs2 : c2z.size = 8 := by rw [hcf]; rfl
      have hone : c2z.all (·.oneCell') = true := by
        rw [Array.all_eq_true_iff_forall_mem]
        intro u hu
        exact jv_one hcop.jis u (Array.mem_toList_iff.2 hu)
      have hr3 := HRR2.out.call hb
      have kk := kept_setCells u1 (w.heap.size + 1) c2z.toList 0 u1 (Kept.refl _ _)
      have HT5 : Hid (u1.there (w.heap.size + 1) 0 c2z.size) := Lib.hid (row_there hr3 (by rw [hs2]; exact Nat.le_refl _))
      have HI2 : Hid ((Tryz.prog.info? 30).map (·.size) = some c2z.size) := Lib.hid (by rw [hs2]; exact infoJ)
      have HON := Lib.hid hone
      have HS2 := Lib.hid hs2
      have HRF : Hid (Row (u1.setCells (w.heap.size + 1) 0 c2z.toList) (w.heap.size + 1) 30 c2z) := Lib.hid (by
        have h9 := row_laid c2z.toList [] zeroJ.toList u1 (g := w.heap.size + 1) (by simpa using hr3) (by rw [Array.length_toList, Array.length_toList, hs2]; rfl)
        simpa using h9)
      have hlt := HRR2.out.lt
      have hbw := HB.out.call HBR.out
      have HFIN : Hid (PtrPost w z 0 (.returned (.tuple #[.agg c2z, .int .i64 0])) (u1.setCells (w.heap.size + 1) 0 c2z.toList)) := Lib.hid
        ⟨c2z, rfl, JIs.mono (fun q e1 _ => Nat.le_trans hbw.size e1) _ _ (JIs.kept kk (fun q e1 e2 => by omega) _ _ hcop.jis), hs2, (hbw.call hb).trans (kk.below (hbw.call hb).size fun q e => by omega)⟩
      clear hcop hb hcf hs2 hone hr3 kk hlt hbw
      go_wp2_with (first
        | (refine wpList_store_mid ?_ 30 (.tmp 4) (.tmp 37) ?_ (w.heap.size + 1) 0 c2z ?_ ?_ HT5.out HI2.out HON.out ?_
           · with_reducible rfl
           · with_reducible rfl
           · rfl
           · rfl))
      refine bodyPost_ret_by (results_row_tmp rfl _ _ (w.heap.size + 1) c2z rfl (load_jv HRF.out HS2.out)) rfl ?_
      exact HFIN.out
end Go.Proofs.YtjckojedafajeaaGreatDoor
