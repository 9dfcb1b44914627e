/- Layer 3: Append. -/
import Derived.Test.YtljlkmmeedlaiaaDoorPt30
namespace Go.Proofs.YtljlkmmeedlaiaaDoor
open Go.RowKit

/-- What Append leaves. -/
def AppendL (w : World) (FL FD : Nat → Prop) (p : Nat) (l : L) (d : D) (f : Int → List Nat) (b : List Nat) (m at_ : Nat) (e : Ending) (w' : World) : Prop :=
  (e = .returned (.int .i64 0) ∧ ∃ d', Left w FL FD p { l with used := l.used + m, bs := l.bs ++ [b] } d' w' ∧ d'.size = d.size ∧ Still d' (readW f ((l.from_ : Int) + at_) (cutL l.run l.used b) m) ∧ (d.fates = [] → d'.fates = [])) ∨
  (e = .returned (.int .i64 5) ∧ d.fates ≠ [] ∧ ∃ d', Left w FL FD p { l with dead := true } d' w' ∧ d'.size = d.size ∧ TornD d' f ((l.from_ : Int) + at_) (cutL l.run l.used b) m)
set_option maxRecDepth 100000 in
set_option maxHeartbeats 1000000 in
theorem append_ok (w : World) (FL FD : Nat → Prop) (p : Nat) (l : L) (d : D) (f : Int → List Nat) (A : Option Addr) (n c m at_ : Nat) (b : List Nat) (h : LogOn w FL FD p l d) (hs : Still d f) (hd : l.dead = false) (hA : Bytes w A n b) (hF : 0 < n → ∀ x, A = some x → ¬ FL x.block ∧ ¬ FD x.block)
    (hm : m = costN n) (hat : at_ = 2 + l.used) (hfit : l.used + m + 2 ≤ l.n) (hxs : l.bs.length ≤ 1000000)
    (hq : ∀ i, i < m → runL (f ((l.from_ : Int) + at_ + i)) = runL ((f ((l.from_ : Int) + at_ + i)).drop 500) ∨ runL ((f ((l.from_ : Int) + at_ + i)).drop 500) < l.base ∨ ∀ W, Below w.heap.size w W → Calls Tryd.prog 63 #[.int .u64 l.run, .int .u64 (runL (f ((l.from_ : Int) + at_ + i))), .int .u64 (runL ((f ((l.from_ : Int) + at_ + i)).drop 500))] W fun e w' => e = .returned (.bool false) ∧ Below W.heap.size W w') :
    Calls Tryd.prog 13 #[.pointer (some ⟨p, 0, none⟩), .slice A n c] w (AppendL w FL FD p l d f b m at_) := by
  obtain ⟨vb, mm, _, _, _, _, _, h5, _, h7, _⟩ := h.cells
  rw [hd] at h7
  have hmost := h.most
  have hsz := h.size
  have hlen := hA.len
  have hroom : ¬ roomL l < (n : Int) := by unfold roomL; unfold costN at hm; omega
  have hn9 : n ≤ 40000000 := by unfold costN at hm; omega
  have hm0 : 0 < m := by unfold costN at hm; omega
  have hm1 : m ≤ 65536 := by omega
  have H := Lib.hid h
  have HA := Lib.hid hA
  have HS := Lib.hid hs
  have HF := Lib.hid hF
  have HN : Hid (m = costN b.length) := Lib.hid (by rw [hlen]; exact hm)
  have HCUT : Hid (∀ W, Below w.heap.size w W → Calls Tryd.prog 38 #[.pointer (some ⟨p, 0, none⟩), .slice A n c] W (CutPost W l.run l.used b)) := Lib.hid fun W hb => cut_ok W FL FD p l d A n c b 512 (h.call hb) (hA.below hb) hn9 (Nat.le_refl _) (Nat.le_refl _)
  have HSP : Hid (∀ W, Below w.heap.size w W → Calls Tryd.prog 39 #[.pointer (some ⟨p, 0, none⟩), .int .i64 at_, .int .i64 m] W fun e w' => e = .returned (.int .i64 0) ∧ Below W.heap.size W w') := Lib.hid fun W hb => spoil_ok W FL FD p l d f at_ m (h.call hb) hs.read hs.sec hm0 (by omega) (fun i hi => by
    rcases hq i hi with h1 | h1 | h1
    · exact .inl h1
    · exact .inr (.inl h1)
    · exact .inr (.inr fun W' hb' => h1 W' (hb.call hb')))
  have hat1 : (2 : Int) + (l.used : Int) = (at_ : Int) := by omega
  have hdiv : ((m * 512 : Nat) : Int) / 512 = (m : Int) := by omega
  have HUN : Hid (l.used + m + 2 ≤ l.n ∧ at_ + m ≤ l.n) := Lib.hid ⟨hfit, by omega⟩
  have hub : l.used < 65536 := by omega
  clear h hA hs hF hq hm hfit hat hd hlen hsz hmost
  have HLG : Hid (∀ W, Below w.heap.size w W → LogOn W FL FD p l d ∧ W.cell? ⟨p, 5, none⟩ = some (.int .i64 l.used) ∧ W.cell? ⟨p, 7, none⟩ = some (.bool false)) := Lib.hid fun W hb => ⟨H.out.call hb, (hb.cell (p := ⟨p, 5, none⟩) (block_lt_of_cell h5)).trans h5, (hb.cell (p := ⟨p, 7, none⟩) (block_lt_of_cell h7)).trans h7⟩
  go_enter Tryd.func13, Tryd.ntmps13
  go_wp2_with (first
    | (go_at_call 36; refine (lnone_ok _ FL FD p l d H.out).mono ?_; rintro e w' ⟨rfl, rfl⟩)
    | (go_at_call 37; refine (room_ok _ FL FD p l d H.out).mono ?_; rintro e w1 ⟨rfl, hb1⟩))
  refine (HCUT.out w1 hb1).mono ?_
  rintro e w2 ⟨g, off, c2, rfl, hby, hc2, hc2m, hg, hb2⟩
  rw [← HN.out] at hby hc2 ⊢
  have hb12 := hb1.call hb2
  obtain ⟨_, k5, k7⟩ := HLG.out w2 hb12
  have HBY := Lib.hid hby
  have HB12 := Lib.hid hb12
  have hgw : w.heap.size ≤ g := Nat.le_trans hb1.size hg
  clear h5 h7 hb1 hb2 hby hb12 hg
  go_wp2_with fail
  refine (HSP.out w2 HB12.out).mono ?_
  rintro e w3 ⟨rfl, hb3⟩
  have HBY3 := Lib.hid (HBY.out.below hb3)
  have HB3 := Lib.hid (HB12.out.call hb3)
  have HON3 := Lib.hid (HLG.out w3 HB3.out).1
  clear k5 k7 hb3 HBY HB12
  go_wp2_with fail
  refine (lwrite_ok w3 FL FD p l d f at_ _ (m * 512) m c2 (cutL l.run l.used b) HON3.out HS.out HBY3.out (fun _ x e hx => by
    injection e with e; subst e
    have h1 := H.out.thereD _ hx
    change g < w.heap.size at h1
    omega) hc2 (by unfold maxLen at hc2m; omega) rfl HUN.out.2).mono ?_
  rintro e w4 hwr
  rcases hwr with ⟨rfl, d', hl, hsz, hst, hft⟩ | ⟨rfl, hf, d', hl, hsz, hto⟩
  · have HK := Lib.hid hl.2
    obtain ⟨⟨FL1, FD1, hon, hL, hD⟩, hkp⟩ := hl
    have hon5 := hon.setUsed (l.used + m) (by have := HUN.out.1; omega)
    obtain ⟨vb4, xs4, hx4⟩ := hon.log
    have h45 := hx4.c5
    have h46 := hx4.c6
    have f5 := hx4.row.free 5
    have HON := Lib.hid hon
    have HON5 := Lib.hid hon5
    have HL := Lib.hid hL
    have HD := Lib.hid hD
    have HST := Lib.hid hst
    have HFT := Lib.hid hft
    have HSZ := Lib.hid hsz
    clear hon hon5 hL hD hst hft hkp hsz hx4 HON3 HBY3
    have hcw : w4.setCell ⟨p, 5, none⟩ (.int .i64 ((l.used + m : Nat) : Int)) = w4.setCell ⟨p, 5, none⟩ (.int .i64 ((l.used : Int) + (m : Int))) := by congr 1
    have hkv := Kept.cell w4 p 5 (.int .i64 ((l.used : Int) + (m : Int)))
    have HKV := Lib.hid hkv
    rw [hcw] at HON5
    clear hcw hkv
    go_upto_region 16 with fail
    generalize w4.setCell ⟨p, 5, none⟩ (.int .i64 ((l.used : Int) + (m : Int))) = V5 at *
    obtain ⟨vb5, xs5, hx5⟩ := HON5.out.log
    obtain ⟨Av, cv, hvv, _, _⟩ := hx5.list.form
    subst hvv
    have hxl : xs5.length ≤ 1000000 := by
      have h9 : (xs5.map (·.l)).length = l.bs.length := by rw [hx5.same]
      rw [List.length_map] at h9
      omega
    have HX5 := Lib.hid hx5
    have HLD : Hid (∀ W, Below V5.heap.size V5 W → W.cell? ⟨p, 6, none⟩ = some (.slice Av xs5.length cv) ∧ W.frozen? ⟨p, 6, none⟩ = false) := Lib.hid fun W hb => ⟨(hx5.below hb).c6, (hx5.below hb).row.free 6⟩
    have HAV : Hid (Bytes V5 A n b) := Lib.hid ((((HA.out.below HB3.out).kept HK.out (fun h0 x e hx => by
      rcases hx with hx | hx
      · exact (HF.out h0 x e).1 hx
      · exact (HF.out h0 x e).2 hx))).kept HKV.out (fun h0 x e hx => (HF.out h0 x e).1 (hx ▸ H.out.mem)))
    have HCL : Hid (∀ W, Below V5.heap.size V5 W → Calls Tryd.prog 40 #[.slice A n c] W (ByteClone W b)) := Lib.hid fun W hb => by
      have h9 := HAV.out.below hb
      have hln := h9.len
      subst hln
      exact cloneBytes A c b W h9 (by omega)
    have hbn : b.length = n := HA.out.len
    have HBN := Lib.hid hbn
    have hd0 : Below V5.heap.size V5 V5.drew := (Below.refl _ _).drew
    have k0 := (HLD.out V5 (Below.refl _ _)).1
    clear hx5 hbn h45 h46 f5
    go_cut [] from 57 to 67 (fun W => Left V5 FL1 FD1 p { l with used := l.used + m, bs := l.bs ++ [b] } d' W)
    case first =>
      go_region_law (first
        | (go_simp; go_at_call 40; refine (HCL.out _ hd0).mono ?_; rintro e w6 ⟨A6, c6, rfl, hl6, hb6⟩
           rw [HBN.out] at hl6 ⊢
           have hb7 := hd0.call hb6
           have q6 := (HLD.out _ hb7).1
           have hb8 : Below V5.heap.size V5 (w6.alloc (.cells #[.slice A6 n c6] 41)) := hb7.call ((Below.refl _ _).alloc (Nat.le_refl _) _)
           have q7 := (HLD.out _ hb8).1
           have q8 := (HLD.out _ hb8).2)
        | (refine step_append_any rfl FL1 (.tmp 61) (.tmp 64) 36 rfl 41 1 24 (.slice none 0 0) Tryd.underlying36 infoBats rfl (by decide) (.slice Av xs5.length cv) xs5.length (bvs xs5) rfl ((HX5.out.below hb8).list) _ 1 1 [.slice A6 n c6] rfl rfl (.inr ⟨_, rfl, World.news_of_block (heap_alloc_new _ _)⟩) (by intro u hu; simp at hu; subst hu; rfl) (by omega) (by decide) ?_
           intro v8 w8 hl8 hk8
           obtain ⟨A8, c8, rfl, _, _⟩ := hl8.form
           have hr8 := (HX5.out.below hb8).rowKept hk8
           have q9 := hr8.cell (i := 6) (v := .slice Av xs5.length cv) rfl
           have q10 := hr8.free 6))
      all_goals (
        have hlx : Lies (w6.alloc (.cells #[.slice A6 n c6] 41)) (fun k => V5.heap.size ≤ k) 5 1 (.slice A6 b.length c6) b.length (cellsOf b) := by
          rw [HBN.out]
          exact (hl6.below ((Below.refl _ _).alloc (Nat.le_refl _) _)).mono fun k hk => by
            rcases hk with hk | hk
            · exact hk.elim
            · exact hk
        have HFL : Hid (Left V5 FL1 FD1 p { l with used := l.used + m, bs := l.bs ++ [b] } d' (w8.setCell ⟨p, 6, none⟩ (.slice A8 (xs5.length + 1) c8))) := Lib.hid (appended_left HON5.out HX5.out hb8 hlx HA.out.lt (by rw [HBN.out]; exact hl8) hk8)
        clear hl6 hb6 hl8 hk8 hr8 q9 q10 hlx q6 q7 q8
        go_wp2_with fail
        go_meet
        exact HFL.out)
    case rest =>
      have HFF : Hid (AppendL w FL FD p l d f b m at_ (.returned (.int .i64 0)) wc) := Lib.hid (.inl ⟨rfl, d', (hcut.more HL.out HD.out (HK.out.trans (HKV.out.mono fun k _ e => by subst e; exact grow.old (.inl H.out.mem)))).below HB3.out, HSZ.out, HST.out, HFT.out⟩)
      clear hcut
      go_wp2
      go_ret
      exact HFF.out
  · have HF5 : Hid (AppendL w FL FD p l d f b m at_ (.returned (.int .i64 5)) w4) := Lib.hid (.inr ⟨rfl, hf, d', hl.below HB3.out, hsz, hto⟩)
    clear hl hto HON3 HBY3
    go_wp2
    go_ret
    exact HF5.out
end Go.Proofs.YtljlkmmeedlaiaaDoor
