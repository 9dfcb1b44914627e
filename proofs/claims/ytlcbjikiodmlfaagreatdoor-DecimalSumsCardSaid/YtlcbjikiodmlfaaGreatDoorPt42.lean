/- Layer 7: the document's Sum. -/
import Derived.Test.YtlcbjikiodmlfaaGreatDoorPt40
import Derived.Test.YtlcbjikiodmlfaaGreatDoorPt41
import Derived.Test.YtlcbjikiodmlfaaGreatDoorPt39
import Derived.Test.YtlcbjikiodmlfaaGreatDoorPt10
namespace Go.Proofs.YtlcbjikiodmlfaaGreatDoor
open Go.RowKit

theorem made_sum {L : List Dec} (hm : ∀ d ∈ L, May d) :
    (dnN (min0 L) L ≤ upN (min0 L) L → (mayB (dec false (upN (min0 L) L - dnN (min0 L) L) (min0 L)) = true → sumD L = dec false (upN (min0 L) L - dnN (min0 L) L) (min0 L) ∧ sumE L = 0) ∧ (mayB (dec false (upN (min0 L) L - dnN (min0 L) L) (min0 L)) = false → sumD L = Dec.zero ∧ sumE L = 4)) ∧
    (upN (min0 L) L < dnN (min0 L) L → (mayB (dec true (dnN (min0 L) L - upN (min0 L) L) (min0 L)) = true → sumD L = dec true (dnN (min0 L) L - upN (min0 L) L) (min0 L) ∧ sumE L = 0) ∧ (mayB (dec true (dnN (min0 L) L - upN (min0 L) L) (min0 L)) = false → sumD L = Dec.zero ∧ sumE L = 4)) := by
  obtain ⟨h1, h2⟩ := sum_ud hm
  constructor
  · intro h
    obtain ⟨e1, e2⟩ := h1 h
    rw [← e1, ← e2]
    unfold mkD mkE
    constructor
    · intro h; rw [h]; exact ⟨rfl, rfl⟩
    · intro h; rw [h]; exact ⟨rfl, rfl⟩
  · intro h
    obtain ⟨e1, e2⟩ := h2 h
    rw [← e1, ← e2]
    unfold mkD mkE
    constructor
    · intro h; rw [h]; exact ⟨rfl, rfl⟩
    · intro h; rw [h]; exact ⟨rfl, rfl⟩
theorem ud_len {e : Int} (he : -1000 ≤ e) {L : List Dec} (hm : ∀ d ∈ L, May d) (hl : L.length ≤ 1000) : (dig (upN e L)).length ≤ 2300 ∧ (dig (dnN e L)).length ≤ 2300 := by
  obtain ⟨h1, h2⟩ := ud_le e he L hm
  have h3 : ∀ x, x ≤ L.length * bigN → (dig x).length ≤ 2300 := fun x hx => by
    have h4 : x < 10 ^ (4 + (e100 + e2000)) := by
      rw [Nat.pow_add]
      have h5 : L.length * bigN ≤ 1000 * bigN := Nat.mul_le_mul_right _ hl
      have h6 := bigN_pos
      unfold bigN at hx h5 h6
      generalize 10 ^ (e100 + e2000) = B at *
      omega
    exact Nat.le_trans (dig_len_le x h4) (by decide)
  exact ⟨h3 _ h1, h3 _ h2⟩
set_option maxRecDepth 100000 in
set_option maxHeartbeats 4000000 in
theorem rsum_ok (A : Option Addr) (n c : Nat) (L : List Dec) (w : World) (hL : L.length = n) (hn : n ≤ 1000) (h : Holds w A n 3 (dcs L)) (hm : ∀ d ∈ L, May d) :
    Calls Tryz.prog 8 #[.slice A n c] w (Told w (sumD L) (sumE L)) := by
  have HH := Lib.hid h
  have HL := Lib.hid hL
  have HM := Lib.hid hm
  have HMIN := Lib.hid (min0_ok L hm)
  have HMS := Lib.hid (made_sum hm)
  clear h hL hm
  obtain ⟨w1, hw1⟩ : ∃ w1, w1 = w.alloc (.cells #[.bool false, .string ⟨#[]⟩, .int .i64 0] 24) := ⟨_, rfl⟩
  have HB1 : Hid (Below w.heap.size w w1) := Lib.hid (by subst hw1; exact (Below.refl _ _).alloc (Nat.le_refl _) _)
  have HR1 : Hid (Row w1 w.heap.size 24 #[.bool false, .string ⟨#[]⟩, .int .i64 0]) := Lib.hid (by subst hw1; exact Row.new _ _ _)
  go_enter Tryz.func8, Tryz.ntmps8
  go_upto_region 1 with fail
  rw [← hw1]
  clear hw1
  go_wp2_with fail
  go_loop [4, 5] (fun v4 v5 => ∃ (i : Nat) (e : Int), i ≤ n ∧ v5 = .int .i64 i ∧ v4 = .int .i64 e ∧ Hid (e = min0 (L.take i))) (fun _ v5 => n - (intOf v5).toNat)
  case atStart => exact ⟨0, 0, Nat.zero_le _, rfl, rfl, Lib.hid rfl⟩
  case round =>
    obtain ⟨i, e, hi, rfl, rfl, HE⟩ := hrel
    by_cases hlt : i < n
    · obtain ⟨ga, oa, rfl, hga, hra⟩ := HH.out.2 (by omega)
      have g2 := (dcs_get L i (by rw [HL.out]; exact hlt)).2.2
      have k2 := (HB1.out.cell (p := ⟨ga, oa + (i * 3 + 2), none⟩) hga).trans (hra _ _ g2)
      rw [← Nat.add_assoc] at k2
      have HE2 : Hid (min e (L.getD i Dec.zero).exp = min0 (L.take (i + 1))) := Lib.hid (by rw [getD_take L i (by rw [HL.out]; exact hlt), min0_snoc, HE.out])
      generalize (L.getD i Dec.zero).exp = x at *
      clear hra g2
      go_wp2
      exact ⟨⟨i + 1, _, by omega, by go_num, rfl, HE2⟩, by simp [intOf]; omega⟩
    · obtain rfl : i = n := by omega
      have hEe : e = min0 L := by rw [HE.out, List.take_of_length_le (by rw [HL.out]; exact Nat.le_refl _)]
      have HEE := Lib.hid hEe
      clear hEe
      go_wp2_with fail
      go_loopw [6, 7, 8] (fun v6 v7 v8 wr => ∃ (k : Nat), k ≤ i ∧ v8 = .int .i64 k ∧ v6 = .string (bs (dig (upN e (L.take k)))) ∧ v7 = .string (bs (dig (dnN e (L.take k)))) ∧ Hid (Below w.heap.size w wr) ∧ Hid (Row wr w.heap.size 24 #[.bool false, .string ⟨#[]⟩, .int .i64 0])) (fun _ _ v8 _ => i - (intOf v8).toNat)
      case atStart => exact ⟨0, Nat.zero_le _, rfl, rfl, rfl, HB1, HR1⟩
      case round =>
        obtain ⟨k, hk, rfl, rfl, rfl, HBW, HRW⟩ := hrel
        by_cases hkt : k < i
        · obtain ⟨ga, oa, rfl, hga, hra⟩ := HH.out.2 (by omega)
          have hkL : k < L.length := by rw [HL.out]; exact hkt
          obtain ⟨g0, g1, g2⟩ := dcs_get L k hkL
          have k0 := (HBW.out.cell (p := ⟨ga, oa + k * 3, none⟩) hga).trans (hra _ _ g0)
          have k1 := (HBW.out.cell (p := ⟨ga, oa + (k * 3 + 1), none⟩) hga).trans (hra _ _ g1)
          have k2 := (HBW.out.cell (p := ⟨ga, oa + (k * 3 + 2), none⟩) hga).trans (hra _ _ g2)
          rw [← Nat.add_assoc] at k1 k2
          have hmd := HM.out _ (mem_getD hkL)
          have hUP := upN_snoc e (L.take k) (L.getD k Dec.zero)
          have hDN := dnN_snoc e (L.take k) (L.getD k Dec.zero)
          rw [← getD_take L k hkL] at hUP hDN
          have he1 : e ≤ (L.getD k Dec.zero).exp := by rw [HEE.out]; exact HMIN.out.2.2 _ (mem_getD hkL)
          have he2 : -1000 ≤ e := by rw [HEE.out]; exact HMIN.out.1
          have l1 := hmd.lo; have l2 := hmd.hi; have l3 := hmd.len
          have HSC := Lib.hid (fun W => rscaled_ok (L.getD k Dec.zero) e W hmd.digs (by omega) he1 (by have := HMIN.out.2.1; omega) (by omega) (by omega))
          have hlv := lev_len hmd he2
          have hud := ud_len he2 (L := L.take k) (fun d hd => HM.out d (List.mem_of_mem_take hd)) (by rw [List.length_take]; omega)
          have HAU := Lib.hid (fun W => radd_ok (dig (upN e (L.take k))) (dig (lev (L.getD k Dec.zero) e)) W (dig_digs _) (dig_digs _) (by omega) (by omega))
          have HAD := Lib.hid (fun W => radd_ok (dig (dnN e (L.take k))) (dig (lev (L.getD k Dec.zero) e)) W (dig_digs _) (dig_digs _) (by omega) (by omega))
          rw [num_dig, num_dig] at HAU HAD
          clear hra g0 g1 g2 hmd he1 he2 l1 l2 l3 hlv hud hkL
          generalize lev (L.getD k Dec.zero) e = y at *
          generalize L.getD k Dec.zero = d at *
          obtain ⟨dn, dl, dx⟩ := d
          unfold decV at HSC
          simp only at HSC k0 k1 k2 hUP hDN
          have HUP := Lib.hid hUP
          have HDN := Lib.hid hDN
          clear hUP hDN
          generalize upN e (L.take k) = u at *
          generalize dnN e (L.take k) = v at *
          cases dn with
          | true =>
            go_wp2_with fail
            refine (HSC.out _).mono ?_
            rintro e5 w5 ⟨rfl, hb5⟩
            go_wp2_with fail
            refine (HAD.out _).mono ?_
            rintro e6 w6 ⟨rfl, hb6⟩
            have HB6 := Lib.hid ((HBW.out.call hb5).call hb6)
            have HR6 := Lib.hid ((HRW.out.call hb5).call hb6)
            clear hb5 hb6 k0 k1 k2
            have e1 : upN e (L.take (k + 1)) = u := by rw [HUP.out]; rfl
            have e2 : dnN e (L.take (k + 1)) = v + y := by rw [HDN.out]; rfl
            have E1 := Lib.hid e1
            have E2 := Lib.hid e2
            clear e1 e2
            go_wp2_with fail
            exact ⟨⟨k + 1, by omega, by go_num, by rw [E1.out], by rw [E2.out], HB6, HR6⟩, by simp [intOf]; omega⟩
          | false =>
            go_wp2_with fail
            refine (HSC.out _).mono ?_
            rintro e5 w5 ⟨rfl, hb5⟩
            go_wp2_with fail
            refine (HAU.out _).mono ?_
            rintro e6 w6 ⟨rfl, hb6⟩
            have HB6 := Lib.hid ((HBW.out.call hb5).call hb6)
            have HR6 := Lib.hid ((HRW.out.call hb5).call hb6)
            clear hb5 hb6 k0 k1 k2
            have e1 : upN e (L.take (k + 1)) = u + y := by rw [HUP.out]; rfl
            have e2 : dnN e (L.take (k + 1)) = v := by rw [HDN.out]; rfl
            have E1 := Lib.hid e1
            have E2 := Lib.hid e2
            clear e1 e2
            go_wp2_with fail
            exact ⟨⟨k + 1, by omega, by go_num, by rw [E1.out], by rw [E2.out], HB6, HR6⟩, by simp [intOf]; omega⟩
        · obtain rfl : k = i := by omega
          have hta : L.take k = L := List.take_of_length_le (by rw [HL.out]; exact Nat.le_refl _)
          rw [hta]
          have hud := ud_len (e := e) (L := L) (by rw [HEE.out]; exact HMIN.out.1) HM.out (by rw [HL.out]; exact hn)
          have hmin := HMIN.out
          rw [← HEE.out] at HMS hmin
          obtain ⟨hul, hvl⟩ := hud
          have hmin1 := hmin.1
          have hmin2 := hmin.2.1
          generalize upN e L = u at *
          generalize dnN e L = v at *
          have HCM := Lib.hid (fun W => rcmp_ok (dig u) (dig v) W)
          rw [dig_cmp] at HCM
          obtain ⟨w8, hw8⟩ : ∃ w8, w8 = wr.alloc (.cells #[.bool false, .string ⟨#[]⟩, .int .i64 0] 24) := ⟨_, rfl⟩
          have HV9 : Hid (Row w8 wr.heap.size 24 #[.bool false, .string ⟨#[]⟩, .int .i64 0]) := Lib.hid (by subst hw8; exact Row.new _ _ _)
          have HR9 : Hid (Row w8 w.heap.size 24 #[.bool false, .string ⟨#[]⟩, .int .i64 0]) := Lib.hid (by subst hw8; exact HRW.out.alloc _)
          have HB9 : Hid (Below w.heap.size w w8) := Lib.hid (by subst hw8; exact HBW.out.alloc HBW.out.size _)
          have HLT : Hid (w.heap.size < wr.heap.size) := Lib.hid HRW.out.lt
          clear hta
          go_upto_region 14 with fail
          rw [← hw8]
          clear hw8
          generalize wr.heap.size = g at *
          by_cases hge : v ≤ u
          · have hcz : decide ((0 : Int) ≤ cmpZ u v) = true := decide_eq_true (by unfold cmpZ; rw [if_neg (by omega)]; split <;> omega)
            have hcz2 : (0 : Int) ≤ cmpZ u v := of_decide_eq_true hcz
            have hxl : (dig (u - v)).length ≤ 2300 := Nat.le_trans (dig_mono (Nat.sub_le _ _)) (by omega)
            have HSB : Hid (∀ W, Calls Tryz.prog 26 #[.string (bs (dig u)), .string (bs (dig v))] W fun e w' => e = .returned (.string (bs (dig (u - v)))) ∧ Below W.heap.size W w') := Lib.hid fun W => by
              have h := rsub_ok (dig u) (dig v) W (dig_digs _) (dig_digs _) (by omega) (dig_mono (by omega)) (by rw [num_dig, num_dig]; omega)
              rwa [num_dig, num_dig] at h
            have HMA : Hid (∀ W, Calls Tryz.prog 25 #[.bool false, .string (bs (dig (u - v))), .int .i64 e] W (MadePost W (dec false (u - v) e))) := Lib.hid fun W => by
              have h := made_ok false (dig (u - v)) e W (dig_digs _) (by omega) (by omega) (by omega)
              rwa [num_dig] at h
            have HMS2 := Lib.hid (HMS.out.1 (by omega))
            generalize dec false (u - v) e = md at *
            generalize u - v = m at *
            obtain ⟨dn, dl, dx⟩ := md
            unfold MadePost decV at HMA
            simp only at HMA
            clear hxl hul hvl hge hcz hmin HMS
            generalize cmpZ (u : Int) (v : Int) = cz at *
            go_wp2_with fail
            refine (HCM.out _).mono ?_
            rintro e9 w9 ⟨rfl, rfl⟩
            go_wp2_with fail
            refine (HSB.out _).mono ?_
            rintro e10 w10 ⟨rfl, hb10⟩
            have HRA := Lib.hid (HR9.out.call hb10)
            have HRB := Lib.hid (HV9.out.call hb10)
            have HBA := Lib.hid (HB9.out.call hb10)
            clear hb10
            go_wp2_with fail
            refine (HMA.out _).mono ?_
            rintro e11 w11 ⟨rfl, hb11⟩
            have HRC := Lib.hid (HRA.out.call hb11)
            have HRD := Lib.hid (HRB.out.call hb11)
            have HBC := Lib.hid (HBA.out.call hb11)
            clear hb11
            have v0 := HRD.out.cell (i := 0) (v := .bool false) rfl
            have v1 := HRD.out.cell (i := 1) (v := .string ⟨#[]⟩) rfl
            have v2 := HRD.out.cell (i := 2) (v := .int .i64 0) rfl
            have q0 := HRD.out.free 0
            have q1 := HRD.out.free 1
            have q2 := HRD.out.free 2
            go_upto_region 17 with fail
            have hrd := ((HRD.out.set_ 0 (.bool dn)).set_ 1 (.string (bs dl))).set_ 2 (.int .i64 dx)
            have hrc := ((HRC.out.far (p := ⟨g, 0, none⟩) (by have := HLT.out; simp only; omega) (.bool dn)).far (p := ⟨g, 1, none⟩) (by have := HLT.out; simp only; omega) (.string (bs dl))).far (p := ⟨g, 2, none⟩) (by have := HLT.out; simp only; omega) (.int .i64 dx)
            have hbc := ((HBC.out.setCell (p := ⟨g, 0, none⟩) (by have := HLT.out; simp only; omega) (.bool dn)).setCell (p := ⟨g, 1, none⟩) (by have := HLT.out; simp only; omega) (.string (bs dl))).setCell (p := ⟨g, 2, none⟩) (by have := HLT.out; simp only; omega) (.int .i64 dx)
            have HRD2 : Hid (Row (((w11.setCell ⟨g, 0, none⟩ (.bool dn)).setCell ⟨g, 1, none⟩ (.string (bs dl))).setCell ⟨g, 2, none⟩ (.int .i64 dx)) g 24 #[.bool dn, .string (bs dl), .int .i64 dx]) := Lib.hid (by simpa using hrd)
            have HRC2 := Lib.hid hrc
            have HBC2 := Lib.hid hbc
            clear v0 v1 v2 q0 q1 q2 hrd hrc hbc
            generalize ((w11.setCell ⟨g, 0, none⟩ (.bool dn)).setCell ⟨g, 1, none⟩ (.string (bs dl))).setCell ⟨g, 2, none⟩ (.int .i64 dx) = w12 at *
            have y0 := HRC2.out.cell (i := 0) (v := .bool false) rfl
            have y1 := HRC2.out.cell (i := 1) (v := .string ⟨#[]⟩) rfl
            have y2 := HRC2.out.cell (i := 2) (v := .int .i64 0) rfl
            have g0 := HRC2.out.free 0
            have g1 := HRC2.out.free 1
            have g2 := HRC2.out.free 2
            have v0 := HRD2.out.cell (i := 0) (v := .bool dn) rfl
            have v1 := HRD2.out.cell (i := 1) (v := .string (bs dl)) rfl
            have v2 := HRD2.out.cell (i := 2) (v := .int .i64 dx) rfl
            cases em : mayB ⟨dn, dl, dx⟩ with
            | false =>
              obtain ⟨f1, f2⟩ := HMS2.out.2 em
              have HF := Lib.hid (And.intro f1 f2)
              clear em f1 f2
              go_wp2_with fail
              have hrow := ((HRC2.out.set_ 0 (.bool false)).set_ 1 (.string ⟨#[]⟩)).set_ 2 (.int .i64 0)
              refine bodyPost_ret_by (results_row_tmp rfl _ _ w.heap.size #[.bool false, .string ⟨#[]⟩, .int .i64 0] rfl (load_dec hrow rfl)) rfl ?_
              exact ⟨by rw [HF.out.1, HF.out.2]; rfl, ((HBC2.out.setCell (p := ⟨w.heap.size, 0, none⟩) (Nat.le_refl _) _).setCell (p := ⟨w.heap.size, 1, none⟩) (Nat.le_refl _) _).setCell (p := ⟨w.heap.size, 2, none⟩) (Nat.le_refl _) _⟩
            | true =>
              obtain ⟨f1, f2⟩ := HMS2.out.1 em
              have HF := Lib.hid (And.intro f1 f2)
              clear em f1 f2
              go_wp2_with fail
              have hrow := ((HRC2.out.set_ 0 (.bool dn)).set_ 1 (.string (bs dl))).set_ 2 (.int .i64 dx)
              refine bodyPost_ret_by (results_row_tmp rfl _ _ w.heap.size #[.bool dn, .string (bs dl), .int .i64 dx] rfl (load_dec hrow rfl)) rfl ?_
              exact ⟨by rw [HF.out.1, HF.out.2]; rfl, ((HBC2.out.setCell (p := ⟨w.heap.size, 0, none⟩) (Nat.le_refl _) _).setCell (p := ⟨w.heap.size, 1, none⟩) (Nat.le_refl _) _).setCell (p := ⟨w.heap.size, 2, none⟩) (Nat.le_refl _) _⟩
          · have hcz : decide ((0 : Int) ≤ cmpZ u v) = false := decide_eq_false (by unfold cmpZ; rw [if_pos (by omega)]; decide)
            have hcz2 : ¬ (0 : Int) ≤ cmpZ u v := of_decide_eq_false hcz
            have hxl : (dig (v - u)).length ≤ 2300 := Nat.le_trans (dig_mono (Nat.sub_le _ _)) (by omega)
            have HSB : Hid (∀ W, Calls Tryz.prog 26 #[.string (bs (dig v)), .string (bs (dig u))] W fun e w' => e = .returned (.string (bs (dig (v - u)))) ∧ Below W.heap.size W w') := Lib.hid fun W => by
              have h := rsub_ok (dig v) (dig u) W (dig_digs _) (dig_digs _) (by omega) (dig_mono (by omega)) (by rw [num_dig, num_dig]; omega)
              rwa [num_dig, num_dig] at h
            have HMA : Hid (∀ W, Calls Tryz.prog 25 #[.bool true, .string (bs (dig (v - u))), .int .i64 e] W (MadePost W (dec true (v - u) e))) := Lib.hid fun W => by
              have h := made_ok true (dig (v - u)) e W (dig_digs _) (by omega) (by omega) (by omega)
              rwa [num_dig] at h
            have HMS2 := Lib.hid (HMS.out.2 (by omega))
            generalize dec true (v - u) e = md at *
            generalize v - u = m at *
            obtain ⟨dn, dl, dx⟩ := md
            unfold MadePost decV at HMA
            simp only at HMA
            clear hxl hul hvl hge hcz hmin HMS
            generalize cmpZ (u : Int) (v : Int) = cz at *
            go_wp2_with fail
            refine (HCM.out _).mono ?_
            rintro e9 w9 ⟨rfl, rfl⟩
            go_wp2_with fail
            refine (HSB.out _).mono ?_
            rintro e10 w10 ⟨rfl, hb10⟩
            have HRA := Lib.hid (HR9.out.call hb10)
            have HRB := Lib.hid (HV9.out.call hb10)
            have HBA := Lib.hid (HB9.out.call hb10)
            clear hb10
            go_wp2_with fail
            refine (HMA.out _).mono ?_
            rintro e11 w11 ⟨rfl, hb11⟩
            have HRC := Lib.hid (HRA.out.call hb11)
            have HRD := Lib.hid (HRB.out.call hb11)
            have HBC := Lib.hid (HBA.out.call hb11)
            clear hb11
            have v0 := HRD.out.cell (i := 0) (v := .bool false) rfl
            have v1 := HRD.out.cell (i := 1) (v := .string ⟨#[]⟩) rfl
            have v2 := HRD.out.cell (i := 2) (v := .int .i64 0) rfl
            have q0 := HRD.out.free 0
            have q1 := HRD.out.free 1
            have q2 := HRD.out.free 2
            go_upto_region 17 with fail
            have hrd := ((HRD.out.set_ 0 (.bool dn)).set_ 1 (.string (bs dl))).set_ 2 (.int .i64 dx)
            have hrc := ((HRC.out.far (p := ⟨g, 0, none⟩) (by have := HLT.out; simp only; omega) (.bool dn)).far (p := ⟨g, 1, none⟩) (by have := HLT.out; simp only; omega) (.string (bs dl))).far (p := ⟨g, 2, none⟩) (by have := HLT.out; simp only; omega) (.int .i64 dx)
            have hbc := ((HBC.out.setCell (p := ⟨g, 0, none⟩) (by have := HLT.out; simp only; omega) (.bool dn)).setCell (p := ⟨g, 1, none⟩) (by have := HLT.out; simp only; omega) (.string (bs dl))).setCell (p := ⟨g, 2, none⟩) (by have := HLT.out; simp only; omega) (.int .i64 dx)
            have HRD2 : Hid (Row (((w11.setCell ⟨g, 0, none⟩ (.bool dn)).setCell ⟨g, 1, none⟩ (.string (bs dl))).setCell ⟨g, 2, none⟩ (.int .i64 dx)) g 24 #[.bool dn, .string (bs dl), .int .i64 dx]) := Lib.hid (by simpa using hrd)
            have HRC2 := Lib.hid hrc
            have HBC2 := Lib.hid hbc
            clear v0 v1 v2 q0 q1 q2 hrd hrc hbc
            generalize ((w11.setCell ⟨g, 0, none⟩ (.bool dn)).setCell ⟨g, 1, none⟩ (.string (bs dl))).setCell ⟨g, 2, none⟩ (.int .i64 dx) = w12 at *
            have y0 := HRC2.out.cell (i := 0) (v := .bool false) rfl
            have y1 := HRC2.out.cell (i := 1) (v := .string ⟨#[]⟩) rfl
            have y2 := HRC2.out.cell (i := 2) (v := .int .i64 0) rfl
            have g0 := HRC2.out.free 0
            have g1 := HRC2.out.free 1
            have g2 := HRC2.out.free 2
            have v0 := HRD2.out.cell (i := 0) (v := .bool dn) rfl
            have v1 := HRD2.out.cell (i := 1) (v := .string (bs dl)) rfl
            have v2 := HRD2.out.cell (i := 2) (v := .int .i64 dx) rfl
            cases em : mayB ⟨dn, dl, dx⟩ with
            | false =>
              obtain ⟨f1, f2⟩ := HMS2.out.2 em
              have HF := Lib.hid (And.intro f1 f2)
              clear em f1 f2
              go_wp2_with fail
              have hrow := ((HRC2.out.set_ 0 (.bool false)).set_ 1 (.string ⟨#[]⟩)).set_ 2 (.int .i64 0)
              refine bodyPost_ret_by (results_row_tmp rfl _ _ w.heap.size #[.bool false, .string ⟨#[]⟩, .int .i64 0] rfl (load_dec hrow rfl)) rfl ?_
              exact ⟨by rw [HF.out.1, HF.out.2]; rfl, ((HBC2.out.setCell (p := ⟨w.heap.size, 0, none⟩) (Nat.le_refl _) _).setCell (p := ⟨w.heap.size, 1, none⟩) (Nat.le_refl _) _).setCell (p := ⟨w.heap.size, 2, none⟩) (Nat.le_refl _) _⟩
            | true =>
              obtain ⟨f1, f2⟩ := HMS2.out.1 em
              have HF := Lib.hid (And.intro f1 f2)
              clear em f1 f2
              go_wp2_with fail
              have hrow := ((HRC2.out.set_ 0 (.bool dn)).set_ 1 (.string (bs dl))).set_ 2 (.int .i64 dx)
              refine bodyPost_ret_by (results_row_tmp rfl _ _ w.heap.size #[.bool dn, .string (bs dl), .int .i64 dx] rfl (load_dec hrow rfl)) rfl ?_
              exact ⟨by rw [HF.out.1, HF.out.2]; rfl, ((HBC2.out.setCell (p := ⟨w.heap.size, 0, none⟩) (Nat.le_refl _) _).setCell (p := ⟨w.heap.size, 1, none⟩) (Nat.le_refl _) _).setCell (p := ⟨w.heap.size, 2, none⟩) (Nat.le_refl _) _⟩
end Go.Proofs.YtlcbjikiodmlfaaGreatDoor
/- Layer 7: the document's Product. -/
namespace Go.Proofs.YtlcbjikiodmlfaaGreatDoor
open Go.RowKit

theorem wp_meetE {P : Program} {c : Code} {K : Act → World → Prop} {Q : Exit → Act → World → Prop} {a : Act} {w : World} {β : Type} (l : β → List (Nat × Value)) (R : β → World → Prop)
    (h : c.wp P (Exit.then (fun a' w' => ∃ b, a' = puts a (l b) ∧ R b w') (fun _ _ _ => False)) a w) (h2 : ∀ b w', R b w' → K (puts a (l b)) w') : c.wp P (Exit.then K Q) a w := by
  refine wp_mono h fun e a' w' h => ?_
  cases e
  case normal =>
    obtain ⟨b, rfl, hr⟩ := h
    exact h2 b w' hr
  all_goals exact h.elim
theorem mul_made (a b : Dec) :
    (mayB (dec (a.neg != b.neg) (num a.digits * num b.digits) (a.exp + b.exp)) = true → mulD a b = dec (a.neg != b.neg) (num a.digits * num b.digits) (a.exp + b.exp) ∧ mulE a b = 0) ∧
    (mayB (dec (a.neg != b.neg) (num a.digits * num b.digits) (a.exp + b.exp)) = false → mulD a b = Dec.zero ∧ mulE a b = 4) := by
  unfold mulD mulE mkD mkE
  constructor
  · intro h; rw [h]; exact ⟨rfl, rfl⟩
  · intro h; rw [h]; exact ⟨rfl, rfl⟩
set_option maxRecDepth 100000 in
set_option maxHeartbeats 4000000 in
theorem rproduct_ok (a b : Dec) (w : World) (ma : May a) (mb : May b) :
    Calls Tryz.prog 13 #[decV a, decV b] w (Told w (mulD a b) (mulE a b)) := by
  have l1 := ma.lo; have l2 := mb.lo; have l3 := ma.hi; have l4 := mb.hi; have l5 := ma.len; have l6 := mb.len
  have HCM := Lib.hid (mul_made a b)
  have HMU := Lib.hid (fun W => rmul_ok a.digits b.digits W ma.digs mb.digs (by omega) (by omega))
  have hN : (dig (num a.digits * num b.digits)).length ≤ 5000 := by
    have h1 := num_lt ma.digs
    have h2 := num_lt mb.digs
    have h4 : num a.digits * num b.digits < 10 ^ (a.digits.length + b.digits.length) := by
      rw [Nat.pow_add]
      exact Nat.mul_lt_mul_of_lt_of_le h1 (Nat.le_of_lt h2) (Nat.pow_pos (by omega))
    exact Nat.le_trans (dig_len_le _ h4) (by omega)
  have HMA : Hid (∀ W, Calls Tryz.prog 25 #[.bool (a.neg != b.neg), .string (bs (dig (num a.digits * num b.digits))), .int .i64 (a.exp + b.exp)] W (MadePost W (dec (a.neg != b.neg) (num a.digits * num b.digits) (a.exp + b.exp)))) := Lib.hid fun W => by
    have h := made_ok (a.neg != b.neg) (dig (num a.digits * num b.digits)) (a.exp + b.exp) W (dig_digs _) (by omega) (by omega) (by omega)
    rwa [num_dig] at h
  have hwx : IntKind.i64.wrap (a.exp + b.exp) = a.exp + b.exp := IntWalk.i64_in _ (by omega)
  clear l1 l2 l3 l4 l5 l6 ma mb hN
  generalize mulD a b = cd at *
  generalize mulE a b = ce at *
  generalize dec (a.neg != b.neg) (num a.digits * num b.digits) (a.exp + b.exp) = md at *
  generalize dig (num a.digits * num b.digits) = N at *
  obtain ⟨dn, dl, dx⟩ := md
  obtain ⟨an, al, ax⟩ := a
  obtain ⟨bn, bl, bx⟩ := b
  unfold MadePost at HMA
  unfold decV at *
  simp only at HMU HMA hwx ⊢
  obtain ⟨w2, hw2⟩ : ∃ w2, w2 = ((w.alloc (.cells #[.bool an, .string (bs al), .int .i64 ax] 24)).alloc (.cells #[.bool bn, .string (bs bl), .int .i64 bx] 24)).alloc (.cells #[.bool false, .string ⟨#[]⟩, .int .i64 0] 24) := ⟨_, rfl⟩
  have HRA : Hid (Row w2 w.heap.size 24 #[.bool an, .string (bs al), .int .i64 ax]) := Lib.hid (by subst hw2; exact ((Row.new _ _ _).alloc _).alloc _)
  have HRB : Hid (Row w2 (w.heap.size + 1) 24 #[.bool bn, .string (bs bl), .int .i64 bx]) := Lib.hid (by
    subst hw2
    have := Row.new (w.alloc (.cells #[.bool an, .string (bs al), .int .i64 ax] 24)) 24 #[.bool bn, .string (bs bl), .int .i64 bx]
    rw [show (w.alloc (.cells #[.bool an, .string (bs al), .int .i64 ax] 24)).heap.size = w.heap.size + 1 by simp] at this
    exact this.alloc _)
  have HRR : Hid (Row w2 (w.heap.size + 1 + 1) 24 #[.bool false, .string ⟨#[]⟩, .int .i64 0]) := Lib.hid (by
    subst hw2
    have := Row.new ((w.alloc (.cells #[.bool an, .string (bs al), .int .i64 ax] 24)).alloc (.cells #[.bool bn, .string (bs bl), .int .i64 bx] 24)) 24 #[.bool false, .string ⟨#[]⟩, .int .i64 0]
    rwa [show ((w.alloc (.cells #[.bool an, .string (bs al), .int .i64 ax] 24)).alloc (.cells #[.bool bn, .string (bs bl), .int .i64 bx] 24)).heap.size = w.heap.size + 1 + 1 by simp] at this)
  have HB2 : Hid (Below w.heap.size w w2) := Lib.hid (by subst hw2; exact (((Below.refl _ _).alloc (Nat.le_refl _) _).alloc (by simp) _).alloc (by simp; omega) _)
  go_enter Tryz.func13, Tryz.ntmps13
  go_upto_region 1 with fail
  rw [← hw2]
  clear hw2
  refine wp_meetE (fun b : Nat => [(9, .pointer (some ⟨w.heap.size, 0, none⟩)), (10, .bool an), (11, .pointer (some ⟨w.heap.size + 1, 0, none⟩)), (12, .bool bn), (13, .bool (an != bn)), (14, .pointer (some ⟨w.heap.size, 1, none⟩)), (15, .string (bs al)), (16, .pointer (some ⟨w.heap.size + 1, 1, none⟩)), (17, .string (bs bl)), (18, .string (bs N)), (19, .pointer (some ⟨w.heap.size, 2, none⟩)), (20, .int .i64 ax), (21, .pointer (some ⟨w.heap.size + 1, 2, none⟩)), (22, .int .i64 bx), (23, .int .i64 (ax + bx)), (24, .tuple #[.agg #[.bool dn, .string (bs dl), .int .i64 dx], .bool (mayB ⟨dn, dl, dx⟩)]), (8, .tuple #[.agg #[.bool dn, .string (bs dl), .int .i64 dx], .bool (mayB ⟨dn, dl, dx⟩)]), (25, .agg #[.bool dn, .string (bs dl), .int .i64 dx]), (26, .bool (mayB ⟨dn, dl, dx⟩)), (6, .pointer (some ⟨b, 0, none⟩)), (7, .bool (mayB ⟨dn, dl, dx⟩))])
    (fun b W => Below w.heap.size w W ∧ Row W (w.heap.size + 1 + 1) 24 #[.bool false, .string ⟨#[]⟩, .int .i64 0] ∧ Row W b 24 #[.bool dn, .string (bs dl), .int .i64 dx]) ?_ ?_
  · skip
    refine wp_region_held_drew (S := fun W => Below w.heap.size w W ∧ Row W w.heap.size 24 #[.bool an, .string (bs al), .int .i64 ax] ∧ Row W (w.heap.size + 1) 24 #[.bool bn, .string (bs bl), .int .i64 bx] ∧ Row W (w.heap.size + 1 + 1) 24 #[.bool false, .string ⟨#[]⟩, .int .i64 0]) (by kernel_rfl) ⟨HB2.out.drew, HRA.out.drew, HRB.out.drew, HRR.out.drew⟩ (fun H0 => ?_)
    refine wpAnyH_take (i := 0) (oi := ?_) (v := ?_) ?_ (by kernel_rfl) (by kernel_rfl) (by kernel_rfl) ?_ ?_ (by assumption) ?_
    rotate_left 2
    · simp only [List.getElem?_toArray, List.getElem?_cons_zero]; with_reducible rfl
    · exact fun _ _ _ h => h
    · refine Or.inl ⟨by rfl, ?_⟩; intro W hSw; go_simp; try with_reducible rfl
    try simp only [Act.put, List.setIfInBounds_toArray, List.set_cons_zero, List.set_cons_succ]
    refine wpAnyH_take (i := 1) (oi := ?_) (v := ?_) ?_ (by kernel_rfl) (by kernel_rfl) (by kernel_rfl) ?_ ?_ (by assumption) ?_
    rotate_left 2
    · simp only [List.getElem?_toArray, List.getElem?_cons_succ, List.getElem?_cons_zero]; with_reducible rfl
    · exact fun _ _ _ h => h
    · refine Or.inl ⟨by rfl, ?_⟩; intro W hSw; have hc := hSw.2.1.cell (i := 0) (v := .bool an) rfl; go_simp; try with_reducible rfl
    try simp only [Act.put, List.setIfInBounds_toArray, List.set_cons_zero, List.set_cons_succ]
    refine wpAnyH_take (i := 2) (oi := ?_) (v := ?_) ?_ (by kernel_rfl) (by kernel_rfl) (by kernel_rfl) ?_ ?_ (by assumption) ?_
    rotate_left 2
    · simp only [List.getElem?_toArray, List.getElem?_cons_succ, List.getElem?_cons_zero]; with_reducible rfl
    · exact fun _ _ _ h => h
    · refine Or.inl ⟨by rfl, ?_⟩; intro W hSw; go_simp; try with_reducible rfl
    try simp only [Act.put, List.setIfInBounds_toArray, List.set_cons_zero, List.set_cons_succ]
    refine wpAnyH_take (i := 3) (oi := ?_) (v := ?_) ?_ (by kernel_rfl) (by kernel_rfl) (by kernel_rfl) ?_ ?_ (by assumption) ?_
    rotate_left 2
    · simp only [List.getElem?_toArray, List.getElem?_cons_succ, List.getElem?_cons_zero]; with_reducible rfl
    · exact fun _ _ _ h => h
    · refine Or.inl ⟨by rfl, ?_⟩; intro W hSw; have hc := hSw.2.2.1.cell (i := 0) (v := .bool bn) rfl; go_simp; try with_reducible rfl
    try simp only [Act.put, List.setIfInBounds_toArray, List.set_cons_zero, List.set_cons_succ]
    refine wpAnyH_take (i := 4) (oi := ?_) (v := ?_) ?_ (by kernel_rfl) (by kernel_rfl) (by kernel_rfl) ?_ ?_ (by assumption) ?_
    rotate_left 2
    · simp only [List.getElem?_toArray, List.getElem?_cons_succ, List.getElem?_cons_zero]; with_reducible rfl
    · exact fun _ _ _ h => h
    · refine Or.inl ⟨by rfl, ?_⟩; intro W hSw; go_simp; try with_reducible rfl
    try simp only [Act.put, List.setIfInBounds_toArray, List.set_cons_zero, List.set_cons_succ]
    refine wpAnyH_take (i := 5) (oi := ?_) (v := ?_) ?_ (by kernel_rfl) (by kernel_rfl) (by kernel_rfl) ?_ ?_ (by assumption) ?_
    rotate_left 2
    · simp only [List.getElem?_toArray, List.getElem?_cons_succ, List.getElem?_cons_zero]; with_reducible rfl
    · exact fun _ _ _ h => h
    · refine Or.inl ⟨by rfl, ?_⟩; intro W hSw; go_simp; try with_reducible rfl
    try simp only [Act.put, List.setIfInBounds_toArray, List.set_cons_zero, List.set_cons_succ]
    refine wpAnyH_take (i := 6) (oi := ?_) (v := ?_) ?_ (by kernel_rfl) (by kernel_rfl) (by kernel_rfl) ?_ ?_ (by assumption) ?_
    rotate_left 2
    · simp only [List.getElem?_toArray, List.getElem?_cons_succ, List.getElem?_cons_zero]; with_reducible rfl
    · exact fun _ _ _ h => h
    · refine Or.inl ⟨by rfl, ?_⟩; intro W hSw; have hc := hSw.2.1.cell (i := 1) (v := .string (bs al)) rfl; go_simp; try with_reducible rfl
    try simp only [Act.put, List.setIfInBounds_toArray, List.set_cons_zero, List.set_cons_succ]
    refine wpAnyH_take (i := 7) (oi := ?_) (v := ?_) ?_ (by kernel_rfl) (by kernel_rfl) (by kernel_rfl) ?_ ?_ (by assumption) ?_
    rotate_left 2
    · simp only [List.getElem?_toArray, List.getElem?_cons_succ, List.getElem?_cons_zero]; with_reducible rfl
    · exact fun _ _ _ h => h
    · refine Or.inl ⟨by rfl, ?_⟩; intro W hSw; go_simp; try with_reducible rfl
    try simp only [Act.put, List.setIfInBounds_toArray, List.set_cons_zero, List.set_cons_succ]
    refine wpAnyH_take (i := 8) (oi := ?_) (v := ?_) ?_ (by kernel_rfl) (by kernel_rfl) (by kernel_rfl) ?_ ?_ (by assumption) ?_
    rotate_left 2
    · simp only [List.getElem?_toArray, List.getElem?_cons_succ, List.getElem?_cons_zero]; with_reducible rfl
    · exact fun _ _ _ h => h
    · refine Or.inl ⟨by rfl, ?_⟩; intro W hSw; have hc := hSw.2.2.1.cell (i := 1) (v := .string (bs bl)) rfl; go_simp; try with_reducible rfl
    try simp only [Act.put, List.setIfInBounds_toArray, List.set_cons_zero, List.set_cons_succ]
    refine wpAnyH_take (i := 10) (oi := ?_) (v := ?_) ?_ (by kernel_rfl) (by kernel_rfl) (by kernel_rfl) ?_ ?_ (by assumption) ?_
    rotate_left 2
    · simp only [List.getElem?_toArray, List.getElem?_cons_succ, List.getElem?_cons_zero]; with_reducible rfl
    · exact fun _ _ _ h => h
    · refine Or.inl ⟨by rfl, ?_⟩; intro W hSw; go_simp; try with_reducible rfl
    try simp only [Act.put, List.setIfInBounds_toArray, List.set_cons_zero, List.set_cons_succ]
    refine wpAnyH_take (i := 11) (oi := ?_) (v := ?_) ?_ (by kernel_rfl) (by kernel_rfl) (by kernel_rfl) ?_ ?_ (by assumption) ?_
    rotate_left 2
    · simp only [List.getElem?_toArray, List.getElem?_cons_succ, List.getElem?_cons_zero]; with_reducible rfl
    · exact fun _ _ _ h => h
    · refine Or.inl ⟨by rfl, ?_⟩; intro W hSw; have hc := hSw.2.1.cell (i := 2) (v := .int .i64 ax) rfl; go_simp; try with_reducible rfl
    try simp only [Act.put, List.setIfInBounds_toArray, List.set_cons_zero, List.set_cons_succ]
    refine wpAnyH_take (i := 12) (oi := ?_) (v := ?_) ?_ (by kernel_rfl) (by kernel_rfl) (by kernel_rfl) ?_ ?_ (by assumption) ?_
    rotate_left 2
    · simp only [List.getElem?_toArray, List.getElem?_cons_succ, List.getElem?_cons_zero]; with_reducible rfl
    · exact fun _ _ _ h => h
    · refine Or.inl ⟨by rfl, ?_⟩; intro W hSw; go_simp; try with_reducible rfl
    try simp only [Act.put, List.setIfInBounds_toArray, List.set_cons_zero, List.set_cons_succ]
    refine wpAnyH_take (i := 13) (oi := ?_) (v := ?_) ?_ (by kernel_rfl) (by kernel_rfl) (by kernel_rfl) ?_ ?_ (by assumption) ?_
    rotate_left 2
    · simp only [List.getElem?_toArray, List.getElem?_cons_succ, List.getElem?_cons_zero]; with_reducible rfl
    · exact fun _ _ _ h => h
    · refine Or.inl ⟨by rfl, ?_⟩; intro W hSw; have hc := hSw.2.2.1.cell (i := 2) (v := .int .i64 bx) rfl; go_simp; try with_reducible rfl
    try simp only [Act.put, List.setIfInBounds_toArray, List.set_cons_zero, List.set_cons_succ]
    refine wpAnyH_take (i := 14) (oi := ?_) (v := ?_) ?_ (by kernel_rfl) (by kernel_rfl) (by kernel_rfl) ?_ ?_ (by assumption) ?_
    rotate_left 2
    · simp only [List.getElem?_toArray, List.getElem?_cons_succ, List.getElem?_cons_zero]; with_reducible rfl
    · exact fun _ _ _ h => h
    · refine Or.inl ⟨by rfl, ?_⟩; intro W hSw; go_simp; try with_reducible rfl
    try simp only [Act.put, List.setIfInBounds_toArray, List.set_cons_zero, List.set_cons_succ]
    refine wpAnyH_ready (rs := [9, 19]) (by kernel_rfl) (by simp) ?_
    refine AllReadyH.cons (o := ?_) ?_ (fun K1 hK1 => ?_) (AllReadyH.cons (o := ?_) ?_ (fun K2 hK2 => ?_) AllReadyH.nil)
    rotate_left 1
    · simp only [List.getElem?_toArray, List.getElem?_cons_succ, List.getElem?_cons_zero]; with_reducible rfl
    · skip
      rw [if_pos (by rfl)]
      go_simp
      refine (HMU.out _).mono ?_
      rintro e1 v1 ⟨rfl, hb1⟩
      go_wp2_with fail
      refine hK1.out _ _ ⟨H0.1.call hb1, H0.2.1.call hb1, H0.2.2.1.call hb1, H0.2.2.2.call hb1⟩ (fun H1 => ?_)
      clear hK1 K1
      try simp only [Act.put, List.setIfInBounds_toArray, List.set_cons_zero, List.set_cons_succ]
      refine wpAnyH_ready (rs := [15, 19]) (by kernel_rfl) (by simp) ?_
      refine AllReadyH.cons (o := ?_) ?_ (fun K3 hK3 => ?_) (AllReadyH.cons (o := ?_) ?_ (fun K4 hK4 => ?_) AllReadyH.nil)
      rotate_left 1
      · simp only [List.getElem?_toArray, List.getElem?_cons_succ, List.getElem?_cons_zero]; with_reducible rfl
      · skip
        rw [if_pos (by rfl)]
        go_simp
        refine (HMA.out _).mono ?_
        rintro e2 v2 ⟨rfl, hb2⟩
        go_wp2_with fail
        refine hK3.out _ _ ⟨H1.1.call hb2, H1.2.1.call hb2, H1.2.2.1.call hb2, H1.2.2.2.call hb2⟩ (fun H2 => ?_)
        clear hK3 K3
        try simp only [Act.put, List.setIfInBounds_toArray, List.set_cons_zero, List.set_cons_succ]
        refine wpAnyH_take (i := 16) (oi := ?_) (v := ?_) ?_ (by kernel_rfl) (by kernel_rfl) (by kernel_rfl) ?_ ?_ (by assumption) ?_
        rotate_left 2
        · simp only [List.getElem?_toArray, List.getElem?_cons_succ, List.getElem?_cons_zero]; with_reducible rfl
        · exact fun _ _ _ h => h
        · refine Or.inl ⟨by rfl, ?_⟩; intro W hSw; go_simp; try with_reducible rfl
        try simp only [Act.put, List.setIfInBounds_toArray, List.set_cons_zero, List.set_cons_succ]
        refine wpAnyH_take (i := 17) (oi := ?_) (v := ?_) ?_ (by kernel_rfl) (by kernel_rfl) (by kernel_rfl) ?_ ?_ (by assumption) ?_
        rotate_left 2
        · simp only [List.getElem?_toArray, List.getElem?_cons_succ, List.getElem?_cons_zero]; with_reducible rfl
        · exact fun _ _ _ h => h
        · refine Or.inl ⟨by rfl, ?_⟩; intro W hSw; go_simp; try with_reducible rfl
        try simp only [Act.put, List.setIfInBounds_toArray, List.set_cons_zero, List.set_cons_succ]
        refine wpAnyH_take (i := 18) (oi := ?_) (v := ?_) ?_ (by kernel_rfl) (by kernel_rfl) (by kernel_rfl) ?_ ?_ (by assumption) ?_
        rotate_left 2
        · simp only [List.getElem?_toArray, List.getElem?_cons_succ, List.getElem?_cons_zero]; with_reducible rfl
        · exact fun _ _ _ h => h
        · refine Or.inl ⟨by rfl, ?_⟩; intro W hSw; go_simp; try with_reducible rfl
        try simp only [Act.put, List.setIfInBounds_toArray, List.set_cons_zero, List.set_cons_succ]
        refine wpAnyH_ready (rs := [19]) (by kernel_rfl) (by simp) ?_
        refine AllReadyH.cons (o := ?_) ?_ (fun K5 hK5 => ?_) AllReadyH.nil
        rotate_left 1
        · simp only [List.getElem?_toArray, List.getElem?_cons_succ, List.getElem?_cons_zero]; with_reducible rfl
        rw [if_pos (by rfl)]
        go_simp
        have HX3 : Hid (Row (v2.alloc (.cells #[.bool false, .string ⟨#[]⟩, .int .i64 0] 24)) (v2.heap.size) 24 #[.bool false, .string ⟨#[]⟩, .int .i64 0]) := Lib.hid (Row.new v2 24 #[.bool false, .string ⟨#[]⟩, .int .i64 0])
        have HN3 : Hid (w.heap.size ≠ v2.heap.size ∧ w.heap.size + 1 ≠ v2.heap.size ∧ w.heap.size + 1 + 1 ≠ v2.heap.size ∧ w.heap.size ≤ v2.heap.size) := Lib.hid (by have h1 : w.heap.size < v2.heap.size := H2.2.1.lt; have h2 : w.heap.size + 1 < v2.heap.size := H2.2.2.1.lt; have h3 : w.heap.size + 1 + 1 < v2.heap.size := H2.2.2.2.lt; omega)
        try go_wp2_with fail
        refine hK5.out _ _ ⟨H2.1.alloc H2.1.size (.cells #[.bool false, .string ⟨#[]⟩, .int .i64 0] 24), H2.2.1.alloc (.cells #[.bool false, .string ⟨#[]⟩, .int .i64 0] 24), H2.2.2.1.alloc (.cells #[.bool false, .string ⟨#[]⟩, .int .i64 0] 24), H2.2.2.2.alloc (.cells #[.bool false, .string ⟨#[]⟩, .int .i64 0] 24)⟩ (fun H3 => ?_)
        clear hK5 K5
        try simp only [Act.put, List.setIfInBounds_toArray, List.set_cons_zero, List.set_cons_succ]
        have x0 := HX3.out.cell (i := 0) (v := .bool false) rfl
        have g0 := HX3.out.free 0
        have x1 := HX3.out.cell (i := 1) (v := .string ⟨#[]⟩) rfl
        have g1 := HX3.out.free 1
        have x2 := HX3.out.cell (i := 2) (v := .int .i64 0) rfl
        have g2 := HX3.out.free 2
        refine wpAnyH_ready (rs := [20]) (by kernel_rfl) (by simp) ?_
        refine AllReadyH.cons (o := ?_) ?_ (fun K6 hK6 => ?_) AllReadyH.nil
        rotate_left 1
        · simp only [List.getElem?_toArray, List.getElem?_cons_succ, List.getElem?_cons_zero]; with_reducible rfl
        rw [if_pos (by rfl)]
        go_simp
        try go_wp2_with fail
        refine hK6.out _ _ ⟨H2.1.alloc H2.1.size (.cells #[.bool dn, .string (bs dl), .int .i64 dx] 24), H2.2.1.alloc (.cells #[.bool dn, .string (bs dl), .int .i64 dx] 24), H2.2.2.1.alloc (.cells #[.bool dn, .string (bs dl), .int .i64 dx] 24), H2.2.2.2.alloc (.cells #[.bool dn, .string (bs dl), .int .i64 dx] 24)⟩ (fun H4 => ?_)
        clear hK6 K6
        try simp only [Act.put, List.setIfInBounds_toArray, List.set_cons_zero, List.set_cons_succ]
        refine wpAnyH_take (i := 21) (oi := ?_) (v := ?_) ?_ (by kernel_rfl) (by kernel_rfl) (by kernel_rfl) ?_ ?_ (by assumption) ?_
        rotate_left 2
        · simp only [List.getElem?_toArray, List.getElem?_cons_succ, List.getElem?_cons_zero]; with_reducible rfl
        · exact fun _ _ _ h => h
        · refine Or.inl ⟨by rfl, ?_⟩; intro W hSw; go_simp; try with_reducible rfl
        try simp only [Act.put, List.setIfInBounds_toArray, List.set_cons_zero, List.set_cons_succ]
        refine wpAnyH_done (by kernel_rfl) ?_ _
        refine ⟨v2.heap.size, ?_, ?_⟩
        · kernel_rfl
        · exact ⟨H4.1, H4.2.2.2, Row.new _ _ _⟩
      rotate_left 1
      · simp only [List.getElem?_toArray, List.getElem?_cons_succ, List.getElem?_cons_zero]; with_reducible rfl
      · skip
        rw [if_pos (by rfl)]
        go_simp
        have HX5 : Hid (Row (v1.alloc (.cells #[.bool false, .string ⟨#[]⟩, .int .i64 0] 24)) (v1.heap.size) 24 #[.bool false, .string ⟨#[]⟩, .int .i64 0]) := Lib.hid (Row.new v1 24 #[.bool false, .string ⟨#[]⟩, .int .i64 0])
        have HN5 : Hid (w.heap.size ≠ v1.heap.size ∧ w.heap.size + 1 ≠ v1.heap.size ∧ w.heap.size + 1 + 1 ≠ v1.heap.size ∧ w.heap.size ≤ v1.heap.size) := Lib.hid (by have h1 : w.heap.size < v1.heap.size := H1.2.1.lt; have h2 : w.heap.size + 1 < v1.heap.size := H1.2.2.1.lt; have h3 : w.heap.size + 1 + 1 < v1.heap.size := H1.2.2.2.lt; omega)
        try go_wp2_with fail
        refine hK4.out _ _ ⟨H1.1.alloc H1.1.size (.cells #[.bool false, .string ⟨#[]⟩, .int .i64 0] 24), H1.2.1.alloc (.cells #[.bool false, .string ⟨#[]⟩, .int .i64 0] 24), H1.2.2.1.alloc (.cells #[.bool false, .string ⟨#[]⟩, .int .i64 0] 24), H1.2.2.2.alloc (.cells #[.bool false, .string ⟨#[]⟩, .int .i64 0] 24)⟩ (fun H5 => ?_)
        clear hK4 K4
        try simp only [Act.put, List.setIfInBounds_toArray, List.set_cons_zero, List.set_cons_succ]
        refine wpAnyH_ready (rs := [15]) (by kernel_rfl) (by simp) ?_
        refine AllReadyH.cons (o := ?_) ?_ (fun K7 hK7 => ?_) AllReadyH.nil
        rotate_left 1
        · simp only [List.getElem?_toArray, List.getElem?_cons_succ, List.getElem?_cons_zero]; with_reducible rfl
        rw [if_pos (by rfl)]
        go_simp
        refine (HMA.out _).mono ?_
        rintro e6 v6 ⟨rfl, hb6⟩
        have HX6 := Lib.hid (HX5.out.call hb6)
        go_wp2_with fail
        refine hK7.out _ _ ⟨H5.1.call hb6, H5.2.1.call hb6, H5.2.2.1.call hb6, H5.2.2.2.call hb6⟩ (fun H6 => ?_)
        clear hK7 K7
        try simp only [Act.put, List.setIfInBounds_toArray, List.set_cons_zero, List.set_cons_succ]
        refine wpAnyH_take (i := 16) (oi := ?_) (v := ?_) ?_ (by kernel_rfl) (by kernel_rfl) (by kernel_rfl) ?_ ?_ (by assumption) ?_
        rotate_left 2
        · simp only [List.getElem?_toArray, List.getElem?_cons_succ, List.getElem?_cons_zero]; with_reducible rfl
        · exact fun _ _ _ h => h
        · refine Or.inl ⟨by rfl, ?_⟩; intro W hSw; go_simp; try with_reducible rfl
        try simp only [Act.put, List.setIfInBounds_toArray, List.set_cons_zero, List.set_cons_succ]
        refine wpAnyH_take (i := 17) (oi := ?_) (v := ?_) ?_ (by kernel_rfl) (by kernel_rfl) (by kernel_rfl) ?_ ?_ (by assumption) ?_
        rotate_left 2
        · simp only [List.getElem?_toArray, List.getElem?_cons_succ, List.getElem?_cons_zero]; with_reducible rfl
        · exact fun _ _ _ h => h
        · refine Or.inl ⟨by rfl, ?_⟩; intro W hSw; go_simp; try with_reducible rfl
        try simp only [Act.put, List.setIfInBounds_toArray, List.set_cons_zero, List.set_cons_succ]
        refine wpAnyH_take (i := 18) (oi := ?_) (v := ?_) ?_ (by kernel_rfl) (by kernel_rfl) (by kernel_rfl) ?_ ?_ (by assumption) ?_
        rotate_left 2
        · simp only [List.getElem?_toArray, List.getElem?_cons_succ, List.getElem?_cons_zero]; with_reducible rfl
        · exact fun _ _ _ h => h
        · refine Or.inl ⟨by rfl, ?_⟩; intro W hSw; go_simp; try with_reducible rfl
        try simp only [Act.put, List.setIfInBounds_toArray, List.set_cons_zero, List.set_cons_succ]
        have x0 := HX6.out.cell (i := 0) (v := .bool false) rfl
        have g0 := HX6.out.free 0
        have x1 := HX6.out.cell (i := 1) (v := .string ⟨#[]⟩) rfl
        have g1 := HX6.out.free 1
        have x2 := HX6.out.cell (i := 2) (v := .int .i64 0) rfl
        have g2 := HX6.out.free 2
        refine wpAnyH_ready (rs := [20]) (by kernel_rfl) (by simp) ?_
        refine AllReadyH.cons (o := ?_) ?_ (fun K8 hK8 => ?_) AllReadyH.nil
        rotate_left 1
        · simp only [List.getElem?_toArray, List.getElem?_cons_succ, List.getElem?_cons_zero]; with_reducible rfl
        rw [if_pos (by rfl)]
        go_simp
        try go_wp2_with fail
        refine hK8.out _ _ ⟨((H6.1.setCell (p := ⟨v1.heap.size, 0, none⟩) HN5.out.2.2.2 _).setCell (p := ⟨v1.heap.size, 1, none⟩) HN5.out.2.2.2 _).setCell (p := ⟨v1.heap.size, 2, none⟩) HN5.out.2.2.2 _, ((H6.2.1.far (p := ⟨v1.heap.size, 0, none⟩) HN5.out.1 _).far (p := ⟨v1.heap.size, 1, none⟩) HN5.out.1 _).far (p := ⟨v1.heap.size, 2, none⟩) HN5.out.1 _, ((H6.2.2.1.far (p := ⟨v1.heap.size, 0, none⟩) HN5.out.2.1 _).far (p := ⟨v1.heap.size, 1, none⟩) HN5.out.2.1 _).far (p := ⟨v1.heap.size, 2, none⟩) HN5.out.2.1 _, ((H6.2.2.2.far (p := ⟨v1.heap.size, 0, none⟩) HN5.out.2.2.1 _).far (p := ⟨v1.heap.size, 1, none⟩) HN5.out.2.2.1 _).far (p := ⟨v1.heap.size, 2, none⟩) HN5.out.2.2.1 _⟩ (fun H7 => ?_)
        clear hK8 K8
        try simp only [Act.put, List.setIfInBounds_toArray, List.set_cons_zero, List.set_cons_succ]
        refine wpAnyH_take (i := 21) (oi := ?_) (v := ?_) ?_ (by kernel_rfl) (by kernel_rfl) (by kernel_rfl) ?_ ?_ (by assumption) ?_
        rotate_left 2
        · simp only [List.getElem?_toArray, List.getElem?_cons_succ, List.getElem?_cons_zero]; with_reducible rfl
        · exact fun _ _ _ h => h
        · refine Or.inl ⟨by rfl, ?_⟩; intro W hSw; go_simp; try with_reducible rfl
        try simp only [Act.put, List.setIfInBounds_toArray, List.set_cons_zero, List.set_cons_succ]
        refine wpAnyH_done (by kernel_rfl) ?_ _
        refine ⟨v1.heap.size, ?_, ?_⟩
        · kernel_rfl
        · exact ⟨H7.1, H7.2.2.2, ((HX6.out.set_ 0 (.bool dn)).set_ 1 (.string (bs dl))).set_ 2 (.int .i64 dx)⟩
    rotate_left 1
    · simp only [List.getElem?_toArray, List.getElem?_cons_succ, List.getElem?_cons_zero]; with_reducible rfl
    · skip
      rw [if_pos (by rfl)]
      go_simp
      have HX8 : Hid (Row (w2.drew.alloc (.cells #[.bool false, .string ⟨#[]⟩, .int .i64 0] 24)) (w2.heap.size) 24 #[.bool false, .string ⟨#[]⟩, .int .i64 0]) := Lib.hid (Row.new w2.drew 24 #[.bool false, .string ⟨#[]⟩, .int .i64 0])
      have HN8 : Hid (w.heap.size ≠ w2.heap.size ∧ w.heap.size + 1 ≠ w2.heap.size ∧ w.heap.size + 1 + 1 ≠ w2.heap.size ∧ w.heap.size ≤ w2.heap.size) := Lib.hid (by have h1 : w.heap.size < w2.heap.size := H0.2.1.lt; have h2 : w.heap.size + 1 < w2.heap.size := H0.2.2.1.lt; have h3 : w.heap.size + 1 + 1 < w2.heap.size := H0.2.2.2.lt; omega)
      try go_wp2_with fail
      refine hK2.out _ _ ⟨H0.1.alloc H0.1.size (.cells #[.bool false, .string ⟨#[]⟩, .int .i64 0] 24), H0.2.1.alloc (.cells #[.bool false, .string ⟨#[]⟩, .int .i64 0] 24), H0.2.2.1.alloc (.cells #[.bool false, .string ⟨#[]⟩, .int .i64 0] 24), H0.2.2.2.alloc (.cells #[.bool false, .string ⟨#[]⟩, .int .i64 0] 24)⟩ (fun H8 => ?_)
      clear hK2 K2
      try simp only [Act.put, List.setIfInBounds_toArray, List.set_cons_zero, List.set_cons_succ]
      refine wpAnyH_ready (rs := [9]) (by kernel_rfl) (by simp) ?_
      refine AllReadyH.cons (o := ?_) ?_ (fun K9 hK9 => ?_) AllReadyH.nil
      rotate_left 1
      · simp only [List.getElem?_toArray, List.getElem?_cons_succ, List.getElem?_cons_zero]; with_reducible rfl
      rw [if_pos (by rfl)]
      go_simp
      refine (HMU.out _).mono ?_
      rintro e9 v9 ⟨rfl, hb9⟩
      have HX9 := Lib.hid (HX8.out.call hb9)
      go_wp2_with fail
      refine hK9.out _ _ ⟨H8.1.call hb9, H8.2.1.call hb9, H8.2.2.1.call hb9, H8.2.2.2.call hb9⟩ (fun H9 => ?_)
      clear hK9 K9
      try simp only [Act.put, List.setIfInBounds_toArray, List.set_cons_zero, List.set_cons_succ]
      refine wpAnyH_ready (rs := [15]) (by kernel_rfl) (by simp) ?_
      refine AllReadyH.cons (o := ?_) ?_ (fun K10 hK10 => ?_) AllReadyH.nil
      rotate_left 1
      · simp only [List.getElem?_toArray, List.getElem?_cons_succ, List.getElem?_cons_zero]; with_reducible rfl
      rw [if_pos (by rfl)]
      go_simp
      refine (HMA.out _).mono ?_
      rintro e10 v10 ⟨rfl, hb10⟩
      have HX10 := Lib.hid (HX9.out.call hb10)
      go_wp2_with fail
      refine hK10.out _ _ ⟨H9.1.call hb10, H9.2.1.call hb10, H9.2.2.1.call hb10, H9.2.2.2.call hb10⟩ (fun H10 => ?_)
      clear hK10 K10
      try simp only [Act.put, List.setIfInBounds_toArray, List.set_cons_zero, List.set_cons_succ]
      refine wpAnyH_take (i := 16) (oi := ?_) (v := ?_) ?_ (by kernel_rfl) (by kernel_rfl) (by kernel_rfl) ?_ ?_ (by assumption) ?_
      rotate_left 2
      · simp only [List.getElem?_toArray, List.getElem?_cons_succ, List.getElem?_cons_zero]; with_reducible rfl
      · exact fun _ _ _ h => h
      · refine Or.inl ⟨by rfl, ?_⟩; intro W hSw; go_simp; try with_reducible rfl
      try simp only [Act.put, List.setIfInBounds_toArray, List.set_cons_zero, List.set_cons_succ]
      refine wpAnyH_take (i := 17) (oi := ?_) (v := ?_) ?_ (by kernel_rfl) (by kernel_rfl) (by kernel_rfl) ?_ ?_ (by assumption) ?_
      rotate_left 2
      · simp only [List.getElem?_toArray, List.getElem?_cons_succ, List.getElem?_cons_zero]; with_reducible rfl
      · exact fun _ _ _ h => h
      · refine Or.inl ⟨by rfl, ?_⟩; intro W hSw; go_simp; try with_reducible rfl
      try simp only [Act.put, List.setIfInBounds_toArray, List.set_cons_zero, List.set_cons_succ]
      refine wpAnyH_take (i := 18) (oi := ?_) (v := ?_) ?_ (by kernel_rfl) (by kernel_rfl) (by kernel_rfl) ?_ ?_ (by assumption) ?_
      rotate_left 2
      · simp only [List.getElem?_toArray, List.getElem?_cons_succ, List.getElem?_cons_zero]; with_reducible rfl
      · exact fun _ _ _ h => h
      · refine Or.inl ⟨by rfl, ?_⟩; intro W hSw; go_simp; try with_reducible rfl
      try simp only [Act.put, List.setIfInBounds_toArray, List.set_cons_zero, List.set_cons_succ]
      have x0 := HX10.out.cell (i := 0) (v := .bool false) rfl
      have g0 := HX10.out.free 0
      have x1 := HX10.out.cell (i := 1) (v := .string ⟨#[]⟩) rfl
      have g1 := HX10.out.free 1
      have x2 := HX10.out.cell (i := 2) (v := .int .i64 0) rfl
      have g2 := HX10.out.free 2
      refine wpAnyH_ready (rs := [20]) (by kernel_rfl) (by simp) ?_
      refine AllReadyH.cons (o := ?_) ?_ (fun K11 hK11 => ?_) AllReadyH.nil
      rotate_left 1
      · simp only [List.getElem?_toArray, List.getElem?_cons_succ, List.getElem?_cons_zero]; with_reducible rfl
      rw [if_pos (by rfl)]
      go_simp
      try go_wp2_with fail
      refine hK11.out _ _ ⟨((H10.1.setCell (p := ⟨w2.heap.size, 0, none⟩) HN8.out.2.2.2 _).setCell (p := ⟨w2.heap.size, 1, none⟩) HN8.out.2.2.2 _).setCell (p := ⟨w2.heap.size, 2, none⟩) HN8.out.2.2.2 _, ((H10.2.1.far (p := ⟨w2.heap.size, 0, none⟩) HN8.out.1 _).far (p := ⟨w2.heap.size, 1, none⟩) HN8.out.1 _).far (p := ⟨w2.heap.size, 2, none⟩) HN8.out.1 _, ((H10.2.2.1.far (p := ⟨w2.heap.size, 0, none⟩) HN8.out.2.1 _).far (p := ⟨w2.heap.size, 1, none⟩) HN8.out.2.1 _).far (p := ⟨w2.heap.size, 2, none⟩) HN8.out.2.1 _, ((H10.2.2.2.far (p := ⟨w2.heap.size, 0, none⟩) HN8.out.2.2.1 _).far (p := ⟨w2.heap.size, 1, none⟩) HN8.out.2.2.1 _).far (p := ⟨w2.heap.size, 2, none⟩) HN8.out.2.2.1 _⟩ (fun H11 => ?_)
      clear hK11 K11
      try simp only [Act.put, List.setIfInBounds_toArray, List.set_cons_zero, List.set_cons_succ]
      refine wpAnyH_take (i := 21) (oi := ?_) (v := ?_) ?_ (by kernel_rfl) (by kernel_rfl) (by kernel_rfl) ?_ ?_ (by assumption) ?_
      rotate_left 2
      · simp only [List.getElem?_toArray, List.getElem?_cons_succ, List.getElem?_cons_zero]; with_reducible rfl
      · exact fun _ _ _ h => h
      · refine Or.inl ⟨by rfl, ?_⟩; intro W hSw; go_simp; try with_reducible rfl
      try simp only [Act.put, List.setIfInBounds_toArray, List.set_cons_zero, List.set_cons_succ]
      refine wpAnyH_done (by kernel_rfl) ?_ _
      refine ⟨w2.heap.size, ?_, ?_⟩
      · kernel_rfl
      · exact ⟨H11.1, H11.2.2.2, ((HX10.out.set_ 0 (.bool dn)).set_ 1 (.string (bs dl))).set_ 2 (.int .i64 dx)⟩
  · rintro b6 w5 ⟨hb5, hr5, hv5⟩
    simp only [puts, List.foldl, Act.put, List.setIfInBounds_toArray, List.set_cons_zero, List.set_cons_succ]
    have HB11 := Lib.hid hb5
    have HR11 := Lib.hid hr5
    have y0 := hr5.cell (i := 0) (v := .bool false) rfl
    have y1 := hr5.cell (i := 1) (v := .string ⟨#[]⟩) rfl
    have y2 := hr5.cell (i := 2) (v := .int .i64 0) rfl
    have g0 := hr5.free 0
    have g1 := hr5.free 1
    have g2 := hr5.free 2
    have v0 := hv5.cell (i := 0) (v := .bool dn) rfl
    have v1 := hv5.cell (i := 1) (v := .string (bs dl)) rfl
    have v2 := hv5.cell (i := 2) (v := .int .i64 dx) rfl
    clear hb5 hr5 hv5
    cases em : mayB ⟨dn, dl, dx⟩ with
    | false =>
      obtain ⟨rfl, rfl⟩ := HCM.out.2 em
      clear em
      go_wp2_with fail
      have hrow := ((HR11.out.set_ 0 (.bool false)).set_ 1 (.string ⟨#[]⟩)).set_ 2 (.int .i64 0)
      refine bodyPost_ret_by (results_row_tmp rfl _ _ (w.heap.size + 1 + 1) #[.bool false, .string ⟨#[]⟩, .int .i64 0] rfl (load_dec hrow rfl)) rfl ?_
      exact ⟨rfl, ((HB11.out.setCell (p := ⟨w.heap.size + 1 + 1, 0, none⟩) (by simp only; omega) _).setCell (p := ⟨w.heap.size + 1 + 1, 1, none⟩) (by simp only; omega) _).setCell (p := ⟨w.heap.size + 1 + 1, 2, none⟩) (by simp only; omega) _⟩
    | true =>
      obtain ⟨rfl, rfl⟩ := HCM.out.1 em
      clear em
      go_wp2_with fail
      have hrow := ((HR11.out.set_ 0 (.bool dn)).set_ 1 (.string (bs dl))).set_ 2 (.int .i64 dx)
      refine bodyPost_ret_by (results_row_tmp rfl _ _ (w.heap.size + 1 + 1) #[.bool dn, .string (bs dl), .int .i64 dx] rfl (load_dec hrow rfl)) rfl ?_
      exact ⟨rfl, ((HB11.out.setCell (p := ⟨w.heap.size + 1 + 1, 0, none⟩) (by simp only; omega) _).setCell (p := ⟨w.heap.size + 1 + 1, 1, none⟩) (by simp only; omega) _).setCell (p := ⟨w.heap.size + 1 + 1, 2, none⟩) (by simp only; omega) _⟩
end Go.Proofs.YtlcbjikiodmlfaaGreatDoor
