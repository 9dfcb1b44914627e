/- Layer 7: Sum. -/
import Derived.Test.YtlcbjikiodmlfaaGreatDoorPt12
import Derived.Test.YtlcbjikiodmlfaaGreatDoorPt15
namespace Go.Proofs.YtlcbjikiodmlfaaGreatDoor
open Go.RowKit

/-- How many times 10 to a power a decimal is, its sign left out. -/
def lev (d : Dec) (e : Int) : Nat := num d.digits * 10 ^ (d.exp - e).toNat
theorem level_ok (d : Dec) (e : Int) (w : World) (hd : Digs d.digits) (hl : d.digits.length ≤ 900000) (h0 : e ≤ d.exp) (h1 : d.exp - e ≤ 900000) (h3 : d.exp ≤ 4611686018427387904) :
    Calls Tryz.prog 20 #[decV d, .int .i64 e] w (NumPost w (lev d e)) := by
  obtain ⟨k, hk⟩ : ∃ k : Nat, d.exp - e = k := ⟨(d.exp - e).toNat, by omega⟩
  have hlv : lev d e = num d.digits * 10 ^ k := by unfold lev; rw [hk, Int.toNat_natCast]
  rw [hlv]
  obtain ⟨neg, l, x⟩ := d
  simp only at hk hd hl h0 h1 h3 hlv ⊢
  have HL := fun W => laid_ok l k W hd hl (by omega)
  have hb : Below w.heap.size w (w.alloc (.cells #[.bool neg, .string (bs l), .int .i64 x] 24)) := (Below.refl _ _).alloc (Nat.le_refl _) _
  have hr : Row (w.alloc (.cells #[.bool neg, .string (bs l), .int .i64 x] 24)) w.heap.size 24 #[.bool neg, .string (bs l), .int .i64 x] := Row.new _ _ _
  have c1 := hr.cell (i := 1) (v := .string (bs l)) rfl
  have c2 := hr.cell (i := 2) (v := .int .i64 x) rfl
  have HB := Lib.hid hb
  have HLL := Lib.hid HL
  clear hb hr HL hlv
  unfold decV
  go_enter Tryz.func20, Tryz.ntmps20
  go_wp2_with fail
  refine (HLL.out _).mono ?_
  rintro e9 w9 ⟨v, rfl, hw, hb9⟩
  have HW := Lib.hid hw
  have HB9 := Lib.hid (HB.out.call hb9)
  clear hw hb9 HB HLL
  go_wp2
  go_ret
  exact ⟨v, rfl, HW.out, HB9.out⟩

/-- Decimals side by side. -/
def dcs (L : List Dec) : List Value := L.flatMap fun d => [.bool d.neg, .string (bs d.digits), .int .i64 d.exp]
theorem dcs_length (L : List Dec) : (dcs L).length = L.length * 3 := by
  induction L with
  | nil => rfl
  | cons d L ih => rw [show dcs (d :: L) = [.bool d.neg, .string (bs d.digits), .int .i64 d.exp] ++ dcs L by rfl, List.length_append, ih, List.length_cons]; simp; omega
theorem dcs_get (L : List Dec) (i : Nat) (hi : i < L.length) : (dcs L)[i * 3]? = some (.bool (L.getD i Dec.zero).neg) ∧ (dcs L)[i * 3 + 1]? = some (.string (bs (L.getD i Dec.zero).digits)) ∧ (dcs L)[i * 3 + 2]? = some (.int .i64 (L.getD i Dec.zero).exp) := by
  induction L generalizing i with
  | nil => simp at hi
  | cons d L ih =>
    have e : dcs (d :: L) = [.bool d.neg, .string (bs d.digits), .int .i64 d.exp] ++ dcs L := rfl
    cases i with
    | zero => rw [e]; exact ⟨rfl, rfl, rfl⟩
    | succ i =>
      have := ih i (by simpa using hi)
      rw [e]
      have e3 : ∀ j, ([.bool d.neg, .string (bs d.digits), .int .i64 d.exp] ++ dcs L : List Value)[(i + 1) * 3 + j]? = (dcs L)[i * 3 + j]? := fun j => by
        rw [List.getElem?_append_right (by simp; omega)]
        congr 1
        simp; omega
      have h0 := e3 0
      rw [Nat.add_zero, Nat.add_zero] at h0
      rw [h0, e3 1, e3 2]
      exact this
/-- The least power. -/
def minE (L : List Dec) : Int := L.foldl (fun e d => min e d.exp) 1000
theorem minE_snoc (L : List Dec) (d : Dec) : minE (L ++ [d]) = min (minE L) d.exp := by simp [minE]
/-- The sum of all, up to a power. -/
def sumS (e : Int) (L : List Dec) : Bool × Nat := L.foldl (fun s d => (s.1 != joinT s.2 (lev d e) (s.1 != d.neg), joinN s.2 (lev d e) (s.1 != d.neg))) (false, 0)
theorem sumS_snoc (e : Int) (L : List Dec) (d : Dec) : sumS e (L ++ [d]) = ((sumS e L).1 != joinT (sumS e L).2 (lev d e) ((sumS e L).1 != d.neg), joinN (sumS e L).2 (lev d e) ((sumS e L).1 != d.neg)) := by simp [sumS]
theorem joinN_le (m n : Nat) (u : Bool) : joinN m n u ≤ m + n := by
  unfold joinN
  split
  · split <;> omega
  · omega
theorem minE_range (L : List Dec) (h : ∀ d ∈ L, May d) : -1000 ≤ minE L ∧ minE L ≤ 1000 ∧ ∀ d ∈ L, minE L ≤ d.exp := by
  have key : ∀ (L : List Dec) (e0 : Int), -1000 ≤ e0 → e0 ≤ 1000 → (∀ d ∈ L, May d) → -1000 ≤ L.foldl (fun e d => min e d.exp) e0 ∧ L.foldl (fun e d => min e d.exp) e0 ≤ e0 ∧ ∀ d ∈ L, L.foldl (fun e d => min e d.exp) e0 ≤ d.exp := by
    intro L
    induction L with
    | nil => intro e0 h1 h2 _; exact ⟨h1, Int.le_refl _, fun d hd => by cases hd⟩
    | cons x L ih =>
      intro e0 h1 h2 hm
      have hx := hm x (by simp)
      have := ih (min e0 x.exp) (by have := hx.lo; omega) (by omega) (fun d hd => hm d (by simp [hd]))
      refine ⟨this.1, by have := this.2.1; rw [List.foldl_cons]; omega, fun d hd => ?_⟩
      rw [List.foldl_cons]
      rcases List.mem_cons.1 hd with rfl | hd
      · have := this.2.1; omega
      · exact this.2.2 d hd
  have := key L 1000 (by omega) (by omega) h
  exact ⟨this.1, this.2.1, this.2.2⟩
def e100 : Nat := 100
def e2000 : Nat := 2000
def bigN : Nat := 10 ^ (e100 + e2000)
theorem bigN_pos : 0 < bigN := Nat.pow_pos (by decide)
theorem lev_lt {d : Dec} (h : May d) {e : Int} (he : -1000 ≤ e) : lev d e < bigN := by
  unfold lev
  have h1 := num_lt h.digs
  have h2 : 10 ^ d.digits.length ≤ 10 ^ e100 := Nat.pow_le_pow_right (by omega) h.len
  have h3 : 10 ^ (d.exp - e).toNat ≤ 10 ^ e2000 := Nat.pow_le_pow_right (by omega) (by have := h.hi; unfold e2000; omega)
  have hp : 0 < 10 ^ (d.exp - e).toNat := Nat.pow_pos (by decide)
  unfold bigN
  rw [Nat.pow_add]
  exact Nat.lt_of_lt_of_le (Nat.mul_lt_mul_of_pos_right (Nat.lt_of_lt_of_le h1 h2) hp) (Nat.mul_le_mul_left _ h3)
theorem sumS_le (e : Int) (L : List Dec) (h : ∀ d ∈ L, May d) (he : -1000 ≤ e) : (sumS e L).2 ≤ L.length * bigN := by
  have key : ∀ (L : List Dec) (s : Bool × Nat) (k : Nat), s.2 ≤ k * bigN → (∀ d ∈ L, May d) → (L.foldl (fun s d => (s.1 != joinT s.2 (lev d e) (s.1 != d.neg), joinN s.2 (lev d e) (s.1 != d.neg))) s).2 ≤ (k + L.length) * bigN := by
    intro L
    induction L with
    | nil => intro s k hs _; exact hs
    | cons x L ih =>
      intro s k hs hm
      have hx := lev_lt (hm x (by simp)) he
      have hj := joinN_le s.2 (lev x e) (s.1 != x.neg)
      rw [List.foldl_cons]
      have := ih (s.1 != joinT s.2 (lev x e) (s.1 != x.neg), joinN s.2 (lev x e) (s.1 != x.neg)) (k + 1) (by
        show joinN s.2 (lev x e) (s.1 != x.neg) ≤ (k + 1) * bigN
        rw [Nat.add_mul, Nat.one_mul]
        generalize bigN = X at *
        omega) (fun d hd => hm d (by simp [hd]))
      rw [List.length_cons, show k + (L.length + 1) = k + 1 + L.length by omega]
      exact this
  have := key L (false, 0) 0 (Nat.zero_le _) h
  rw [Nat.zero_add] at this
  exact this
theorem words_few {n k : Nat} (h : n ≤ k * bigN) (hk : k ≤ 10000) : (wds n).length ≤ 20000 := by
  have h1 : k < 10 ^ k := Nat.lt_pow_self (by omega)
  have h2 : n < 10 ^ k * 10 ^ (e100 + e2000) := Nat.lt_of_le_of_lt h (Nat.mul_lt_mul_of_pos_right h1 bigN_pos)
  rw [← Nat.pow_add] at h2
  have h3 : 10 ^ (k + (e100 + e2000)) ≤ 10 ^ (9 * (k + (e100 + e2000))) := Nat.pow_le_pow_right (by omega) (by omega)
  rw [ten_nine] at h3
  have := wds_length_le (n := n) (k := k + (e100 + e2000)) (by omega)
  unfold e100 e2000 at this
  omega
/-- What Sum tells of decimals that may be. -/
def sumD (L : List Dec) : Dec := mkD (sumS (minE L) L).1 (sumS (minE L) L).2 (minE L)
def sumE (L : List Dec) : Nat := mkE (sumS (minE L) L).1 (sumS (minE L) L).2 (minE L)
theorem getD_take (L : List Dec) (i : Nat) (hi : i < L.length) : L.take (i + 1) = L.take i ++ [L.getD i Dec.zero] := by
  rw [List.take_add_one, List.getElem?_eq_getElem hi, Option.toList_some]
  simp [List.getD, List.getElem?_eq_getElem hi]
theorem mem_getD {L : List Dec} {i : Nat} (hi : i < L.length) : L.getD i Dec.zero ∈ L := by
  simp only [List.getD, List.getElem?_eq_getElem hi, Option.getD_some]
  exact List.getElem_mem _

set_option maxRecDepth 100000 in
set_option maxHeartbeats 4000000 in
theorem sum_ok (A : Option Addr) (n c : Nat) (L : List Dec) (w : World) (hL : L.length = n) (hn : n ≤ 10000) (h : Holds w A n 3 (dcs L)) (hm : ∀ d ∈ L, May d) (hT : PowTab w) :
    Calls Tryz.prog 6 #[.slice A n c] w (Told w (sumD L) (sumE L)) := by
  obtain ⟨w0, hw0⟩ : ∃ w0, w0 = w.alloc (.cells #[.bool false, .string ⟨#[]⟩, .int .i64 0] 24) := ⟨_, rfl⟩
  have hb0 : Below w.heap.size w w0 := by subst hw0; exact (Below.refl _ _).alloc (Nat.le_refl _) _
  have hr0 : Row w0 w.heap.size 24 #[.bool false, .string ⟨#[]⟩, .int .i64 0] := by subst hw0; exact Row.new _ _ _
  have hz0 : w0.heap.size = w.heap.size + 1 := by subst hw0; simp
  have HB0 := Lib.hid hb0
  have HR0 := Lib.hid hr0
  have HZ0 := Lib.hid hz0
  have HH := Lib.hid h
  have HM := Lib.hid hm
  have HL := Lib.hid hL
  have HT := Lib.hid hT
  have HE := Lib.hid (minE_range L hm)
  clear hb0 hr0 hz0 h hm hL hT
  go_enter Tryz.func6, Tryz.ntmps6
  go_upto_region 1 with fail
  rw [← hw0]
  clear hw0
  go_wp2_with fail
  go_loopw [4, 15] (fun v4 v15 wr => ∃ i : Nat, i ≤ n ∧ v15 = .int .i64 i ∧ v4 = .int .i64 (minE (L.take i)) ∧ Hid (Below w0.heap.size w0 wr)) (fun _ v15 _ => n - (intOf v15).toNat)
  case atStart => exact ⟨0, Nat.zero_le _, rfl, rfl, Lib.hid (Below.refl _ _)⟩
  case round =>
    obtain ⟨i, hi, rfl, rfl, HBR⟩ := hrel
    by_cases hlt : i < n
    · have hd9 := HM.out (L.getD i Dec.zero) (mem_getD (by rw [HL.out]; exact hlt))
      obtain ⟨g, off, rfl, hg, hcell⟩ := HH.out.2 (by omega)
      have hbw := HB0.out.call HBR.out
      obtain ⟨j0, j1, j2⟩ := dcs_get L i (by rw [HL.out]; exact hlt)
      have k0 := (hbw.cell (p := ⟨g, off + i * 3, none⟩) hg).trans (hcell _ _ j0)
      have k1 := (hbw.cell (p := ⟨g, off + (i * 3 + 1), none⟩) hg).trans (hcell _ _ j1)
      have k2 := (hbw.cell (p := ⟨g, off + (i * 3 + 2), none⟩) hg).trans (hcell _ _ j2)
      rw [← Nat.add_assoc] at k1 k2
      have HS : Hid (minE (L.take (i + 1)) = min (minE (L.take i)) (L.getD i Dec.zero).exp) := Lib.hid (by rw [getD_take L i (by rw [HL.out]; exact hlt), minE_snoc])
      have HC := Lib.hid (fun W => check_ok (L.getD i Dec.zero) W (by have := hd9.len; omega))
      have HCE := Lib.hid (checkE_yes ((mayB_iff _).2 hd9))
      have hmn := minE_range (L.take i) (fun d hd => HM.out d (List.mem_of_mem_take hd))
      have hx1 := hd9.lo
      have hx2 := hd9.hi
      have hm1 := hmn.1
      have hm2 := hmn.2.1
      clear j0 j1 j2 hcell hd9 hmn hbw
      generalize minE (L.take i) = e0 at *
      generalize L.getD i Dec.zero = d at *
      obtain ⟨neg, l, x⟩ := d
      simp only at k0 k1 k2 HS hx1 hx2
      unfold decV at HC
      simp only at HC
      go_wp2_with fail
      refine (HC.out _).mono ?_
      rintro ez wz ⟨rfl, hbz⟩
      rw [HCE.out]
      have hrow : Row (wr.alloc (.cells #[.bool neg, .string (bs l), .int .i64 x] 24)) wr.heap.size 24 #[.bool neg, .string (bs l), .int .i64 x] := Row.new _ _ _
      have y2 := (hrow.call hbz).cell (i := 2) (v := .int .i64 x) rfl
      have HBZ := Lib.hid ((HBR.out.alloc HBR.out.size (.cells #[.bool neg, .string (bs l), .int .i64 x] 24)).call hbz)
      clear hbz HC HCE hrow HBR
      go_wp2
      refine ⟨⟨i + 1, by omega, by go_num, by rw [HS.out], HBZ⟩, by simp [intOf]; omega⟩
    · obtain rfl : i = n := by omega
      have HX : Hid (minE (L.take i) = minE L) := Lib.hid (by rw [← HL.out, List.take_length])
      rw [HX.out]
      have hE := HE.out
      have hE1 := hE.1
      have hE2 := hE.2.1
      have HE3 := Lib.hid hE.2.2
      have HSL := Lib.hid (fun k => sumS_le (minE L) (L.take k) (fun d hd => HM.out d (List.mem_of_mem_take hd)) hE1)
      clear hE HX
      obtain ⟨e0, he0⟩ : ∃ e0, e0 = minE L := ⟨_, rfl⟩
      have HE0 := Lib.hid he0
      rw [← he0] at hE1 hE2 HE3 HSL ⊢
      clear he0
      have HD : Hid (sumD L = mkD (sumS e0 L).1 (sumS e0 L).2 e0 ∧ sumE L = mkE (sumS e0 L).1 (sumS e0 L).2 e0) := Lib.hid (by unfold sumD sumE; rw [HE0.out]; exact ⟨rfl, rfl⟩)
      go_wp2_with fail
      go_loopw [7, 8, 30] (fun v7 v8 v30 wq => ∃ k : Nat, k ≤ i ∧ v30 = .int .i64 k ∧ v8 = .bool (sumS e0 (L.take k)).1 ∧ Hid (Wds wq v7 (wds (sumS e0 (L.take k)).2)) ∧ Hid (Below w0.heap.size w0 wq)) (fun _ _ v30 _ => i - (intOf v30).toNat)
      case atStart => exact ⟨0, Nat.zero_le _, rfl, rfl, Lib.hid (by show Wds _ _ (wds 0); rw [wds_zero]; exact Wds.nil _ _ _ (by unfold maxLen; omega)), HBR⟩
      case round =>
        clear HBR
        obtain ⟨k, hk, rfl, rfl, HWD, HBQ⟩ := hrel
        by_cases hlt : k < i
        · have hd9 := HM.out (L.getD k Dec.zero) (mem_getD (by rw [HL.out]; exact hlt))
          obtain ⟨g, off, rfl, hg, hcell⟩ := HH.out.2 (by omega)
          have hbw := HB0.out.call HBQ.out
          obtain ⟨j0, j1, j2⟩ := dcs_get L k (by rw [HL.out]; exact hlt)
          have k0 := (hbw.cell (p := ⟨g, off + k * 3, none⟩) hg).trans (hcell _ _ j0)
          have k1 := (hbw.cell (p := ⟨g, off + (k * 3 + 1), none⟩) hg).trans (hcell _ _ j1)
          have k2 := (hbw.cell (p := ⟨g, off + (k * 3 + 2), none⟩) hg).trans (hcell _ _ j2)
          rw [← Nat.add_assoc] at k1 k2
          have HS : Hid (sumS e0 (L.take (k + 1)) = ((sumS e0 (L.take k)).1 != joinT (sumS e0 (L.take k)).2 (lev (L.getD k Dec.zero) e0) ((sumS e0 (L.take k)).1 != (L.getD k Dec.zero).neg), joinN (sumS e0 (L.take k)).2 (lev (L.getD k Dec.zero) e0) ((sumS e0 (L.take k)).1 != (L.getD k Dec.zero).neg))) := Lib.hid (by rw [getD_take L k (by rw [HL.out]; exact hlt), sumS_snoc])
          have hxe := HE3.out (L.getD k Dec.zero) (mem_getD (by rw [HL.out]; exact hlt))
          have hx2 := hd9.hi
          have HL1 := Lib.hid (fun W => level_ok (L.getD k Dec.zero) e0 W hd9.digs (by have := hd9.len; omega) hxe (by omega) (by omega))
          have HW1 : Hid ((wds (sumS e0 (L.take k)).2).length ≤ 20000) := Lib.hid (words_few (HSL.out k) (by rw [List.length_take]; omega))
          have HW2 : Hid ((wds (lev (L.getD k Dec.zero) e0)).length ≤ 20000) := Lib.hid (words_few (k := 1) (by have := lev_lt hd9 (e := e0) (by omega); omega) (by omega))
          clear j0 j1 j2 hcell hd9 hbw
          generalize sumS e0 (L.take k) = ss at *
          generalize lev (L.getD k Dec.zero) e0 = lv at *
          generalize L.getD k Dec.zero = d at *
          obtain ⟨neg, l, x⟩ := d
          obtain ⟨sn, sm⟩ := ss
          simp only at k0 k1 k2 HS hx2 hxe HW1 HWD ⊢
          unfold decV at HL1
          simp only at HL1
          go_wp2_with fail
          obtain ⟨w1, hw1⟩ : ∃ w1, w1 = wr.alloc (.cells #[.bool neg, .string (bs l), .int .i64 x] 24) := ⟨_, rfl⟩
          have hrow : Row w1 wr.heap.size 24 #[.bool neg, .string (bs l), .int .i64 x] := by subst hw1; exact Row.new _ _ _
          have hb1 : Below wr.heap.size wr w1 := by subst hw1; exact (Below.refl _ _).alloc (Nat.le_refl _) _
          have HW9 := Lib.hid (HWD.out.below hb1)
          have HB1 := Lib.hid (HBQ.out.call hb1)
          have hc0 : ∀ W : World, Below w1.heap.size w1 W → W.cell? ⟨wr.heap.size, 0, none⟩ = some (.bool neg) := fun W hb => (hrow.call hb).cell rfl
          have hc1 : ∀ W : World, Below w1.heap.size w1 W → W.cell? ⟨wr.heap.size, 1, none⟩ = some (.string (bs l)) := fun W hb => (hrow.call hb).cell rfl
          have hc2 : ∀ W : World, Below w1.heap.size w1 W → W.cell? ⟨wr.heap.size, 2, none⟩ = some (.int .i64 x) := fun W hb => (hrow.call hb).cell rfl
          rw [← hw1]
          clear hw1 hrow hb1 HWD HBQ k0 k1 k2
          generalize wr.heap.size = q at *
          refine wp_region_held_drew (S := (fun W => Below w1.heap.size w1 W)) (by kernel_rfl) ((Below.refl _ _).drew) (fun hHeld => ?_)
          refine wpAnyH_take (i := 0) (oi := ?_) (v := ?_) ?_ (by kernel_rfl) (by kernel_rfl) (by kernel_rfl) ?_ ?_ (by assumption) ?_
          rotate_left 2
          · simp only [List.getElem?_toArray, List.getElem?_cons_zero]; with_reducible rfl
          · exact fun _ _ _ h => h
          · refine Or.inl ⟨by rfl, ?_⟩; intro W hSw; go_simp; try with_reducible rfl
          try simp only [Act.put, List.setIfInBounds_toArray, List.set_cons_zero, List.set_cons_succ]
          refine wpAnyH_take (i := 1) (oi := ?_) (v := ?_) ?_ (by kernel_rfl) (by kernel_rfl) (by kernel_rfl) ?_ ?_ (by assumption) ?_
          rotate_left 2
          · simp only [List.getElem?_toArray, List.getElem?_cons_succ, List.getElem?_cons_zero]; with_reducible rfl
          · exact fun _ _ _ h => h
          · refine Or.inl ⟨by rfl, ?_⟩; intro W hSw; have hSw2 : Below w1.heap.size w1 W := hSw; go_simp; try with_reducible rfl
          try simp only [Act.put, List.setIfInBounds_toArray, List.set_cons_zero, List.set_cons_succ]
          refine wpAnyH_take (i := 2) (oi := ?_) (v := ?_) ?_ (by kernel_rfl) (by kernel_rfl) (by kernel_rfl) ?_ ?_ (by assumption) ?_
          rotate_left 2
          · simp only [List.getElem?_toArray, List.getElem?_cons_succ, List.getElem?_cons_zero]; with_reducible rfl
          · exact fun _ _ _ h => h
          · refine Or.inl ⟨by rfl, ?_⟩; intro W hSw; go_simp; try with_reducible rfl
          try simp only [Act.put, List.setIfInBounds_toArray, List.set_cons_zero, List.set_cons_succ]
          refine wpAnyH_take (i := 4) (oi := ?_) (v := ?_) ?_ (by kernel_rfl) (by kernel_rfl) (by kernel_rfl) ?_ ?_ (by assumption) ?_
          rotate_left 2
          · simp only [List.getElem?_toArray, List.getElem?_cons_succ, List.getElem?_cons_zero]; with_reducible rfl
          · exact fun _ _ _ h => h
          · refine Or.inl ⟨by rfl, ?_⟩; intro W hSw; go_simp; try with_reducible rfl
          try simp only [Act.put, List.setIfInBounds_toArray, List.set_cons_zero, List.set_cons_succ]
          refine wpAnyH_take (i := 5) (oi := ?_) (v := ?_) ?_ (by kernel_rfl) (by kernel_rfl) (by kernel_rfl) ?_ ?_ (by assumption) ?_
          rotate_left 2
          · simp only [List.getElem?_toArray, List.getElem?_cons_succ, List.getElem?_cons_zero]; with_reducible rfl
          · exact fun _ _ _ h => h
          · refine Or.inl ⟨by rfl, ?_⟩; intro W hSw; go_simp; try with_reducible rfl
          try simp only [Act.put, List.setIfInBounds_toArray, List.set_cons_zero, List.set_cons_succ]
          refine wpAnyH_take (i := 6) (oi := ?_) (v := ?_) ?_ (by kernel_rfl) (by kernel_rfl) (by kernel_rfl) ?_ ?_ (by assumption) ?_
          rotate_left 2
          · simp only [List.getElem?_toArray, List.getElem?_cons_succ, List.getElem?_cons_zero]; with_reducible rfl
          · exact fun _ _ _ h => h
          · refine Or.inl ⟨by rfl, ?_⟩; intro W hSw; have hSw2 : Below w1.heap.size w1 W := hSw; go_simp; try with_reducible rfl
          try simp only [Act.put, List.setIfInBounds_toArray, List.set_cons_zero, List.set_cons_succ]
          refine wpAnyH_take (i := 7) (oi := ?_) (v := ?_) ?_ (by kernel_rfl) (by kernel_rfl) (by kernel_rfl) ?_ ?_ (by assumption) ?_
          rotate_left 2
          · simp only [List.getElem?_toArray, List.getElem?_cons_succ, List.getElem?_cons_zero]; with_reducible rfl
          · exact fun _ _ _ h => h
          · refine Or.inl ⟨by rfl, ?_⟩; intro W hSw; go_simp; try with_reducible rfl
          try simp only [Act.put, List.setIfInBounds_toArray, List.set_cons_zero, List.set_cons_succ]
          refine wpAnyH_ready (rs := [3]) (by kernel_rfl) (by simp) ?_
          refine AllReadyH.cons (o := ?_) ?_ (fun K1 hK1 => ?_) AllReadyH.nil
          rotate_left 1
          · simp only [List.getElem?_toArray, List.getElem?_cons_succ, List.getElem?_cons_zero]; with_reducible rfl
          rw [if_pos (by rfl)]
          go_simp
          refine (HL1.out _).mono ?_
          rintro e9 w9 ⟨v9, rfl, hw9, hb9⟩
          go_wp2_with fail
          refine hK1.out _ _ (Below.call hHeld hb9) (fun hHeld1 => ?_)
          clear hK1 K1
          try simp only [Act.put, List.setIfInBounds_toArray, List.set_cons_zero, List.set_cons_succ]
          refine wpAnyH_ready (rs := [8]) (by kernel_rfl) (by simp) ?_
          refine AllReadyH.cons (o := ?_) ?_ (fun K2 hK2 => ?_) AllReadyH.nil
          rotate_left 1
          · simp only [List.getElem?_toArray, List.getElem?_cons_succ, List.getElem?_cons_zero]; with_reducible rfl
          rw [if_pos (by rfl)]
          go_simp
          refine (joined_ok _ _ _ _ _ _ (HW9.out.below hHeld1) hw9 (by have := HW1.out; omega) (by have := HW2.out; omega)).mono ?_
          rintro e8 w8 ⟨v8, rfl, hw8, hb8⟩
          go_wp2_with fail
          refine hK2.out _ _ (Below.call hHeld1 hb8) (fun hHeld2 => ?_)
          clear hK2 K2
          try simp only [Act.put, List.setIfInBounds_toArray, List.set_cons_zero, List.set_cons_succ]
          refine wpAnyH_take (i := 9) (oi := ?_) (v := ?_) ?_ (by kernel_rfl) (by kernel_rfl) (by kernel_rfl) ?_ ?_ (by assumption) ?_
          rotate_left 2
          · simp only [List.getElem?_toArray, List.getElem?_cons_succ, List.getElem?_cons_zero]; with_reducible rfl
          · exact fun _ _ _ h => h
          · refine Or.inl ⟨by rfl, ?_⟩; intro W hSw; go_simp; try with_reducible rfl
          try simp only [Act.put, List.setIfInBounds_toArray, List.set_cons_zero, List.set_cons_succ]
          refine wpAnyH_take (i := 11) (oi := ?_) (v := ?_) ?_ (by kernel_rfl) (by kernel_rfl) (by kernel_rfl) ?_ ?_ (by assumption) ?_
          rotate_left 2
          · simp only [List.getElem?_toArray, List.getElem?_cons_succ, List.getElem?_cons_zero]; with_reducible rfl
          · exact fun _ _ _ h => h
          · refine Or.inl ⟨by rfl, ?_⟩; intro W hSw; go_simp; try with_reducible rfl
          try simp only [Act.put, List.setIfInBounds_toArray, List.set_cons_zero, List.set_cons_succ]
          refine wpAnyH_take (i := 10) (oi := ?_) (v := ?_) ?_ (by kernel_rfl) (by kernel_rfl) (by kernel_rfl) ?_ ?_ (by assumption) ?_
          rotate_left 2
          · simp only [List.getElem?_toArray, List.getElem?_cons_succ, List.getElem?_cons_zero]; with_reducible rfl
          · exact fun _ _ _ h => h
          · refine Or.inl ⟨by rfl, ?_⟩; intro W hSw; go_simp; try with_reducible rfl
          try simp only [Act.put, List.setIfInBounds_toArray, List.set_cons_zero, List.set_cons_succ]
          refine wpAnyH_take (i := 12) (oi := ?_) (v := ?_) ?_ (by kernel_rfl) (by kernel_rfl) (by kernel_rfl) ?_ ?_ (by assumption) ?_
          rotate_left 2
          · simp only [List.getElem?_toArray, List.getElem?_cons_succ, List.getElem?_cons_zero]; with_reducible rfl
          · exact fun _ _ _ h => h
          · refine Or.inl ⟨by rfl, ?_⟩; intro W hSw; go_simp; try with_reducible rfl
          try simp only [Act.put, List.setIfInBounds_toArray, List.set_cons_zero, List.set_cons_succ]
          refine wpAnyH_take (i := 13) (oi := ?_) (v := ?_) ?_ (by kernel_rfl) (by kernel_rfl) (by kernel_rfl) ?_ ?_ (by assumption) ?_
          rotate_left 2
          · simp only [List.getElem?_toArray, List.getElem?_cons_succ, List.getElem?_cons_zero]; with_reducible rfl
          · exact fun _ _ _ h => h
          · refine Or.inl ⟨by rfl, ?_⟩; intro W hSw; go_simp; try with_reducible rfl
          try simp only [Act.put, List.setIfInBounds_toArray, List.set_cons_zero, List.set_cons_succ]
          refine wpAnyH_done (by kernel_rfl) ?_ _
          have HW8 := Lib.hid hw8
          have HB8 := Lib.hid (HB1.out.trans (hHeld2.mono HB1.out.size))
          clear hHeld hHeld1 hHeld2 hw9 hb9 hw8 hb8 HW9 HB1 hc0 hc1 hc2
          go_wp2
          refine ⟨⟨k + 1, by omega, by go_num, ?_, ?_, HB8⟩, by simp [intOf]; omega⟩
          · rw [HS.out]; rfl
          · rw [HS.out]; exact HW8
        · obtain rfl : k = i := by omega
          go_wp2_with fail
          have HT9 := Lib.hid (fun h1 => told_ok (sumS e0 L).1 u7 (sumS e0 L).2 e0 wr h1)
          have HX : Hid (sumS e0 (L.take k) = sumS e0 L) := Lib.hid (by rw [← HL.out, List.take_length])
          rw [HX.out] at HWD ⊢
          have HLW := HSL.out k
          rw [← HL.out, List.take_length] at HLW
          refine (HT9.out HWD.out (by have := words_few HLW (by rw [HL.out]; omega); omega) (HT.out.below (HB0.out.call HBQ.out)) (by omega) (by omega)).mono ?_
          rintro e9 w9 ⟨rfl, hb9⟩
          have HB9 := Lib.hid (HB0.out.call (HBQ.out.call hb9))
          have HR9 := Lib.hid ((HR0.out.call HBQ.out).call hb9)
          clear hb9 HBQ HWD HLW HX HT9
          rw [← HD.out.1, ← HD.out.2]
          have y0 := HR9.out.cell (i := 0) (v := .bool false) rfl
          have y1 := HR9.out.cell (i := 1) (v := .string ⟨#[]⟩) rfl
          have y2 := HR9.out.cell (i := 2) (v := .int .i64 0) rfl
          have g0 := HR9.out.free 0
          have g1 := HR9.out.free 1
          have g2 := HR9.out.free 2
          unfold decV Told
          generalize sumD L = d at *
          generalize sumE L = ec at *
          obtain ⟨neg, l, x⟩ := d
          simp only
          go_wp2_with fail
          have hrow : Row (((w9.setCell ⟨w.heap.size, 0, none⟩ (.bool neg)).setCell ⟨w.heap.size, 1, none⟩ (.string (bs l))).setCell ⟨w.heap.size, 2, none⟩ (.int .i64 x)) w.heap.size 24 #[.bool neg, .string (bs l), .int .i64 x] := by
            simpa using ((HR9.out.set_ 0 (.bool neg)).set_ 1 (.string (bs l))).set_ 2 (.int .i64 x)
          refine bodyPost_ret_by (results_row_tmp rfl _ _ w.heap.size #[.bool neg, .string (bs l), .int .i64 x] rfl (load_dec hrow rfl)) rfl ?_
          exact ⟨rfl, ((HB9.out.setCell (p := ⟨w.heap.size, 0, none⟩) (Nat.le_refl _) _).setCell (p := ⟨w.heap.size, 1, none⟩) (Nat.le_refl _) _).setCell (p := ⟨w.heap.size, 2, none⟩) (Nat.le_refl _) _⟩
end Go.Proofs.YtlcbjikiodmlfaaGreatDoor
