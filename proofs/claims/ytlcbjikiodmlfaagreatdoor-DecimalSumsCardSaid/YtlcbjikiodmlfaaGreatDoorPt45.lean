/- Layer 7: the walk of DecimalSums behind its loop, as far as Compare. -/
import Derived.Test.YtlcbjikiodmlfaaGreatDoorPt44
namespace Go.Proofs.YtlcbjikiodmlfaaGreatDoor
open Go.RowKit

def frQ (h : Nat → Value) (p0 p4 p5 p7 p8 p9 p10 : Value) : List Value := [p0, h 1, h 2, h 3, p4, p5, h 6, p7, p8, p9, p10, h 11, h 12, h 13, h 14, h 15, h 16, h 17, h 18, h 19, h 20, h 21, h 22, h 23, h 24, h 25, h 26, h 27, h 28, h 29, h 30, h 31, h 32, h 33, h 34, h 35, h 36, h 37, h 38, h 39, h 40, h 41, h 42, h 43, h 44, h 45, h 46, h 47, h 48, h 49, h 50, h 51, h 52, h 53, h 54, h 55, h 56, h 57, h 58, h 59, h 60, h 61, h 62, h 63, h 64, h 65, h 66, h 67, h 68, h 69, h 70, h 71, h 72, h 73, h 74, h 75, h 76, h 77, h 78, h 79, h 80, h 81, h 82, h 83, h 84, h 85, h 86, h 87, h 88, h 89, h 90, h 91, h 92, h 93, h 94, h 95, h 96, h 97, h 98, h 99, h 100, h 101, h 102, h 103, h 104, h 105, h 106, h 107, h 108, h 109, h 110, h 111, h 112, h 113, h 114, h 115, h 116, h 117, h 118, h 119, h 120, h 121, h 122, h 123, h 124, h 125, h 126, h 127, h 128, h 129, h 130, h 131, h 132, h 133, h 134, h 135, h 136, h 137, h 138, h 139, h 140, h 141, h 142, h 143, h 144, h 145, h 146, h 147, h 148, h 149, h 150, h 151, h 152, h 153, h 154, h 155, h 156, h 157, h 158, h 159, h 160, h 161, h 162, h 163, h 164, h 165, h 166, h 167, h 168, h 169, h 170, h 171, h 172, h 173, h 174, h 175, h 176, h 177, h 178, h 179, h 180, h 181, h 182, h 183, h 184, h 185, h 186, h 187, h 188, h 189, h 190, h 191, h 192, h 193, h 194, h 195, h 196, h 197, h 198, h 199, h 200, h 201, h 202, h 203, h 204, h 205, h 206, h 207, h 208, h 209, h 210, h 211, h 212, h 213, h 214, h 215, h 216, h 217, h 218, h 219, h 220]
set_option maxRecDepth 1000000 in
theorem frQ_end {K : Act → World → Prop} {a' : Act} {W' : World} (p0 p4 p5 p7 p8 p9 p10 : Value) (e : a' = ⟨(frQ (fun k => a'.tmps.getD k undef) p0 p4 p5 p7 p8 p9 p10).toArray, []⟩) (h : K ⟨(frQ (fun k => a'.tmps.getD k undef) p0 p4 p5 p7 p8 p9 p10).toArray, []⟩ W') : K a' W' := by
  rw [← e] at h
  exact h
theorem Decs.tail {w W : World} {L : List (Nat × Dec)} {x : Nat × Dec} (h : Decs w W (x :: L)) : Decs w W L := ⟨h.below, fun i b d hi => h.at_ (i + 1) b d hi⟩
theorem smSum_yes {L : List Dec} (h : L.all mayB = true) : sumR L = sumD L ∧ sumRE L = sumE L ∧ ∀ d ∈ L, May d := ⟨by unfold sumR; rw [h]; rfl, by unfold sumRE; rw [h]; rfl, all_may.1 h⟩
theorem smSum_no {L : List Dec} (h : L.all mayB = false) : sumR L = Dec.zero ∧ sumRE L = 2 := ⟨by unfold sumR; rw [h]; rfl, by unfold sumRE; rw [h]; rfl⟩
set_option maxRecDepth 1000000 in
set_option maxHeartbeats 40000000 in
theorem sums_mid (A : Option Addr) (n c : Nat) (L : List Dec) (a b : Dec) (w W : World) (hT : PowTab w) (hL : L.length = n) (hn : n ≤ 20) (hH : Holds w A n 3 (dcs L)) (ha : a.digits.length ≤ 1000) (hb : b.digits.length ≤ 1000)
    (v : Nat) (HD : Hid (Decs w W [(v, sumR L), (w.heap.size + 1, b), (w.heap.size, a)])) (g off c2 : Nat) (hc : n + 1 ≤ c2) (hsp : W.cell? ⟨g, off + n * 3 + 1, none⟩ = some (.string ⟨#[55, 55]⟩)) (h : Nat → Value) :
    Code.wp Tryz.prog (smSuf 12) (bodyPost Tryz.prog Tryz.f3 fun e w' => e = .returned (.bool true) ∧ Below w.heap.size w w') ⟨(frQ h (.slice A n c) (.pointer (some ⟨w.heap.size, 0, none⟩)) (.pointer (some ⟨w.heap.size + 1, 0, none⟩)) (.slice (some ⟨g, off, none⟩) n c2) (.pointer (some ⟨v, 0, none⟩)) (.int .i64 (sumRE L : Nat)) (.bool (L.all mayB))).toArray, []⟩ W := by
  have HTL := Lib.hid (fun (W : World) (hd : Hid (Decs w W [(w.heap.size + 1, b), (w.heap.size, a)])) h => sums_tail a b w W hT hd ha hb h)
  have HRS := Lib.hid (fun (hm : ∀ d ∈ L, May d) (hb : Below w.heap.size w W) => rsum_ok A n c L W hL (by omega) (hH.below hb) hm)
  have HYES := Lib.hid (fun h : L.all mayB = true => smSum_yes h)
  have HNO := Lib.hid (fun h : L.all mayB = false => smSum_no h)
  clear hT ha hb hH hL
  generalize sumR L = sr at *
  generalize sumRE L = se at *
  generalize sumD L = sd at *
  generalize sumE L = sk at *
  generalize L.all mayB = fine at *
  obtain ⟨an, al, ax⟩ := a
  obtain ⟨bn, bl, bx⟩ := b
  have ht0 : (bs []).toList = [] := bs_toList []
  conv => arg 2; whnf
  dsimp only [frQ]
  go_upto_region 14 with fail
  cases fine with
  | false =>
    obtain ⟨rfl, rfl⟩ := HNO.out rfl
    clear HNO HYES HRS
    unfold Dec.zero at *
    go_upto_region 18 with fail
    rename_i K2 hK2 K1 hK1
    have HK2 := Lib.hid hK2
    clear hK2
    have f101 : W.cell? ⟨v, 0, none⟩ = some (.bool false) := HD.out.c0 (i := 0) (b := v) (d := ⟨false, [], 0⟩) rfl
    have f102 : W.cell? ⟨v, 1, none⟩ = some (.string (bs [])) := HD.out.c1 (i := 0) (b := v) (d := ⟨false, [], 0⟩) rfl
    have f103 : W.cell? ⟨v, 2, none⟩ = some (.int .i64 0) := HD.out.c2 (i := 0) (b := v) (d := ⟨false, [], 0⟩) rfl
    go_wp2_with (refine (num_ok _ _).mono ?_; rintro e9 w9 ⟨rfl, rfl⟩)
    have HDZ := Lib.hid HD.out.tail
    clear HD f101 f102 f103
    refine HK2.out _ _ ?_
    refine wp_code (smSuf 20) (by kernel_rfl) ?_
    refine frM_end (K := fun a w => Code.wp Tryz.prog (smSuf 20) _ a w) (.pointer (some ⟨w.heap.size, 0, none⟩)) (.pointer (some ⟨w.heap.size + 1, 0, none⟩)) ?_ ?_
    · kernel_rfl
    · exact HTL.out _ HDZ _
  | true =>
    obtain ⟨rfl, rfl, hm⟩ := HYES.out rfl
    replace HRS := Lib.hid (HRS.out hm HD.out.below)
    clear HNO HYES hm
    obtain ⟨sn, sl, sx⟩ := sr
    unfold Told decV at HRS
    simp only at HRS
    go_wp2_with fail
    refine (HRS.out).mono ?_
    rintro e w101 ⟨rfl, hb102⟩
    have HD103 := Lib.hid (HD.out.call hb102)
    clear hb102 HD
    obtain ⟨w104, hw105⟩ : ∃ w9, w9 = w101.alloc (.cells #[.bool sn, .string (bs sl), .int .i64 sx] 24) := ⟨_, rfl⟩
    have HD106 : Hid (Decs w w104 [(w101.heap.size, ⟨sn, sl, sx⟩), (v, ⟨sn, sl, sx⟩), (w.heap.size + 1, ⟨bn, bl, bx⟩), (w.heap.size, ⟨an, al, ax⟩)]) := Lib.hid (by rw [hw105]; exact HD103.out.var sn sl sx)
    clear HD103
    go_upto_region 16 with fail
    rw [← hw105]
    clear hw105
    rename_i K2 hK2 K1 hK1
    have HK2 := Lib.hid hK2
    clear hK2
    have f107 : w104.cell? ⟨v, 0, none⟩ = some (.bool sn) := HD106.out.c0 (i := 1) (b := v) (d := ⟨sn, sl, sx⟩) rfl
    have f108 : w104.cell? ⟨v, 1, none⟩ = some (.string (bs sl)) := HD106.out.c1 (i := 1) (b := v) (d := ⟨sn, sl, sx⟩) rfl
    have f109 : w104.cell? ⟨v, 2, none⟩ = some (.int .i64 sx) := HD106.out.c2 (i := 1) (b := v) (d := ⟨sn, sl, sx⟩) rfl
    have f110 : w104.cell? ⟨w101.heap.size, 0, none⟩ = some (.bool sn) := HD106.out.c0 (i := 0) (b := w101.heap.size) (d := ⟨sn, sl, sx⟩) rfl
    have f111 : w104.cell? ⟨w101.heap.size, 1, none⟩ = some (.string (bs sl)) := HD106.out.c1 (i := 0) (b := w101.heap.size) (d := ⟨sn, sl, sx⟩) rfl
    have f112 : w104.cell? ⟨w101.heap.size, 2, none⟩ = some (.int .i64 sx) := HD106.out.c2 (i := 0) (b := w101.heap.size) (d := ⟨sn, sl, sx⟩) rfl
    go_wp2_with (refine (num_ok _ _).mono ?_; rintro e9 w9 ⟨rfl, rfl⟩)
    have HDZ := Lib.hid HD106.out.tail.tail
    clear HD106 f107 f108 f109 f110 f111 f112
    refine HK2.out _ _ ?_
    refine wp_code (smSuf 20) (by kernel_rfl) ?_
    refine frM_end (K := fun a w => Code.wp Tryz.prog (smSuf 20) _ a w) (.pointer (some ⟨w.heap.size, 0, none⟩)) (.pointer (some ⟨w.heap.size + 1, 0, none⟩)) ?_ ?_
    · kernel_rfl
    · exact HTL.out _ HDZ _
end Go.Proofs.YtlcbjikiodmlfaaGreatDoor
/- Layer 7: the walk of DecimalSums. -/
namespace Go.Proofs.YtlcbjikiodmlfaaGreatDoor
open Go.RowKit

theorem smLong2 (a b : Dec) (ha : a.digits.length ≤ 9223372036854775807) (hb : b.digits.length ≤ 9223372036854775807) (W : World) :
    Calls Tryz.prog 4 #[.slice (some ⟨W.heap.size, 0, none⟩) 2 2] (W.alloc (.cells #[.bool a.neg, .string (bs a.digits), .int .i64 a.exp, .bool b.neg, .string (bs b.digits), .int .i64 b.exp] 24)) fun e w' => e = .returned (.bool (longB [a, b])) ∧ (W.alloc (.cells #[.bool a.neg, .string (bs a.digits), .int .i64 a.exp, .bool b.neg, .string (bs b.digits), .int .i64 b.exp] 24)) = w' := by
  have hr := Row.new W 24 #[.bool a.neg, .string (bs a.digits), .int .i64 a.exp, .bool b.neg, .string (bs b.digits), .int .i64 b.exp]
  exact long_ok (some ⟨W.heap.size, 0, none⟩) 2 2 [a, b] _ rfl (by decide) ⟨rfl, fun _ => ⟨W.heap.size, 0, rfl, hr.lt, fun j v hv => by have := hr.cell (i := j) (v := v) (by simpa [dcs] using hv); simpa using this⟩⟩ (fun d hd => by
    simp only [List.mem_cons, List.not_mem_nil, or_false] at hd
    rcases hd with rfl | rfl <;> assumption)
theorem smTwo (w : World) (an bn : Bool) (al bl : List UInt8) (ax bx : Int) {w1 : World}
    (h : w1 = (w.alloc (.cells #[.bool an, .string (bs al), .int .i64 ax] 24)).alloc (.cells #[.bool bn, .string (bs bl), .int .i64 bx] 24)) :
    Decs w w1 [(w.heap.size + 1, ⟨bn, bl, bx⟩), (w.heap.size, ⟨an, al, ax⟩)] := by
  have h0 : Decs w w [] := ⟨Below.refl _ _, fun i b d hi => by simp at hi⟩
  have h3 := (h0.var an al ax).var bn bl bx
  rw [h]
  simpa using h3
/-- The spare decimal behind the copy. -/
def sp77 : Dec := ⟨false, [55, 55], 0⟩
theorem infoDec3 : (Tryz.prog.info? 24).map (fun i => (i.zero, i.size, i.bytes)) = some (some (.agg #[.bool false, .string ⟨#[]⟩, .int .i64 0]), 3, 32) := by kernel_rfl
theorem dcs_one (L : List Dec) : ∀ u ∈ dcs L, u.oneCell' = true := by
  intro u hu
  unfold dcs at hu
  obtain ⟨d, _, hd⟩ := List.mem_flatMap.1 hu
  simp only [List.mem_cons, List.not_mem_nil, or_false] at hd
  rcases hd with rfl | rfl | rfl <;> rfl
theorem holds_front {w : World} {g off n : Nat} {xs ys : List Value} (hg : g < w.heap.size) (hr : w.rangeAt g off (xs ++ ys)) (hl : xs.length = n * 3) : Holds w (some ⟨g, off, none⟩) n 3 xs :=
  ⟨hl, fun _ => ⟨g, off, rfl, hg, fun j v hv => hr j v (by rw [List.getElem?_append_left (List.getElem?_eq_some_iff.1 hv).1]; exact hv)⟩⟩
theorem spare_back {w : World} {g off n : Nat} {xs : List Value} (hr : w.rangeAt g off (xs ++ [.bool false, .string ⟨#[55, 55]⟩, .int .i64 0])) (hl : xs.length = n * 3) : w.cell? ⟨g, off + n * 3 + 1, none⟩ = some (.string ⟨#[55, 55]⟩) := by
  have h := hr (n * 3 + 1) (.string ⟨#[55, 55]⟩) (by rw [List.getElem?_append_right (by omega), hl]; simp)
  rw [← Nat.add_assoc] at h
  exact h
set_option maxRecDepth 1000000 in
set_option maxHeartbeats 40000000 in
theorem sums_law (A : Option Addr) (n c : Nat) (L : List Dec) (a b : Dec) (w : World) (hT : PowTab w) (hL : L.length = n) (hn : n ≤ 9223372036854775807) (h : Holds w A n 3 (dcs L)) (hs : ∀ d ∈ L, d.digits.length ≤ 9223372036854775807) (ha : a.digits.length ≤ 9223372036854775807) (hb : b.digits.length ≤ 9223372036854775807) :
    Calls Tryz.prog 3 #[.slice A n c, decV a, decV b] w fun e w' => e = .returned (.bool true) ∧ Below w.heap.size w w' := by
  have HT := Lib.hid hT
  have HWK := Lib.hid (fun W h => works_ok W h)
  have HL2 := Lib.hid (fun W => smLong2 a b (by omega) (by omega) W)
  have HLS : Hid (longB [a, b] = false → a.digits.length ≤ 1000 ∧ b.digits.length ≤ 1000) := Lib.hid fun h => ⟨longB_no h a (by simp), longB_no h b (by simp)⟩
  have HL1 : Hid (n ≤ 20 → ∀ W, Below w.heap.size w W → Calls Tryz.prog 4 #[.slice A n c] W fun e w' => e = .returned (.bool (longB L)) ∧ W = w') := Lib.hid fun h20 W hb => long_ok A n c L W hL (by omega) (h.below hb) (fun d hd => by have := hs d hd; omega)
  have HLL : Hid (longB L = false → ∀ d ∈ L, d.digits.length ≤ 1000) := Lib.hid fun h d hd => longB_no h d hd
  have HH := Lib.hid h
  have HL := Lib.hid hL
  obtain ⟨l1, hl1⟩ : ∃ l1, l1 = longB L := ⟨_, rfl⟩
  obtain ⟨l2, hl2⟩ : ∃ l2, l2 = longB [a, b] := ⟨_, rfl⟩
  rw [← hl1] at HL1 HLL
  rw [← hl2] at HL2 HLS
  clear hT ha hb hl1 hl2 h hs hL
  obtain ⟨w1, hw1⟩ : ∃ w1, w1 = (w.alloc (.cells (decC a) 24)).alloc (.cells (decC b) 24) := ⟨_, rfl⟩
  have HD1 : Hid (Decs w w1 [(w.heap.size + 1, b), (w.heap.size, a)]) := Lib.hid (smTwo w a.neg b.neg a.digits b.digits a.exp b.exp hw1)
  obtain ⟨an, al, ax⟩ := a
  obtain ⟨bn, bl, bx⟩ := b
  unfold decC at hw1
  go_enter Tryz.func3, Tryz.ntmps3
  unfold decV
  simp only at HL2 HLS hw1 ⊢
  go_upto_region 1 with fail
  rw [← hw1]
  clear hw1
  have f0 : w1.cell? ⟨w.heap.size, 0, none⟩ = some (.bool an) := HD1.out.c0 (i := 1) (b := w.heap.size) (d := ⟨an, al, ax⟩) rfl
  have f1 : w1.cell? ⟨w.heap.size, 1, none⟩ = some (.string (bs al)) := HD1.out.c1 (i := 1) (b := w.heap.size) (d := ⟨an, al, ax⟩) rfl
  have f2 : w1.cell? ⟨w.heap.size, 2, none⟩ = some (.int .i64 ax) := HD1.out.c2 (i := 1) (b := w.heap.size) (d := ⟨an, al, ax⟩) rfl
  have f3 : w1.cell? ⟨w.heap.size + 1, 0, none⟩ = some (.bool bn) := HD1.out.c0 (i := 0) (b := w.heap.size + 1) (d := ⟨bn, bl, bx⟩) rfl
  have f4 : w1.cell? ⟨w.heap.size + 1, 1, none⟩ = some (.string (bs bl)) := HD1.out.c1 (i := 0) (b := w.heap.size + 1) (d := ⟨bn, bl, bx⟩) rfl
  have f5 : w1.cell? ⟨w.heap.size + 1, 2, none⟩ = some (.int .i64 bx) := HD1.out.c2 (i := 0) (b := w.heap.size + 1) (d := ⟨bn, bl, bx⟩) rfl
  by_cases h20 : 20 < n
  · go_wp2_with fail
    refine (HWK.out _ (HT.out.below HD1.out.below)).mono ?_
    rintro e wz ⟨rfl, hbz⟩
    have HBZ := Lib.hid (Below.call HD1.out.below hbz)
    clear hbz f0 f1 f2 f3 f4 f5
    go_wp2
    go_ret
    exact ⟨rfl, HBZ.out⟩
  go_wp2_with fail
  refine (HL1.out (by omega) _ HD1.out.below).mono ?_
  rintro e4 w4 ⟨rfl, rfl⟩
  cases l1 with
  | true =>
    go_wp2_with fail
    refine (HWK.out _ (HT.out.below HD1.out.below)).mono ?_
    rintro e wz ⟨rfl, hbz⟩
    have HBZ := Lib.hid (Below.call HD1.out.below hbz)
    clear hbz f0 f1 f2 f3 f4 f5
    go_wp2
    go_ret
    exact ⟨rfl, HBZ.out⟩
  | false =>
    go_wp2_with fail
    refine (HL2.out w1).mono ?_
    rintro e5 w5 ⟨rfl, rfl⟩
    have HD2 : Hid (Decs w (w1.alloc (.cells #[.bool an, .string (bs al), .int .i64 ax, .bool bn, .string (bs bl), .int .i64 bx] 24)) [(w.heap.size + 1, ⟨bn, bl, bx⟩), (w.heap.size, ⟨an, al, ax⟩)]) := Lib.hid ⟨HD1.out.below.alloc HD1.out.below.size _, fun ii bb dd hi => (HD1.out.at_ ii bb dd hi).alloc _⟩
    clear HD1 f0 f1 f2 f3 f4 f5
    generalize w1.alloc (.cells #[.bool an, .string (bs al), .int .i64 ax, .bool bn, .string (bs bl), .int .i64 bx] 24) = w2 at *
    cases l2 with
    | true =>
      go_wp2_with fail
      refine (HWK.out _ (HT.out.below HD2.out.below)).mono ?_
      rintro e wz ⟨rfl, hbz⟩
      have HBZ := Lib.hid (Below.call HD2.out.below hbz)
      clear hbz
      go_wp2
      go_ret
      exact ⟨rfl, HBZ.out⟩
    | false =>
      have ⟨hla, hlb⟩ := HLS.out (by trivial)
      have hll := HLL.out (by trivial)
      have HSRC : Hid (Source (w2.alloc (.cells #[] 24)) A n (dcs L)) := Lib.hid ((HH.out.below (HD2.out.below.alloc HD2.out.below.size _)).source)
      have HMID := Lib.hid (fun (W : World) v HD g off c2 hc hsp h => sums_mid A n c L ⟨an, al, ax⟩ ⟨bn, bl, bx⟩ w W HT.out HL.out (by omega) HH.out hla hlb v HD g off c2 hc hsp h)
      have HMAY : Hid (∀ d ∈ L, ∀ W, Calls Tryz.prog 7 #[decV d] W fun e w' => e = .returned (.bool (mayB d)) ∧ Below W.heap.size W w') := Lib.hid fun d hd W => may_ok d W (by have := hll d hd; omega)
      have HSU : Hid (∀ (W : World) g off c8, Below w.heap.size w W → Holds W (some ⟨g, off, none⟩) n 3 (dcs L) → Calls Tryz.prog 6 #[.slice (some ⟨g, off, none⟩) n c8] W fun e w' => e = .returned (.tuple #[.agg #[.bool (sumR L).neg, .string (bs (sumR L).digits), .int .i64 (sumR L).exp], .int .i64 (sumRE L : Nat)]) ∧ Below W.heap.size W w') :=
        Lib.hid fun W g off c8 hb hh => sum_any (some ⟨g, off, none⟩) n c8 L W HL.out (by omega) hh (fun d hd => by have := hll d hd; omega) (HT.out.below hb)
      clear HLS HLL HL1 HL2 hla hlb hll
      go_upto_region 4 with (first
        | (at_builtin
           refine wpList_append_any ?_ (fun q => w2.heap.size ≤ q) (.tmp 36) (.tmp 37) 22 ?_ 24 3 32 (.agg #[.bool false, .string ⟨#[]⟩, .int .i64 0]) Tryz.underlying22 infoDec3 rfl (by decide) (.slice (some ⟨w2.heap.size, 0, none⟩) 0 0) 0 [] ?_ (Lies.empty _ _ _ _ _) A n c (dcs L) ?_ HH.out.1 HSRC.out ?_ (by omega) (by decide) ?_
           · with_reducible rfl
           · with_reducible rfl
           · rfl
           · rfl
           · exact dcs_one L
           intro v6 w6 hl6 hk6
           have hl7 : Lies w6 (fun q => w2.heap.size ≤ q) 24 3 v6 n (dcs L) := by
             have h9 := hl6.mono (G := fun q => w2.heap.size ≤ q) fun k hk => by
               rcases hk with hk | hk
               · exact hk
               · exact Nat.le_trans ((Below.refl w2.heap.size w2).alloc (Nat.le_refl _) _).size hk
             simpa using h9
           obtain ⟨A6, c6, rfl, hc6, hm6⟩ := hl7.form
           have HL6 := Lib.hid hl7
           have HB6 : Hid (Below w2.heap.size w2 w6) := Lib.hid (((Below.refl _ _).alloc (Nat.le_refl _) _).trans (hk6.below ((Below.refl w2.heap.size w2).alloc (Nat.le_refl _) _).size fun y hy => hy.1))
           clear hl6 hk6 hl7 HSRC)
        | (at_builtin
           refine wpList_append_any ?_ (fun q => w2.heap.size ≤ q) (.tmp 38) (.tmp 40) 22 ?_ 24 3 32 (.agg #[.bool false, .string ⟨#[]⟩, .int .i64 0]) Tryz.underlying22 infoDec3 rfl (by decide) (.slice A6 n c6) n (dcs L) ?_ (HL6.out.below ((Below.refl _ _).alloc (Nat.le_refl _) _)) (some ⟨w6.heap.size, 0, none⟩) 1 1 [.bool false, .string ⟨#[55, 55]⟩, .int .i64 0] ?_ rfl (.inr ⟨_, rfl, World.news_of_block (w := w6.alloc (.cells #[.bool false, .string ⟨#[55, 55]⟩, .int .i64 0] 24)) (heap_alloc_new w6 _)⟩) ?_ (by omega) (by decide) ?_
           · with_reducible rfl
           · with_reducible rfl
           · rfl
           · rfl
           · intro u hu
             simp at hu
             rcases hu with rfl | rfl | rfl <;> rfl
           intro v8 w8 hl8 hk8
           obtain ⟨g, off, c8, rfl, hF8, hc8, hm8, hg8, hr8⟩ := hl8.cells (by omega)
           have HB8 : Hid (Below w2.heap.size w2 w8) := Lib.hid ((HB6.out.alloc HB6.out.size _).trans (hk8.below (Nat.le_trans HB6.out.size ((Below.refl w6.heap.size w6).alloc (Nat.le_refl _) _).size) fun y hy => hy.1))
           have HM8 : Hid (Holds w8 (some ⟨g, off, none⟩) n 3 (dcs L)) := Lib.hid (holds_front hg8 hr8 HH.out.1)
           have HP8 : Hid (w8.cell? ⟨g, off + n * 3 + 1, none⟩ = some (.string ⟨#[55, 55]⟩)) := Lib.hid (spare_back hr8 HH.out.1)
           have HG8 := Lib.hid hg8
           clear hl8 hk8 hF8 hg8 hr8 HL6 HB6))
      have HD8 := Lib.hid (HD2.out.call HB8.out)
      have HSM := Lib.hid (HSU.out w8 g off c8 HD8.out.below HM8.out)
      clear HB8 HD2 HSU
      generalize sumR L = sr at *
      obtain ⟨sn, sl, sx⟩ := sr
      simp only at HSM
      go_wp2_with fail
      refine (HSM.out).mono ?_
      rintro e w101 ⟨rfl, hb102⟩
      have HD103 := Lib.hid (HD8.out.call hb102)
      have HB9a := Lib.hid hb102
      clear hb102 HD8
      obtain ⟨w104, hw105⟩ : ∃ w9, w9 = w101.alloc (.cells #[.bool sn, .string (bs sl), .int .i64 sx] 24) := ⟨_, rfl⟩
      have HD106 : Hid (Decs w w104 [(w101.heap.size, ⟨sn, sl, sx⟩), (w.heap.size + 1, ⟨bn, bl, bx⟩), (w.heap.size, ⟨an, al, ax⟩)]) := Lib.hid (by rw [hw105]; exact HD103.out.var sn sl sx)
      clear HD103
      have HB9 : Hid (Below w8.heap.size w8 w104) := Lib.hid (by rw [hw105]; exact HB9a.out.alloc HB9a.out.size _)
      clear HB9a
      go_upto_region 6 with fail
      rw [← hw105]
      clear hw105
      rename_i K1 hK1 K0 hK0
      have HK1 := Lib.hid hK1
      clear hK1
      have HM9 : Hid (Holds w104 (some ⟨g, off, none⟩) n 3 (dcs L)) := Lib.hid (HM8.out.below HB9.out)
      have HP9 : Hid (w104.cell? ⟨g, off + n * 3 + 1, none⟩ = some (.string ⟨#[55, 55]⟩)) := Lib.hid ((HB9.out.cell (p := ⟨g, off + n * 3 + 1, none⟩) HG8.out).trans HP8.out)
      have HG9 : Hid (g < w104.heap.size) := Lib.hid (Nat.lt_of_lt_of_le HG8.out HB9.out.size)
      clear HM8 HP8 HG8 HB9
      generalize w101.heap.size = vx at *
      go_wp2_with fail
      go_loopw [10, 11] (fun v10 v11 wr => ∃ (i : Nat), i ≤ n ∧ v11 = .int .i64 i ∧ v10 = .bool ((L.take i).all mayB) ∧ Hid (Below w104.heap.size w104 wr)) (fun _ v11 _ => n - (intOf v11).toNat)
      case atStart => exact ⟨0, Nat.zero_le _, rfl, rfl, Lib.hid (Below.refl _ _)⟩
      case round =>
        obtain ⟨i, hi, rfl, rfl, HBR⟩ := hrel
        by_cases hlt : i < n
        · have hli : i < L.length := by rw [HL.out]; exact hlt
          have HMY := Lib.hid (HMAY.out (L.getD i Dec.zero) (mem_getD hli))
          obtain ⟨ga, oa, rfl, hga, hra⟩ := (HH.out.below HD106.out.below).2 (by omega)
          obtain ⟨gb, ob, hgb0, hgb, hrb⟩ := HM9.out.2 (by omega)
          injection hgb0 with hgb0
          injection hgb0 with hgb1 hgb2 _
          subst hgb1 hgb2
          obtain ⟨j0, j1, j2⟩ := dcs_get L i hli
          have k0 := (HBR.out.cell (p := ⟨ga, oa + i * 3, none⟩) hga).trans (hra _ _ j0)
          have k1 := (HBR.out.cell (p := ⟨ga, oa + (i * 3 + 1), none⟩) hga).trans (hra _ _ j1)
          have k2 := (HBR.out.cell (p := ⟨ga, oa + (i * 3 + 2), none⟩) hga).trans (hra _ _ j2)
          have m0 := (HBR.out.cell (p := ⟨g, off + i * 3, none⟩) hgb).trans (hrb _ _ j0)
          have m1 := (HBR.out.cell (p := ⟨g, off + (i * 3 + 1), none⟩) hgb).trans (hrb _ _ j1)
          have m2 := (HBR.out.cell (p := ⟨g, off + (i * 3 + 2), none⟩) hgb).trans (hrb _ _ j2)
          rw [← Nat.add_assoc] at k1 k2 m1 m2
          have HTK : Hid ((L.take (i + 1)).all mayB = ((L.take i).all mayB && mayB (L.getD i Dec.zero))) := Lib.hid (by rw [getD_take L i hli]; simp)
          clear j0 j1 j2 hra hrb hga hgb hli
          generalize L.getD i Dec.zero = d at *
          obtain ⟨dn, dl, dx⟩ := d
          unfold decV at HMY
          simp only at k0 k1 k2 m0 m1 m2 HMY
          go_upto_region 9 with fail
          go_quiet (fail)
          generalize (L.take i).all mayB = fi at *
          cases fi with
          | false =>
            go_wp2_with fail
            exact ⟨⟨i + 1, by omega, by go_num, by rw [HTK.out]; rfl, Lib.hid (below_drewN HBR.out _)⟩, by simp [intOf]; omega⟩
          | true =>
            go_wp2_with fail
            refine (HMY.out _).mono ?_
            rintro e5 w5 ⟨rfl, hb5⟩
            have HB5 := Lib.hid ((below_drewN HBR.out _).call hb5)
            clear hb5 k0 k1 k2 m0 m1 m2
            go_wp2_with fail
            exact ⟨⟨i + 1, by omega, by go_num, by rw [HTK.out]; rfl, HB5⟩, by simp [intOf]; omega⟩
        · obtain rfl : i = n := by omega
          have hta : L.take i = L := List.take_of_length_le (by rw [HL.out]; exact Nat.le_refl _)
          rw [hta]
          clear hta
          go_wp2_with fail
          refine HK1.out _ _ ?_
          refine wp_code (smSuf 12) (by kernel_rfl) ?_
          refine frQ_end (K := fun a w => Code.wp Tryz.prog (smSuf 12) _ a w) (.slice A i c) (.pointer (some ⟨w.heap.size, 0, none⟩)) (.pointer (some ⟨w.heap.size + 1, 0, none⟩)) (.slice (some ⟨g, off, none⟩) i c8) (.pointer (some ⟨vx, 0, none⟩)) (.int .i64 (sumRE L : Nat)) (.bool (L.all mayB)) ?_ ?_
          · kernel_rfl
          · refine HMID.out _ vx (Lib.hid ?_) g off c8 hc8 ?_ _
            · exact HD106.out.call HBR.out
            · exact (HBR.out.cell (p := ⟨g, off + i * 3 + 1, none⟩) HG9.out).trans HP9.out
end Go.Proofs.YtlcbjikiodmlfaaGreatDoor
