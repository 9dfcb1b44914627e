/- Layer 7: the walk of DecimalSums behind its loop. -/
import Derived.Test.YtlcbjikiodmlfaaGreatDoorPt17
import Derived.Test.YtlcbjikiodmlfaaGreatDoorPt42
import Derived.Test.YtlcbjikiodmlfaaGreatDoorPt40
import Derived.Test.YtlcbjikiodmlfaaGreatDoorPt43
import Derived.Test.YtlcbjikiodmlfaaGreatDoorPt37
import Derived.Test.YtlcbjikiodmlfaaGreatDoorPt23
namespace Go.Proofs.YtlcbjikiodmlfaaGreatDoor
open Go.RowKit

def headIsS (i : Nat) : Code → Bool
  | .region j _ _ => i == j
  | .seq a _ => headIsS i a
  | _ => false
def sufOfS (i : Nat) : Code → Option Code
  | .seq a b => if headIsS i a then some (.seq a b) else match sufOfS i b with
    | some c => some c
    | none => sufOfS i a
  | .cond _ a b => match sufOfS i a with
    | some c => some c
    | none => sufOfS i b
  | .block _ c => sufOfS i c
  | .loop c => sufOfS i c
  | .scope c => sufOfS i c
  | _ => none
noncomputable def smSuf (i : Nat) : Code := (Tryz.f3.body.bind (sufOfS i)).getD .skip
def frM (h : Nat → Value) (p4 p5 : Value) : List Value := [h 0, h 1, h 2, h 3, p4, p5, h 6, h 7, h 8, h 9, h 10, h 11, h 12, h 13, h 14, h 15, h 16, h 17, h 18, h 19, h 20, h 21, h 22, h 23, h 24, h 25, h 26, h 27, h 28, h 29, h 30, h 31, h 32, h 33, h 34, h 35, h 36, h 37, h 38, h 39, h 40, h 41, h 42, h 43, h 44, h 45, h 46, h 47, h 48, h 49, h 50, h 51, h 52, h 53, h 54, h 55, h 56, h 57, h 58, h 59, h 60, h 61, h 62, h 63, h 64, h 65, h 66, h 67, h 68, h 69, h 70, h 71, h 72, h 73, h 74, h 75, h 76, h 77, h 78, h 79, h 80, h 81, h 82, h 83, h 84, h 85, h 86, h 87, h 88, h 89, h 90, h 91, h 92, h 93, h 94, h 95, h 96, h 97, h 98, h 99, h 100, h 101, h 102, h 103, h 104, h 105, h 106, h 107, h 108, h 109, h 110, h 111, h 112, h 113, h 114, h 115, h 116, h 117, h 118, h 119, h 120, h 121, h 122, h 123, h 124, h 125, h 126, h 127, h 128, h 129, h 130, h 131, h 132, h 133, h 134, h 135, h 136, h 137, h 138, h 139, h 140, h 141, h 142, h 143, h 144, h 145, h 146, h 147, h 148, h 149, h 150, h 151, h 152, h 153, h 154, h 155, h 156, h 157, h 158, h 159, h 160, h 161, h 162, h 163, h 164, h 165, h 166, h 167, h 168, h 169, h 170, h 171, h 172, h 173, h 174, h 175, h 176, h 177, h 178, h 179, h 180, h 181, h 182, h 183, h 184, h 185, h 186, h 187, h 188, h 189, h 190, h 191, h 192, h 193, h 194, h 195, h 196, h 197, h 198, h 199, h 200, h 201, h 202, h 203, h 204, h 205, h 206, h 207, h 208, h 209, h 210, h 211, h 212, h 213, h 214, h 215, h 216, h 217, h 218, h 219, h 220]
set_option maxRecDepth 1000000 in
theorem frM_end {K : Act → World → Prop} {a' : Act} {W' : World} (p4 p5 : Value) (e : a' = ⟨(frM (fun k => a'.tmps.getD k undef) p4 p5).toArray, []⟩) (h : K ⟨(frM (fun k => a'.tmps.getD k undef) p4 p5).toArray, []⟩ W') : K a' W' := by
  rw [← e] at h
  exact h
/-- Contracts that give a decimal and a number, as the law wants them. -/
def GivesN (f : Nat) (args : Array Value) (d : Dec) (k : Nat) : Prop := ∀ W : World, Calls Tryz.prog f args W fun e w' => e = .returned (.tuple #[.agg #[.bool d.neg, .string (bs d.digits), .int .i64 d.exp], .int .i64 (k : Int)]) ∧ Below W.heap.size W w'
def GivesC (f : Nat) (args : Array Value) (x : Int) (k : Nat) : Prop := ∀ W : World, Calls Tryz.prog f args W fun e w' => e = .returned (.tuple #[.int .i64 x, .int .i64 (k : Int)]) ∧ Below W.heap.size W w'
theorem smCmp (a b : Dec) (ha : a.digits.length ≤ 1000) (hb : b.digits.length ≤ 1000) : GivesC 10 #[decV a, decV b] (cmpI a b) (cmpE a b) := fun W => compare_ok a b W (by omega) (by omega)
theorem smMul (a b : Dec) (ha : a.digits.length ≤ 1000) (hb : b.digits.length ≤ 1000) : GivesT 11 #[decV a, decV b] (mulR a b) (mulRE a b) := fun W h => mul_ok a b W h (by omega) (by omega)
theorem smNeg (a : Dec) (ha : a.digits.length ≤ 1000) : GivesN 12 #[decV a] (ngD a) (checkE a) := fun W => neg_ok a W (by omega)
theorem smProd (a b : Dec) (ha : mayB a = true) (hb : mayB b = true) : GivesN 13 #[decV a, decV b] (mulD a b) (mulE a b) := fun W => rproduct_ok a b W ((mayB_iff a).1 ha) ((mayB_iff b).1 hb)
theorem sm_no {a b : Dec} (h : mayB a = false ∨ mayB b = false) : cmpI a b = 0 ∧ cmpE a b = 2 ∧ mulR a b = Dec.zero ∧ mulRE a b = 2 := by
  have h2 : ¬ (mayB a = true ∧ mayB b = true) := by rcases h with h | h <;> simp [h]
  unfold cmpI cmpE mulR mulRE
  rw [if_neg h2, if_neg h2, if_neg h2, if_neg h2]
  exact ⟨rfl, rfl, rfl, rfl⟩
theorem sm_yes {a b : Dec} (h1 : mayB a = true) (h2 : mayB b = true) : cmpI a b = cmpZ (vl 3000 a) (vl 3000 b) ∧ cmpE a b = 0 ∧ mulR a b = mulD a b ∧ mulRE a b = mulE a b := by
  have h3 : mayB a = true ∧ mayB b = true := ⟨h1, h2⟩
  unfold cmpI cmpE mulR mulRE
  rw [if_pos h3, if_pos h3, if_pos h3, if_pos h3, cmpD_vl (k := 3000) (by omega) ((mayB_iff a).1 h1) ((mayB_iff b).1 h2)]
  exact ⟨rfl, rfl, rfl, rfl⟩
theorem sm_ng {a : Dec} (h : mayB a = false) : ngD a = Dec.zero ∧ checkE a = 2 := ⟨by unfold ngD; rw [if_neg (by rw [h]; simp)], checkE_no h⟩
theorem sm_ngE {a : Dec} (h : mayB a = true) (e : a.digits = []) : ngD a = Dec.zero ∧ checkE a = 0 ∧ a = Dec.zero := by
  have h1 := ((mayB_iff a).1 h).nil e
  refine ⟨?_, checkE_yes h, ?_⟩
  · unfold ngD negD
    rw [if_pos h, e, h1.2]
    simp [Dec.zero]
  · obtain ⟨an, al, ax⟩ := a
    simp only at e h1
    rw [e, h1.1, h1.2]
    rfl
theorem sm_ngS {a : Dec} (h : mayB a = true) (e : a.digits ≠ []) : ngD a = ⟨!a.neg, a.digits, a.exp⟩ ∧ checkE a = 0 := by
  refine ⟨?_, checkE_yes h⟩
  unfold ngD negD
  rw [if_pos h, decide_eq_false e]
  simp
set_option maxRecDepth 1000000 in
set_option maxHeartbeats 40000000 in
theorem sums_tail (a b : Dec) (w W : World) (hT : PowTab w) (HD : Hid (Decs w W [(w.heap.size + 1, b), (w.heap.size, a)])) (ha : a.digits.length ≤ 1000) (hb : b.digits.length ≤ 1000) (h : Nat → Value) :
    Code.wp Tryz.prog (smSuf 20) (bodyPost Tryz.prog Tryz.f3 fun e w' => e = .returned (.bool true) ∧ Below w.heap.size w w') ⟨(frM h (.pointer (some ⟨w.heap.size, 0, none⟩)) (.pointer (some ⟨w.heap.size + 1, 0, none⟩))).toArray, []⟩ W := by
  have HT := Lib.hid hT
  have HWK := Lib.hid (fun W h => works_ok W h)
  have HC := Lib.hid (smCmp a b ha hb)
  have HM := Lib.hid (smMul a b ha hb)
  have HN := Lib.hid (smNeg a ha)
  have HMA := Lib.hid (fun W => may_ok a W (by omega))
  have HMB := Lib.hid (fun W => may_ok b W (by omega))
  have HRP := Lib.hid (fun (h1 : mayB a = true) (h2 : mayB b = true) => smProd a b h1 h2)
  have HRC := Lib.hid (fun (h1 : mayB a = true) (h2 : mayB b = true) W => rcompare_ok a b W ((mayB_iff a).1 h1) ((mayB_iff b).1 h2))
  have HNO := Lib.hid (fun h : mayB a = false ∨ mayB b = false => sm_no h)
  have HYES := Lib.hid (fun (h1 : mayB a = true) (h2 : mayB b = true) => sm_yes h1 h2)
  have HNG := Lib.hid (fun h : mayB a = false => sm_ng h)
  have HNE := Lib.hid (fun (h : mayB a = true) (e : a.digits = []) => sm_ngE h e)
  have HNS := Lib.hid (fun (h : mayB a = true) (e : a.digits ≠ []) => sm_ngS h e)
  have HEA : Hid (a.digits ≠ [] → (bs a.digits).toList.isEmpty = false ∧ ¬ (bs a.digits).toList = []) := Lib.hid fun h => by
    rw [bs_toList]
    exact ⟨by cases hh : a.digits with | nil => exact absurd hh h | cons x r => rfl, h⟩
  clear hT ha hb
  generalize cmpZ (vl 3000 a) (vl 3000 b) = z at *
  generalize cmpI a b = ci at *
  generalize cmpE a b = ce at *
  generalize mulR a b = mr at *
  generalize mulRE a b = me at *
  generalize mulD a b = md at *
  generalize mulE a b = mk at *
  generalize ngD a = ng at *
  generalize checkE a = nk at *
  obtain ⟨va, hva⟩ : ∃ v, v = mayB a := ⟨_, rfl⟩
  obtain ⟨vb, hvb⟩ : ∃ v, v = mayB b := ⟨_, rfl⟩
  rw [← hva] at HMA HRP HRC HNO HYES HNG HNE HNS
  rw [← hvb] at HMB HRP HRC HNO HYES
  clear hva hvb
  unfold GivesC at HC
  unfold GivesT at HM
  unfold GivesN at HN HRP
  have ht0 : (bs []).toList = [] := bs_toList []
  conv => arg 2; whnf
  dsimp only [frM]
  cases va with
  | false =>
    obtain ⟨rfl, rfl, rfl, rfl⟩ := HNO.out (by simp)
    obtain ⟨rfl, rfl⟩ := HNG.out rfl
    clear HNO HNG HNE HNS HYES
    obtain ⟨bn, bl, bx⟩ := b
    obtain ⟨an, al, ax⟩ := a
    unfold Dec.zero at *
    unfold decV at *
    simp only at HC HM HN HMA HMB HRP HRC HEA
    have f101 : W.cell? ⟨w.heap.size, 0, none⟩ = some (.bool an) := HD.out.c0 (i := 1) (b := w.heap.size) (d := ⟨an, al, ax⟩) rfl
    have f102 : W.cell? ⟨w.heap.size, 1, none⟩ = some (.string (bs al)) := HD.out.c1 (i := 1) (b := w.heap.size) (d := ⟨an, al, ax⟩) rfl
    have f103 : W.cell? ⟨w.heap.size, 2, none⟩ = some (.int .i64 ax) := HD.out.c2 (i := 1) (b := w.heap.size) (d := ⟨an, al, ax⟩) rfl
    have f104 : W.cell? ⟨w.heap.size + 1, 0, none⟩ = some (.bool bn) := HD.out.c0 (i := 0) (b := w.heap.size + 1) (d := ⟨bn, bl, bx⟩) rfl
    have f105 : W.cell? ⟨w.heap.size + 1, 1, none⟩ = some (.string (bs bl)) := HD.out.c1 (i := 0) (b := w.heap.size + 1) (d := ⟨bn, bl, bx⟩) rfl
    have f106 : W.cell? ⟨w.heap.size + 1, 2, none⟩ = some (.int .i64 bx) := HD.out.c2 (i := 0) (b := w.heap.size + 1) (d := ⟨bn, bl, bx⟩) rfl
    go_wp2_with fail
    refine (HC.out _).mono ?_
    rintro e w107 ⟨rfl, hb108⟩
    have HD109 := Lib.hid (HD.out.call hb108)
    clear hb108 HD f101 f102 f103 f104 f105 f106
    have f110 : w107.cell? ⟨w.heap.size, 0, none⟩ = some (.bool an) := HD109.out.c0 (i := 1) (b := w.heap.size) (d := ⟨an, al, ax⟩) rfl
    have f111 : w107.cell? ⟨w.heap.size, 1, none⟩ = some (.string (bs al)) := HD109.out.c1 (i := 1) (b := w.heap.size) (d := ⟨an, al, ax⟩) rfl
    have f112 : w107.cell? ⟨w.heap.size, 2, none⟩ = some (.int .i64 ax) := HD109.out.c2 (i := 1) (b := w.heap.size) (d := ⟨an, al, ax⟩) rfl
    have f113 : w107.cell? ⟨w.heap.size + 1, 0, none⟩ = some (.bool bn) := HD109.out.c0 (i := 0) (b := w.heap.size + 1) (d := ⟨bn, bl, bx⟩) rfl
    have f114 : w107.cell? ⟨w.heap.size + 1, 1, none⟩ = some (.string (bs bl)) := HD109.out.c1 (i := 0) (b := w.heap.size + 1) (d := ⟨bn, bl, bx⟩) rfl
    have f115 : w107.cell? ⟨w.heap.size + 1, 2, none⟩ = some (.int .i64 bx) := HD109.out.c2 (i := 0) (b := w.heap.size + 1) (d := ⟨bn, bl, bx⟩) rfl
    go_wp2_with fail
    refine (HM.out _ (HT.out.below HD109.out.below)).mono ?_
    rintro e w116 ⟨rfl, hb117⟩
    have HD118 := Lib.hid (HD109.out.call hb117)
    clear hb117 HD109 f110 f111 f112 f113 f114 f115
    obtain ⟨w119, hw120⟩ : ∃ w9, w9 = w116.alloc (.cells #[.bool false, .string (bs []), .int .i64 0] 24) := ⟨_, rfl⟩
    have HD121 : Hid (Decs w w119 [(w116.heap.size, ⟨false, [], 0⟩), (w.heap.size + 1, ⟨bn, bl, bx⟩), (w.heap.size, ⟨an, al, ax⟩)]) := Lib.hid (by rw [hw120]; exact HD118.out.var false [] 0)
    clear HD118
    go_upto_region 22 with fail
    rw [← hw120]
    clear hw120
    have f122 : w119.cell? ⟨w.heap.size, 0, none⟩ = some (.bool an) := HD121.out.c0 (i := 2) (b := w.heap.size) (d := ⟨an, al, ax⟩) rfl
    have f123 : w119.cell? ⟨w.heap.size, 1, none⟩ = some (.string (bs al)) := HD121.out.c1 (i := 2) (b := w.heap.size) (d := ⟨an, al, ax⟩) rfl
    have f124 : w119.cell? ⟨w.heap.size, 2, none⟩ = some (.int .i64 ax) := HD121.out.c2 (i := 2) (b := w.heap.size) (d := ⟨an, al, ax⟩) rfl
    go_wp2_with fail
    refine (HN.out _).mono ?_
    rintro e w125 ⟨rfl, hb126⟩
    have HD127 := Lib.hid (HD121.out.call hb126)
    clear hb126 HD121 f122 f123 f124
    obtain ⟨w128, hw129⟩ : ∃ w9, w9 = w125.alloc (.cells #[.bool false, .string (bs []), .int .i64 0] 24) := ⟨_, rfl⟩
    have HD130 : Hid (Decs w w128 [(w125.heap.size, ⟨false, [], 0⟩), (w116.heap.size, ⟨false, [], 0⟩), (w.heap.size + 1, ⟨bn, bl, bx⟩), (w.heap.size, ⟨an, al, ax⟩)]) := Lib.hid (by rw [hw129]; exact HD127.out.var false [] 0)
    clear HD127
    go_upto_region 23 with fail
    rw [← hw129]
    clear hw129
    have f131 : w128.cell? ⟨w.heap.size, 0, none⟩ = some (.bool an) := HD130.out.c0 (i := 3) (b := w.heap.size) (d := ⟨an, al, ax⟩) rfl
    have f132 : w128.cell? ⟨w.heap.size, 1, none⟩ = some (.string (bs al)) := HD130.out.c1 (i := 3) (b := w.heap.size) (d := ⟨an, al, ax⟩) rfl
    have f133 : w128.cell? ⟨w.heap.size, 2, none⟩ = some (.int .i64 ax) := HD130.out.c2 (i := 3) (b := w.heap.size) (d := ⟨an, al, ax⟩) rfl
    go_wp2_with fail
    refine (HMA.out _).mono ?_
    rintro e w134 ⟨rfl, hb135⟩
    have HD136 := Lib.hid (HD130.out.call hb135)
    clear hb135 HD130 f131 f132 f133
    have f137 : w134.cell? ⟨w.heap.size, 0, none⟩ = some (.bool an) := HD136.out.c0 (i := 3) (b := w.heap.size) (d := ⟨an, al, ax⟩) rfl
    have f138 : w134.cell? ⟨w.heap.size, 1, none⟩ = some (.string (bs al)) := HD136.out.c1 (i := 3) (b := w.heap.size) (d := ⟨an, al, ax⟩) rfl
    have f139 : w134.cell? ⟨w.heap.size, 2, none⟩ = some (.int .i64 ax) := HD136.out.c2 (i := 3) (b := w.heap.size) (d := ⟨an, al, ax⟩) rfl
    have f140 : w134.cell? ⟨w125.heap.size, 0, none⟩ = some (.bool false) := HD136.out.c0 (i := 0) (b := w125.heap.size) (d := ⟨false, [], 0⟩) rfl
    have f141 : w134.cell? ⟨w125.heap.size, 1, none⟩ = some (.string (bs [])) := HD136.out.c1 (i := 0) (b := w125.heap.size) (d := ⟨false, [], 0⟩) rfl
    have f142 : w134.cell? ⟨w125.heap.size, 2, none⟩ = some (.int .i64 0) := HD136.out.c2 (i := 0) (b := w125.heap.size) (d := ⟨false, [], 0⟩) rfl
    go_wp2_with (refine (num_ok _ _).mono ?_; rintro e9 w9 ⟨rfl, rfl⟩)
    refine (HMA.out _).mono ?_
    rintro e w143 ⟨rfl, hb144⟩
    have HD145 := Lib.hid (HD136.out.call hb144)
    clear hb144 HD136 f137 f138 f139 f140 f141 f142
    have f146 : w143.cell? ⟨w.heap.size, 0, none⟩ = some (.bool an) := HD145.out.c0 (i := 3) (b := w.heap.size) (d := ⟨an, al, ax⟩) rfl
    have f147 : w143.cell? ⟨w.heap.size, 1, none⟩ = some (.string (bs al)) := HD145.out.c1 (i := 3) (b := w.heap.size) (d := ⟨an, al, ax⟩) rfl
    have f148 : w143.cell? ⟨w.heap.size, 2, none⟩ = some (.int .i64 ax) := HD145.out.c2 (i := 3) (b := w.heap.size) (d := ⟨an, al, ax⟩) rfl
    go_wp2_with fail
    refine (HMA.out _).mono ?_
    rintro e w149 ⟨rfl, hb150⟩
    have HD151 := Lib.hid (HD145.out.call hb150)
    clear hb150 HD145 f146 f147 f148
    have f152 : w149.cell? ⟨w116.heap.size, 0, none⟩ = some (.bool false) := HD151.out.c0 (i := 1) (b := w116.heap.size) (d := ⟨false, [], 0⟩) rfl
    have f153 : w149.cell? ⟨w116.heap.size, 1, none⟩ = some (.string (bs [])) := HD151.out.c1 (i := 1) (b := w116.heap.size) (d := ⟨false, [], 0⟩) rfl
    have f154 : w149.cell? ⟨w116.heap.size, 2, none⟩ = some (.int .i64 0) := HD151.out.c2 (i := 1) (b := w116.heap.size) (d := ⟨false, [], 0⟩) rfl
    go_wp2_with (refine (num_ok _ _).mono ?_; rintro e9 w9 ⟨rfl, rfl⟩)
    refine (HWK.out _ (HT.out.below HD151.out.below)).mono ?_
    rintro e wz ⟨rfl, hbz⟩
    have HBZ := Lib.hid (Below.call HD151.out.below hbz)
    clear hbz f152 f153 f154
    go_wp2
    go_ret
    exact ⟨rfl, HBZ.out⟩
  | true =>
    by_cases hal : a.digits = []
    · skip
      obtain ⟨rfl, rfl, rfl⟩ := HNE.out rfl hal
      clear hal
      cases vb with
      | false =>
        obtain ⟨rfl, rfl, rfl, rfl⟩ := HNO.out (by simp)
        clear HNO HNG HNE HNS HYES
        obtain ⟨bn, bl, bx⟩ := b
        unfold Dec.zero at *
        unfold decV at *
        simp only at HC HM HN HMA HMB HRP HRC HEA
        have f101 : W.cell? ⟨w.heap.size, 0, none⟩ = some (.bool false) := HD.out.c0 (i := 1) (b := w.heap.size) (d := ⟨false, [], 0⟩) rfl
        have f102 : W.cell? ⟨w.heap.size, 1, none⟩ = some (.string (bs [])) := HD.out.c1 (i := 1) (b := w.heap.size) (d := ⟨false, [], 0⟩) rfl
        have f103 : W.cell? ⟨w.heap.size, 2, none⟩ = some (.int .i64 0) := HD.out.c2 (i := 1) (b := w.heap.size) (d := ⟨false, [], 0⟩) rfl
        have f104 : W.cell? ⟨w.heap.size + 1, 0, none⟩ = some (.bool bn) := HD.out.c0 (i := 0) (b := w.heap.size + 1) (d := ⟨bn, bl, bx⟩) rfl
        have f105 : W.cell? ⟨w.heap.size + 1, 1, none⟩ = some (.string (bs bl)) := HD.out.c1 (i := 0) (b := w.heap.size + 1) (d := ⟨bn, bl, bx⟩) rfl
        have f106 : W.cell? ⟨w.heap.size + 1, 2, none⟩ = some (.int .i64 bx) := HD.out.c2 (i := 0) (b := w.heap.size + 1) (d := ⟨bn, bl, bx⟩) rfl
        go_wp2_with fail
        refine (HC.out _).mono ?_
        rintro e w107 ⟨rfl, hb108⟩
        have HD109 := Lib.hid (HD.out.call hb108)
        clear hb108 HD f101 f102 f103 f104 f105 f106
        have f110 : w107.cell? ⟨w.heap.size, 0, none⟩ = some (.bool false) := HD109.out.c0 (i := 1) (b := w.heap.size) (d := ⟨false, [], 0⟩) rfl
        have f111 : w107.cell? ⟨w.heap.size, 1, none⟩ = some (.string (bs [])) := HD109.out.c1 (i := 1) (b := w.heap.size) (d := ⟨false, [], 0⟩) rfl
        have f112 : w107.cell? ⟨w.heap.size, 2, none⟩ = some (.int .i64 0) := HD109.out.c2 (i := 1) (b := w.heap.size) (d := ⟨false, [], 0⟩) rfl
        have f113 : w107.cell? ⟨w.heap.size + 1, 0, none⟩ = some (.bool bn) := HD109.out.c0 (i := 0) (b := w.heap.size + 1) (d := ⟨bn, bl, bx⟩) rfl
        have f114 : w107.cell? ⟨w.heap.size + 1, 1, none⟩ = some (.string (bs bl)) := HD109.out.c1 (i := 0) (b := w.heap.size + 1) (d := ⟨bn, bl, bx⟩) rfl
        have f115 : w107.cell? ⟨w.heap.size + 1, 2, none⟩ = some (.int .i64 bx) := HD109.out.c2 (i := 0) (b := w.heap.size + 1) (d := ⟨bn, bl, bx⟩) rfl
        go_wp2_with fail
        refine (HM.out _ (HT.out.below HD109.out.below)).mono ?_
        rintro e w116 ⟨rfl, hb117⟩
        have HD118 := Lib.hid (HD109.out.call hb117)
        clear hb117 HD109 f110 f111 f112 f113 f114 f115
        obtain ⟨w119, hw120⟩ : ∃ w9, w9 = w116.alloc (.cells #[.bool false, .string (bs []), .int .i64 0] 24) := ⟨_, rfl⟩
        have HD121 : Hid (Decs w w119 [(w116.heap.size, ⟨false, [], 0⟩), (w.heap.size + 1, ⟨bn, bl, bx⟩), (w.heap.size, ⟨false, [], 0⟩)]) := Lib.hid (by rw [hw120]; exact HD118.out.var false [] 0)
        clear HD118
        go_upto_region 22 with fail
        rw [← hw120]
        clear hw120
        have f122 : w119.cell? ⟨w.heap.size, 0, none⟩ = some (.bool false) := HD121.out.c0 (i := 2) (b := w.heap.size) (d := ⟨false, [], 0⟩) rfl
        have f123 : w119.cell? ⟨w.heap.size, 1, none⟩ = some (.string (bs [])) := HD121.out.c1 (i := 2) (b := w.heap.size) (d := ⟨false, [], 0⟩) rfl
        have f124 : w119.cell? ⟨w.heap.size, 2, none⟩ = some (.int .i64 0) := HD121.out.c2 (i := 2) (b := w.heap.size) (d := ⟨false, [], 0⟩) rfl
        go_wp2_with fail
        refine (HN.out _).mono ?_
        rintro e w125 ⟨rfl, hb126⟩
        have HD127 := Lib.hid (HD121.out.call hb126)
        clear hb126 HD121 f122 f123 f124
        obtain ⟨w128, hw129⟩ : ∃ w9, w9 = w125.alloc (.cells #[.bool false, .string (bs []), .int .i64 0] 24) := ⟨_, rfl⟩
        have HD130 : Hid (Decs w w128 [(w125.heap.size, ⟨false, [], 0⟩), (w116.heap.size, ⟨false, [], 0⟩), (w.heap.size + 1, ⟨bn, bl, bx⟩), (w.heap.size, ⟨false, [], 0⟩)]) := Lib.hid (by rw [hw129]; exact HD127.out.var false [] 0)
        clear HD127
        go_upto_region 23 with fail
        rw [← hw129]
        clear hw129
        have f131 : w128.cell? ⟨w.heap.size, 0, none⟩ = some (.bool false) := HD130.out.c0 (i := 3) (b := w.heap.size) (d := ⟨false, [], 0⟩) rfl
        have f132 : w128.cell? ⟨w.heap.size, 1, none⟩ = some (.string (bs [])) := HD130.out.c1 (i := 3) (b := w.heap.size) (d := ⟨false, [], 0⟩) rfl
        have f133 : w128.cell? ⟨w.heap.size, 2, none⟩ = some (.int .i64 0) := HD130.out.c2 (i := 3) (b := w.heap.size) (d := ⟨false, [], 0⟩) rfl
        go_wp2_with fail
        refine (HMA.out _).mono ?_
        rintro e w134 ⟨rfl, hb135⟩
        have HD136 := Lib.hid (HD130.out.call hb135)
        clear hb135 HD130 f131 f132 f133
        have f137 : w134.cell? ⟨w.heap.size, 0, none⟩ = some (.bool false) := HD136.out.c0 (i := 3) (b := w.heap.size) (d := ⟨false, [], 0⟩) rfl
        have f138 : w134.cell? ⟨w.heap.size, 1, none⟩ = some (.string (bs [])) := HD136.out.c1 (i := 3) (b := w.heap.size) (d := ⟨false, [], 0⟩) rfl
        have f139 : w134.cell? ⟨w.heap.size, 2, none⟩ = some (.int .i64 0) := HD136.out.c2 (i := 3) (b := w.heap.size) (d := ⟨false, [], 0⟩) rfl
        go_wp2_with fail
        refine (HMA.out _).mono ?_
        rintro e w140 ⟨rfl, hb141⟩
        have HD142 := Lib.hid (HD136.out.call hb141)
        clear hb141 HD136 f137 f138 f139
        have f143 : w140.cell? ⟨w.heap.size, 0, none⟩ = some (.bool false) := HD142.out.c0 (i := 3) (b := w.heap.size) (d := ⟨false, [], 0⟩) rfl
        have f144 : w140.cell? ⟨w.heap.size, 1, none⟩ = some (.string (bs [])) := HD142.out.c1 (i := 3) (b := w.heap.size) (d := ⟨false, [], 0⟩) rfl
        have f145 : w140.cell? ⟨w.heap.size, 2, none⟩ = some (.int .i64 0) := HD142.out.c2 (i := 3) (b := w.heap.size) (d := ⟨false, [], 0⟩) rfl
        have f146 : w140.cell? ⟨w125.heap.size, 0, none⟩ = some (.bool false) := HD142.out.c0 (i := 0) (b := w125.heap.size) (d := ⟨false, [], 0⟩) rfl
        have f147 : w140.cell? ⟨w125.heap.size, 1, none⟩ = some (.string (bs [])) := HD142.out.c1 (i := 0) (b := w125.heap.size) (d := ⟨false, [], 0⟩) rfl
        have f148 : w140.cell? ⟨w125.heap.size, 2, none⟩ = some (.int .i64 0) := HD142.out.c2 (i := 0) (b := w125.heap.size) (d := ⟨false, [], 0⟩) rfl
        go_wp2_with (refine (num_ok _ _).mono ?_; rintro e9 w9 ⟨rfl, rfl⟩)
        refine (HMA.out _).mono ?_
        rintro e w149 ⟨rfl, hb150⟩
        have HD151 := Lib.hid (HD142.out.call hb150)
        clear hb150 HD142 f143 f144 f145 f146 f147 f148
        have f152 : w149.cell? ⟨w.heap.size + 1, 0, none⟩ = some (.bool bn) := HD151.out.c0 (i := 2) (b := w.heap.size + 1) (d := ⟨bn, bl, bx⟩) rfl
        have f153 : w149.cell? ⟨w.heap.size + 1, 1, none⟩ = some (.string (bs bl)) := HD151.out.c1 (i := 2) (b := w.heap.size + 1) (d := ⟨bn, bl, bx⟩) rfl
        have f154 : w149.cell? ⟨w.heap.size + 1, 2, none⟩ = some (.int .i64 bx) := HD151.out.c2 (i := 2) (b := w.heap.size + 1) (d := ⟨bn, bl, bx⟩) rfl
        go_wp2_with fail
        refine (HMB.out _).mono ?_
        rintro e w155 ⟨rfl, hb156⟩
        have HD157 := Lib.hid (HD151.out.call hb156)
        clear hb156 HD151 f152 f153 f154
        have f158 : w155.cell? ⟨w116.heap.size, 0, none⟩ = some (.bool false) := HD157.out.c0 (i := 1) (b := w116.heap.size) (d := ⟨false, [], 0⟩) rfl
        have f159 : w155.cell? ⟨w116.heap.size, 1, none⟩ = some (.string (bs [])) := HD157.out.c1 (i := 1) (b := w116.heap.size) (d := ⟨false, [], 0⟩) rfl
        have f160 : w155.cell? ⟨w116.heap.size, 2, none⟩ = some (.int .i64 0) := HD157.out.c2 (i := 1) (b := w116.heap.size) (d := ⟨false, [], 0⟩) rfl
        go_wp2_with (refine (num_ok _ _).mono ?_; rintro e9 w9 ⟨rfl, rfl⟩)
        refine (HWK.out _ (HT.out.below HD157.out.below)).mono ?_
        rintro e wz ⟨rfl, hbz⟩
        have HBZ := Lib.hid (Below.call HD157.out.below hbz)
        clear hbz f158 f159 f160
        go_wp2
        go_ret
        exact ⟨rfl, HBZ.out⟩
      | true =>
        obtain ⟨rfl, rfl, rfl, rfl⟩ := HYES.out rfl rfl
        replace HRP := Lib.hid (HRP.out rfl rfl)
        replace HRC := Lib.hid (HRC.out rfl rfl)
        clear HNO HNG HNE HNS HYES
        obtain ⟨bn, bl, bx⟩ := b
        obtain ⟨mn, ml, mx⟩ := mr
        unfold Dec.zero at *
        unfold decV at *
        simp only at HC HM HN HMA HMB HRP HRC HEA
        have f101 : W.cell? ⟨w.heap.size, 0, none⟩ = some (.bool false) := HD.out.c0 (i := 1) (b := w.heap.size) (d := ⟨false, [], 0⟩) rfl
        have f102 : W.cell? ⟨w.heap.size, 1, none⟩ = some (.string (bs [])) := HD.out.c1 (i := 1) (b := w.heap.size) (d := ⟨false, [], 0⟩) rfl
        have f103 : W.cell? ⟨w.heap.size, 2, none⟩ = some (.int .i64 0) := HD.out.c2 (i := 1) (b := w.heap.size) (d := ⟨false, [], 0⟩) rfl
        have f104 : W.cell? ⟨w.heap.size + 1, 0, none⟩ = some (.bool bn) := HD.out.c0 (i := 0) (b := w.heap.size + 1) (d := ⟨bn, bl, bx⟩) rfl
        have f105 : W.cell? ⟨w.heap.size + 1, 1, none⟩ = some (.string (bs bl)) := HD.out.c1 (i := 0) (b := w.heap.size + 1) (d := ⟨bn, bl, bx⟩) rfl
        have f106 : W.cell? ⟨w.heap.size + 1, 2, none⟩ = some (.int .i64 bx) := HD.out.c2 (i := 0) (b := w.heap.size + 1) (d := ⟨bn, bl, bx⟩) rfl
        go_wp2_with fail
        refine (HC.out _).mono ?_
        rintro e w107 ⟨rfl, hb108⟩
        have HD109 := Lib.hid (HD.out.call hb108)
        clear hb108 HD f101 f102 f103 f104 f105 f106
        have f110 : w107.cell? ⟨w.heap.size, 0, none⟩ = some (.bool false) := HD109.out.c0 (i := 1) (b := w.heap.size) (d := ⟨false, [], 0⟩) rfl
        have f111 : w107.cell? ⟨w.heap.size, 1, none⟩ = some (.string (bs [])) := HD109.out.c1 (i := 1) (b := w.heap.size) (d := ⟨false, [], 0⟩) rfl
        have f112 : w107.cell? ⟨w.heap.size, 2, none⟩ = some (.int .i64 0) := HD109.out.c2 (i := 1) (b := w.heap.size) (d := ⟨false, [], 0⟩) rfl
        have f113 : w107.cell? ⟨w.heap.size + 1, 0, none⟩ = some (.bool bn) := HD109.out.c0 (i := 0) (b := w.heap.size + 1) (d := ⟨bn, bl, bx⟩) rfl
        have f114 : w107.cell? ⟨w.heap.size + 1, 1, none⟩ = some (.string (bs bl)) := HD109.out.c1 (i := 0) (b := w.heap.size + 1) (d := ⟨bn, bl, bx⟩) rfl
        have f115 : w107.cell? ⟨w.heap.size + 1, 2, none⟩ = some (.int .i64 bx) := HD109.out.c2 (i := 0) (b := w.heap.size + 1) (d := ⟨bn, bl, bx⟩) rfl
        go_wp2_with fail
        refine (HM.out _ (HT.out.below HD109.out.below)).mono ?_
        rintro e w116 ⟨rfl, hb117⟩
        have HD118 := Lib.hid (HD109.out.call hb117)
        clear hb117 HD109 f110 f111 f112 f113 f114 f115
        obtain ⟨w119, hw120⟩ : ∃ w9, w9 = w116.alloc (.cells #[.bool mn, .string (bs ml), .int .i64 mx] 24) := ⟨_, rfl⟩
        have HD121 : Hid (Decs w w119 [(w116.heap.size, ⟨mn, ml, mx⟩), (w.heap.size + 1, ⟨bn, bl, bx⟩), (w.heap.size, ⟨false, [], 0⟩)]) := Lib.hid (by rw [hw120]; exact HD118.out.var mn ml mx)
        clear HD118
        go_upto_region 22 with fail
        rw [← hw120]
        clear hw120
        have f122 : w119.cell? ⟨w.heap.size, 0, none⟩ = some (.bool false) := HD121.out.c0 (i := 2) (b := w.heap.size) (d := ⟨false, [], 0⟩) rfl
        have f123 : w119.cell? ⟨w.heap.size, 1, none⟩ = some (.string (bs [])) := HD121.out.c1 (i := 2) (b := w.heap.size) (d := ⟨false, [], 0⟩) rfl
        have f124 : w119.cell? ⟨w.heap.size, 2, none⟩ = some (.int .i64 0) := HD121.out.c2 (i := 2) (b := w.heap.size) (d := ⟨false, [], 0⟩) rfl
        go_wp2_with fail
        refine (HN.out _).mono ?_
        rintro e w125 ⟨rfl, hb126⟩
        have HD127 := Lib.hid (HD121.out.call hb126)
        clear hb126 HD121 f122 f123 f124
        obtain ⟨w128, hw129⟩ : ∃ w9, w9 = w125.alloc (.cells #[.bool false, .string (bs []), .int .i64 0] 24) := ⟨_, rfl⟩
        have HD130 : Hid (Decs w w128 [(w125.heap.size, ⟨false, [], 0⟩), (w116.heap.size, ⟨mn, ml, mx⟩), (w.heap.size + 1, ⟨bn, bl, bx⟩), (w.heap.size, ⟨false, [], 0⟩)]) := Lib.hid (by rw [hw129]; exact HD127.out.var false [] 0)
        clear HD127
        go_upto_region 23 with fail
        rw [← hw129]
        clear hw129
        have f131 : w128.cell? ⟨w.heap.size, 0, none⟩ = some (.bool false) := HD130.out.c0 (i := 3) (b := w.heap.size) (d := ⟨false, [], 0⟩) rfl
        have f132 : w128.cell? ⟨w.heap.size, 1, none⟩ = some (.string (bs [])) := HD130.out.c1 (i := 3) (b := w.heap.size) (d := ⟨false, [], 0⟩) rfl
        have f133 : w128.cell? ⟨w.heap.size, 2, none⟩ = some (.int .i64 0) := HD130.out.c2 (i := 3) (b := w.heap.size) (d := ⟨false, [], 0⟩) rfl
        go_wp2_with fail
        refine (HMA.out _).mono ?_
        rintro e w134 ⟨rfl, hb135⟩
        have HD136 := Lib.hid (HD130.out.call hb135)
        clear hb135 HD130 f131 f132 f133
        have f137 : w134.cell? ⟨w.heap.size, 0, none⟩ = some (.bool false) := HD136.out.c0 (i := 3) (b := w.heap.size) (d := ⟨false, [], 0⟩) rfl
        have f138 : w134.cell? ⟨w.heap.size, 1, none⟩ = some (.string (bs [])) := HD136.out.c1 (i := 3) (b := w.heap.size) (d := ⟨false, [], 0⟩) rfl
        have f139 : w134.cell? ⟨w.heap.size, 2, none⟩ = some (.int .i64 0) := HD136.out.c2 (i := 3) (b := w.heap.size) (d := ⟨false, [], 0⟩) rfl
        go_wp2_with fail
        refine (HMA.out _).mono ?_
        rintro e w140 ⟨rfl, hb141⟩
        have HD142 := Lib.hid (HD136.out.call hb141)
        clear hb141 HD136 f137 f138 f139
        have f143 : w140.cell? ⟨w.heap.size, 0, none⟩ = some (.bool false) := HD142.out.c0 (i := 3) (b := w.heap.size) (d := ⟨false, [], 0⟩) rfl
        have f144 : w140.cell? ⟨w.heap.size, 1, none⟩ = some (.string (bs [])) := HD142.out.c1 (i := 3) (b := w.heap.size) (d := ⟨false, [], 0⟩) rfl
        have f145 : w140.cell? ⟨w.heap.size, 2, none⟩ = some (.int .i64 0) := HD142.out.c2 (i := 3) (b := w.heap.size) (d := ⟨false, [], 0⟩) rfl
        have f146 : w140.cell? ⟨w125.heap.size, 0, none⟩ = some (.bool false) := HD142.out.c0 (i := 0) (b := w125.heap.size) (d := ⟨false, [], 0⟩) rfl
        have f147 : w140.cell? ⟨w125.heap.size, 1, none⟩ = some (.string (bs [])) := HD142.out.c1 (i := 0) (b := w125.heap.size) (d := ⟨false, [], 0⟩) rfl
        have f148 : w140.cell? ⟨w125.heap.size, 2, none⟩ = some (.int .i64 0) := HD142.out.c2 (i := 0) (b := w125.heap.size) (d := ⟨false, [], 0⟩) rfl
        go_wp2_with (refine (num_ok _ _).mono ?_; rintro e9 w9 ⟨rfl, rfl⟩)
        refine (HMA.out _).mono ?_
        rintro e w149 ⟨rfl, hb150⟩
        have HD151 := Lib.hid (HD142.out.call hb150)
        clear hb150 HD142 f143 f144 f145 f146 f147 f148
        have f152 : w149.cell? ⟨w.heap.size + 1, 0, none⟩ = some (.bool bn) := HD151.out.c0 (i := 2) (b := w.heap.size + 1) (d := ⟨bn, bl, bx⟩) rfl
        have f153 : w149.cell? ⟨w.heap.size + 1, 1, none⟩ = some (.string (bs bl)) := HD151.out.c1 (i := 2) (b := w.heap.size + 1) (d := ⟨bn, bl, bx⟩) rfl
        have f154 : w149.cell? ⟨w.heap.size + 1, 2, none⟩ = some (.int .i64 bx) := HD151.out.c2 (i := 2) (b := w.heap.size + 1) (d := ⟨bn, bl, bx⟩) rfl
        go_wp2_with fail
        refine (HMB.out _).mono ?_
        rintro e w155 ⟨rfl, hb156⟩
        have HD157 := Lib.hid (HD151.out.call hb156)
        clear hb156 HD151 f152 f153 f154
        have f158 : w155.cell? ⟨w.heap.size, 0, none⟩ = some (.bool false) := HD157.out.c0 (i := 3) (b := w.heap.size) (d := ⟨false, [], 0⟩) rfl
        have f159 : w155.cell? ⟨w.heap.size, 1, none⟩ = some (.string (bs [])) := HD157.out.c1 (i := 3) (b := w.heap.size) (d := ⟨false, [], 0⟩) rfl
        have f160 : w155.cell? ⟨w.heap.size, 2, none⟩ = some (.int .i64 0) := HD157.out.c2 (i := 3) (b := w.heap.size) (d := ⟨false, [], 0⟩) rfl
        have f161 : w155.cell? ⟨w.heap.size + 1, 0, none⟩ = some (.bool bn) := HD157.out.c0 (i := 2) (b := w.heap.size + 1) (d := ⟨bn, bl, bx⟩) rfl
        have f162 : w155.cell? ⟨w.heap.size + 1, 1, none⟩ = some (.string (bs bl)) := HD157.out.c1 (i := 2) (b := w.heap.size + 1) (d := ⟨bn, bl, bx⟩) rfl
        have f163 : w155.cell? ⟨w.heap.size + 1, 2, none⟩ = some (.int .i64 bx) := HD157.out.c2 (i := 2) (b := w.heap.size + 1) (d := ⟨bn, bl, bx⟩) rfl
        go_wp2_with fail
        refine (HRP.out _).mono ?_
        rintro e w164 ⟨rfl, hb165⟩
        have HD166 := Lib.hid (HD157.out.call hb165)
        clear hb165 HD157 f158 f159 f160 f161 f162 f163
        obtain ⟨w167, hw168⟩ : ∃ w9, w9 = w164.alloc (.cells #[.bool mn, .string (bs ml), .int .i64 mx] 24) := ⟨_, rfl⟩
        have HD169 : Hid (Decs w w167 [(w164.heap.size, ⟨mn, ml, mx⟩), (w125.heap.size, ⟨false, [], 0⟩), (w116.heap.size, ⟨mn, ml, mx⟩), (w.heap.size + 1, ⟨bn, bl, bx⟩), (w.heap.size, ⟨false, [], 0⟩)]) := Lib.hid (by rw [hw168]; exact HD166.out.var mn ml mx)
        clear HD166
        go_upto_region 28 with fail
        rw [← hw168]
        clear hw168
        have f170 : w167.cell? ⟨w.heap.size, 0, none⟩ = some (.bool false) := HD169.out.c0 (i := 4) (b := w.heap.size) (d := ⟨false, [], 0⟩) rfl
        have f171 : w167.cell? ⟨w.heap.size, 1, none⟩ = some (.string (bs [])) := HD169.out.c1 (i := 4) (b := w.heap.size) (d := ⟨false, [], 0⟩) rfl
        have f172 : w167.cell? ⟨w.heap.size, 2, none⟩ = some (.int .i64 0) := HD169.out.c2 (i := 4) (b := w.heap.size) (d := ⟨false, [], 0⟩) rfl
        have f173 : w167.cell? ⟨w.heap.size + 1, 0, none⟩ = some (.bool bn) := HD169.out.c0 (i := 3) (b := w.heap.size + 1) (d := ⟨bn, bl, bx⟩) rfl
        have f174 : w167.cell? ⟨w.heap.size + 1, 1, none⟩ = some (.string (bs bl)) := HD169.out.c1 (i := 3) (b := w.heap.size + 1) (d := ⟨bn, bl, bx⟩) rfl
        have f175 : w167.cell? ⟨w.heap.size + 1, 2, none⟩ = some (.int .i64 bx) := HD169.out.c2 (i := 3) (b := w.heap.size + 1) (d := ⟨bn, bl, bx⟩) rfl
        go_wp2_with fail
        refine (HRC.out _).mono ?_
        rintro e w176 ⟨rfl, hb177⟩
        have HD178 := Lib.hid (HD169.out.call hb177)
        clear hb177 HD169 f170 f171 f172 f173 f174 f175
        have f179 : w176.cell? ⟨w116.heap.size, 0, none⟩ = some (.bool mn) := HD178.out.c0 (i := 2) (b := w116.heap.size) (d := ⟨mn, ml, mx⟩) rfl
        have f180 : w176.cell? ⟨w116.heap.size, 1, none⟩ = some (.string (bs ml)) := HD178.out.c1 (i := 2) (b := w116.heap.size) (d := ⟨mn, ml, mx⟩) rfl
        have f181 : w176.cell? ⟨w116.heap.size, 2, none⟩ = some (.int .i64 mx) := HD178.out.c2 (i := 2) (b := w116.heap.size) (d := ⟨mn, ml, mx⟩) rfl
        have f182 : w176.cell? ⟨w164.heap.size, 0, none⟩ = some (.bool mn) := HD178.out.c0 (i := 0) (b := w164.heap.size) (d := ⟨mn, ml, mx⟩) rfl
        have f183 : w176.cell? ⟨w164.heap.size, 1, none⟩ = some (.string (bs ml)) := HD178.out.c1 (i := 0) (b := w164.heap.size) (d := ⟨mn, ml, mx⟩) rfl
        have f184 : w176.cell? ⟨w164.heap.size, 2, none⟩ = some (.int .i64 mx) := HD178.out.c2 (i := 0) (b := w164.heap.size) (d := ⟨mn, ml, mx⟩) rfl
        go_wp2_with (refine (num_ok _ _).mono ?_; rintro e9 w9 ⟨rfl, rfl⟩)
        refine (HWK.out _ (HT.out.below HD178.out.below)).mono ?_
        rintro e wz ⟨rfl, hbz⟩
        have HBZ := Lib.hid (Below.call HD178.out.below hbz)
        clear hbz f179 f180 f181 f182 f183 f184
        go_wp2
        go_ret
        exact ⟨rfl, HBZ.out⟩
    · skip
      obtain ⟨rfl, rfl⟩ := HNS.out rfl hal
      obtain ⟨hae1, hae2⟩ := HEA.out hal
      clear hal
      cases vb with
      | false =>
        obtain ⟨rfl, rfl, rfl, rfl⟩ := HNO.out (by simp)
        clear HNO HNG HNE HNS HYES
        obtain ⟨bn, bl, bx⟩ := b
        obtain ⟨an, al, ax⟩ := a
        unfold Dec.zero at *
        unfold decV at *
        simp only at HC HM HN HMA HMB HRP HRC HEA
        simp only at hae1 hae2
        have f101 : W.cell? ⟨w.heap.size, 0, none⟩ = some (.bool an) := HD.out.c0 (i := 1) (b := w.heap.size) (d := ⟨an, al, ax⟩) rfl
        have f102 : W.cell? ⟨w.heap.size, 1, none⟩ = some (.string (bs al)) := HD.out.c1 (i := 1) (b := w.heap.size) (d := ⟨an, al, ax⟩) rfl
        have f103 : W.cell? ⟨w.heap.size, 2, none⟩ = some (.int .i64 ax) := HD.out.c2 (i := 1) (b := w.heap.size) (d := ⟨an, al, ax⟩) rfl
        have f104 : W.cell? ⟨w.heap.size + 1, 0, none⟩ = some (.bool bn) := HD.out.c0 (i := 0) (b := w.heap.size + 1) (d := ⟨bn, bl, bx⟩) rfl
        have f105 : W.cell? ⟨w.heap.size + 1, 1, none⟩ = some (.string (bs bl)) := HD.out.c1 (i := 0) (b := w.heap.size + 1) (d := ⟨bn, bl, bx⟩) rfl
        have f106 : W.cell? ⟨w.heap.size + 1, 2, none⟩ = some (.int .i64 bx) := HD.out.c2 (i := 0) (b := w.heap.size + 1) (d := ⟨bn, bl, bx⟩) rfl
        go_wp2_with fail
        refine (HC.out _).mono ?_
        rintro e w107 ⟨rfl, hb108⟩
        have HD109 := Lib.hid (HD.out.call hb108)
        clear hb108 HD f101 f102 f103 f104 f105 f106
        have f110 : w107.cell? ⟨w.heap.size, 0, none⟩ = some (.bool an) := HD109.out.c0 (i := 1) (b := w.heap.size) (d := ⟨an, al, ax⟩) rfl
        have f111 : w107.cell? ⟨w.heap.size, 1, none⟩ = some (.string (bs al)) := HD109.out.c1 (i := 1) (b := w.heap.size) (d := ⟨an, al, ax⟩) rfl
        have f112 : w107.cell? ⟨w.heap.size, 2, none⟩ = some (.int .i64 ax) := HD109.out.c2 (i := 1) (b := w.heap.size) (d := ⟨an, al, ax⟩) rfl
        have f113 : w107.cell? ⟨w.heap.size + 1, 0, none⟩ = some (.bool bn) := HD109.out.c0 (i := 0) (b := w.heap.size + 1) (d := ⟨bn, bl, bx⟩) rfl
        have f114 : w107.cell? ⟨w.heap.size + 1, 1, none⟩ = some (.string (bs bl)) := HD109.out.c1 (i := 0) (b := w.heap.size + 1) (d := ⟨bn, bl, bx⟩) rfl
        have f115 : w107.cell? ⟨w.heap.size + 1, 2, none⟩ = some (.int .i64 bx) := HD109.out.c2 (i := 0) (b := w.heap.size + 1) (d := ⟨bn, bl, bx⟩) rfl
        go_wp2_with fail
        refine (HM.out _ (HT.out.below HD109.out.below)).mono ?_
        rintro e w116 ⟨rfl, hb117⟩
        have HD118 := Lib.hid (HD109.out.call hb117)
        clear hb117 HD109 f110 f111 f112 f113 f114 f115
        obtain ⟨w119, hw120⟩ : ∃ w9, w9 = w116.alloc (.cells #[.bool false, .string (bs []), .int .i64 0] 24) := ⟨_, rfl⟩
        have HD121 : Hid (Decs w w119 [(w116.heap.size, ⟨false, [], 0⟩), (w.heap.size + 1, ⟨bn, bl, bx⟩), (w.heap.size, ⟨an, al, ax⟩)]) := Lib.hid (by rw [hw120]; exact HD118.out.var false [] 0)
        clear HD118
        go_upto_region 22 with fail
        rw [← hw120]
        clear hw120
        have f122 : w119.cell? ⟨w.heap.size, 0, none⟩ = some (.bool an) := HD121.out.c0 (i := 2) (b := w.heap.size) (d := ⟨an, al, ax⟩) rfl
        have f123 : w119.cell? ⟨w.heap.size, 1, none⟩ = some (.string (bs al)) := HD121.out.c1 (i := 2) (b := w.heap.size) (d := ⟨an, al, ax⟩) rfl
        have f124 : w119.cell? ⟨w.heap.size, 2, none⟩ = some (.int .i64 ax) := HD121.out.c2 (i := 2) (b := w.heap.size) (d := ⟨an, al, ax⟩) rfl
        go_wp2_with fail
        refine (HN.out _).mono ?_
        rintro e w125 ⟨rfl, hb126⟩
        have HD127 := Lib.hid (HD121.out.call hb126)
        clear hb126 HD121 f122 f123 f124
        obtain ⟨w128, hw129⟩ : ∃ w9, w9 = w125.alloc (.cells #[.bool (!an), .string (bs al), .int .i64 ax] 24) := ⟨_, rfl⟩
        have HD130 : Hid (Decs w w128 [(w125.heap.size, ⟨(!an), al, ax⟩), (w116.heap.size, ⟨false, [], 0⟩), (w.heap.size + 1, ⟨bn, bl, bx⟩), (w.heap.size, ⟨an, al, ax⟩)]) := Lib.hid (by rw [hw129]; exact HD127.out.var (!an) al ax)
        clear HD127
        go_upto_region 23 with fail
        rw [← hw129]
        clear hw129
        have f131 : w128.cell? ⟨w.heap.size, 0, none⟩ = some (.bool an) := HD130.out.c0 (i := 3) (b := w.heap.size) (d := ⟨an, al, ax⟩) rfl
        have f132 : w128.cell? ⟨w.heap.size, 1, none⟩ = some (.string (bs al)) := HD130.out.c1 (i := 3) (b := w.heap.size) (d := ⟨an, al, ax⟩) rfl
        have f133 : w128.cell? ⟨w.heap.size, 2, none⟩ = some (.int .i64 ax) := HD130.out.c2 (i := 3) (b := w.heap.size) (d := ⟨an, al, ax⟩) rfl
        go_wp2_with fail
        refine (HMA.out _).mono ?_
        rintro e w134 ⟨rfl, hb135⟩
        have HD136 := Lib.hid (HD130.out.call hb135)
        clear hb135 HD130 f131 f132 f133
        have f137 : w134.cell? ⟨w.heap.size, 0, none⟩ = some (.bool an) := HD136.out.c0 (i := 3) (b := w.heap.size) (d := ⟨an, al, ax⟩) rfl
        have f138 : w134.cell? ⟨w.heap.size, 1, none⟩ = some (.string (bs al)) := HD136.out.c1 (i := 3) (b := w.heap.size) (d := ⟨an, al, ax⟩) rfl
        have f139 : w134.cell? ⟨w.heap.size, 2, none⟩ = some (.int .i64 ax) := HD136.out.c2 (i := 3) (b := w.heap.size) (d := ⟨an, al, ax⟩) rfl
        go_wp2_with fail
        refine (HMA.out _).mono ?_
        rintro e w140 ⟨rfl, hb141⟩
        have HD142 := Lib.hid (HD136.out.call hb141)
        clear hb141 HD136 f137 f138 f139
        have f143 : w140.cell? ⟨w.heap.size, 0, none⟩ = some (.bool an) := HD142.out.c0 (i := 3) (b := w.heap.size) (d := ⟨an, al, ax⟩) rfl
        have f144 : w140.cell? ⟨w.heap.size, 1, none⟩ = some (.string (bs al)) := HD142.out.c1 (i := 3) (b := w.heap.size) (d := ⟨an, al, ax⟩) rfl
        have f145 : w140.cell? ⟨w.heap.size, 2, none⟩ = some (.int .i64 ax) := HD142.out.c2 (i := 3) (b := w.heap.size) (d := ⟨an, al, ax⟩) rfl
        have f146 : w140.cell? ⟨w125.heap.size, 0, none⟩ = some (.bool (!an)) := HD142.out.c0 (i := 0) (b := w125.heap.size) (d := ⟨(!an), al, ax⟩) rfl
        have f147 : w140.cell? ⟨w125.heap.size, 1, none⟩ = some (.string (bs al)) := HD142.out.c1 (i := 0) (b := w125.heap.size) (d := ⟨(!an), al, ax⟩) rfl
        have f148 : w140.cell? ⟨w125.heap.size, 2, none⟩ = some (.int .i64 ax) := HD142.out.c2 (i := 0) (b := w125.heap.size) (d := ⟨(!an), al, ax⟩) rfl
        go_wp2_with (refine (num_ok _ _).mono ?_; rintro e9 w9 ⟨rfl, rfl⟩)
        refine (HMA.out _).mono ?_
        rintro e w149 ⟨rfl, hb150⟩
        have HD151 := Lib.hid (HD142.out.call hb150)
        clear hb150 HD142 f143 f144 f145 f146 f147 f148
        have f152 : w149.cell? ⟨w.heap.size + 1, 0, none⟩ = some (.bool bn) := HD151.out.c0 (i := 2) (b := w.heap.size + 1) (d := ⟨bn, bl, bx⟩) rfl
        have f153 : w149.cell? ⟨w.heap.size + 1, 1, none⟩ = some (.string (bs bl)) := HD151.out.c1 (i := 2) (b := w.heap.size + 1) (d := ⟨bn, bl, bx⟩) rfl
        have f154 : w149.cell? ⟨w.heap.size + 1, 2, none⟩ = some (.int .i64 bx) := HD151.out.c2 (i := 2) (b := w.heap.size + 1) (d := ⟨bn, bl, bx⟩) rfl
        go_wp2_with fail
        refine (HMB.out _).mono ?_
        rintro e w155 ⟨rfl, hb156⟩
        have HD157 := Lib.hid (HD151.out.call hb156)
        clear hb156 HD151 f152 f153 f154
        have f158 : w155.cell? ⟨w116.heap.size, 0, none⟩ = some (.bool false) := HD157.out.c0 (i := 1) (b := w116.heap.size) (d := ⟨false, [], 0⟩) rfl
        have f159 : w155.cell? ⟨w116.heap.size, 1, none⟩ = some (.string (bs [])) := HD157.out.c1 (i := 1) (b := w116.heap.size) (d := ⟨false, [], 0⟩) rfl
        have f160 : w155.cell? ⟨w116.heap.size, 2, none⟩ = some (.int .i64 0) := HD157.out.c2 (i := 1) (b := w116.heap.size) (d := ⟨false, [], 0⟩) rfl
        go_wp2_with (refine (num_ok _ _).mono ?_; rintro e9 w9 ⟨rfl, rfl⟩)
        refine (HWK.out _ (HT.out.below HD157.out.below)).mono ?_
        rintro e wz ⟨rfl, hbz⟩
        have HBZ := Lib.hid (Below.call HD157.out.below hbz)
        clear hbz f158 f159 f160
        go_wp2
        go_ret
        exact ⟨rfl, HBZ.out⟩
      | true =>
        obtain ⟨rfl, rfl, rfl, rfl⟩ := HYES.out rfl rfl
        replace HRP := Lib.hid (HRP.out rfl rfl)
        replace HRC := Lib.hid (HRC.out rfl rfl)
        clear HNO HNG HNE HNS HYES
        obtain ⟨bn, bl, bx⟩ := b
        obtain ⟨an, al, ax⟩ := a
        obtain ⟨mn, ml, mx⟩ := mr
        unfold Dec.zero at *
        unfold decV at *
        simp only at HC HM HN HMA HMB HRP HRC HEA
        simp only at hae1 hae2
        have f101 : W.cell? ⟨w.heap.size, 0, none⟩ = some (.bool an) := HD.out.c0 (i := 1) (b := w.heap.size) (d := ⟨an, al, ax⟩) rfl
        have f102 : W.cell? ⟨w.heap.size, 1, none⟩ = some (.string (bs al)) := HD.out.c1 (i := 1) (b := w.heap.size) (d := ⟨an, al, ax⟩) rfl
        have f103 : W.cell? ⟨w.heap.size, 2, none⟩ = some (.int .i64 ax) := HD.out.c2 (i := 1) (b := w.heap.size) (d := ⟨an, al, ax⟩) rfl
        have f104 : W.cell? ⟨w.heap.size + 1, 0, none⟩ = some (.bool bn) := HD.out.c0 (i := 0) (b := w.heap.size + 1) (d := ⟨bn, bl, bx⟩) rfl
        have f105 : W.cell? ⟨w.heap.size + 1, 1, none⟩ = some (.string (bs bl)) := HD.out.c1 (i := 0) (b := w.heap.size + 1) (d := ⟨bn, bl, bx⟩) rfl
        have f106 : W.cell? ⟨w.heap.size + 1, 2, none⟩ = some (.int .i64 bx) := HD.out.c2 (i := 0) (b := w.heap.size + 1) (d := ⟨bn, bl, bx⟩) rfl
        go_wp2_with fail
        refine (HC.out _).mono ?_
        rintro e w107 ⟨rfl, hb108⟩
        have HD109 := Lib.hid (HD.out.call hb108)
        clear hb108 HD f101 f102 f103 f104 f105 f106
        have f110 : w107.cell? ⟨w.heap.size, 0, none⟩ = some (.bool an) := HD109.out.c0 (i := 1) (b := w.heap.size) (d := ⟨an, al, ax⟩) rfl
        have f111 : w107.cell? ⟨w.heap.size, 1, none⟩ = some (.string (bs al)) := HD109.out.c1 (i := 1) (b := w.heap.size) (d := ⟨an, al, ax⟩) rfl
        have f112 : w107.cell? ⟨w.heap.size, 2, none⟩ = some (.int .i64 ax) := HD109.out.c2 (i := 1) (b := w.heap.size) (d := ⟨an, al, ax⟩) rfl
        have f113 : w107.cell? ⟨w.heap.size + 1, 0, none⟩ = some (.bool bn) := HD109.out.c0 (i := 0) (b := w.heap.size + 1) (d := ⟨bn, bl, bx⟩) rfl
        have f114 : w107.cell? ⟨w.heap.size + 1, 1, none⟩ = some (.string (bs bl)) := HD109.out.c1 (i := 0) (b := w.heap.size + 1) (d := ⟨bn, bl, bx⟩) rfl
        have f115 : w107.cell? ⟨w.heap.size + 1, 2, none⟩ = some (.int .i64 bx) := HD109.out.c2 (i := 0) (b := w.heap.size + 1) (d := ⟨bn, bl, bx⟩) rfl
        go_wp2_with fail
        refine (HM.out _ (HT.out.below HD109.out.below)).mono ?_
        rintro e w116 ⟨rfl, hb117⟩
        have HD118 := Lib.hid (HD109.out.call hb117)
        clear hb117 HD109 f110 f111 f112 f113 f114 f115
        obtain ⟨w119, hw120⟩ : ∃ w9, w9 = w116.alloc (.cells #[.bool mn, .string (bs ml), .int .i64 mx] 24) := ⟨_, rfl⟩
        have HD121 : Hid (Decs w w119 [(w116.heap.size, ⟨mn, ml, mx⟩), (w.heap.size + 1, ⟨bn, bl, bx⟩), (w.heap.size, ⟨an, al, ax⟩)]) := Lib.hid (by rw [hw120]; exact HD118.out.var mn ml mx)
        clear HD118
        go_upto_region 22 with fail
        rw [← hw120]
        clear hw120
        have f122 : w119.cell? ⟨w.heap.size, 0, none⟩ = some (.bool an) := HD121.out.c0 (i := 2) (b := w.heap.size) (d := ⟨an, al, ax⟩) rfl
        have f123 : w119.cell? ⟨w.heap.size, 1, none⟩ = some (.string (bs al)) := HD121.out.c1 (i := 2) (b := w.heap.size) (d := ⟨an, al, ax⟩) rfl
        have f124 : w119.cell? ⟨w.heap.size, 2, none⟩ = some (.int .i64 ax) := HD121.out.c2 (i := 2) (b := w.heap.size) (d := ⟨an, al, ax⟩) rfl
        go_wp2_with fail
        refine (HN.out _).mono ?_
        rintro e w125 ⟨rfl, hb126⟩
        have HD127 := Lib.hid (HD121.out.call hb126)
        clear hb126 HD121 f122 f123 f124
        obtain ⟨w128, hw129⟩ : ∃ w9, w9 = w125.alloc (.cells #[.bool (!an), .string (bs al), .int .i64 ax] 24) := ⟨_, rfl⟩
        have HD130 : Hid (Decs w w128 [(w125.heap.size, ⟨(!an), al, ax⟩), (w116.heap.size, ⟨mn, ml, mx⟩), (w.heap.size + 1, ⟨bn, bl, bx⟩), (w.heap.size, ⟨an, al, ax⟩)]) := Lib.hid (by rw [hw129]; exact HD127.out.var (!an) al ax)
        clear HD127
        go_upto_region 23 with fail
        rw [← hw129]
        clear hw129
        have f131 : w128.cell? ⟨w.heap.size, 0, none⟩ = some (.bool an) := HD130.out.c0 (i := 3) (b := w.heap.size) (d := ⟨an, al, ax⟩) rfl
        have f132 : w128.cell? ⟨w.heap.size, 1, none⟩ = some (.string (bs al)) := HD130.out.c1 (i := 3) (b := w.heap.size) (d := ⟨an, al, ax⟩) rfl
        have f133 : w128.cell? ⟨w.heap.size, 2, none⟩ = some (.int .i64 ax) := HD130.out.c2 (i := 3) (b := w.heap.size) (d := ⟨an, al, ax⟩) rfl
        go_wp2_with fail
        refine (HMA.out _).mono ?_
        rintro e w134 ⟨rfl, hb135⟩
        have HD136 := Lib.hid (HD130.out.call hb135)
        clear hb135 HD130 f131 f132 f133
        have f137 : w134.cell? ⟨w.heap.size, 0, none⟩ = some (.bool an) := HD136.out.c0 (i := 3) (b := w.heap.size) (d := ⟨an, al, ax⟩) rfl
        have f138 : w134.cell? ⟨w.heap.size, 1, none⟩ = some (.string (bs al)) := HD136.out.c1 (i := 3) (b := w.heap.size) (d := ⟨an, al, ax⟩) rfl
        have f139 : w134.cell? ⟨w.heap.size, 2, none⟩ = some (.int .i64 ax) := HD136.out.c2 (i := 3) (b := w.heap.size) (d := ⟨an, al, ax⟩) rfl
        go_wp2_with fail
        refine (HMA.out _).mono ?_
        rintro e w140 ⟨rfl, hb141⟩
        have HD142 := Lib.hid (HD136.out.call hb141)
        clear hb141 HD136 f137 f138 f139
        have f143 : w140.cell? ⟨w.heap.size, 0, none⟩ = some (.bool an) := HD142.out.c0 (i := 3) (b := w.heap.size) (d := ⟨an, al, ax⟩) rfl
        have f144 : w140.cell? ⟨w.heap.size, 1, none⟩ = some (.string (bs al)) := HD142.out.c1 (i := 3) (b := w.heap.size) (d := ⟨an, al, ax⟩) rfl
        have f145 : w140.cell? ⟨w.heap.size, 2, none⟩ = some (.int .i64 ax) := HD142.out.c2 (i := 3) (b := w.heap.size) (d := ⟨an, al, ax⟩) rfl
        have f146 : w140.cell? ⟨w125.heap.size, 0, none⟩ = some (.bool (!an)) := HD142.out.c0 (i := 0) (b := w125.heap.size) (d := ⟨(!an), al, ax⟩) rfl
        have f147 : w140.cell? ⟨w125.heap.size, 1, none⟩ = some (.string (bs al)) := HD142.out.c1 (i := 0) (b := w125.heap.size) (d := ⟨(!an), al, ax⟩) rfl
        have f148 : w140.cell? ⟨w125.heap.size, 2, none⟩ = some (.int .i64 ax) := HD142.out.c2 (i := 0) (b := w125.heap.size) (d := ⟨(!an), al, ax⟩) rfl
        go_wp2_with (refine (num_ok _ _).mono ?_; rintro e9 w9 ⟨rfl, rfl⟩)
        refine (HMA.out _).mono ?_
        rintro e w149 ⟨rfl, hb150⟩
        have HD151 := Lib.hid (HD142.out.call hb150)
        clear hb150 HD142 f143 f144 f145 f146 f147 f148
        have f152 : w149.cell? ⟨w.heap.size + 1, 0, none⟩ = some (.bool bn) := HD151.out.c0 (i := 2) (b := w.heap.size + 1) (d := ⟨bn, bl, bx⟩) rfl
        have f153 : w149.cell? ⟨w.heap.size + 1, 1, none⟩ = some (.string (bs bl)) := HD151.out.c1 (i := 2) (b := w.heap.size + 1) (d := ⟨bn, bl, bx⟩) rfl
        have f154 : w149.cell? ⟨w.heap.size + 1, 2, none⟩ = some (.int .i64 bx) := HD151.out.c2 (i := 2) (b := w.heap.size + 1) (d := ⟨bn, bl, bx⟩) rfl
        go_wp2_with fail
        refine (HMB.out _).mono ?_
        rintro e w155 ⟨rfl, hb156⟩
        have HD157 := Lib.hid (HD151.out.call hb156)
        clear hb156 HD151 f152 f153 f154
        have f158 : w155.cell? ⟨w.heap.size, 0, none⟩ = some (.bool an) := HD157.out.c0 (i := 3) (b := w.heap.size) (d := ⟨an, al, ax⟩) rfl
        have f159 : w155.cell? ⟨w.heap.size, 1, none⟩ = some (.string (bs al)) := HD157.out.c1 (i := 3) (b := w.heap.size) (d := ⟨an, al, ax⟩) rfl
        have f160 : w155.cell? ⟨w.heap.size, 2, none⟩ = some (.int .i64 ax) := HD157.out.c2 (i := 3) (b := w.heap.size) (d := ⟨an, al, ax⟩) rfl
        have f161 : w155.cell? ⟨w.heap.size + 1, 0, none⟩ = some (.bool bn) := HD157.out.c0 (i := 2) (b := w.heap.size + 1) (d := ⟨bn, bl, bx⟩) rfl
        have f162 : w155.cell? ⟨w.heap.size + 1, 1, none⟩ = some (.string (bs bl)) := HD157.out.c1 (i := 2) (b := w.heap.size + 1) (d := ⟨bn, bl, bx⟩) rfl
        have f163 : w155.cell? ⟨w.heap.size + 1, 2, none⟩ = some (.int .i64 bx) := HD157.out.c2 (i := 2) (b := w.heap.size + 1) (d := ⟨bn, bl, bx⟩) rfl
        go_wp2_with fail
        refine (HRP.out _).mono ?_
        rintro e w164 ⟨rfl, hb165⟩
        have HD166 := Lib.hid (HD157.out.call hb165)
        clear hb165 HD157 f158 f159 f160 f161 f162 f163
        obtain ⟨w167, hw168⟩ : ∃ w9, w9 = w164.alloc (.cells #[.bool mn, .string (bs ml), .int .i64 mx] 24) := ⟨_, rfl⟩
        have HD169 : Hid (Decs w w167 [(w164.heap.size, ⟨mn, ml, mx⟩), (w125.heap.size, ⟨(!an), al, ax⟩), (w116.heap.size, ⟨mn, ml, mx⟩), (w.heap.size + 1, ⟨bn, bl, bx⟩), (w.heap.size, ⟨an, al, ax⟩)]) := Lib.hid (by rw [hw168]; exact HD166.out.var mn ml mx)
        clear HD166
        go_upto_region 28 with fail
        rw [← hw168]
        clear hw168
        have f170 : w167.cell? ⟨w.heap.size, 0, none⟩ = some (.bool an) := HD169.out.c0 (i := 4) (b := w.heap.size) (d := ⟨an, al, ax⟩) rfl
        have f171 : w167.cell? ⟨w.heap.size, 1, none⟩ = some (.string (bs al)) := HD169.out.c1 (i := 4) (b := w.heap.size) (d := ⟨an, al, ax⟩) rfl
        have f172 : w167.cell? ⟨w.heap.size, 2, none⟩ = some (.int .i64 ax) := HD169.out.c2 (i := 4) (b := w.heap.size) (d := ⟨an, al, ax⟩) rfl
        have f173 : w167.cell? ⟨w.heap.size + 1, 0, none⟩ = some (.bool bn) := HD169.out.c0 (i := 3) (b := w.heap.size + 1) (d := ⟨bn, bl, bx⟩) rfl
        have f174 : w167.cell? ⟨w.heap.size + 1, 1, none⟩ = some (.string (bs bl)) := HD169.out.c1 (i := 3) (b := w.heap.size + 1) (d := ⟨bn, bl, bx⟩) rfl
        have f175 : w167.cell? ⟨w.heap.size + 1, 2, none⟩ = some (.int .i64 bx) := HD169.out.c2 (i := 3) (b := w.heap.size + 1) (d := ⟨bn, bl, bx⟩) rfl
        go_wp2_with fail
        refine (HRC.out _).mono ?_
        rintro e w176 ⟨rfl, hb177⟩
        have HD178 := Lib.hid (HD169.out.call hb177)
        clear hb177 HD169 f170 f171 f172 f173 f174 f175
        have f179 : w176.cell? ⟨w116.heap.size, 0, none⟩ = some (.bool mn) := HD178.out.c0 (i := 2) (b := w116.heap.size) (d := ⟨mn, ml, mx⟩) rfl
        have f180 : w176.cell? ⟨w116.heap.size, 1, none⟩ = some (.string (bs ml)) := HD178.out.c1 (i := 2) (b := w116.heap.size) (d := ⟨mn, ml, mx⟩) rfl
        have f181 : w176.cell? ⟨w116.heap.size, 2, none⟩ = some (.int .i64 mx) := HD178.out.c2 (i := 2) (b := w116.heap.size) (d := ⟨mn, ml, mx⟩) rfl
        have f182 : w176.cell? ⟨w164.heap.size, 0, none⟩ = some (.bool mn) := HD178.out.c0 (i := 0) (b := w164.heap.size) (d := ⟨mn, ml, mx⟩) rfl
        have f183 : w176.cell? ⟨w164.heap.size, 1, none⟩ = some (.string (bs ml)) := HD178.out.c1 (i := 0) (b := w164.heap.size) (d := ⟨mn, ml, mx⟩) rfl
        have f184 : w176.cell? ⟨w164.heap.size, 2, none⟩ = some (.int .i64 mx) := HD178.out.c2 (i := 0) (b := w164.heap.size) (d := ⟨mn, ml, mx⟩) rfl
        go_wp2_with (refine (num_ok _ _).mono ?_; rintro e9 w9 ⟨rfl, rfl⟩)
        refine (HWK.out _ (HT.out.below HD178.out.below)).mono ?_
        rintro e wz ⟨rfl, hbz⟩
        have HBZ := Lib.hid (Below.call HD178.out.below hbz)
        clear hbz f179 f180 f181 f182 f183 f184
        go_wp2
        go_ret
        exact ⟨rfl, HBZ.out⟩
end Go.Proofs.YtlcbjikiodmlfaaGreatDoor
