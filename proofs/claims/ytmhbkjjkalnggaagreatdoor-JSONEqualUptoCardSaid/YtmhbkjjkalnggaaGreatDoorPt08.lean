import Derived.Test.YtmhbkjjkalnggaaGreatDoorPt07
namespace Go.Proofs.YtmhbkjjkalnggaaGreatDoor
open Go.RowKit
set_option maxRecDepth 1000000
set_option maxHeartbeats 8000000
def prF (w : World) (l : List UInt8) (h : Nat -> Value) (v : Value) (pl pw sg : Int) (neg : Bool) : List Value := [.string (bs l), h 1, .pointer (some ⟨w.heap.size, 0, none⟩), .int .i64 0, .pointer (some ⟨w.heap.size + 1, 0, none⟩), v, .int .i64 pl, .int .i64 pw, .int .i64 sg, .bool neg, h 10, h 11, h 12, h 13, h 14, h 15, h 16, h 17, h 18, h 19, h 20, h 21, h 22, h 23, h 24, h 25, h 26, h 27, h 28, h 29, h 30, h 31, h 32, h 33, h 34, h 35, h 36, h 37, h 38, h 39, h 40, h 41, h 42, h 43, h 44, h 45, h 46, h 47, h 48, h 49, h 50, h 51, h 52, h 53, h 54, h 55, h 56, h 57, h 58, h 59, h 60, h 61, h 62, h 63, h 64, h 65, h 66, h 67, h 68, h 69, h 70, h 71, h 72, h 73, h 74, h 75, h 76, h 77, h 78, h 79, h 80, h 81, h 82, h 83, h 84, h 85]
theorem prF_end {K : Act -> World -> Prop} {a' : Act} {W' : World} (w : World) (l : List UInt8) (v : Value) (pl pw sg : Int) (neg : Bool) (e : a' = ⟨(prF w l (fun k => a'.tmps.getD k undef) v pl pw sg neg).toArray, []⟩) (h : K ⟨(prF w l (fun k => a'.tmps.getD k undef) v pl pw sg neg).toArray, []⟩ W') : K a' W' := by
 rw [<- e] at h
 exact h
structure PrS (w : World) (l : List UInt8) (k : Nat) (v : Value) (ds : List UInt8) (W : World) : Prop where
 rd : RdAt W (w.heap.size + 1) l k
 res : Row W w.heap.size 24 #[.bool false, .string ⟨#[]⟩, .int .i64 0]
 dig : Lies W (fun g => w.heap.size + 2 <= g) 5 1 v ds.length (u8s ds)
 below : Below w.heap.size w W
 size : w.heap.size + 2 <= W.heap.size
 kl : k <= l.length
 len : l.length <= 1000
theorem PrS.call {w W W' : World} {l : List UInt8} {k : Nat} {v : Value} {ds : List UInt8} (s : PrS w l k v ds W) (hb : Below W.heap.size W W') : PrS w l k v ds W' :=
 ⟨s.rd.call hb, s.res.call hb, s.dig.below hb, s.below.call hb, Nat.le_trans s.size hb.size, s.kl, s.len⟩
theorem PrS.went {w W W' : World} {l : List UInt8} {k k' : Nat} {v : Value} {ds : List UInt8} (s : PrS w l k v ds W) (hw : Went (w.heap.size + 1) l k' W W') (hk : k' <= l.length) : PrS w l k' v ds W' :=
 ⟨hw.1, s.res.kept hw.2 (by omega), s.dig.kept hw.2 (fun g hg h9 => by omega), s.below.trans (hw.2.below s.below.size (fun g hg => by omega)), Nat.le_trans s.size hw.2.size, hk, s.len⟩
theorem PrS.more {w W W1 W' : World} {l : List UInt8} {k : Nat} {v v' : Value} {ds : List UInt8} {c : UInt8} {u : Value} (hu : u = .int .u8 (c.toNat : Int)) (s : PrS w l k v ds W) (hb : Below W.heap.size W W1)
   (hl : Lies W' (grow (fun g => w.heap.size + 2 <= g) W1) 5 1 v' (ds.length + 1) (u8s ds ++ [u])) (hk : Kept (fun g => w.heap.size + 2 <= g /\ Spare v g /\ ∃ cur, W1.heap[g]? = some (.cells cur 5 (0, 0))) W1 W') : PrS w l k v' (ds ++ [c]) W' := by
 subst hu
 have s1 := s.call hb
 refine ⟨Row.kept s1.rd hk (fun h9 => by have := h9.1; omega), s1.res.kept hk (fun h9 => by have := h9.1; omega), ?_, s1.below.trans (hk.below s1.below.size (fun g hg => by have := hg.1; omega)), Nat.le_trans s1.size hk.size, s1.kl, s1.len⟩
 rw [u8s_append, List.length_append, List.length_singleton]
 exact hl.mono fun g hg => by
   rcases hg with hg | hg
   · exact hg
   · exact Nat.le_trans s1.size hg
def scopeOf : Code -> Code
 | .scope c => c
 | .seq _ b => scopeOf b
 | _ => .skip
def tailOf : Code -> Code
 | .seq _ b => b
 | _ => .skip
noncomputable def prBody : Code := scopeOf (Tryz.f129.body.getD .skip)
noncomputable def restOf (i : Nat) : Code := (findLabel prBody i).getD .skip
def comeTo (w W : World) : Nat := match W.cell? ⟨w.heap.size + 1, 1, none⟩ with
 | some (.int _ k) => k.toNat
 | _ => 0
theorem PrS.come {w W : World} {l : List UInt8} {k : Nat} {v : Value} {ds : List UInt8} (s : PrS w l k v ds W) : comeTo w W = k := by
 unfold comeTo
 rw [s.rd.cell (i := 1) rfl]
 simp
def rank : Nat -> Nat
 | 2 => 6
 | 0 => 5
 | 4 => 4
 | 3 => 3
 | 6 => 2
 | 5 => 1
 | _ => 0
def meas (w : World) (l : List UInt8) (i : Nat) (W : World) : Nat := (l.length - comeTo w W) * 8 + rank i
def AtL (l : List UInt8) (i : Nat) (k : Nat) (ds : List UInt8) (pl pw sg : Int) (neg : Bool) : Prop :=
 match i with
 | 2 => digAt l k = true /\ pl = 0 /\ pw = 0 /\ sg = 1 /\ Digs ds /\ ds.length <= k /\ parts l = gAhead neg ds (l.drop k)
 | 0 => pl = 0 /\ pw = 0 /\ sg = 1 /\ Digs ds /\ ds.length <= k /\ parts l = gPoint neg ds (l.drop k)
 | 4 => ∃ a b, ds = a ++ b /\ digAt l k = true /\ pl = b.length /\ pw = 0 /\ sg = 1 /\ Digs ds /\ ds.length <= k /\ parts l = gBehind neg a b (l.drop k)
 | 3 => ∃ a b, ds = a ++ b /\ pl = b.length /\ pw = 0 /\ sg = 1 /\ Digs ds /\ ds.length <= k /\ parts l = gRaised neg a b (l.drop k)
 | 6 => ∃ a b q s, ds = a ++ b /\ digAt l k = true /\ pl = b.length /\ pw = (min (num q) 3000 : Nat) /\ sg = (if s then -1 else 1) /\ Digs ds /\ ds.length <= k /\ parts l = gRaise neg a b s q (l.drop k)
 | 5 => ∃ a b q s, ds = a ++ b /\ pl = b.length /\ pw = (min (num q) 3000 : Nat) /\ sg = (if s then -1 else 1) /\ Digs ds /\ ds.length <= k /\ parts l = gEnd neg a b s q (l.drop k)
 | 1 => parts l = none
 | _ => False
def JP (w : World) (l : List UInt8) (i : Nat) (a : Act) (W : World) : Prop :=
 ∃ h k v ds pl pw sg neg, a = ⟨(prF w l h v pl pw sg neg).toArray, []⟩ /\ PrS w l k v ds W /\ AtL l i k ds pl pw sg neg
def QP (w : World) (l : List UInt8) : Exit -> Act -> World -> Prop := bodyPost Tryz.prog Tryz.f129 (Told w (parseD l) (parseE l))
def JM (w : World) (l : List UInt8) (m : Nat) (i : Nat) (a : Act) (W : World) : Prop := JP w l i a W /\ meas w l i W < m
theorem JM.of {w W : World} {l : List UInt8} {m i : Nat} {k : Nat} {v : Value} {ds : List UInt8} {a : Act} (pl pw sg : Int) (neg : Bool) (e : a = ⟨(prF w l (fun k => a.tmps.getD k undef) v pl pw sg neg).toArray, []⟩) (s : PrS w l k v ds W) (x : AtL l i k ds pl pw sg neg) (hm : (l.length - k) * 8 + rank i < m) : JM w l m i a W :=
 ⟨⟨_, k, v, ds, pl, pw, sg, neg, e, s, x⟩, by unfold meas; rw [s.come]; exact hm⟩
theorem JP.of {w W : World} {l : List UInt8} {i : Nat} {k : Nat} {v : Value} {ds : List UInt8} {a : Act} (pl pw sg : Int) (neg : Bool) (e : a = ⟨(prF w l (fun k => a.tmps.getD k undef) v pl pw sg neg).toArray, []⟩) (s : PrS w l k v ds W) (x : AtL l i k ds pl pw sg neg) : JP w l i a W :=
 ⟨_, k, v, ds, pl, pw, sg, neg, e, s, x⟩
theorem jumps_imp (w : World) (l : List UInt8) (m : Nat) : ∀ (e : Exit) (a : Act) (W : World), jumps (JM w l m) (QP w l) e a W -> jumps (JP w l) (QP w l) e a W := fun e a W h => by
 cases e <;> first | exact h | exact (h : JM w l m _ a W).1
theorem pr_wrong (w : World) (l : List UInt8) (m : Nat) (h : Nat -> Value) (k : Nat) (v : Value) (ds : List UInt8) (pl pw sg : Int) (neg : Bool) (W : World) (s : PrS w l k v ds W) (x : AtL l 1 k ds pl pw sg neg) (_hm : (l.length - k) * 8 + rank 1 <= m) :
   Code.wp Tryz.prog (tailOf (restOf 1)) (jumps (JM w l m) (QP w l)) ⟨(prF w l h v pl pw sg neg).toArray, []⟩ W := by
 have hpd : parseD l = Dec.zero /\ parseE l = 170 := by
   unfold parseD parseE
   have hx : parts l = none := x
   rw [if_neg (by have := s.len; omega), if_neg (by have := s.len; omega), hx]
   exact ⟨rfl, rfl⟩
 have HPD := hid hpd
 have hr := s.res
 have y0 := hr.cell (i := 0) (v := .bool false) rfl
 have y1 := hr.cell (i := 1) (v := .string ⟨#[]⟩) rfl
 have y2 := hr.cell (i := 2) (v := .int .i64 0) rfl
 have g0 := hr.free 0
 have g1 := hr.free 1
 have g2 := hr.free 2
 have HS := hid s
 have HR := hid hr
 clear s x hr hpd
 conv => arg 2; whnf
 dsimp only [prF]
 go_wp2_with fail
 simp only [jumps]
 unfold QP
 have hrow : Row (((W.setCell ⟨w.heap.size, 0, none⟩ (.bool false)).setCell ⟨w.heap.size, 1, none⟩ (.string ⟨#[]⟩)).setCell ⟨w.heap.size, 2, none⟩ (.int .i64 0)) w.heap.size 24 #[.bool false, .string ⟨#[]⟩, .int .i64 0] := by
   simpa using ((HR.out.set_ 0 (.bool false)).set_ 1 (.string ⟨#[]⟩)).set_ 2 (.int .i64 0)
 refine bodyPost_ret_by (results_row_tmp rfl _ _ w.heap.size #[.bool false, .string ⟨#[]⟩, .int .i64 0] rfl (load_dec hrow rfl)) rfl ?_
 exact ⟨by rw [HPD.out.1, HPD.out.2]; rfl, ((HS.out.below.setCell (p := ⟨w.heap.size, 0, none⟩) (Nat.le_refl _) _).setCell (p := ⟨w.heap.size, 1, none⟩) (Nat.le_refl _) _).setCell (p := ⟨w.heap.size, 2, none⟩) (Nat.le_refl _) _⟩
theorem pr_end (w : World) (l : List UInt8) (hT : PowTab w) (m : Nat) (h : Nat -> Value) (k : Nat) (v : Value) (ds : List UInt8) (pl pw sg : Int) (neg : Bool) (W : World) (s : PrS w l k v ds W) (x : AtL l 5 k ds pl pw sg neg) (hm : (l.length - k) * 8 + rank 5 <= m) :
   Code.wp Tryz.prog (tailOf (restOf 5)) (jumps (JM w l m) (QP w l)) ⟨(prF w l h v pl pw sg neg).toArray, []⟩ W := by
 obtain ⟨a, b, q, sn, hds, hpl, hpw, hsg, hd, hlk, hx⟩ := x
 obtain ⟨B, hB⟩ : ∃ B, B = b.length := ⟨_, rfl⟩
 obtain ⟨P, hP⟩ : ∃ P, P = min (num q) 3000 := ⟨_, rfl⟩
 rw [<- hB] at hpl
 rw [<- hP] at hpw
 subst hpl hpw hsg
 have hP3 : P <= 3000 := by omega
 have hBl : B <= ds.length := by rw [hds, hB]; simp
 have hkl := s.kl
 have hll := s.len
 have hs := bs_size l
 have c1 := s.rd.cell (i := 1) (v := .int .i64 (k : Int)) rfl
 have hH : ∃ A2 c2, v = .slice A2 ds.length c2 /\ Holds W A2 ds.length 1 (u8s ds) := by
   obtain ⟨A9, c9, e9, _, _, h9⟩ := s.dig.holds
   exact ⟨A9, c9, e9, h9⟩
 obtain ⟨A2, c2, rfl, hH⟩ := hH
 have hcv : (convert 35 9 (.slice A2 ds.length c2)).run Tryz.prog W = .ok (.string (bs ds)) W := run_text_bs hH 35 9 5 c2 Tryz.underlying35 Tryz.underlying5 Tryz.underlying9
 have HLA : Hid (Calls Tryz.prog 163 #[.string (bs ds), .int .i64 0] W (NumPost W (num ds * 10 ^ 0))) := hid (laid_ok ds 0 W hd (by omega) (by omega))
 have HWL : Hid ((wds (num ds * 10 ^ 0)).length <= 100000) := hid (by
   rw [Nat.pow_zero, Nat.mul_one]
   have h1 := num_lt hd
   have h2 : 10 ^ ds.length <= 10 ^ (9 * ds.length) := Nat.pow_le_pow_right (by omega) (by omega)
   rw [ten_nine] at h2
   have := wds_length_le (n := num ds) (k := ds.length) (by omega)
   omega)
 have HDE : Hid (k = l.length -> mkD neg (num ds * 10 ^ 0) ((if sn then -1 else 1) * (P : Int) - (B : Int)) = parseD l /\ mkE neg (num ds * 10 ^ 0) ((if sn then -1 else 1) * (P : Int) - (B : Int)) = parseE l) := hid fun hk => by
   have hp : parts l = some ⟨neg, a, b, sn, q⟩ := by
     rw [hx]; unfold gEnd
     rw [if_pos (by rw [hk]; exact List.drop_length)]
   have hc := mayB_cut neg sn hd (num q) B 3000 (by omega) (by omega) (Nat.le_refl _)
   rw [<- hP] at hc
   have he : (if sn then -1 else 1) * (P : Int) - (B : Int) = (if sn then -((P : Nat) : Int) else ((P : Nat) : Int)) - (B : Int) := by cases sn <;> simp
   rw [Nat.pow_zero, Nat.mul_one, he, hc.1, hc.2]
   unfold parseD parseE
   have hn : ¬ 1000 < l.length := by omega
   rw [if_neg hn, if_neg hn, hp]
   simp only [Parts.exp, <- hds, <- hB]
   exact ⟨trivial, trivial⟩
 have HNO : Hid (k ≠ l.length -> parts l = none) := hid fun hk => by
   rw [hx]; unfold gEnd
   rw [if_neg (fun e => by have := congrArg List.length e; rw [List.length_drop] at this; simp at this; omega)]
 have HS := hid s
 have HM := hid hm
 have HT := hid hT
 clear s hx hd hm hT hH hds hB hP
 conv => arg 2; whnf
 dsimp only [prF]
 by_cases hk : k = l.length
 · have HDE := hid (HDE.out hk)
   have hkk : ((k : Int) == (l.length : Int)) = true := by rw [beq_iff_eq]; omega
   have hdl : ds.length <= 1000 := by omega
   cases sn
   · go_wp2_with fail
     refine (HLA.out).mono ?_
     rintro e w3 ⟨v3, rfl, hw3, hb3⟩
     have HS3 := hid (HS.out.call hb3)
     have HW3 := hid hw3
     clear hb3 hw3 HLA
     go_wp2_with fail
     refine (told_ok neg v3 _ ((P : Int) - (B : Int)) w3 HW3.out HWL.out (HT.out.below HS3.out.below) (by omega) (by omega)).mono ?_
     rintro e w4 ⟨rfl, hb4⟩
     have s4 := HS3.out.call hb4
     have hr := s4.res
     have y0 := hr.cell (i := 0) (v := .bool false) rfl
     have y1 := hr.cell (i := 1) (v := .string ⟨#[]⟩) rfl
     have y2 := hr.cell (i := 2) (v := .int .i64 0) rfl
     have g0 := hr.free 0
     have g1 := hr.free 1
     have g2 := hr.free 2
     have HR := hid hr
     have HS4 := hid s4
     have hDE := HDE.out
     simp only [Bool.false_eq_true, if_false, Nat.pow_zero, Nat.mul_one, Int.one_mul] at hDE ⊢
     rw [hDE.1, hDE.2]
     obtain ⟨D, hD⟩ : ∃ D, D = parseD l := ⟨_, rfl⟩
     obtain ⟨E, hE⟩ : ∃ E, E = parseE l := ⟨_, rfl⟩
     rw [<- hD, <- hE]
     have HDD := hid hD
     have HEE := hid hE
     clear hD hE hDE s4 hr hb4 HS3 HDE HW3
     unfold decV
     go_wp2_with fail
     simp only [jumps]
     unfold QP
     have hrow : Row (((w4.setCell ⟨w.heap.size, 0, none⟩ (.bool D.neg)).setCell ⟨w.heap.size, 1, none⟩ (.string (bs D.digits))).setCell ⟨w.heap.size, 2, none⟩ (.int .i64 D.exp)) w.heap.size 24 #[.bool D.neg, .string (bs D.digits), .int .i64 D.exp] := by
       simpa using ((HR.out.set_ 0 (.bool D.neg)).set_ 1 (.string (bs D.digits))).set_ 2 (.int .i64 D.exp)
     refine bodyPost_ret_by (results_row_tmp rfl _ _ w.heap.size #[.bool D.neg, .string (bs D.digits), .int .i64 D.exp] rfl (load_dec hrow rfl)) rfl ?_
     exact ⟨by rw [<- HDD.out, <- HEE.out]; rfl, ((HS4.out.below.setCell (p := ⟨w.heap.size, 0, none⟩) (Nat.le_refl _) _).setCell (p := ⟨w.heap.size, 1, none⟩) (Nat.le_refl _) _).setCell (p := ⟨w.heap.size, 2, none⟩) (Nat.le_refl _) _⟩
   · go_wp2_with fail
     refine (HLA.out).mono ?_
     rintro e w3 ⟨v3, rfl, hw3, hb3⟩
     have HS3 := hid (HS.out.call hb3)
     have HW3 := hid hw3
     clear hb3 hw3 HLA
     go_wp2_with fail
     refine (told_ok neg v3 _ (-(P : Int) - (B : Int)) w3 HW3.out HWL.out (HT.out.below HS3.out.below) (by omega) (by omega)).mono ?_
     rintro e w4 ⟨rfl, hb4⟩
     have s4 := HS3.out.call hb4
     have hr := s4.res
     have y0 := hr.cell (i := 0) (v := .bool false) rfl
     have y1 := hr.cell (i := 1) (v := .string ⟨#[]⟩) rfl
     have y2 := hr.cell (i := 2) (v := .int .i64 0) rfl
     have g0 := hr.free 0
     have g1 := hr.free 1
     have g2 := hr.free 2
     have HR := hid hr
     have HS4 := hid s4
     have hDE := HDE.out
     simp only [if_true, Nat.pow_zero, Nat.mul_one, Int.one_mul, Int.neg_mul] at hDE ⊢
     rw [hDE.1, hDE.2]
     obtain ⟨D, hD⟩ : ∃ D, D = parseD l := ⟨_, rfl⟩
     obtain ⟨E, hE⟩ : ∃ E, E = parseE l := ⟨_, rfl⟩
     rw [<- hD, <- hE]
     have HDD := hid hD
     have HEE := hid hE
     clear hD hE hDE s4 hr hb4 HS3 HDE HW3
     unfold decV
     go_wp2_with fail
     simp only [jumps]
     unfold QP
     have hrow : Row (((w4.setCell ⟨w.heap.size, 0, none⟩ (.bool D.neg)).setCell ⟨w.heap.size, 1, none⟩ (.string (bs D.digits))).setCell ⟨w.heap.size, 2, none⟩ (.int .i64 D.exp)) w.heap.size 24 #[.bool D.neg, .string (bs D.digits), .int .i64 D.exp] := by
       simpa using ((HR.out.set_ 0 (.bool D.neg)).set_ 1 (.string (bs D.digits))).set_ 2 (.int .i64 D.exp)
     refine bodyPost_ret_by (results_row_tmp rfl _ _ w.heap.size #[.bool D.neg, .string (bs D.digits), .int .i64 D.exp] rfl (load_dec hrow rfl)) rfl ?_
     exact ⟨by rw [<- HDD.out, <- HEE.out]; rfl, ((HS4.out.below.setCell (p := ⟨w.heap.size, 0, none⟩) (Nat.le_refl _) _).setCell (p := ⟨w.heap.size, 1, none⟩) (Nat.le_refl _) _).setCell (p := ⟨w.heap.size, 2, none⟩) (Nat.le_refl _) _⟩
 · have HNO := hid (HNO.out hk)
   have hkk : ((k : Int) == (l.length : Int)) = false := by rw [beq_eq_false_iff_ne]; omega
   clear hcv HLA HWL HDE
   generalize (if sn = true then (-1 : Int) else 1) = sgv
   go_wp2_with fail
   rename_i K0 hK0
   have HK0 := hid hK0
   clear hK0
   go_step3
   refine HK0.out _ _ ?_
   refine wp_code (tailOf (restOf 1)) (by kernel_rfl) ?_
   refine prF_end (K := fun a w => Code.wp _ _ _ a w) w l (.slice A2 ds.length c2) B P sgv neg ?_ ?_
   · kernel_rfl
   · exact pr_wrong w l m _ k _ ds _ _ _ neg W HS.out HNO.out (by have := HM.out; simp only [rank] at this ⊢; omega)
theorem pr_raise (w : World) (l : List UInt8) (hT : PowTab w) (m : Nat) (h : Nat -> Value) (k : Nat) (v : Value) (ds : List UInt8) (pl pw sg : Int) (neg : Bool) (W : World) (s : PrS w l k v ds W) (x : AtL l 6 k ds pl pw sg neg) (hm : (l.length - k) * 8 + rank 6 <= m) :
   Code.wp Tryz.prog (tailOf (restOf 6)) (jumps (JM w l m) (QP w l)) ⟨(prF w l h v pl pw sg neg).toArray, []⟩ W := by
 obtain ⟨a, b, q, sn, hds, hdg, hpl, hpw, hsg, hd, hlk, hx⟩ := x
 obtain ⟨hkl, hcd⟩ := digAt_lt hdg
 obtain ⟨P, hP⟩ : ∃ P, P = min (num q) 3000 := ⟨_, rfl⟩
 rw [<- hP] at hpw
 subst hpw
 have hP3 : P <= 3000 := by omega
 have hll := s.len
 have hlo := isDig_lo hcd
 have hhi := isDig_hi hcd
 obtain ⟨y, hy⟩ : ∃ y, y = byteAt l k := ⟨_, rfl⟩
 obtain ⟨P', hP'⟩ : ∃ P', P' = min (num (q ++ [l.getD k 0])) 3000 := ⟨_, rfl⟩
 have hyv : dval (l.getD k 0) = y - 48 := by rw [hy]; rfl
 have hyl : 48 <= y /\ y <= 57 := by rw [hy]; exact ⟨hlo, hhi⟩
 have hPP : min (10 * (P : Int) + ((y : Int) - 48)) 3000 = (P' : Int) := by
   have := min_step (num q) (l.getD k 0) hcd
   rw [<- hP, hyv, <- hyv, <- num_snoc, <- hP', hyv] at this
   omega
 have HN := hid (next_ok (w.heap.size + 1) l k W s.rd hkl (by omega))
 rw [<- hy] at HN
 have HX : Hid (∀ kk ds2 pl2 sg2, kk = k + 1 -> ds2 = ds -> pl2 = pl -> sg2 = sg -> (digAt l kk = true -> AtL l 6 kk ds2 pl2 (P' : Int) sg2 neg) /\ (digAt l kk = false -> AtL l 5 kk ds2 pl2 (P' : Int) sg2 neg)) := hid (by
   rintro kk ds2 pl2 sg2 rfl rfl rfl rfl
   rw [gRaise_more hdg] at hx
   refine ⟨fun hn => ⟨a, b, q ++ [l.getD k 0], sn, hds, hn, hpl, by rw [hP'], hsg, hd, by omega, hx⟩, fun hn => ⟨a, b, q ++ [l.getD k 0], sn, hds, hpl, by rw [hP'], hsg, hd, by omega, by rw [hx, gRaise_stop hn]⟩⟩)
 have HS := hid s
 have HM := hid hm
 have HT := hid hT
 clear s hx hm hT hds hpl hsg hd hlk hdg hcd hlo hhi hP hP' hyv hy
 conv => arg 2; whnf
 dsimp only [prF]
 go_wp2_with fail
 refine HN.out.mono ?_
 rintro e w1 ⟨rfl, hw1⟩
 have HS1 := hid (HS.out.went hw1 (by omega))
 clear hw1 HS HN
 go_wp2_with fail
 refine (digit_ok (w.heap.size + 1) l (k + 1) w1 HS1.out.rd).mono ?_
 rintro e w2 ⟨rfl, hb2⟩
 have HS2 := hid (HS1.out.call hb2)
 clear hb2 HS1
 cases hdn : digAt l (k + 1) with
 | true =>
   have HXX := hid ((HX.out _ _ _ _ rfl rfl rfl rfl).1 hdn)
   clear HX hdn
   go_wp2_with fail
   go_step3
   simp only [Exit.then, jumps]
   refine JM.of (pl) ((P' : Int)) (sg) neg ?_ (HS2.out) (HXX.out) (by have := HM.out; simp only [rank] at this ⊢; omega)
   kernel_rfl
 | false =>
   have HXX := hid ((HX.out _ _ _ _ rfl rfl rfl rfl).2 hdn)
   clear HX hdn
   go_wp2_with fail
   rename_i K0 hK0
   have HK0 := hid hK0
   clear hK0
   go_step3
   refine HK0.out _ _ ?_
   refine wp_code (tailOf (restOf 5)) (by kernel_rfl) ?_
   refine prF_end (K := fun a w => Code.wp _ _ _ a w) w l (v) (pl) (P') (sg) neg ?_ ?_
   · kernel_rfl
   · exact pr_end w l HT.out m _ _ _ _ _ _ _ neg _ (HS2.out) (HXX.out) (by have := HM.out; simp only [rank] at this ⊢; omega)
theorem pr_raised (w : World) (l : List UInt8) (hT : PowTab w) (m : Nat) (h : Nat -> Value) (k : Nat) (v : Value) (ds : List UInt8) (pl pw sg : Int) (neg : Bool) (W : World) (s : PrS w l k v ds W) (x : AtL l 3 k ds pl pw sg neg) (hm : (l.length - k) * 8 + rank 3 <= m) :
   Code.wp Tryz.prog (tailOf (restOf 3)) (jumps (JM w l m) (QP w l)) ⟨(prF w l h v pl pw sg neg).toArray, []⟩ W := by
 obtain ⟨a, b, hds, hpl, rfl, rfl, hd, hlk, hx⟩ := x
 have hkl := s.kl
 have hll := s.len
 have HTK := hid (take_ok (w.heap.size + 1) [101, 69] l k W s.rd (by omega))
 have HX5 : Hid (takeAt [101, 69] l k = false -> AtL l 5 k ds pl 0 1 neg) := hid fun ht => ⟨a, b, [], false, hds, hpl, by rfl, by rfl, hd, hlk, by rw [hx, gRaised_no ht]⟩
 have HXE : Hid (takeAt [101, 69] l k = true -> ∀ (sn : Bool) (k' : Nat) (sg : Int), sg = (if sn then -1 else 1) -> ((takeAt [45] l (k + 1) = true /\ sn = true /\ k' = k + 2) ∨ (takeAt [45] l (k + 1) = false /\ sn = false /\ k' = if takeAt [43] l (k + 1) then k + 2 else k + 1)) -> (digAt l k' = true -> AtL l 6 k' ds pl 0 sg neg) /\ (digAt l k' = false -> AtL l 1 k' ds pl 0 sg neg)) := hid fun ht sn k' sg hsg hs => by
   have hr := gRaised_e (neg := neg) (a := a) (b := b) ht hs
   rw [hr] at hx
   have hk' : ds.length <= k' := by
     rcases hs with ⟨_, _, h⟩ | ⟨_, _, h⟩
     · omega
     · split at h <;> omega
   refine ⟨fun hd1 => ⟨a, b, [], sn, hds, hd1, hpl, by rfl, hsg, hd, hk', by rw [hx, hd1]; rfl⟩, fun hd1 => ?_⟩
   show parts l = none
   rw [hx, hd1]
   rfl
 have HS := hid s
 have HM := hid hm
 have HT := hid hT
 clear s hx hm hT hd hds hpl
 conv => arg 2; whnf
 dsimp only [prF]
 go_wp2_with fail
 refine HTK.out.mono ?_
 rintro e w1 ⟨rfl, hw1⟩
 cases ht : takeAt [101, 69] l k with
 | false =>
   rw [ht, if_neg (by simp)] at hw1
   have HS1 := hid (HS.out.went hw1 hkl)
   have HXX := hid (HX5.out ht)
   clear ht hw1 HTK HX5 HXE
   go_wp2_with fail
   go_step3
   simp only [Exit.then, jumps]
   refine JM.of (pl) (0) (1) neg ?_ (HS1.out) (HXX.out) (by have := HM.out; simp only [rank] at this ⊢; omega)
   kernel_rfl
 | true =>
   rw [ht, if_pos rfl] at hw1
   have hk1 := (takeAt_lt ht).1
   have HS1 := hid (HS.out.went hw1 hk1)
   have HXE := hid (HXE.out ht)
   clear hw1 HTK HS HX5 ht
   go_wp2_with fail
   refine (take_ok (w.heap.size + 1) [45] l (k + 1) w1 HS1.out.rd (by omega)).mono ?_
   rintro e w2 ⟨rfl, hw2⟩
   cases ht2 : takeAt [45] l (k + 1) with
   | true =>
     rw [ht2, if_pos rfl] at hw2
     have hk2 := (takeAt_lt ht2).1
     have HS2 := hid (HS1.out.went hw2 hk2)
     clear hw2 HS1
     go_wp2_with fail
     refine (digit_ok (w.heap.size + 1) l (k + 2) w2 HS2.out.rd).mono ?_
     rintro e w9 ⟨rfl, hb9⟩
     have HS9 := hid (HS2.out.call hb9)
     clear hb9 HS2
     have hxx := HXE.out true (k + 2) (-1) rfl (.inl ⟨ht2, rfl, rfl⟩)
     cases hdn : digAt l (k + 2) with
     | false =>
       have HXX := hid (hxx.2 hdn)
       clear hxx hdn HXE
       go_wp2_with fail
       go_step3
       simp only [Exit.then, jumps]
       refine JM.of (pl) (0) ((-1)) neg ?_ (HS9.out) (HXX.out) (by have := HM.out; simp only [rank] at this ⊢; omega)
       kernel_rfl
     | true =>
       have HXX := hid (hxx.1 hdn)
       clear hxx hdn HXE
       go_wp2_with fail
       rename_i K0 hK0
       have HK0 := hid hK0
       clear hK0
       go_step3
       refine HK0.out _ _ ?_
       refine wp_code (tailOf (restOf 6)) (by kernel_rfl) ?_
       refine prF_end (K := fun a w => Code.wp _ _ _ a w) w l (v) (pl) (0) ((-1)) neg ?_ ?_
       · kernel_rfl
       · exact pr_raise w l HT.out m _ _ _ _ _ _ _ neg _ (HS9.out) (HXX.out) (by have := HM.out; simp only [rank] at this ⊢; omega)
   | false =>
     rw [ht2, if_neg (by simp)] at hw2
     have HS2 := hid (HS1.out.went hw2 hk1)
     clear hw2 HS1
     go_wp2_with fail
     refine (take_ok (w.heap.size + 1) [43] l (k + 1) w2 HS2.out.rd (by omega)).mono ?_
     rintro e w3 ⟨rfl, hw3⟩
     cases ht3 : takeAt [43] l (k + 1) with
     | true =>
       rw [ht3, if_pos rfl] at hw3
       have hk3 := (takeAt_lt ht3).1
       have HS3 := hid (HS2.out.went hw3 hk3)
       clear hw3 HS2
       go_wp2_with fail
       refine (digit_ok (w.heap.size + 1) l (k + 2) w3 HS3.out.rd).mono ?_
       rintro e w9 ⟨rfl, hb9⟩
       have HS9 := hid (HS3.out.call hb9)
       clear hb9 HS3
       have hxx := HXE.out false (k + 2) 1 rfl (.inr ⟨ht2, rfl, by rw [ht3]; rfl⟩)
       cases hdn : digAt l (k + 2) with
       | false =>
         have HXX := hid (hxx.2 hdn)
         clear hxx hdn HXE
         go_wp2_with fail
         go_step3
         simp only [Exit.then, jumps]
         refine JM.of (pl) (0) (1) neg ?_ (HS9.out) (HXX.out) (by have := HM.out; simp only [rank] at this ⊢; omega)
         kernel_rfl
       | true =>
         have HXX := hid (hxx.1 hdn)
         clear hxx hdn HXE
         go_wp2_with fail
         rename_i K0 hK0
         have HK0 := hid hK0
         clear hK0
         go_step3
         refine HK0.out _ _ ?_
         refine wp_code (tailOf (restOf 6)) (by kernel_rfl) ?_
         refine prF_end (K := fun a w => Code.wp _ _ _ a w) w l (v) (pl) (0) (1) neg ?_ ?_
         · kernel_rfl
         · exact pr_raise w l HT.out m _ _ _ _ _ _ _ neg _ (HS9.out) (HXX.out) (by have := HM.out; simp only [rank] at this ⊢; omega)
     | false =>
       rw [ht3, if_neg (by simp)] at hw3
       have HS3 := hid (HS2.out.went hw3 hk1)
       clear hw3 HS2
       go_wp2_with fail
       refine (digit_ok (w.heap.size + 1) l (k + 1) w3 HS3.out.rd).mono ?_
       rintro e w9 ⟨rfl, hb9⟩
       have HS9 := hid (HS3.out.call hb9)
       clear hb9 HS3
       have hxx := HXE.out false (k + 1) 1 rfl (.inr ⟨ht2, rfl, by rw [ht3]; rfl⟩)
       cases hdn : digAt l (k + 1) with
       | false =>
         have HXX := hid (hxx.2 hdn)
         clear hxx hdn HXE
         go_wp2_with fail
         go_step3
         simp only [Exit.then, jumps]
         refine JM.of (pl) (0) (1) neg ?_ (HS9.out) (HXX.out) (by have := HM.out; simp only [rank] at this ⊢; omega)
         kernel_rfl
       | true =>
         have HXX := hid (hxx.1 hdn)
         clear hxx hdn HXE
         go_wp2_with fail
         rename_i K0 hK0
         have HK0 := hid hK0
         clear hK0
         go_step3
         refine HK0.out _ _ ?_
         refine wp_code (tailOf (restOf 6)) (by kernel_rfl) ?_
         refine prF_end (K := fun a w => Code.wp _ _ _ a w) w l (v) (pl) (0) (1) neg ?_ ?_
         · kernel_rfl
         · exact pr_raise w l HT.out m _ _ _ _ _ _ _ neg _ (HS9.out) (HXX.out) (by have := HM.out; simp only [rank] at this ⊢; omega)
theorem pr_behind (w : World) (l : List UInt8) (hT : PowTab w) (m : Nat) (h : Nat -> Value) (k : Nat) (v : Value) (ds : List UInt8) (pl pw sg : Int) (neg : Bool) (W : World) (s : PrS w l k v ds W) (x : AtL l 4 k ds pl pw sg neg) (hm : (l.length - k) * 8 + rank 4 <= m) :
   Code.wp Tryz.prog (tailOf (restOf 4)) (jumps (JM w l m) (QP w l)) ⟨(prF w l h v pl pw sg neg).toArray, []⟩ W := by
 obtain ⟨a, b, hds, hdg, hpl, hpw, hsg, hd, hlk, hx⟩ := x
 obtain ⟨hkl, hcd⟩ := digAt_lt hdg
 have hll := s.len
 have hlo := isDig_lo hcd
 have hhi := isDig_hi hcd
 obtain ⟨y, hy⟩ : ∃ y, y = byteAt l k := ⟨_, rfl⟩
 have HY : Hid ((y : Int) = ((l.getD k 0).toNat : Int)) := hid (by rw [hy]; rfl)
 have hyl : 48 <= y /\ y <= 57 := by rw [hy]; exact ⟨hlo, hhi⟩
 have HN := hid (next_ok (w.heap.size + 1) l k W s.rd hkl (by omega))
 rw [<- hy] at HN
 obtain ⟨A2, c2, rfl, _, _⟩ := s.dig.form
 have hdc : Digs [l.getD k 0] := Digs.one hcd
 obtain ⟨B, hB⟩ : ∃ B, B = b.length := ⟨_, rfl⟩
 rw [<- hB] at hpl
 subst hpl hpw hsg
 have hBl : B <= ds.length := by rw [hds, hB]; simp
 have HX : Hid (∀ pl2 : Int, pl2 = (B : Int) + 1 -> (digAt l (k + 1) = true -> AtL l 4 (k + 1) (ds ++ [l.getD k 0]) pl2 0 1 neg) /\ (digAt l (k + 1) = false -> AtL l 3 (k + 1) (ds ++ [l.getD k 0]) pl2 0 1 neg)) := hid (by
   rintro pl2 rfl
   rw [gBehind_more hdg] at hx
   refine ⟨fun hn => ⟨a, b ++ [l.getD k 0], by rw [hds, List.append_assoc], hn, by simp [hB], rfl, rfl, hd.append hdc, (by rw [List.length_append, List.length_singleton]; omega), hx⟩, fun hn => ⟨a, b ++ [l.getD k 0], by rw [hds, List.append_assoc], by simp [hB], rfl, rfl, hd.append hdc, (by rw [List.length_append, List.length_singleton]; omega), by rw [hx, gBehind_stop hn]⟩⟩)
 have HS := hid s
 have HM := hid hm
 have HT := hid hT
 clear s hx hm hT hds hd hdg hcd hlo hhi hy hdc hB
 conv => arg 2; whnf
 dsimp only [prF]
 go_wp2_with fail
 refine HN.out.mono ?_
 rintro e w1 ⟨rfl, hw1⟩
 have HS1 := hid (HS.out.went hw1 (by omega))
 clear hw1 HS HN
 have hb5 : Below w1.heap.size w1 (w1.alloc (.cells #[.int .u8 (y : Int)] 5)) := (Below.refl _ _).alloc (Nat.le_refl _) _
 have HB5 := hid hb5
 have HS5 := hid (HS1.out.call hb5)
 have hsrc : Hid (Source (w1.alloc (.cells #[.int .u8 (y : Int)] 5)) (some ⟨w1.heap.size, 0, none⟩) 1 [.int .u8 (y : Int)]) := hid (.inr ⟨_, rfl, World.news_of_block (w := w1.alloc (.cells #[.int .u8 (y : Int)] 5)) (heap_alloc_new w1 _)⟩)
 clear hb5
 go_wp2_with (
      at_builtin
      refine wpList_append_any ?_ (fun g => w.heap.size + 2 <= g) (.tmp 37) (.tmp 40) 35 ?_ 5 1 1 (.int .u8 0) Tryz.underlying35 infoU8 rfl (by decide) (.slice A2 ds.length c2) ds.length (u8s ds) ?_ HS5.out.dig _ 1 1 [.int .u8 (y : Int)] ?_ rfl hsrc.out ?_ (by omega) (by decide) ?_
      · with_reducible rfl
      · with_reducible rfl
      · rfl
      · rfl
      · intro u hu; simp at hu; subst hu; rfl
      intro v' w6 hl6 hk6
      obtain ⟨A6, c6, rfl, _, _⟩ := hl6.form
      have HS6 : Hid (PrS w l (k + 1) (.slice A6 (ds.length + 1) c6) (ds ++ [l.getD k 0]) w6) := hid (PrS.more (by rw [HY.out]) HS1.out HB5.out hl6 hk6)
      clear hl6 hk6)
 refine (digit_ok (w.heap.size + 1) l (k + 1) w6 HS6.out.rd).mono ?_
 rintro e w7 ⟨rfl, hb7⟩
 have HS7 := hid (HS6.out.call hb7)
 clear hb7 HS6 HS1 HB5 HS5 hsrc HY
 cases hdn : digAt l (k + 1) with
 | true =>
   have HXX := hid ((HX.out _ rfl).1 hdn)
   clear HX hdn
   go_wp2_with fail
   go_step3
   simp only [Exit.then, jumps]
   refine JM.of ((B : Int) + 1) (0) (1) neg ?_ (HS7.out) (HXX.out) (by have := HM.out; simp only [rank] at this ⊢; omega)
   kernel_rfl
 | false =>
   have HXX := hid ((HX.out _ rfl).2 hdn)
   clear HX hdn
   go_wp2_with fail
   rename_i K0 hK0
   have HK0 := hid hK0
   clear hK0
   go_step3
   refine HK0.out _ _ ?_
   refine wp_code (tailOf (restOf 3)) (by kernel_rfl) ?_
   refine prF_end (K := fun a w => Code.wp _ _ _ a w) w l (.slice A6 (ds.length + 1) c6) ((B : Int) + 1) (0) (1) neg ?_ ?_
   · kernel_rfl
   · exact pr_raised w l HT.out m _ _ _ _ _ _ _ neg _ (HS7.out) (HXX.out) (by have := HM.out; simp only [rank] at this ⊢; omega)
theorem pr_point (w : World) (l : List UInt8) (hT : PowTab w) (m : Nat) (h : Nat -> Value) (k : Nat) (v : Value) (ds : List UInt8) (pl pw sg : Int) (neg : Bool) (W : World) (s : PrS w l k v ds W) (x : AtL l 0 k ds pl pw sg neg) (hm : (l.length - k) * 8 + rank 0 <= m) :
   Code.wp Tryz.prog (tailOf (restOf 0)) (jumps (JM w l m) (QP w l)) ⟨(prF w l h v pl pw sg neg).toArray, []⟩ W := by
 obtain ⟨rfl, rfl, rfl, hd, hlk, hx⟩ := x
 have hkl := s.kl
 have hll := s.len
 have HTK := hid (take_ok (w.heap.size + 1) [46] l k W s.rd (by omega))
 have HX := hid hx
 have HD := hid hd
 have HS := hid s
 have HM := hid hm
 have HT := hid hT
 clear s hx hm hT hd
 conv => arg 2; whnf
 dsimp only [prF]
 go_wp2_with fail
 refine HTK.out.mono ?_
 rintro e w1 ⟨rfl, hw1⟩
 cases ht : takeAt [46] l k with
 | false =>
   rw [ht, if_neg (by simp)] at hw1
   have HS1 := hid (HS.out.went hw1 hkl)
   have HXX : Hid (AtL l 3 k ds 0 0 1 neg) := hid ⟨ds, [], by simp, rfl, rfl, rfl, HD.out, hlk, by rw [HX.out, gPoint_no ht]⟩
   clear ht hw1 HTK
   go_wp2_with fail
   go_step3
   simp only [Exit.then, jumps]
   refine JM.of (0) (0) (1) neg ?_ (HS1.out) (HXX.out) (by have := HM.out; simp only [rank] at this ⊢; omega)
   kernel_rfl
 | true =>
   rw [ht, if_pos rfl] at hw1
   have hk1 := (takeAt_lt ht).1
   have HS1 := hid (HS.out.went hw1 hk1)
   clear hw1 HTK HS
   go_wp2_with fail
   refine (digit_ok (w.heap.size + 1) l (k + 1) w1 HS1.out.rd).mono ?_
   rintro e w7 ⟨rfl, hb7⟩
   have HS7 := hid (HS1.out.call hb7)
   clear hb7 HS1
   cases hdn : digAt l (k + 1) with
   | false =>
     have HXX : Hid (AtL l 1 (k + 1) ds 0 0 1 neg) := hid (by show parts l = none; rw [HX.out, gPoint_bad ht hdn])
     clear ht hdn
     go_wp2_with fail
     go_step3
     simp only [Exit.then, jumps]
     refine JM.of (0) (0) (1) neg ?_ (HS7.out) (HXX.out) (by have := HM.out; simp only [rank] at this ⊢; omega)
     kernel_rfl
   | true =>
     have HXX : Hid (AtL l 4 (k + 1) ds 0 0 1 neg) := hid ⟨ds, [], by simp, hdn, rfl, rfl, rfl, HD.out, by omega, by rw [HX.out, gPoint_yes ht hdn]⟩
     clear ht hdn
     go_wp2_with fail
     rename_i K0 hK0
     have HK0 := hid hK0
     clear hK0
     go_step3
     refine HK0.out _ _ ?_
     refine wp_code (tailOf (restOf 4)) (by kernel_rfl) ?_
     refine prF_end (K := fun a w => Code.wp _ _ _ a w) w l (v) (0) (0) (1) neg ?_ ?_
     · kernel_rfl
     · exact pr_behind w l HT.out m _ _ _ _ _ _ _ neg _ (HS7.out) (HXX.out) (by have := HM.out; simp only [rank] at this ⊢; omega)
theorem pr_ahead (w : World) (l : List UInt8) (hT : PowTab w) (m : Nat) (h : Nat -> Value) (k : Nat) (v : Value) (ds : List UInt8) (pl pw sg : Int) (neg : Bool) (W : World) (s : PrS w l k v ds W) (x : AtL l 2 k ds pl pw sg neg) (hm : (l.length - k) * 8 + rank 2 <= m) :
   Code.wp Tryz.prog (tailOf (restOf 2)) (jumps (JM w l m) (QP w l)) ⟨(prF w l h v pl pw sg neg).toArray, []⟩ W := by
 obtain ⟨hdg, rfl, rfl, rfl, hd, hlk, hx⟩ := x
 obtain ⟨hkl, hcd⟩ := digAt_lt hdg
 have hll := s.len
 have hlo := isDig_lo hcd
 have hhi := isDig_hi hcd
 obtain ⟨y, hy⟩ : ∃ y, y = byteAt l k := ⟨_, rfl⟩
 have HY : Hid ((y : Int) = ((l.getD k 0).toNat : Int)) := hid (by rw [hy]; rfl)
 have hyl : 48 <= y /\ y <= 57 := by rw [hy]; exact ⟨hlo, hhi⟩
 have HN := hid (next_ok (w.heap.size + 1) l k W s.rd hkl (by omega))
 rw [<- hy] at HN
 obtain ⟨A2, c2, rfl, _, _⟩ := s.dig.form
 have hdc : Digs [l.getD k 0] := Digs.one hcd
 have HX : Hid ((digAt l (k + 1) = true -> AtL l 2 (k + 1) (ds ++ [l.getD k 0]) 0 0 1 neg) /\ (digAt l (k + 1) = false -> AtL l 0 (k + 1) (ds ++ [l.getD k 0]) 0 0 1 neg)) := hid (by
   rw [gAhead_more hdg] at hx
   refine ⟨fun hn => ⟨hn, rfl, rfl, rfl, hd.append hdc, (by rw [List.length_append, List.length_singleton]; omega), hx⟩, fun hn => ⟨rfl, rfl, rfl, hd.append hdc, (by rw [List.length_append, List.length_singleton]; omega), by rw [hx, gAhead_stop hn]⟩⟩)
 have HS := hid s
 have HM := hid hm
 have HT := hid hT
 clear s hx hm hT hd hdg hcd hlo hhi hy hdc
 conv => arg 2; whnf
 dsimp only [prF]
 go_wp2_with fail
 refine HN.out.mono ?_
 rintro e w1 ⟨rfl, hw1⟩
 have HS1 := hid (HS.out.went hw1 (by omega))
 clear hw1 HS HN
 have hb5 : Below w1.heap.size w1 (w1.alloc (.cells #[.int .u8 (y : Int)] 5)) := (Below.refl _ _).alloc (Nat.le_refl _) _
 have HB5 := hid hb5
 have HS5 := hid (HS1.out.call hb5)
 have hsrc : Hid (Source (w1.alloc (.cells #[.int .u8 (y : Int)] 5)) (some ⟨w1.heap.size, 0, none⟩) 1 [.int .u8 (y : Int)]) := hid (.inr ⟨_, rfl, World.news_of_block (w := w1.alloc (.cells #[.int .u8 (y : Int)] 5)) (heap_alloc_new w1 _)⟩)
 clear hb5
 go_wp2_with (
      at_builtin
      refine wpList_append_any ?_ (fun g => w.heap.size + 2 <= g) (.tmp 24) (.tmp 27) 35 ?_ 5 1 1 (.int .u8 0) Tryz.underlying35 infoU8 rfl (by decide) (.slice A2 ds.length c2) ds.length (u8s ds) ?_ HS5.out.dig _ 1 1 [.int .u8 (y : Int)] ?_ rfl hsrc.out ?_ (by omega) (by decide) ?_
      · with_reducible rfl
      · with_reducible rfl
      · rfl
      · rfl
      · intro u hu; simp at hu; subst hu; rfl
      intro v' w6 hl6 hk6
      obtain ⟨A6, c6, rfl, _, _⟩ := hl6.form
      have HS6 : Hid (PrS w l (k + 1) (.slice A6 (ds.length + 1) c6) (ds ++ [l.getD k 0]) w6) := hid (PrS.more (by rw [HY.out]) HS1.out HB5.out hl6 hk6)
      clear hl6 hk6)
 refine (digit_ok (w.heap.size + 1) l (k + 1) w6 HS6.out.rd).mono ?_
 rintro e w7 ⟨rfl, hb7⟩
 have HS7 := hid (HS6.out.call hb7)
 clear hb7 HS6 HS1 HB5 HS5 hsrc HY
 cases hdn : digAt l (k + 1) with
 | true =>
   have HXX := hid (HX.out.1 hdn)
   clear HX hdn
   go_wp2_with fail
   go_step3
   simp only [Exit.then, jumps]
   refine JM.of (0) (0) (1) neg ?_ (HS7.out) (HXX.out) (by have := HM.out; simp only [rank] at this ⊢; omega)
   kernel_rfl
 | false =>
   have HXX := hid (HX.out.2 hdn)
   clear HX hdn
   go_wp2_with fail
   rename_i K0 hK0
   have HK0 := hid hK0
   clear hK0
   go_step3
   refine HK0.out _ _ ?_
   refine wp_code (tailOf (restOf 0)) (by kernel_rfl) ?_
   refine prF_end (K := fun a w => Code.wp _ _ _ a w) w l (.slice A6 (ds.length + 1) c6) (0) (0) (1) neg ?_ ?_
   · kernel_rfl
   · exact pr_point w l HT.out m _ _ _ _ _ _ _ neg _ (HS7.out) (HXX.out) (by have := HM.out; simp only [rank] at this ⊢; omega)
theorem pr_first (w : World) (l : List UInt8) (hT : PowTab w) (hl : l.length <= 1000) :
   Code.wp Tryz.prog prBody (jumps (JP w l) (QP w l)) ⟨#[.string (bs l), undef, .pointer (some ⟨w.heap.size, 0, none⟩), .int .i64 0, undef, undef, undef, undef, undef, undef, undef, undef, undef, undef, undef, undef, undef, undef, undef, undef, undef, undef, undef, undef, undef, undef, undef, undef, undef, undef, undef, undef, undef, undef, undef, undef, undef, undef, undef, undef, undef, undef, undef, undef, undef, undef, undef, undef, undef, undef, undef, undef, undef, undef, undef, undef, undef, undef, undef, undef, undef, undef, undef, undef, undef, undef, undef, undef, undef, undef, undef, undef, undef, undef, undef, undef, undef, undef, undef, undef, undef, undef, undef, undef, undef, undef], []⟩ (w.alloc (.cells #[.bool false, .string ⟨#[]⟩, .int .i64 0] 24)) := by
 obtain ⟨w0, hw0⟩ : ∃ w0, w0 = w.alloc (.cells #[.bool false, .string ⟨#[]⟩, .int .i64 0] 24) := ⟨_, rfl⟩
 have hb0 : Below w.heap.size w w0 := by subst hw0; exact (Below.refl _ _).alloc (Nat.le_refl _) _
 have hr0 : Row w0 w.heap.size 24 #[.bool false, .string ⟨#[]⟩, .int .i64 0] := by subst hw0; exact Row.new _ _ _
 have hz0 : w0.heap.size = w.heap.size + 1 := by subst hw0; simp
 rw [<- hw0]
 have hb1 : Below w0.heap.size w0 (w0.alloc (.cells #[.string (bs l), .int .i64 0] 178)) := (Below.refl _ _).alloc (Nat.le_refl _) _
 have hrd : RdAt (w0.alloc (.cells #[.string (bs l), .int .i64 0] 178)) (w.heap.size + 1) l 0 := by
   have := Row.new w0 178 #[.string (bs l), .int .i64 0]
   rw [hz0] at this
   exact this
 have HS1 : Hid (PrS w l 0 (.slice none 0 0) [] (w0.alloc (.cells #[.string (bs l), .int .i64 0] 178))) := hid
   ⟨hrd, hr0.call hb1, Lies.empty _ _ _ _ _, hb0.call hb1, by simp; omega, by omega, hl⟩
 have hs9 := bs_size l
 have hlt : decide ((1000 : Int) < (l.length : Int)) = false := by simp; omega
 have HZ := hid hz0
 have HT := hid hT
 clear hw0 hb0 hr0 hb1 hrd hT
 conv => arg 2; whnf
 go_wp2_with fail
 refine (take_ok (w.heap.size + 1) [45] l 0 _ HS1.out.rd (by omega)).mono ?_
 rintro e w2 ⟨rfl, hw2⟩
 obtain ⟨k1, hk1⟩ : ∃ k1, k1 = (if takeAt [45] l 0 then 0 + 1 else 0) := ⟨_, rfl⟩
 rw [<- hk1] at hw2
 have HPF : Hid (∀ neg, neg = takeAt [45] l 0 -> parts l = if takeAt [48] l k1 = true then gPoint neg [] (l.drop (k1 + 1)) else if digAt l k1 = true then gAhead neg [] (l.drop k1) else none) := hid fun neg hn => by
   refine parts_from l k1 neg ?_
   cases hc : takeAt [45] l 0 with
   | true => exact .inl ⟨rfl, hn.trans hc, by rw [hk1, hc]; rfl⟩
   | false => exact .inr ⟨rfl, hn.trans hc, by rw [hk1, hc]; rfl⟩
 have hk1l : k1 <= l.length := by
   rw [hk1]
   cases hc : takeAt [45] l 0 with
   | true => have := (takeAt_lt hc).1; simp only [if_true]; omega
   | false => simp
 have HS2 := hid (HS1.out.went hw2 hk1l)
 obtain ⟨neg, hneg⟩ : ∃ neg, neg = takeAt [45] l 0 := ⟨_, rfl⟩
 have HP := hid (HPF.out neg hneg)
 rw [<- hneg]
 clear hw2 HS1 hk1 HPF hneg
 go_wp2_with fail
 refine (take_ok (w.heap.size + 1) [48] l k1 w2 HS2.out.rd (by omega)).mono ?_
 rintro e w3 ⟨rfl, hw3⟩
 cases ht : takeAt [48] l k1 with
 | true =>
   rw [ht, if_pos rfl] at hw3
   have hk3 := (takeAt_lt ht).1
   have HS3 := hid (HS2.out.went hw3 hk3)
   have HXX : Hid (AtL l 0 (k1 + 1) [] 0 0 1 neg) := hid ⟨rfl, rfl, rfl, Digs.nil, by simp, by rw [HP.out, ht, if_pos rfl]⟩
   clear hw3 HS2 HP ht
   go_wp2_with fail
   go_step3
   simp only [Exit.then, jumps]
   refine JP.of 0 0 1 neg ?_ (HS3.out) (HXX.out)
   kernel_rfl
 | false =>
   rw [ht, if_neg (by simp)] at hw3
   have HS3 := hid (HS2.out.went hw3 hk1l)
   have HP2 : Hid (parts l = if digAt l k1 = true then gAhead neg [] (l.drop k1) else none) := hid (by rw [HP.out, ht, if_neg (by simp)])
   clear hw3 HS2 HP ht
   go_wp2_with fail
   refine (digit_ok (w.heap.size + 1) l k1 w3 HS3.out.rd).mono ?_
   rintro e w9 ⟨rfl, hb9⟩
   have HS9 := hid (HS3.out.call hb9)
   clear hb9 HS3
   cases hdn : digAt l k1 with
   | false =>
     have HXX : Hid (AtL l 1 k1 [] 0 0 1 neg) := hid (by show parts l = none; rw [HP2.out, hdn, if_neg (by simp)])
     clear hdn HP2
     go_wp2_with fail
     go_step3
     simp only [Exit.then, jumps]
     refine JP.of 0 0 1 neg ?_ (HS9.out) (HXX.out)
     kernel_rfl
   | true =>
     have HXX : Hid (AtL l 2 k1 [] 0 0 1 neg) := hid ⟨hdn, rfl, rfl, rfl, Digs.nil, by simp, by rw [HP2.out, hdn, if_pos rfl]⟩
     clear hdn HP2
     go_wp2_with fail
     rename_i K0 hK0
     have HK0 := hid hK0
     clear hK0
     go_step3
     refine HK0.out _ _ ?_
     refine wp_code (tailOf (restOf 2)) (by kernel_rfl) ?_
     refine prF_end (K := fun a w => Code.wp _ _ _ a w) w l (.slice none 0 0) 0 0 1 neg ?_ ?_
     · kernel_rfl
     · exact Code.wp_mono (jumps_imp w l _) (pr_ahead w l HT.out _ _ _ _ _ _ _ _ neg _ HS9.out HXX.out (Nat.le_refl _))
theorem pr_long (w : World) (l : List UInt8) (hl : ¬ l.length <= 1000) :
   Code.wp Tryz.prog prBody (jumps (JP w l) (QP w l)) ⟨#[.string (bs l), undef, .pointer (some ⟨w.heap.size, 0, none⟩), .int .i64 0, undef, undef, undef, undef, undef, undef, undef, undef, undef, undef, undef, undef, undef, undef, undef, undef, undef, undef, undef, undef, undef, undef, undef, undef, undef, undef, undef, undef, undef, undef, undef, undef, undef, undef, undef, undef, undef, undef, undef, undef, undef, undef, undef, undef, undef, undef, undef, undef, undef, undef, undef, undef, undef, undef, undef, undef, undef, undef, undef, undef, undef, undef, undef, undef, undef, undef, undef, undef, undef, undef, undef, undef, undef, undef, undef, undef, undef, undef, undef, undef, undef, undef], []⟩ (w.alloc (.cells #[.bool false, .string ⟨#[]⟩, .int .i64 0] 24)) := by
 have hpd : parseD l = Dec.zero /\ parseE l = 3 := by
   unfold parseD parseE
   have hn : 1000 < l.length := by omega
   rw [if_pos hn, if_pos hn]
   exact ⟨rfl, rfl⟩
 have HPD := hid hpd
 have hb : Below w.heap.size w (w.alloc (.cells #[.bool false, .string ⟨#[]⟩, .int .i64 0] 24)) := (Below.refl _ _).alloc (Nat.le_refl _) _
 have hr : Row (w.alloc (.cells #[.bool false, .string ⟨#[]⟩, .int .i64 0] 24)) w.heap.size 24 #[.bool false, .string ⟨#[]⟩, .int .i64 0] := Row.new _ _ _
 have hs9 := bs_size l
 have hlt : decide ((1000 : Int) < (l.length : Int)) = true := by simp; omega
 have HB := hid hb
 have HR := hid hr
 clear hb hr hpd
 conv => arg 2; whnf
 go_wp2_with fail
 simp only [jumps]
 unfold QP
 refine bodyPost_ret_by (results_row_tmp rfl _ _ w.heap.size #[.bool false, .string ⟨#[]⟩, .int .i64 0] rfl (load_dec HR.out rfl)) rfl ?_
 exact ⟨by rw [HPD.out.1, HPD.out.2]; rfl, HB.out⟩
theorem parse_ok (l : List UInt8) (w : World) (hT : PowTab w) :
   Calls Tryz.prog 129 #[.string (bs l)] w (Told w (parseD l) (parseE l)) := by
 have HT := hid hT
 clear hT
 go_enter Tryz.func129, Tryz.ntmps129
 go_wp2_with fail
 refine wp_code (Code.scope prBody) (by kernel_rfl) ?_
 by_cases hl : l.length <= 1000
 rotate_left 1
 · refine wp_scope_labels restOf (JP w l) (fun i _ W => meas w l i W) ?hf (pr_long w l hl) ?pass
   case hf =>
     rintro i a W ⟨h, k, v, ds, pl, pw, sg, neg, e, s, x⟩
     exact absurd s.len hl
   case pass =>
     rintro i a W ⟨h, k, v, ds, pl, pw, sg, neg, e, s, x⟩
     exact absurd s.len hl
 · refine wp_scope_labels restOf (JP w l) (fun i _ W => meas w l i W) ?hf (pr_first w l HT.out hl) ?pass
   case hf =>
     rintro i a W ⟨h, k, v, ds, pl, pw, sg, neg, e, s, x⟩
     match i, x with
     | 0, _ => exact (by kernel_rfl : findLabel prBody 0 = some (restOf 0))
     | 1, _ => exact (by kernel_rfl : findLabel prBody 1 = some (restOf 1))
     | 2, _ => exact (by kernel_rfl : findLabel prBody 2 = some (restOf 2))
     | 3, _ => exact (by kernel_rfl : findLabel prBody 3 = some (restOf 3))
     | 4, _ => exact (by kernel_rfl : findLabel prBody 4 = some (restOf 4))
     | 5, _ => exact (by kernel_rfl : findLabel prBody 5 = some (restOf 5))
     | 6, _ => exact (by kernel_rfl : findLabel prBody 6 = some (restOf 6))
   case pass =>
     rintro i a W ⟨h, k, v, ds, pl, pw, sg, neg, rfl, s, x⟩
     have hm : (l.length - k) * 8 + rank i <= meas w l i W := by unfold meas; rw [s.come]; exact Nat.le_refl _
     match i, x with
     | 0, x =>
       refine wp_code (Code.seq .skip (tailOf (restOf 0))) (by kernel_rfl) (wp_seq (wp_skip ?_))
       exact pr_point w l HT.out (meas w l 0 W) h k v ds pl pw sg neg W s x hm
     | 1, x =>
       refine wp_code (Code.seq .skip (tailOf (restOf 1))) (by kernel_rfl) (wp_seq (wp_skip ?_))
       exact pr_wrong w l (meas w l 1 W) h k v ds pl pw sg neg W s x hm
     | 2, x =>
       refine wp_code (Code.seq .skip (tailOf (restOf 2))) (by kernel_rfl) (wp_seq (wp_skip ?_))
       exact pr_ahead w l HT.out (meas w l 2 W) h k v ds pl pw sg neg W s x hm
     | 3, x =>
       refine wp_code (Code.seq .skip (tailOf (restOf 3))) (by kernel_rfl) (wp_seq (wp_skip ?_))
       exact pr_raised w l HT.out (meas w l 3 W) h k v ds pl pw sg neg W s x hm
     | 4, x =>
       refine wp_code (Code.seq .skip (tailOf (restOf 4))) (by kernel_rfl) (wp_seq (wp_skip ?_))
       exact pr_behind w l HT.out (meas w l 4 W) h k v ds pl pw sg neg W s x hm
     | 5, x =>
       refine wp_code (Code.seq .skip (tailOf (restOf 5))) (by kernel_rfl) (wp_seq (wp_skip ?_))
       exact pr_end w l HT.out (meas w l 5 W) h k v ds pl pw sg neg W s x hm
     | 6, x =>
       refine wp_code (Code.seq .skip (tailOf (restOf 6))) (by kernel_rfl) (wp_seq (wp_skip ?_))
       exact pr_raise w l HT.out (meas w l 6 W) h k v ds pl pw sg neg W s x hm
end Go.Proofs.YtmhbkjjkalnggaaGreatDoor
