import Derived.Test.YtmhbkjjkalnggaaGreatDoorPt04
import Derived.Lib.ItoaLen
namespace Go.Proofs.YtmhbkjjkalnggaaGreatDoor
open Go.RowKit
structure TxI (w4 W : World) (v : Value) (B : List UInt8) : Prop where
 lies : Lies W (fun k => w4.heap.size <= k) 5 1 v B.length (u8s B)
 below : Below w4.heap.size w4 W
theorem TxI.zero (w4 : World) (A : Option Addr) : TxI w4 w4 (.slice A 0 0) [] := ⟨Lies.empty _ _ _ _ _, Below.refl _ _⟩
theorem TxI.call {w4 W W' : World} {v : Value} {B : List UInt8} (h : TxI w4 W v B) (hb : Below W.heap.size W W') : TxI w4 W' v B := ⟨h.lies.below hb, h.below.call hb⟩
theorem TxI.drew {w4 W : World} {v : Value} {B : List UInt8} (h : TxI w4 W v B) : TxI w4 W.drew v B := ⟨h.lies.drewN 1, h.below.drew⟩
theorem TxI.app {w4 W W' : World} {v v' : Value} {B T : List UInt8} {xs : List Value} (h : TxI w4 W v B) (hx : xs = u8s B ++ u8s T)
   (hl : Lies W' (grow (fun k => w4.heap.size <= k) W) 5 1 v' (B.length + T.length) xs)
   (hk : Kept (fun g => w4.heap.size <= g /\ Spare v g /\ ∃ cur, W.heap[g]? = some (.cells cur 5 (0, 0))) W W') : TxI w4 W' v' (B ++ T) := by
 have hs := h.below.size
 refine ⟨?_, h.below.trans (hk.below hs fun k hk => hk.1)⟩
 rw [List.length_append, u8s_append, <- hx]
 exact hl.mono fun k hk => hk.elim id fun h => Nat.le_trans hs h
theorem TxI.form {w4 W : World} {v : Value} {B : List UInt8} (h : TxI w4 W v B) : ∃ A c, v = .slice A B.length c /\ B.length <= c /\ c <= maxLen := h.lies.form
theorem TxI.text {w4 W : World} {A : Option Addr} {n c : Nat} {B : List UInt8} (h : TxI w4 W (.slice A n c) B) : (convert 35 9 (.slice A n c)).run Tryz.prog W = .ok (.string (bs B)) W := by
 obtain ⟨A9, c9, e9, _, _, h9⟩ := h.lies.holds
 obtain ⟨rfl, rfl, rfl⟩ := Value.slice.inj e9
 exact run_text_bs h9 35 9 5 c Tryz.underlying35 Tryz.underlying5 Tryz.underlying9
section
variable {o : Oper} {a : Act} {W : World} {K : Act -> World -> Prop} {Q : Exit -> Act -> World -> Prop}
theorem wp_app_text (w4 : World) {v : Value} {B : List UInt8} (hI : TxI w4 W v B) (sl x : Operand) (ho : o.op = .call { callee := .builtin .append, args := #[sl, x], argTypes := #[35, 9] })
   (hs : a.eval sl = v) (T R : List UInt8) (n : Nat) (hx : a.eval x = .string (bs T)) (hR : R = B ++ T) (hn : n = R.length) (hb : n <= 1000000)
   (h : ∀ A c W', TxI w4 W' (.slice A n c) R -> K (a.put o.dst (.slice A n c)) W') : Oper.wp Tryz.prog o a W K Q := by
 subst hR hn
 rw [List.length_append] at hb
 obtain ⟨i, hi, hz, hs1, hby⟩ := info_parts infoU8
 obtain ⟨v', w', hr, h2, h3⟩ := run_append_text (P := Tryz.prog) W (fun k => w4.heap.size <= k) 35 9 o.type 5 i Tryz.underlying35 Tryz.underlying9 hi hz hs1 hby v B.length (u8s B) hI.lies (bs T) (by rw [bs_size]; omega)
 rw [bs_size, strCells_bs] at h2
 have hI2 := hI.app rfl h2 h3
 obtain ⟨A, c, rfl, _⟩ := hI2.form
 unfold Oper.wp execOp
 simp only [ho, resolve, invoke, builtin, Sem.run_bind, Sem.run_pure, Result.andThen_ok, List.map_toArray, List.map_cons, List.map_nil, hs, hx, hr]
 exact h _ _ _ hI2
variable {ops : Array Oper} {rest : List Oper}
theorem wpList_app_text (w4 : World) (hgd : o.guard = none) {v : Value} {B : List UInt8} (hI : TxI w4 W v B) (sl x : Operand) (ho : o.op = .call { callee := .builtin .append, args := #[sl, x], argTypes := #[35, 9] })
   (hs : a.eval sl = v) (T R : List UInt8) (n : Nat) (hx : a.eval x = .string (bs T)) (hR : R = B ++ T) (hn : n = R.length) (hb : n <= 1000000)
   (h : ∀ A c W', TxI w4 W' (.slice A n c) R -> wpList Tryz.prog ops Q rest (a.put o.dst (.slice A n c)) W') : wpList Tryz.prog ops Q (o :: rest) a W :=
 wpList_plain hgd fun _ hK => wp_app_text w4 hI sl x ho hs T R n hx hR hn hb fun A c W' h' => hK _ _ (h A c W' h')
theorem wpList_app_byte (w4 : World) (hgd : o.guard = none) {v : Value} {B : List UInt8} (hI : TxI w4 W v B) (sl x : Operand) (ho : o.op = .call { callee := .builtin .append, args := #[sl, x], argTypes := #[35, 35] })
   (hs : a.eval sl = v) (b : UInt8) (y : Nat) (hy : y = b.toNat) (A1 : Option Addr) (c1 : Nat) (hx : a.eval x = .slice A1 1 c1) (hsrc : Source W A1 1 [.int .u8 (y : Int)]) (R : List UInt8) (n : Nat) (hR : R = B ++ [b]) (hn : n = R.length) (hb : n <= 1000000)
   (h : ∀ A c W', TxI w4 W' (.slice A n c) R -> wpList Tryz.prog ops Q rest (a.put o.dst (.slice A n c)) W') : wpList Tryz.prog ops Q (o :: rest) a W := by
 subst hR hn hy
 rw [List.length_append, List.length_singleton] at hb
 refine wpList_append_any hgd (fun g => w4.heap.size <= g) sl x 35 ho 5 1 1 (.int .u8 0) Tryz.underlying35 infoU8 rfl (by decide) v B.length (u8s B) hs hI.lies A1 1 c1 [.int .u8 (b.toNat : Int)] hx rfl hsrc ?_ (by omega) (by decide) ?_
 · intro u hu; simp at hu; subst hu; rfl
 intro v' w' hl hk
 have hI2 := hI.app (T := [b]) rfl hl hk
 obtain ⟨A, c, rfl, _⟩ := hI2.form
 exact h _ _ _ hI2
end
def TextPost (w : World) (d : Dec) (e : Ending) (w' : World) : Prop := e = .returned (.tuple #[.string (bs (txL d)), .int .i64 (checkE d : Nat)]) /\ Below w.heap.size w w'
theorem body1 {l : List UInt8} {x p : Int} (hp : p = l.length + x) (h : 0 <= x) (h2 : p <= 21) : bodyL l x = l ++ zeros x.toNat := by
 unfold bodyL; simp only; rw [<- hp, if_pos ⟨h, h2⟩]
theorem body2 {l : List UInt8} {x p : Int} (hp : p = l.length + x) (h : ¬ (0 <= x /\ p <= 21)) (h2 : 0 < p /\ p <= 21) : bodyL l x = l.take p.toNat ++ [46] ++ l.drop p.toNat := by
 unfold bodyL; simp only; rw [<- hp, if_neg h, if_pos h2, List.append_assoc]; rfl
theorem body3 {l : List UInt8} {x p : Int} (hp : p = l.length + x) (h : ¬ (0 <= x /\ p <= 21)) (h2 : ¬ (0 < p /\ p <= 21)) (h3 : -5 <= p /\ p <= 0) : bodyL l x = [48, 46] ++ zeros (-p).toNat ++ l := by
 unfold bodyL; simp only; rw [<- hp, if_neg h, if_neg h2, if_pos h3, List.append_assoc]; rfl
theorem body4 {l : List UInt8} {x p : Int} (hp : p = l.length + x) (h : ¬ (0 <= x /\ p <= 21)) (h2 : ¬ (0 < p /\ p <= 21)) (h3 : ¬ (-5 <= p /\ p <= 0)) (hl : 0 < l.length) (hl2 : 1 < l.length) : bodyL l x = [l.getD 0 0] ++ ([46] ++ l.drop 1) ++ ([101] ++ Lib.itoa (p - 1)) := by
 unfold bodyL; simp only; rw [<- hp, if_neg h, if_neg h2, if_neg h3, if_pos hl2]
 cases l with
 | nil => simp at hl
 | cons b t => simp
theorem body5 {l : List UInt8} {x p : Int} (hp : p = l.length + x) (h : ¬ (0 <= x /\ p <= 21)) (h2 : ¬ (0 < p /\ p <= 21)) (h3 : ¬ (-5 <= p /\ p <= 0)) (hl : 0 < l.length) (hl2 : ¬ 1 < l.length) : bodyL l x = [l.getD 0 0] ++ ([101] ++ Lib.itoa (p - 1)) := by
 unfold bodyL; simp only; rw [<- hp, if_neg h, if_neg h2, if_neg h3, if_neg hl2]
 cases l with
 | nil => simp at hl
 | cons b t => simp
set_option maxHeartbeats 1000000 in
theorem text_ok (d : Dec) (w : World) (hT : PowTab w) (hd : d.digits.length <= 1000000) :
   Calls Tryz.prog 64 #[decV d] w (TextPost w d) := by
 have HCK := hid (fun W => check_ok d W (by omega))
 have HZ := hid (fun W => isZero_ok d W)
 have HT := hid hT
 clear hT
 obtain ⟨neg, l, x⟩ := d
 unfold decV at *
 simp only at HCK HZ hd ⊢
 obtain ⟨w2, hw2⟩ : ∃ w2, w2 = w.alloc (.cells #[.bool neg, .string (bs l), .int .i64 x] 24) := ⟨_, rfl⟩
 have hra : Row w2 w.heap.size 24 #[.bool neg, .string (bs l), .int .i64 x] := by subst hw2; exact Row.new _ _ _
 have hb2 : Below w.heap.size w w2 := by subst hw2; exact (Below.refl _ _).alloc (Nat.le_refl _) _
 have HB2 := hid hb2
 have HRA := hid hra
 clear hb2 hra
 have HYES : Hid (mayB ⟨neg, l, x⟩ = true -> txL ⟨neg, l, x⟩ = textL ⟨neg, l, x⟩) := hid fun h => by unfold txL; rw [if_pos h]
 have HNO : Hid (mayB ⟨neg, l, x⟩ = false -> txL ⟨neg, l, x⟩ = []) := hid fun h => by unfold txL; rw [h]; rfl
 go_enter Tryz.func64, Tryz.ntmps64
 go_wp2_with fail
 rw [<- hw2]
 clear hw2
 refine (HCK.out _).mono ?_
 rintro e w3 ⟨rfl, hb3⟩
 have HB3 := hid (HB2.out.call hb3)
 have HRA3 := hid (HRA.out.call hb3)
 clear hb3 HCK HRA HB2
 cases ea : mayB ⟨neg, l, x⟩ with
 | false =>
   have HN := hid (HNO.out ea)
   have HE := hid (checkE_no ea)
   rw [checkE_no ea]
   clear ea HNO HYES
   go_wp2
   go_ret2
   exact ⟨by rw [HN.out, HE.out]; rfl, HB3.out⟩
 | true =>
   have HM := hid ((mayB_iff _).1 ea)
   have HN := hid (HYES.out ea)
   have HE := hid (checkE_yes ea)
   rw [checkE_yes ea]
   clear ea HNO HYES
   have c0 := HRA3.out.cell (i := 0) (v := .bool neg) rfl
   have c1 := HRA3.out.cell (i := 1) (v := .string (bs l)) rfl
   have c2 := HRA3.out.cell (i := 2) (v := .int .i64 x) rfl
   go_wp2_with fail
   refine (HZ.out _).mono ?_
   rintro e w4 ⟨rfl, hb4⟩
   have HB4 := hid (HB3.out.call hb4)
   have HRA4 := hid (HRA3.out.call hb4)
   clear hb4 c0 c1 c2 HRA3 HB3 HZ
   cases el : decide (l = []) with
   | true =>
     have hl : l = [] := of_decide_eq_true el
     go_wp2
     go_ret2
     exact ⟨by rw [HN.out, HE.out]; subst hl; rfl, HB4.out⟩
   | false =>
     have hl : ¬ l = [] := of_decide_eq_false el
     have c0 := HRA4.out.cell (i := 0) (v := .bool neg) rfl
     have hlt : 0 < l.length := List.length_pos_iff.2 hl
     have hl100 := HM.out.len
     have hx1 := HM.out.lo
     have hx2 := HM.out.hi
     simp only at hl100 hx1 hx2
     have HI0 := hid (TxI.zero w4 none)
     have HPL := hid (fun W => place_ok ⟨neg, l, x⟩ W (by simp only; omega) (by simp only; omega) (by simp only; omega))
     unfold decV at HPL
     simp only at HPL
     obtain ⟨p, hp⟩ : ∃ p : Int, p = l.length + x := ⟨_, rfl⟩
     rw [<- hp] at HPL
     have HTL : ∀ B : List UInt8, B = (if neg then [45] else []) -> Hid (textL ⟨neg, l, x⟩ = B ++ bodyL l x) := fun B hB => hid (by unfold textL; rw [if_neg hl, hB])
     have hra1 : ∀ W : World, Below w4.heap.size w4 W -> W.cell? ⟨w.heap.size, 1, none⟩ = some (.string (bs l)) := fun W hb => (HRA4.out.call hb).cell rfl
     have hra2 : ∀ W : World, Below w4.heap.size w4 W -> W.cell? ⟨w.heap.size, 2, none⟩ = some (.int .i64 x) := fun W hb => (HRA4.out.call hb).cell rfl
     have hra0 : ∀ W : World, Below w4.heap.size w4 W -> W.cell? ⟨w.heap.size, 0, none⟩ = some (.bool neg) := fun W hb => (HRA4.out.call hb).cell rfl
     go_upto_region 6 with fail
     obtain ⟨A0, n0, k0, e0⟩ : ∃ A0 n0 k0, Value.slice none 0 0 = Value.slice A0 n0 k0 := ⟨_, _, _, rfl⟩
     rw [e0]
     rw [e0] at HI0
     clear e0
     cases neg
     · have HTX := HTL [] rfl
       clear HTL
       have HI5 := HI0
       clear HI0 c0
       have x0 := hra0 _ HI5.out.below
       have x1 := hra1 _ HI5.out.below
       have x2 := hra2 _ HI5.out.below
       go_wp2_with fail
       refine (HPL.out _).mono ?_
       rintro e w6 ⟨rfl, hb6⟩
       have HI6 := hid (HI5.out.call hb6)
       clear hb6 HPL HI5 x0 x1 x2
       have y0 := hra0 _ HI6.out.below
       have y1 := hra1 _ HI6.out.below
       have y2 := hra2 _ HI6.out.below
       by_cases g1 : 0 <= x /\ p <= 21
       · obtain ⟨g1a, g1b⟩ := g1
         have HBD := hid (body1 hp g1a g1b)
         have hadd1 : ∀ W, (Op.stringOp .add (bs l) (bs (zeros x.toNat))).run Tryz.prog W = .ok (.string (bs (l ++ zeros x.toNat))) W := fun W => run_add_bs W _ _ (by simp [zeros]; omega)
         have HN1 := hid (fun W => noughts_ok x.toNat W (by omega))
         rw [Int.toNat_of_nonneg g1a] at HN1
         obtain ⟨T, HTT⟩ : ∃ T, Hid (T = l ++ zeros x.toNat) := ⟨_, hid rfl⟩
         rw [<- HTT.out] at hadd1 HBD
         obtain ⟨R, n, HR, HNN⟩ : ∃ (R : List UInt8) (n : Nat), Hid (R = ([] : List UInt8) ++ T) /\ Hid (n = R.length) := ⟨_, _, hid rfl, hid rfl⟩
         have HLN : Hid (n <= 1000000) := hid (by rw [HNN.out, HR.out]; simp [zeros, HTT.out]; omega)
         clear hp
         go_wp2_with fail
         refine wp_region_held_drew (S := (fun W => Below w4.heap.size w4 W)) (by kernel_rfl) (HI6.out.below.drew) (fun hHeld => ?_)
         refine wpAnyH_z 0 ?_
         try simp only [Act.put, sA, sB, sC]
         refine wpAnyH_z 1 ?_
         try simp only [Act.put, sA, sB, sC]
         refine wpAnyH_y 2 ?_ ?_ ?_
         rotate_left
         · intro W hSw; have hSw1 := hra1 W hSw; go_simp; try with_reducible rfl
         try simp only [Act.put, sA, sB, sC]
         refine wpAnyH_z 3 ?_
         try simp only [Act.put, sA, sB, sC]
         refine wpAnyH_y 4 ?_ ?_ ?_
         rotate_left
         · intro W hSw; have hSw2 := hra2 W hSw; go_simp; try with_reducible rfl
         try simp only [Act.put, sA, sB, sC]
         refine wpAnyH_ready (rs := [5]) (by kernel_rfl) (by simp) ?_
         refine AllReadyH.cons (o := ?_) ?_ (fun K1 hK1 => ?_) AllReadyH.nil
         rotate_left 1
         · simp only [gA, gB, gC]; with_reducible rfl
         rw [if_pos (by rfl)]
         go_simp
         refine (HN1.out _).mono ?_
         rintro e7 w7 ⟨rfl, hb7⟩
         have HI7 := hid (HI6.out.drew.call hb7)
         go_wp2_with fail
         refine hK1.out _ _ (hHeld.call hb7) (fun hHeld1 => ?_)
         clear hK1 K1
         try simp only [Act.put, sA, sB, sC]
         refine wpAnyH_z 6 ?_
         try simp only [Act.put, sA, sB, sC]
         refine wpAnyH_ready (rs := [7]) (by kernel_rfl) (by simp) ?_
         refine AllReadyH.cons (o := ?_) ?_ (fun K2 hK2 => ?_) AllReadyH.nil
         rotate_left 1
         · simp only [gA, gB, gC]; with_reducible rfl
         rw [if_pos (by rfl)]
         refine wp_app_text w4 HI7.out (.tmp 48) (.tmp 54) rfl rfl T R n rfl HR.out HNN.out HLN.out ?_
         intro A8 c8 w8 hI8
         have HI8 := hid hI8
         clear hI8
         refine hK2.out _ _ (HI8.out.below) (fun hHeld2 => ?_)
         clear hK2 K2
         try simp only [Act.put, sA, sB, sC]
         refine wpAnyH_z 8 ?_
         try simp only [Act.put, sA, sB, sC]
         refine wpAnyH_done (by kernel_rfl) ?_ _
         have hcv := HI8.out.text
         go_wp2
         go_ret2
         refine ⟨?_, HB4.out.call HI8.out.below⟩
         rw [HN.out, HTX.out, HE.out, HBD.out, HR.out]
         rfl
       · by_cases g2 : 0 < p /\ p <= 21
         · have HBD := hid (body2 hp g1 g2)
           obtain ⟨g2a, g2b⟩ := g2
           have g0 : x < 0 := by omega
           have hpl : p <= l.length := by omega
           obtain ⟨q, rfl⟩ := Int.eq_ofNat_of_zero_le (Int.le_of_lt g2a)
           have hql : q <= l.length := by omega
           rw [Int.toNat_natCast] at HBD
           have hf : ∀ W, (Instr.slice 9 (.string (bs l)) (some (.int .i64 (q : Int))) none none).run Tryz.prog W = .ok (.string (bs (l.drop q))) W := fun W => run_from_bs W _ Tryz.underlying9 l q hql
           have ht : ∀ W, (Instr.slice 9 (.string (bs l)) none (some (.int .i64 (q : Int))) none).run Tryz.prog W = .ok (.string (bs (l.take q))) W := fun W => run_to_bs W _ Tryz.underlying9 l q hql
           have hadd1 : ∀ W, (Op.stringOp .add (bs (l.take q)) ⟨#[46]⟩).run Tryz.prog W = .ok (.string (bs (l.take q ++ [46]))) W := fun W => run_add_bs W _ [46] (by simp; omega)
           have hadd2 : ∀ W, (Op.stringOp .add (bs (l.take q ++ [46])) (bs (l.drop q))).run Tryz.prog W = .ok (.string (bs (l.take q ++ [46] ++ l.drop q))) W := fun W => run_add_bs W _ _ (by simp; omega)
           obtain ⟨T0, HT0⟩ : ∃ T, Hid (T = l.take q ++ [46]) := ⟨_, hid rfl⟩
           rw [<- HT0.out] at hadd1 hadd2 HBD
           obtain ⟨T, HTT⟩ : ∃ T, Hid (T = T0 ++ l.drop q) := ⟨_, hid rfl⟩
           rw [<- HTT.out] at hadd2 HBD
           obtain ⟨R, n, HR, HNN⟩ : ∃ (R : List UInt8) (n : Nat), Hid (R = ([] : List UInt8) ++ T) /\ Hid (n = R.length) := ⟨_, _, hid rfl, hid rfl⟩
           have HLN : Hid (n <= 1000000) := hid (by rw [HNN.out, HR.out]; simp [HTT.out, HT0.out]; omega)
           clear hp g1
           go_wp2_with fail
           refine wp_region_held_drew (S := (fun W => Below w4.heap.size w4 W)) (by kernel_rfl) (HI6.out.below.drew) (fun hHeld => ?_)
           refine wpAnyH_z 0 ?_
           try simp only [Act.put, sA, sB, sC]
           refine wpAnyH_z 1 ?_
           try simp only [Act.put, sA, sB, sC]
           refine wpAnyH_y 2 ?_ ?_ ?_
           rotate_left
           · intro W hSw; have hSw1 := hra1 W hSw; go_simp; try with_reducible rfl
           try simp only [Act.put, sA, sB, sC]
           refine wpAnyH_z 3 ?_
           try simp only [Act.put, sA, sB, sC]
           refine wpAnyH_z 4 ?_
           try simp only [Act.put, sA, sB, sC]
           refine wpAnyH_z 5 ?_
           try simp only [Act.put, sA, sB, sC]
           refine wpAnyH_z 6 ?_
           try simp only [Act.put, sA, sB, sC]
           refine wpAnyH_y 7 ?_ ?_ ?_
           rotate_left
           · intro W hSw; have hSw1 := hra1 W hSw; go_simp; try with_reducible rfl
           try simp only [Act.put, sA, sB, sC]
           refine wpAnyH_z 8 ?_
           try simp only [Act.put, sA, sB, sC]
           refine wpAnyH_z 9 ?_
           try simp only [Act.put, sA, sB, sC]
           refine wpAnyH_z 10 ?_
           try simp only [Act.put, sA, sB, sC]
           refine wpAnyH_ready (rs := [11]) (by kernel_rfl) (by simp) ?_
           refine AllReadyH.cons (o := ?_) ?_ (fun K1 hK1 => ?_) AllReadyH.nil
           rotate_left 1
           · simp only [gA, gB, gC]; with_reducible rfl
           rw [if_pos (by rfl)]
           refine wp_app_text w4 HI6.out.drew (.tmp 63) (.tmp 73) rfl rfl T R n rfl HR.out HNN.out HLN.out ?_
           intro A8 c8 w8 hI8
           have HI8 := hid hI8
           clear hI8
           refine hK1.out _ _ (HI8.out.below) (fun hHeld1 => ?_)
           clear hK1 K1
           try simp only [Act.put, sA, sB, sC]
           refine wpAnyH_z 12 ?_
           try simp only [Act.put, sA, sB, sC]
           refine wpAnyH_done (by kernel_rfl) ?_ _
           have hcv := HI8.out.text
           go_wp2
           go_ret2
           refine ⟨?_, HB4.out.call HI8.out.below⟩
           rw [HN.out, HTX.out, HE.out, HBD.out, HR.out]
           rfl
         · by_cases g3 : -5 <= p /\ p <= 0
           · have HBD := hid (body3 hp g1 g2 g3)
             obtain ⟨g3a, g3b⟩ := g3
             have g0 : x < 0 := by omega
             obtain ⟨k, hk⟩ : ∃ k : Nat, p = -(k : Int) := ⟨(-p).toNat, by omega⟩
             subst hk
             rw [Int.neg_neg, Int.toNat_natCast] at HBD
             have hk5 : k <= 5 := by omega
             have hwk : IntKind.i64.wrap (k : Int) = k := by simp [IntKind.wrap, IntKind.bits, IntKind.signed]; omega
             have hadd1 : ∀ W, (Op.stringOp .add ⟨#[48, 46]⟩ (bs (zeros k))).run Tryz.prog W = .ok (.string (bs ([48, 46] ++ zeros k))) W := fun W => run_add_bs W [48, 46] _ (by simp [zeros]; omega)
             have hadd2 : ∀ W, (Op.stringOp .add (bs ([48, 46] ++ zeros k)) (bs l)).run Tryz.prog W = .ok (.string (bs ([48, 46] ++ zeros k ++ l))) W := fun W => run_add_bs W _ _ (by simp [zeros]; omega)
             have HN1 := hid (fun W => noughts_ok k W (by omega))
             obtain ⟨T0, HT0⟩ : ∃ T, Hid (T = [48, 46] ++ zeros k) := ⟨_, hid rfl⟩
             rw [<- HT0.out] at hadd1 hadd2 HBD
             obtain ⟨T, HTT⟩ : ∃ T, Hid (T = T0 ++ l) := ⟨_, hid rfl⟩
             rw [<- HTT.out] at hadd2 HBD
             obtain ⟨R, n, HR, HNN⟩ : ∃ (R : List UInt8) (n : Nat), Hid (R = ([] : List UInt8) ++ T) /\ Hid (n = R.length) := ⟨_, _, hid rfl, hid rfl⟩
             have HLN : Hid (n <= 1000000) := hid (by rw [HNN.out, HR.out]; simp [zeros, HTT.out, HT0.out]; omega)
             clear hp g1 g2
             go_wp2_with fail
             refine wp_region_held_drew (S := (fun W => Below w4.heap.size w4 W)) (by kernel_rfl) (HI6.out.below.drew) (fun hHeld => ?_)
             refine wpAnyH_z 0 ?_
             try simp only [Act.put, sA, sB, sC]
             refine wpAnyH_z 1 ?_
             try simp only [Act.put, sA, sB, sC]
             refine wpAnyH_z 2 ?_
             try simp only [Act.put, sA, sB, sC]
             refine wpAnyH_z 5 ?_
             try simp only [Act.put, sA, sB, sC]
             refine wpAnyH_y 6 ?_ ?_ ?_
             rotate_left
             · intro W hSw; have hSw1 := hra1 W hSw; go_simp; try with_reducible rfl
             try simp only [Act.put, sA, sB, sC]
             refine wpAnyH_ready (rs := [3]) (by kernel_rfl) (by simp) ?_
             refine AllReadyH.cons (o := ?_) ?_ (fun K1 hK1 => ?_) AllReadyH.nil
             rotate_left 1
             · simp only [gA, gB, gC]; with_reducible rfl
             rw [if_pos (by rfl)]
             go_simp
             refine (HN1.out _).mono ?_
             rintro e7 w7 ⟨rfl, hb7⟩
             have HI7 := hid (HI6.out.drew.call hb7)
             go_wp2_with fail
             refine hK1.out _ _ (hHeld.call hb7) (fun hHeld1 => ?_)
             clear hK1 K1
             try simp only [Act.put, sA, sB, sC]
             refine wpAnyH_z 4 ?_
             try simp only [Act.put, sA, sB, sC]
             refine wpAnyH_z 7 ?_
             try simp only [Act.put, sA, sB, sC]
             refine wpAnyH_ready (rs := [8]) (by kernel_rfl) (by simp) ?_
             refine AllReadyH.cons (o := ?_) ?_ (fun K2 hK2 => ?_) AllReadyH.nil
             rotate_left 1
             · simp only [gA, gB, gC]; with_reducible rfl
             rw [if_pos (by rfl)]
             refine wp_app_text w4 HI7.out (.tmp 82) (.tmp 89) rfl rfl T R n rfl HR.out HNN.out HLN.out ?_
             intro A8 c8 w8 hI8
             have HI8 := hid hI8
             clear hI8
             refine hK2.out _ _ (HI8.out.below) (fun hHeld2 => ?_)
             clear hK2 K2
             try simp only [Act.put, sA, sB, sC]
             refine wpAnyH_z 9 ?_
             try simp only [Act.put, sA, sB, sC]
             refine wpAnyH_done (by kernel_rfl) ?_ _
             have hcv := HI8.out.text
             go_wp2
             go_ret2
             refine ⟨?_, HB4.out.call HI8.out.below⟩
             rw [HN.out, HTX.out, HE.out, HBD.out, HR.out]
             rfl
           · have hidx : ∀ W, (Instr.index 9 (.string (bs l)) (.int .i64 0)).run Tryz.prog W = .ok (.int .u8 (byteAt l 0 : Int)) W := fun W => run_byte _ Tryz.underlying9 l 0 hlt W
             have HIT := hid (fun W (h : PowTab W) => itoa_ok (p - 1) (by omega) (by omega) W h)
             have hilen := Lib.itoa_length_le (p - 1) (by omega) (by omega)
             have hadd2 : ∀ W, (Op.stringOp .add ⟨#[46]⟩ (bs (l.drop 1))).run Tryz.prog W = .ok (.string (bs ([46] ++ l.drop 1))) W := fun W => run_add_bs W [46] _ (by simp; omega)
             have hadd3 : ∀ W, (Op.stringOp .add ⟨#[101]⟩ (bs (Lib.itoa (p - 1)))).run Tryz.prog W = .ok (.string (bs ([101] ++ Lib.itoa (p - 1)))) W := fun W => run_add_bs W [101] _ (by simp; omega)
             have hf : ∀ W, (Instr.slice 9 (.string (bs l)) (some (.int .i64 1)) none none).run Tryz.prog W = .ok (.string (bs (l.drop 1))) W := fun W => run_from_bs W _ Tryz.underlying9 l 1 (by omega)
             obtain ⟨tl, HTL1⟩ : ∃ t, Hid (t = l.drop 1) := ⟨_, hid rfl⟩
             rw [<- HTL1.out] at hf hadd2
             obtain ⟨T2, HT2⟩ : ∃ T, Hid (T = [46] ++ tl) := ⟨_, hid rfl⟩
             obtain ⟨T3, HT3⟩ : ∃ T, Hid (T = [101] ++ Lib.itoa (p - 1)) := ⟨_, hid rfl⟩
             rw [<- HT2.out] at hadd2
             rw [<- HT3.out] at hadd3
             obtain ⟨y, hy⟩ : ∃ y : Nat, y = byteAt l 0 := ⟨_, rfl⟩
             have HY := hid hy
             rw [<- hy] at hidx
             clear hy
             obtain ⟨R1, n1, HR1, HN1⟩ : ∃ (R : List UInt8) (n : Nat), Hid (R = ([] : List UInt8) ++ [l.getD 0 0]) /\ Hid (n = R.length) := ⟨_, _, hid rfl, hid rfl⟩
             have HL1 : Hid (n1 <= 2) := hid (by rw [HN1.out, HR1.out]; simp)
             have hb7 : Below w6.heap.size w6 (w6.alloc (.cells #[.int .u8 (y : Int)] 5)) := (Below.refl _ _).alloc (Nat.le_refl _) _
             have HI7 := hid (HI6.out.call hb7)
             have hsrc : Hid (Source (w6.alloc (.cells #[.int .u8 (y : Int)] 5)) (some ⟨w6.heap.size, 0, none⟩) 1 [.int .u8 (y : Int)]) := hid (.inr ⟨_, rfl, World.news_of_block (w := w6.alloc (.cells #[.int .u8 (y : Int)] 5)) (heap_alloc_new w6 _)⟩)
             clear hb7
             have hs := bs_size l
             have hpw : IntKind.i64.wrap (p - 1) = p - 1 := by simp [IntKind.wrap, IntKind.bits, IntKind.signed]; omega
             by_cases g5 : 1 < l.length
             · have HBD := hid (body4 hp g1 g2 g3 hlt g5)
               rw [<- HTL1.out, <- HT2.out, <- HT3.out] at HBD
               obtain ⟨R2, n2, HR2, HN2⟩ : ∃ (R : List UInt8) (n : Nat), Hid (R = R1 ++ T2) /\ Hid (n = R.length) := ⟨_, _, hid rfl, hid rfl⟩
               have HL2 : Hid (n2 <= 1000) := hid (by rw [HN2.out, HR2.out, HR1.out, HT2.out, HTL1.out]; simp; omega)
               obtain ⟨R3, n3, HR3, HN3⟩ : ∃ (R : List UInt8) (n : Nat), Hid (R = R2 ++ T3) /\ Hid (n = R.length) := ⟨_, _, hid rfl, hid rfl⟩
               have HL3 : Hid (n3 <= 1000000) := hid (by have := HL2.out; rw [HN2.out] at this; rw [HN3.out, HR3.out, HT3.out, List.length_append]; simp; omega)
               have hq : (0 <= x /\ 21 < p) ∨ (x < 0 /\ 21 < p) ∨ (x < 0 /\ p < -5) := by omega
               clear hp g1 g2 g3
               rcases hq with ⟨q1, q2⟩ | ⟨q1, q2⟩ | ⟨q1, q2⟩
               all_goals (
                 go_upto_region 11 with (
                   at_builtin
                   refine wpList_app_byte w4 ?_ HI7.out (.tmp 18) (.tmp 22) ?_ ?_ (l.getD 0 0) y HY.out (some ⟨w6.heap.size, 0, none⟩) 1 ?_ hsrc.out R1 n1 HR1.out HN1.out (by have := HL1.out; omega) ?_
                   · with_reducible rfl
                   · with_reducible rfl
                   · rfl
                   · rfl
                   intro A8 c8 w8 hI8
                   have HI8 := hid hI8
                   have z1 := hra1 _ hI8.below
                   clear hI8)
                 go_wp2_with (
                   at_builtin
                   refine wpList_app_text w4 ?_ HI8.out (.tmp 28) (.tmp 32) ?_ ?_ T2 R2 n2 ?_ HR2.out HN2.out (by have := HL2.out; omega) ?_
                   · with_reducible rfl
                   · with_reducible rfl
                   · rfl
                   · rfl
                   intro A9 c9 w9 hI9
                   have HI9 := hid hI9
                   clear hI9)
                 refine (HIT.out _ ((HT.out.below HB4.out).below HI9.out.below)).mono ?_
                 rintro e w10 ⟨rfl, hb10⟩
                 have HI10 := hid (HI9.out.call hb10)
                 clear hb10
                 go_wp2_with (
                   at_builtin
                   refine wpList_app_text w4 ?_ HI10.out (.tmp 34) (.tmp 38) ?_ ?_ T3 R3 n3 ?_ HR3.out HN3.out HL3.out ?_
                   · with_reducible rfl
                   · with_reducible rfl
                   · rfl
                   · rfl
                   intro A11 c11 w11 hI11
                   have HI11 := hid hI11
                   have hcv := hI11.text
                   clear hI11)
                 go_ret2
                 refine ⟨?_, HB4.out.call HI11.out.below⟩
                 rw [HN.out, HTX.out, HE.out, HBD.out, HR3.out, HR2.out, HR1.out]
                 simp only [List.append_assoc]
                 rfl)
             · have HBD := hid (body5 hp g1 g2 g3 hlt g5)
               rw [<- HT3.out] at HBD
               obtain ⟨R3, n3, HR3, HN3⟩ : ∃ (R : List UInt8) (n : Nat), Hid (R = R1 ++ T3) /\ Hid (n = R.length) := ⟨_, _, hid rfl, hid rfl⟩
               have HL3 : Hid (n3 <= 1000000) := hid (by have := HL1.out; rw [HN1.out] at this; rw [HN3.out, HR3.out, HT3.out, List.length_append]; simp; omega)
               have hq : (0 <= x /\ 21 < p) ∨ (x < 0 /\ 21 < p) ∨ (x < 0 /\ p < -5) := by omega
               clear hp g1 g2 g3
               rcases hq with ⟨q1, q2⟩ | ⟨q1, q2⟩ | ⟨q1, q2⟩
               all_goals (
                 go_wp2_with (
                   at_builtin
                   refine wpList_app_byte w4 ?_ HI7.out (.tmp 18) (.tmp 22) ?_ ?_ (l.getD 0 0) y HY.out (some ⟨w6.heap.size, 0, none⟩) 1 ?_ hsrc.out R1 n1 HR1.out HN1.out (by have := HL1.out; omega) ?_
                   · with_reducible rfl
                   · with_reducible rfl
                   · rfl
                   · rfl
                   intro A9 c9 w9 hI9
                   have HI9 := hid hI9
                   have z1 := hra1 _ hI9.below
                   clear hI9)
                 refine (HIT.out _ ((HT.out.below HB4.out).below HI9.out.below)).mono ?_
                 rintro e w10 ⟨rfl, hb10⟩
                 have HI10 := hid (HI9.out.call hb10)
                 clear hb10
                 go_wp2_with (
                   at_builtin
                   refine wpList_app_text w4 ?_ HI10.out (.tmp 34) (.tmp 38) ?_ ?_ T3 R3 n3 ?_ HR3.out HN3.out HL3.out ?_
                   · with_reducible rfl
                   · with_reducible rfl
                   · rfl
                   · rfl
                   intro A11 c11 w11 hI11
                   have HI11 := hid hI11
                   have hcv := hI11.text
                   clear hI11)
                 go_ret2
                 refine ⟨?_, HB4.out.call HI11.out.below⟩
                 rw [HN.out, HTX.out, HE.out, HBD.out, HR3.out, HR1.out]
                 simp only [List.append_assoc]
                 rfl)
     · have HTX := HTL [45] rfl
       clear HTL
       have hsrc0 : Hid (Source (w4.alloc (.cells #[.int .u8 45] 5)) (some ⟨w4.heap.size, 0, none⟩) 1 [.int .u8 45]) := hid (.inr ⟨_, rfl, World.news_of_block (w := w4.alloc (.cells #[.int .u8 45] 5)) (heap_alloc_new w4 _)⟩)
       have HI4 := hid (HI0.out.call ((Below.refl _ _).alloc (Nat.le_refl _) (.cells #[.int .u8 45] 5)))
       have HNE : Hid ((1 : Nat) = [(45 : UInt8)].length) := hid rfl
       go_upto_region 8 with (
         at_builtin
         refine wpList_app_byte w4 ?_ HI4.out (.tmp 13) (.tmp 14) ?_ ?_ 45 45 rfl (some ⟨w4.heap.size, 0, none⟩) 1 ?_ hsrc0.out [45] 1 rfl HNE.out (by decide) ?_
         · with_reducible rfl
         · with_reducible rfl
         · rfl
         · rfl
         intro A5 c5 w5 hI5
         have HI5 := hid hI5
         clear hI5)
       clear HI0 HI4 hsrc0 c0
       have x0 := hra0 _ HI5.out.below
       have x1 := hra1 _ HI5.out.below
       have x2 := hra2 _ HI5.out.below
       go_wp2_with fail
       refine (HPL.out _).mono ?_
       rintro e w6 ⟨rfl, hb6⟩
       have HI6 := hid (HI5.out.call hb6)
       clear hb6 HPL HI5 x0 x1 x2
       have y0 := hra0 _ HI6.out.below
       have y1 := hra1 _ HI6.out.below
       have y2 := hra2 _ HI6.out.below
       by_cases g1 : 0 <= x /\ p <= 21
       · obtain ⟨g1a, g1b⟩ := g1
         have HBD := hid (body1 hp g1a g1b)
         have hadd1 : ∀ W, (Op.stringOp .add (bs l) (bs (zeros x.toNat))).run Tryz.prog W = .ok (.string (bs (l ++ zeros x.toNat))) W := fun W => run_add_bs W _ _ (by simp [zeros]; omega)
         have HN1 := hid (fun W => noughts_ok x.toNat W (by omega))
         rw [Int.toNat_of_nonneg g1a] at HN1
         obtain ⟨T, HTT⟩ : ∃ T, Hid (T = l ++ zeros x.toNat) := ⟨_, hid rfl⟩
         rw [<- HTT.out] at hadd1 HBD
         obtain ⟨R, n, HR, HNN⟩ : ∃ (R : List UInt8) (n : Nat), Hid (R = ([45] : List UInt8) ++ T) /\ Hid (n = R.length) := ⟨_, _, hid rfl, hid rfl⟩
         have HLN : Hid (n <= 1000000) := hid (by rw [HNN.out, HR.out]; simp [zeros, HTT.out]; omega)
         clear hp
         go_wp2_with fail
         refine wp_region_held_drew (S := (fun W => Below w4.heap.size w4 W)) (by kernel_rfl) (HI6.out.below.drew) (fun hHeld => ?_)
         refine wpAnyH_z 0 ?_
         try simp only [Act.put, sA, sB, sC]
         refine wpAnyH_z 1 ?_
         try simp only [Act.put, sA, sB, sC]
         refine wpAnyH_y 2 ?_ ?_ ?_
         rotate_left
         · intro W hSw; have hSw1 := hra1 W hSw; go_simp; try with_reducible rfl
         try simp only [Act.put, sA, sB, sC]
         refine wpAnyH_z 3 ?_
         try simp only [Act.put, sA, sB, sC]
         refine wpAnyH_y 4 ?_ ?_ ?_
         rotate_left
         · intro W hSw; have hSw2 := hra2 W hSw; go_simp; try with_reducible rfl
         try simp only [Act.put, sA, sB, sC]
         refine wpAnyH_ready (rs := [5]) (by kernel_rfl) (by simp) ?_
         refine AllReadyH.cons (o := ?_) ?_ (fun K1 hK1 => ?_) AllReadyH.nil
         rotate_left 1
         · simp only [gA, gB, gC]; with_reducible rfl
         rw [if_pos (by rfl)]
         go_simp
         refine (HN1.out _).mono ?_
         rintro e7 w7 ⟨rfl, hb7⟩
         have HI7 := hid (HI6.out.drew.call hb7)
         go_wp2_with fail
         refine hK1.out _ _ (hHeld.call hb7) (fun hHeld1 => ?_)
         clear hK1 K1
         try simp only [Act.put, sA, sB, sC]
         refine wpAnyH_z 6 ?_
         try simp only [Act.put, sA, sB, sC]
         refine wpAnyH_ready (rs := [7]) (by kernel_rfl) (by simp) ?_
         refine AllReadyH.cons (o := ?_) ?_ (fun K2 hK2 => ?_) AllReadyH.nil
         rotate_left 1
         · simp only [gA, gB, gC]; with_reducible rfl
         rw [if_pos (by rfl)]
         refine wp_app_text w4 HI7.out (.tmp 48) (.tmp 54) rfl rfl T R n rfl HR.out HNN.out HLN.out ?_
         intro A8 c8 w8 hI8
         have HI8 := hid hI8
         clear hI8
         refine hK2.out _ _ (HI8.out.below) (fun hHeld2 => ?_)
         clear hK2 K2
         try simp only [Act.put, sA, sB, sC]
         refine wpAnyH_z 8 ?_
         try simp only [Act.put, sA, sB, sC]
         refine wpAnyH_done (by kernel_rfl) ?_ _
         have hcv := HI8.out.text
         go_wp2
         go_ret2
         refine ⟨?_, HB4.out.call HI8.out.below⟩
         rw [HN.out, HTX.out, HE.out, HBD.out, HR.out]
         rfl
       · by_cases g2 : 0 < p /\ p <= 21
         · have HBD := hid (body2 hp g1 g2)
           obtain ⟨g2a, g2b⟩ := g2
           have g0 : x < 0 := by omega
           have hpl : p <= l.length := by omega
           obtain ⟨q, rfl⟩ := Int.eq_ofNat_of_zero_le (Int.le_of_lt g2a)
           have hql : q <= l.length := by omega
           rw [Int.toNat_natCast] at HBD
           have hf : ∀ W, (Instr.slice 9 (.string (bs l)) (some (.int .i64 (q : Int))) none none).run Tryz.prog W = .ok (.string (bs (l.drop q))) W := fun W => run_from_bs W _ Tryz.underlying9 l q hql
           have ht : ∀ W, (Instr.slice 9 (.string (bs l)) none (some (.int .i64 (q : Int))) none).run Tryz.prog W = .ok (.string (bs (l.take q))) W := fun W => run_to_bs W _ Tryz.underlying9 l q hql
           have hadd1 : ∀ W, (Op.stringOp .add (bs (l.take q)) ⟨#[46]⟩).run Tryz.prog W = .ok (.string (bs (l.take q ++ [46]))) W := fun W => run_add_bs W _ [46] (by simp; omega)
           have hadd2 : ∀ W, (Op.stringOp .add (bs (l.take q ++ [46])) (bs (l.drop q))).run Tryz.prog W = .ok (.string (bs (l.take q ++ [46] ++ l.drop q))) W := fun W => run_add_bs W _ _ (by simp; omega)
           obtain ⟨T0, HT0⟩ : ∃ T, Hid (T = l.take q ++ [46]) := ⟨_, hid rfl⟩
           rw [<- HT0.out] at hadd1 hadd2 HBD
           obtain ⟨T, HTT⟩ : ∃ T, Hid (T = T0 ++ l.drop q) := ⟨_, hid rfl⟩
           rw [<- HTT.out] at hadd2 HBD
           obtain ⟨R, n, HR, HNN⟩ : ∃ (R : List UInt8) (n : Nat), Hid (R = ([45] : List UInt8) ++ T) /\ Hid (n = R.length) := ⟨_, _, hid rfl, hid rfl⟩
           have HLN : Hid (n <= 1000000) := hid (by rw [HNN.out, HR.out]; simp [HTT.out, HT0.out]; omega)
           clear hp g1
           go_wp2_with fail
           refine wp_region_held_drew (S := (fun W => Below w4.heap.size w4 W)) (by kernel_rfl) (HI6.out.below.drew) (fun hHeld => ?_)
           refine wpAnyH_z 0 ?_
           try simp only [Act.put, sA, sB, sC]
           refine wpAnyH_z 1 ?_
           try simp only [Act.put, sA, sB, sC]
           refine wpAnyH_y 2 ?_ ?_ ?_
           rotate_left
           · intro W hSw; have hSw1 := hra1 W hSw; go_simp; try with_reducible rfl
           try simp only [Act.put, sA, sB, sC]
           refine wpAnyH_z 3 ?_
           try simp only [Act.put, sA, sB, sC]
           refine wpAnyH_z 4 ?_
           try simp only [Act.put, sA, sB, sC]
           refine wpAnyH_z 5 ?_
           try simp only [Act.put, sA, sB, sC]
           refine wpAnyH_z 6 ?_
           try simp only [Act.put, sA, sB, sC]
           refine wpAnyH_y 7 ?_ ?_ ?_
           rotate_left
           · intro W hSw; have hSw1 := hra1 W hSw; go_simp; try with_reducible rfl
           try simp only [Act.put, sA, sB, sC]
           refine wpAnyH_z 8 ?_
           try simp only [Act.put, sA, sB, sC]
           refine wpAnyH_z 9 ?_
           try simp only [Act.put, sA, sB, sC]
           refine wpAnyH_z 10 ?_
           try simp only [Act.put, sA, sB, sC]
           refine wpAnyH_ready (rs := [11]) (by kernel_rfl) (by simp) ?_
           refine AllReadyH.cons (o := ?_) ?_ (fun K1 hK1 => ?_) AllReadyH.nil
           rotate_left 1
           · simp only [gA, gB, gC]; with_reducible rfl
           rw [if_pos (by rfl)]
           refine wp_app_text w4 HI6.out.drew (.tmp 63) (.tmp 73) rfl rfl T R n rfl HR.out HNN.out HLN.out ?_
           intro A8 c8 w8 hI8
           have HI8 := hid hI8
           clear hI8
           refine hK1.out _ _ (HI8.out.below) (fun hHeld1 => ?_)
           clear hK1 K1
           try simp only [Act.put, sA, sB, sC]
           refine wpAnyH_z 12 ?_
           try simp only [Act.put, sA, sB, sC]
           refine wpAnyH_done (by kernel_rfl) ?_ _
           have hcv := HI8.out.text
           go_wp2
           go_ret2
           refine ⟨?_, HB4.out.call HI8.out.below⟩
           rw [HN.out, HTX.out, HE.out, HBD.out, HR.out]
           rfl
         · by_cases g3 : -5 <= p /\ p <= 0
           · have HBD := hid (body3 hp g1 g2 g3)
             obtain ⟨g3a, g3b⟩ := g3
             have g0 : x < 0 := by omega
             obtain ⟨k, hk⟩ : ∃ k : Nat, p = -(k : Int) := ⟨(-p).toNat, by omega⟩
             subst hk
             rw [Int.neg_neg, Int.toNat_natCast] at HBD
             have hk5 : k <= 5 := by omega
             have hwk : IntKind.i64.wrap (k : Int) = k := by simp [IntKind.wrap, IntKind.bits, IntKind.signed]; omega
             have hadd1 : ∀ W, (Op.stringOp .add ⟨#[48, 46]⟩ (bs (zeros k))).run Tryz.prog W = .ok (.string (bs ([48, 46] ++ zeros k))) W := fun W => run_add_bs W [48, 46] _ (by simp [zeros]; omega)
             have hadd2 : ∀ W, (Op.stringOp .add (bs ([48, 46] ++ zeros k)) (bs l)).run Tryz.prog W = .ok (.string (bs ([48, 46] ++ zeros k ++ l))) W := fun W => run_add_bs W _ _ (by simp [zeros]; omega)
             have HN1 := hid (fun W => noughts_ok k W (by omega))
             obtain ⟨T0, HT0⟩ : ∃ T, Hid (T = [48, 46] ++ zeros k) := ⟨_, hid rfl⟩
             rw [<- HT0.out] at hadd1 hadd2 HBD
             obtain ⟨T, HTT⟩ : ∃ T, Hid (T = T0 ++ l) := ⟨_, hid rfl⟩
             rw [<- HTT.out] at hadd2 HBD
             obtain ⟨R, n, HR, HNN⟩ : ∃ (R : List UInt8) (n : Nat), Hid (R = ([45] : List UInt8) ++ T) /\ Hid (n = R.length) := ⟨_, _, hid rfl, hid rfl⟩
             have HLN : Hid (n <= 1000000) := hid (by rw [HNN.out, HR.out]; simp [zeros, HTT.out, HT0.out]; omega)
             clear hp g1 g2
             go_wp2_with fail
             refine wp_region_held_drew (S := (fun W => Below w4.heap.size w4 W)) (by kernel_rfl) (HI6.out.below.drew) (fun hHeld => ?_)
             refine wpAnyH_z 0 ?_
             try simp only [Act.put, sA, sB, sC]
             refine wpAnyH_z 1 ?_
             try simp only [Act.put, sA, sB, sC]
             refine wpAnyH_z 2 ?_
             try simp only [Act.put, sA, sB, sC]
             refine wpAnyH_z 5 ?_
             try simp only [Act.put, sA, sB, sC]
             refine wpAnyH_y 6 ?_ ?_ ?_
             rotate_left
             · intro W hSw; have hSw1 := hra1 W hSw; go_simp; try with_reducible rfl
             try simp only [Act.put, sA, sB, sC]
             refine wpAnyH_ready (rs := [3]) (by kernel_rfl) (by simp) ?_
             refine AllReadyH.cons (o := ?_) ?_ (fun K1 hK1 => ?_) AllReadyH.nil
             rotate_left 1
             · simp only [gA, gB, gC]; with_reducible rfl
             rw [if_pos (by rfl)]
             go_simp
             refine (HN1.out _).mono ?_
             rintro e7 w7 ⟨rfl, hb7⟩
             have HI7 := hid (HI6.out.drew.call hb7)
             go_wp2_with fail
             refine hK1.out _ _ (hHeld.call hb7) (fun hHeld1 => ?_)
             clear hK1 K1
             try simp only [Act.put, sA, sB, sC]
             refine wpAnyH_z 4 ?_
             try simp only [Act.put, sA, sB, sC]
             refine wpAnyH_z 7 ?_
             try simp only [Act.put, sA, sB, sC]
             refine wpAnyH_ready (rs := [8]) (by kernel_rfl) (by simp) ?_
             refine AllReadyH.cons (o := ?_) ?_ (fun K2 hK2 => ?_) AllReadyH.nil
             rotate_left 1
             · simp only [gA, gB, gC]; with_reducible rfl
             rw [if_pos (by rfl)]
             refine wp_app_text w4 HI7.out (.tmp 82) (.tmp 89) rfl rfl T R n rfl HR.out HNN.out HLN.out ?_
             intro A8 c8 w8 hI8
             have HI8 := hid hI8
             clear hI8
             refine hK2.out _ _ (HI8.out.below) (fun hHeld2 => ?_)
             clear hK2 K2
             try simp only [Act.put, sA, sB, sC]
             refine wpAnyH_z 9 ?_
             try simp only [Act.put, sA, sB, sC]
             refine wpAnyH_done (by kernel_rfl) ?_ _
             have hcv := HI8.out.text
             go_wp2
             go_ret2
             refine ⟨?_, HB4.out.call HI8.out.below⟩
             rw [HN.out, HTX.out, HE.out, HBD.out, HR.out]
             rfl
           · have hidx : ∀ W, (Instr.index 9 (.string (bs l)) (.int .i64 0)).run Tryz.prog W = .ok (.int .u8 (byteAt l 0 : Int)) W := fun W => run_byte _ Tryz.underlying9 l 0 hlt W
             have HIT := hid (fun W (h : PowTab W) => itoa_ok (p - 1) (by omega) (by omega) W h)
             have hilen := Lib.itoa_length_le (p - 1) (by omega) (by omega)
             have hadd2 : ∀ W, (Op.stringOp .add ⟨#[46]⟩ (bs (l.drop 1))).run Tryz.prog W = .ok (.string (bs ([46] ++ l.drop 1))) W := fun W => run_add_bs W [46] _ (by simp; omega)
             have hadd3 : ∀ W, (Op.stringOp .add ⟨#[101]⟩ (bs (Lib.itoa (p - 1)))).run Tryz.prog W = .ok (.string (bs ([101] ++ Lib.itoa (p - 1)))) W := fun W => run_add_bs W [101] _ (by simp; omega)
             have hf : ∀ W, (Instr.slice 9 (.string (bs l)) (some (.int .i64 1)) none none).run Tryz.prog W = .ok (.string (bs (l.drop 1))) W := fun W => run_from_bs W _ Tryz.underlying9 l 1 (by omega)
             obtain ⟨tl, HTL1⟩ : ∃ t, Hid (t = l.drop 1) := ⟨_, hid rfl⟩
             rw [<- HTL1.out] at hf hadd2
             obtain ⟨T2, HT2⟩ : ∃ T, Hid (T = [46] ++ tl) := ⟨_, hid rfl⟩
             obtain ⟨T3, HT3⟩ : ∃ T, Hid (T = [101] ++ Lib.itoa (p - 1)) := ⟨_, hid rfl⟩
             rw [<- HT2.out] at hadd2
             rw [<- HT3.out] at hadd3
             obtain ⟨y, hy⟩ : ∃ y : Nat, y = byteAt l 0 := ⟨_, rfl⟩
             have HY := hid hy
             rw [<- hy] at hidx
             clear hy
             obtain ⟨R1, n1, HR1, HN1⟩ : ∃ (R : List UInt8) (n : Nat), Hid (R = ([45] : List UInt8) ++ [l.getD 0 0]) /\ Hid (n = R.length) := ⟨_, _, hid rfl, hid rfl⟩
             have HL1 : Hid (n1 <= 2) := hid (by rw [HN1.out, HR1.out]; simp)
             have hb7 : Below w6.heap.size w6 (w6.alloc (.cells #[.int .u8 (y : Int)] 5)) := (Below.refl _ _).alloc (Nat.le_refl _) _
             have HI7 := hid (HI6.out.call hb7)
             have hsrc : Hid (Source (w6.alloc (.cells #[.int .u8 (y : Int)] 5)) (some ⟨w6.heap.size, 0, none⟩) 1 [.int .u8 (y : Int)]) := hid (.inr ⟨_, rfl, World.news_of_block (w := w6.alloc (.cells #[.int .u8 (y : Int)] 5)) (heap_alloc_new w6 _)⟩)
             clear hb7
             have hs := bs_size l
             have hpw : IntKind.i64.wrap (p - 1) = p - 1 := by simp [IntKind.wrap, IntKind.bits, IntKind.signed]; omega
             by_cases g5 : 1 < l.length
             · have HBD := hid (body4 hp g1 g2 g3 hlt g5)
               rw [<- HTL1.out, <- HT2.out, <- HT3.out] at HBD
               obtain ⟨R2, n2, HR2, HN2⟩ : ∃ (R : List UInt8) (n : Nat), Hid (R = R1 ++ T2) /\ Hid (n = R.length) := ⟨_, _, hid rfl, hid rfl⟩
               have HL2 : Hid (n2 <= 1000) := hid (by rw [HN2.out, HR2.out, HR1.out, HT2.out, HTL1.out]; simp; omega)
               obtain ⟨R3, n3, HR3, HN3⟩ : ∃ (R : List UInt8) (n : Nat), Hid (R = R2 ++ T3) /\ Hid (n = R.length) := ⟨_, _, hid rfl, hid rfl⟩
               have HL3 : Hid (n3 <= 1000000) := hid (by have := HL2.out; rw [HN2.out] at this; rw [HN3.out, HR3.out, HT3.out, List.length_append]; simp; omega)
               have hq : (0 <= x /\ 21 < p) ∨ (x < 0 /\ 21 < p) ∨ (x < 0 /\ p < -5) := by omega
               clear hp g1 g2 g3
               rcases hq with ⟨q1, q2⟩ | ⟨q1, q2⟩ | ⟨q1, q2⟩
               all_goals (
                 go_upto_region 11 with (
                   at_builtin
                   refine wpList_app_byte w4 ?_ HI7.out (.tmp 18) (.tmp 22) ?_ ?_ (l.getD 0 0) y HY.out (some ⟨w6.heap.size, 0, none⟩) 1 ?_ hsrc.out R1 n1 HR1.out HN1.out (by have := HL1.out; omega) ?_
                   · with_reducible rfl
                   · with_reducible rfl
                   · rfl
                   · rfl
                   intro A8 c8 w8 hI8
                   have HI8 := hid hI8
                   have z1 := hra1 _ hI8.below
                   clear hI8)
                 go_wp2_with (
                   at_builtin
                   refine wpList_app_text w4 ?_ HI8.out (.tmp 28) (.tmp 32) ?_ ?_ T2 R2 n2 ?_ HR2.out HN2.out (by have := HL2.out; omega) ?_
                   · with_reducible rfl
                   · with_reducible rfl
                   · rfl
                   · rfl
                   intro A9 c9 w9 hI9
                   have HI9 := hid hI9
                   clear hI9)
                 refine (HIT.out _ ((HT.out.below HB4.out).below HI9.out.below)).mono ?_
                 rintro e w10 ⟨rfl, hb10⟩
                 have HI10 := hid (HI9.out.call hb10)
                 clear hb10
                 go_wp2_with (
                   at_builtin
                   refine wpList_app_text w4 ?_ HI10.out (.tmp 34) (.tmp 38) ?_ ?_ T3 R3 n3 ?_ HR3.out HN3.out HL3.out ?_
                   · with_reducible rfl
                   · with_reducible rfl
                   · rfl
                   · rfl
                   intro A11 c11 w11 hI11
                   have HI11 := hid hI11
                   have hcv := hI11.text
                   clear hI11)
                 go_ret2
                 refine ⟨?_, HB4.out.call HI11.out.below⟩
                 rw [HN.out, HTX.out, HE.out, HBD.out, HR3.out, HR2.out, HR1.out]
                 simp only [List.append_assoc]
                 rfl)
             · have HBD := hid (body5 hp g1 g2 g3 hlt g5)
               rw [<- HT3.out] at HBD
               obtain ⟨R3, n3, HR3, HN3⟩ : ∃ (R : List UInt8) (n : Nat), Hid (R = R1 ++ T3) /\ Hid (n = R.length) := ⟨_, _, hid rfl, hid rfl⟩
               have HL3 : Hid (n3 <= 1000000) := hid (by have := HL1.out; rw [HN1.out] at this; rw [HN3.out, HR3.out, HT3.out, List.length_append]; simp; omega)
               have hq : (0 <= x /\ 21 < p) ∨ (x < 0 /\ 21 < p) ∨ (x < 0 /\ p < -5) := by omega
               clear hp g1 g2 g3
               rcases hq with ⟨q1, q2⟩ | ⟨q1, q2⟩ | ⟨q1, q2⟩
               all_goals (
                 go_wp2_with (
                   at_builtin
                   refine wpList_app_byte w4 ?_ HI7.out (.tmp 18) (.tmp 22) ?_ ?_ (l.getD 0 0) y HY.out (some ⟨w6.heap.size, 0, none⟩) 1 ?_ hsrc.out R1 n1 HR1.out HN1.out (by have := HL1.out; omega) ?_
                   · with_reducible rfl
                   · with_reducible rfl
                   · rfl
                   · rfl
                   intro A9 c9 w9 hI9
                   have HI9 := hid hI9
                   have z1 := hra1 _ hI9.below
                   clear hI9)
                 refine (HIT.out _ ((HT.out.below HB4.out).below HI9.out.below)).mono ?_
                 rintro e w10 ⟨rfl, hb10⟩
                 have HI10 := hid (HI9.out.call hb10)
                 clear hb10
                 go_wp2_with (
                   at_builtin
                   refine wpList_app_text w4 ?_ HI10.out (.tmp 34) (.tmp 38) ?_ ?_ T3 R3 n3 ?_ HR3.out HN3.out HL3.out ?_
                   · with_reducible rfl
                   · with_reducible rfl
                   · rfl
                   · rfl
                   intro A11 c11 w11 hI11
                   have HI11 := hid hI11
                   have hcv := hI11.text
                   clear hI11)
                 go_ret2
                 refine ⟨?_, HB4.out.call HI11.out.below⟩
                 rw [HN.out, HTX.out, HE.out, HBD.out, HR3.out, HR1.out]
                 simp only [List.append_assoc]
                 rfl)
end Go.Proofs.YtmhbkjjkalnggaaGreatDoor
