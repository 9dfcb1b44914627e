import Derived.Test.YtmhbkjjkalnggaaGreatDoorPt37
namespace Go.Proofs.YtmhbkjjkalnggaaGreatDoor
open Go.RowKit
set_option maxRecDepth 100000
set_option maxHeartbeats 4000000
def letR (l : List UInt8) : Nat × Nat := if l = [] then (0, 0) else if Lib.decodeN l.length (byteAt l 0) (byteAt l 1) (byteAt l 2) (byteAt l 3) = (65533, 1) then (0, 0) else ((Lib.decodeN l.length (byteAt l 0) (byteAt l 1) (byteAt l 2) (byteAt l 3)).2, (Lib.decodeN l.length (byteAt l 0) (byteAt l 1) (byteAt l 2) (byteAt l 3)).1)
def letN (n c0 c1 c2 c3 : Nat) : Nat × Nat := if n = 0 then (0, 0) else if Lib.decodeN n c0 c1 c2 c3 = (65533, 1) then (0, 0) else ((Lib.decodeN n c0 c1 c2 c3).2, (Lib.decodeN n c0 c1 c2 c3).1)
theorem letR_N (l : List UInt8) : letR l = letN l.length (byteAt l 0) (byteAt l 1) (byteAt l 2) (byteAt l 3) := by
 unfold letR letN
 by_cases h : l = []
 · simp [h]
 · have h2 : ¬ l.length = 0 := fun e => h (List.eq_nil_of_length_eq_zero e)
   simp only [if_neg h, if_neg h2]
theorem let_bad {n c0 c1 c2 c3 : Nat} (h : Lib.decodeN n c0 c1 c2 c3 = (65533, 1)) : letN n c0 c1 c2 c3 = (0, 0) := by
 unfold letN
 rw [if_pos h]
 split <;> rfl
theorem let_ok {n c0 c1 c2 c3 k x : Nat} (hn : n ≠ 0) (h : Lib.decodeN n c0 c1 c2 c3 = (x, k)) (hk : x ≠ 65533 ∨ k ≠ 1) : letN n c0 c1 c2 c3 = (k, x) := by
 unfold letN
 rw [if_neg hn, h, if_neg (by intro e; injection e with e1 e2; omega)]
theorem letter_ok (l : List UInt8) (w : World) (hl : l.length <= 9223372036854775807) :
   Calls Tryz.prog 99 #[.string (bs l)] w fun e w' => e = .returned (.tuple #[.int .i64 ((letR l).1 : Nat), .int .i64 ((letR l).2 : Nat)]) /\ w = w' := by
 have hsz := bs_size l
 have HI : Hid (∀ k : Nat, k < l.length -> ∀ W : World, (Instr.index 9 (.string (bs l)) (.int .i64 (k : Int))).run Tryz.prog W = .ok (.int .u8 (byteAt l k : Int)) W) := hid fun k hk W => run_byte _ Tryz.underlying9 l k hk W
 rw [letR_N]
 have hb : ∀ k, byteAt l k < 256 := fun k => (l.getD k 0).toNat_lt
 have b0 := hb 0
 have b1 := hb 1
 have b2 := hb 2
 have b3 := hb 3
 have I0 : Hid (0 < l.length -> ∀ W : World, (Instr.index 9 (.string (bs l)) (.int .i64 0)).run Tryz.prog W = .ok (.int .u8 (byteAt l 0 : Int)) W) := hid (HI.out 0)
 have I1 : Hid (1 < l.length -> ∀ W : World, (Instr.index 9 (.string (bs l)) (.int .i64 1)).run Tryz.prog W = .ok (.int .u8 (byteAt l 1 : Int)) W) := hid (HI.out 1)
 have I2 : Hid (2 < l.length -> ∀ W : World, (Instr.index 9 (.string (bs l)) (.int .i64 2)).run Tryz.prog W = .ok (.int .u8 (byteAt l 2 : Int)) W) := hid (HI.out 2)
 have I3 : Hid (3 < l.length -> ∀ W : World, (Instr.index 9 (.string (bs l)) (.int .i64 3)).run Tryz.prog W = .ok (.int .u8 (byteAt l 3 : Int)) W) := hid (HI.out 3)
 clear HI hb
 generalize byteAt l 0 = c0 at *
 generalize byteAt l 1 = c1 at *
 generalize byteAt l 2 = c2 at *
 generalize byteAt l 3 = c3 at *
 generalize l.length = n at *
 generalize bs l = s at *
 obtain ⟨R, hR⟩ : ∃ R, R = letN n c0 c1 c2 c3 := ⟨_, rfl⟩
 rw [<- hR]
 have HR := hid hR
 clear hR
 by_cases h0 : n = 0
 · have HV : Hid (R = (0, 0)) := hid (by rw [HR.out]; unfold letN; rw [if_pos h0])
   have hz : ((n : Int) == 0) = true := by rw [h0]; rfl
   clear h0
   go_enter Tryz.func99, Tryz.ntmps99
   go_wp2
   go_ret2
   rw [HV.out]
   exact ⟨rfl, rfl⟩
 have h0n : 0 < n := by omega
 have hz : ((n : Int) == 0) = false := by rw [beq_eq_false_iff_ne]; omega
 have i0 := I0.out h0n
 by_cases h1 : c0 < 128
 · have HV : Hid (R = (1, c0)) := hid (by rw [HR.out]; exact let_ok h0 (by unfold Lib.decodeN; rw [if_pos h1]) (.inl (by omega)))
   have g1 : (c0 : Int) < 128 := by omega
   go_enter Tryz.func99, Tryz.ntmps99
   go_wp2
   go_ret2
   rw [HV.out]
   exact ⟨rfl, rfl⟩
 by_cases h2 : 192 <= c0 /\ c0 < 224
 · obtain ⟨ha, hb⟩ := h2
   by_cases hn : n < 2
   · have HV : Hid (R = (0, 0)) := hid (by rw [HR.out]; apply let_bad; unfold Lib.decodeN; (repeat' split); all_goals first | rfl | (exfalso; omega) | omega)
     have hnz : (n : Int) < 2 := by omega
     go_enter Tryz.func99, Tryz.ntmps99
     go_wp2
     go_ret2
     rw [HV.out]
     exact ⟨rfl, rfl⟩
   have i1 := I1.out (by omega)
   have hnz : ¬ (n : Int) < 2 := by omega
   go_enter Tryz.func99, Tryz.ntmps99
   go_wp2
   go_loop [8, 6] (fun v8 v6 => (v8 = .int .i64 1 /\ v6 = .int .i64 ((c0 : Int) - 192)) ∨ (v8 = .int .i64 2 /\ v6 = .int .i64 (64 * ((c0 : Int) - 192) + ((c1 : Int) - 128)) /\ 128 <= c1 /\ c1 < 192)) (fun v8 _ => 2 - (intOf v8).toNat)
   case atStart => exact .inl ⟨rfl, rfl⟩
   case round =>
     rcases hrel with ⟨rfl, rfl⟩ | ⟨rfl, rfl, p1, q1⟩
     · by_cases hc : 128 <= c1
       · by_cases hd : c1 < 192
         · go_wp2
           go_round
           case rel => exact .inr (⟨rfl, rfl, by omega, by omega⟩)
           case measure => simp [intOf]
         · have HV : Hid (R = (0, 0)) := hid (by rw [HR.out]; apply let_bad; unfold Lib.decodeN; (repeat' split); all_goals first | rfl | (exfalso; omega) | omega)
           go_wp2
           go_ret2
           rw [HV.out]
           exact ⟨rfl, rfl⟩
       · have HV : Hid (R = (0, 0)) := hid (by rw [HR.out]; apply let_bad; unfold Lib.decodeN; (repeat' split); all_goals first | rfl | (exfalso; omega) | omega)
         go_wp2
         go_ret2
         rw [HV.out]
         exact ⟨rfl, rfl⟩
     · have hx : (64 * ((c0 : Int) - 192) + ((c1 : Int) - 128)) = (((64 * (c0 - 192) + (c1 - 128)) : Nat) : Int) := by omega
       obtain ⟨X, hX⟩ : ∃ X : Nat, X = (64 * (c0 - 192) + (c1 - 128)) := ⟨_, rfl⟩
       rw [<- hX] at hx
       have HX := hid hX
       have HX2 := hid hx
       have hX2 : X <= 2097151 := by omega
       clear hX hx
       rw [HX2.out]
       by_cases e1 : X < 128
       · have HV : Hid (R = (0, 0)) := hid (by have := HX.out; rw [HR.out]; apply let_bad; unfold Lib.decodeN; (repeat' split); all_goals first | rfl | (exfalso; omega) | omega)
         go_wp2
         go_ret2
         rw [HV.out]
         exact ⟨rfl, rfl⟩
       · by_cases e2 : 1114111 < X
         · have HV : Hid (R = (0, 0)) := hid (by have := HX.out; rw [HR.out]; apply let_bad; unfold Lib.decodeN; (repeat' split); all_goals first | rfl | (exfalso; omega) | omega)
           go_wp2
           go_ret2
           rw [HV.out]
           exact ⟨rfl, rfl⟩
         · by_cases e3 : 55296 <= X
           · by_cases e4 : X < 57344
             · have HV : Hid (R = (0, 0)) := hid (by have := HX.out; rw [HR.out]; apply let_bad; unfold Lib.decodeN; (repeat' split); all_goals first | rfl | (exfalso; omega) | omega)
               go_wp2
               go_ret2
               rw [HV.out]
               exact ⟨rfl, rfl⟩
             · have HV : Hid (R = (2, X)) := hid (by have := HX.out; rw [HR.out]; refine let_ok h0 ?_ (.inr (by decide)); unfold Lib.decodeN; (repeat' split); all_goals first | (exfalso; omega) | (refine Prod.ext ?_ rfl; show _ = X; omega))
               go_wp2
               go_ret2
               rw [HV.out]
               exact ⟨rfl, rfl⟩
           · have HV : Hid (R = (2, X)) := hid (by have := HX.out; rw [HR.out]; refine let_ok h0 ?_ (.inr (by decide)); unfold Lib.decodeN; (repeat' split); all_goals first | (exfalso; omega) | (refine Prod.ext ?_ rfl; show _ = X; omega))
             go_wp2
             go_ret2
             rw [HV.out]
             exact ⟨rfl, rfl⟩
 by_cases h3 : 224 <= c0 /\ c0 < 240
 · obtain ⟨ha, hb⟩ := h3
   by_cases hn : n < 3
   · have HV : Hid (R = (0, 0)) := hid (by rw [HR.out]; apply let_bad; unfold Lib.decodeN; (repeat' split); all_goals first | rfl | (exfalso; omega) | omega)
     have hnz : (n : Int) < 3 := by omega
     go_enter Tryz.func99, Tryz.ntmps99
     go_wp2
     go_ret2
     rw [HV.out]
     exact ⟨rfl, rfl⟩
   have i1 := I1.out (by omega)
   have i2 := I2.out (by omega)
   have hnz : ¬ (n : Int) < 3 := by omega
   go_enter Tryz.func99, Tryz.ntmps99
   go_wp2
   go_loop [8, 6] (fun v8 v6 => (v8 = .int .i64 1 /\ v6 = .int .i64 ((c0 : Int) - 224)) ∨ (v8 = .int .i64 2 /\ v6 = .int .i64 (64 * ((c0 : Int) - 224) + ((c1 : Int) - 128)) /\ 128 <= c1 /\ c1 < 192) ∨ (v8 = .int .i64 3 /\ v6 = .int .i64 (64 * (64 * ((c0 : Int) - 224) + ((c1 : Int) - 128)) + ((c2 : Int) - 128)) /\ 128 <= c1 /\ c1 < 192 /\ 128 <= c2 /\ c2 < 192)) (fun v8 _ => 3 - (intOf v8).toNat)
   case atStart => exact .inl ⟨rfl, rfl⟩
   case round =>
     rcases hrel with ⟨rfl, rfl⟩ | ⟨rfl, rfl, p1, q1⟩ | ⟨rfl, rfl, p1, q1, p2, q2⟩
     · by_cases hc : 128 <= c1
       · by_cases hd : c1 < 192
         · go_wp2
           go_round
           case rel => exact .inr (.inl ⟨rfl, rfl, by omega, by omega⟩)
           case measure => simp [intOf]
         · have HV : Hid (R = (0, 0)) := hid (by rw [HR.out]; apply let_bad; unfold Lib.decodeN; (repeat' split); all_goals first | rfl | (exfalso; omega) | omega)
           go_wp2
           go_ret2
           rw [HV.out]
           exact ⟨rfl, rfl⟩
       · have HV : Hid (R = (0, 0)) := hid (by rw [HR.out]; apply let_bad; unfold Lib.decodeN; (repeat' split); all_goals first | rfl | (exfalso; omega) | omega)
         go_wp2
         go_ret2
         rw [HV.out]
         exact ⟨rfl, rfl⟩
     · by_cases hc : 128 <= c2
       · by_cases hd : c2 < 192
         · go_wp2
           go_round
           case rel => exact .inr (.inr (⟨rfl, rfl, by omega, by omega, by omega, by omega⟩))
           case measure => simp [intOf]
         · have HV : Hid (R = (0, 0)) := hid (by rw [HR.out]; apply let_bad; unfold Lib.decodeN; (repeat' split); all_goals first | rfl | (exfalso; omega) | omega)
           go_wp2
           go_ret2
           rw [HV.out]
           exact ⟨rfl, rfl⟩
       · have HV : Hid (R = (0, 0)) := hid (by rw [HR.out]; apply let_bad; unfold Lib.decodeN; (repeat' split); all_goals first | rfl | (exfalso; omega) | omega)
         go_wp2
         go_ret2
         rw [HV.out]
         exact ⟨rfl, rfl⟩
     · have hx : (64 * (64 * ((c0 : Int) - 224) + ((c1 : Int) - 128)) + ((c2 : Int) - 128)) = (((64 * (64 * (c0 - 224) + (c1 - 128)) + (c2 - 128)) : Nat) : Int) := by omega
       obtain ⟨X, hX⟩ : ∃ X : Nat, X = (64 * (64 * (c0 - 224) + (c1 - 128)) + (c2 - 128)) := ⟨_, rfl⟩
       rw [<- hX] at hx
       have HX := hid hX
       have HX2 := hid hx
       have hX2 : X <= 2097151 := by omega
       clear hX hx
       rw [HX2.out]
       by_cases e1 : X < 2048
       · have HV : Hid (R = (0, 0)) := hid (by have := HX.out; rw [HR.out]; apply let_bad; unfold Lib.decodeN; (repeat' split); all_goals first | rfl | (exfalso; omega) | omega)
         go_wp2
         go_ret2
         rw [HV.out]
         exact ⟨rfl, rfl⟩
       · by_cases e2 : 1114111 < X
         · have HV : Hid (R = (0, 0)) := hid (by have := HX.out; rw [HR.out]; apply let_bad; unfold Lib.decodeN; (repeat' split); all_goals first | rfl | (exfalso; omega) | omega)
           go_wp2
           go_ret2
           rw [HV.out]
           exact ⟨rfl, rfl⟩
         · by_cases e3 : 55296 <= X
           · by_cases e4 : X < 57344
             · have HV : Hid (R = (0, 0)) := hid (by have := HX.out; rw [HR.out]; apply let_bad; unfold Lib.decodeN; (repeat' split); all_goals first | rfl | (exfalso; omega) | omega)
               go_wp2
               go_ret2
               rw [HV.out]
               exact ⟨rfl, rfl⟩
             · have HV : Hid (R = (3, X)) := hid (by have := HX.out; rw [HR.out]; refine let_ok h0 ?_ (.inr (by decide)); unfold Lib.decodeN; (repeat' split); all_goals first | (exfalso; omega) | (refine Prod.ext ?_ rfl; show _ = X; omega))
               go_wp2
               go_ret2
               rw [HV.out]
               exact ⟨rfl, rfl⟩
           · have HV : Hid (R = (3, X)) := hid (by have := HX.out; rw [HR.out]; refine let_ok h0 ?_ (.inr (by decide)); unfold Lib.decodeN; (repeat' split); all_goals first | (exfalso; omega) | (refine Prod.ext ?_ rfl; show _ = X; omega))
             go_wp2
             go_ret2
             rw [HV.out]
             exact ⟨rfl, rfl⟩
 by_cases h4 : 240 <= c0 /\ c0 < 248
 · obtain ⟨ha, hb⟩ := h4
   by_cases hn : n < 4
   · have HV : Hid (R = (0, 0)) := hid (by rw [HR.out]; apply let_bad; unfold Lib.decodeN; (repeat' split); all_goals first | rfl | (exfalso; omega) | omega)
     have hnz : (n : Int) < 4 := by omega
     go_enter Tryz.func99, Tryz.ntmps99
     go_wp2
     go_ret2
     rw [HV.out]
     exact ⟨rfl, rfl⟩
   have i1 := I1.out (by omega)
   have i2 := I2.out (by omega)
   have i3 := I3.out (by omega)
   have hnz : ¬ (n : Int) < 4 := by omega
   go_enter Tryz.func99, Tryz.ntmps99
   go_wp2
   go_loop [8, 6] (fun v8 v6 => (v8 = .int .i64 1 /\ v6 = .int .i64 ((c0 : Int) - 240)) ∨ (v8 = .int .i64 2 /\ v6 = .int .i64 (64 * ((c0 : Int) - 240) + ((c1 : Int) - 128)) /\ 128 <= c1 /\ c1 < 192) ∨ (v8 = .int .i64 3 /\ v6 = .int .i64 (64 * (64 * ((c0 : Int) - 240) + ((c1 : Int) - 128)) + ((c2 : Int) - 128)) /\ 128 <= c1 /\ c1 < 192 /\ 128 <= c2 /\ c2 < 192) ∨ (v8 = .int .i64 4 /\ v6 = .int .i64 (64 * (64 * (64 * ((c0 : Int) - 240) + ((c1 : Int) - 128)) + ((c2 : Int) - 128)) + ((c3 : Int) - 128)) /\ 128 <= c1 /\ c1 < 192 /\ 128 <= c2 /\ c2 < 192 /\ 128 <= c3 /\ c3 < 192)) (fun v8 _ => 4 - (intOf v8).toNat)
   case atStart => exact .inl ⟨rfl, rfl⟩
   case round =>
     rcases hrel with ⟨rfl, rfl⟩ | ⟨rfl, rfl, p1, q1⟩ | ⟨rfl, rfl, p1, q1, p2, q2⟩ | ⟨rfl, rfl, p1, q1, p2, q2, p3, q3⟩
     · by_cases hc : 128 <= c1
       · by_cases hd : c1 < 192
         · go_wp2
           go_round
           case rel => exact .inr (.inl ⟨rfl, rfl, by omega, by omega⟩)
           case measure => simp [intOf]
         · have HV : Hid (R = (0, 0)) := hid (by rw [HR.out]; apply let_bad; unfold Lib.decodeN; (repeat' split); all_goals first | rfl | (exfalso; omega) | omega)
           go_wp2
           go_ret2
           rw [HV.out]
           exact ⟨rfl, rfl⟩
       · have HV : Hid (R = (0, 0)) := hid (by rw [HR.out]; apply let_bad; unfold Lib.decodeN; (repeat' split); all_goals first | rfl | (exfalso; omega) | omega)
         go_wp2
         go_ret2
         rw [HV.out]
         exact ⟨rfl, rfl⟩
     · by_cases hc : 128 <= c2
       · by_cases hd : c2 < 192
         · go_wp2
           go_round
           case rel => exact .inr (.inr (.inl ⟨rfl, rfl, by omega, by omega, by omega, by omega⟩))
           case measure => simp [intOf]
         · have HV : Hid (R = (0, 0)) := hid (by rw [HR.out]; apply let_bad; unfold Lib.decodeN; (repeat' split); all_goals first | rfl | (exfalso; omega) | omega)
           go_wp2
           go_ret2
           rw [HV.out]
           exact ⟨rfl, rfl⟩
       · have HV : Hid (R = (0, 0)) := hid (by rw [HR.out]; apply let_bad; unfold Lib.decodeN; (repeat' split); all_goals first | rfl | (exfalso; omega) | omega)
         go_wp2
         go_ret2
         rw [HV.out]
         exact ⟨rfl, rfl⟩
     · by_cases hc : 128 <= c3
       · by_cases hd : c3 < 192
         · go_wp2
           go_round
           case rel => exact .inr (.inr (.inr (⟨rfl, rfl, by omega, by omega, by omega, by omega, by omega, by omega⟩)))
           case measure => simp [intOf]
         · have HV : Hid (R = (0, 0)) := hid (by rw [HR.out]; apply let_bad; unfold Lib.decodeN; (repeat' split); all_goals first | rfl | (exfalso; omega) | omega)
           go_wp2
           go_ret2
           rw [HV.out]
           exact ⟨rfl, rfl⟩
       · have HV : Hid (R = (0, 0)) := hid (by rw [HR.out]; apply let_bad; unfold Lib.decodeN; (repeat' split); all_goals first | rfl | (exfalso; omega) | omega)
         go_wp2
         go_ret2
         rw [HV.out]
         exact ⟨rfl, rfl⟩
     · have hx : (64 * (64 * (64 * ((c0 : Int) - 240) + ((c1 : Int) - 128)) + ((c2 : Int) - 128)) + ((c3 : Int) - 128)) = (((64 * (64 * (64 * (c0 - 240) + (c1 - 128)) + (c2 - 128)) + (c3 - 128)) : Nat) : Int) := by omega
       obtain ⟨X, hX⟩ : ∃ X : Nat, X = (64 * (64 * (64 * (c0 - 240) + (c1 - 128)) + (c2 - 128)) + (c3 - 128)) := ⟨_, rfl⟩
       rw [<- hX] at hx
       have HX := hid hX
       have HX2 := hid hx
       have hX2 : X <= 2097151 := by omega
       clear hX hx
       rw [HX2.out]
       by_cases e1 : X < 65536
       · have HV : Hid (R = (0, 0)) := hid (by have := HX.out; rw [HR.out]; apply let_bad; unfold Lib.decodeN; (repeat' split); all_goals first | rfl | (exfalso; omega) | omega)
         go_wp2
         go_ret2
         rw [HV.out]
         exact ⟨rfl, rfl⟩
       · by_cases e2 : 1114111 < X
         · have HV : Hid (R = (0, 0)) := hid (by have := HX.out; rw [HR.out]; apply let_bad; unfold Lib.decodeN; (repeat' split); all_goals first | rfl | (exfalso; omega) | omega)
           go_wp2
           go_ret2
           rw [HV.out]
           exact ⟨rfl, rfl⟩
         · have e3 : 55296 <= X := by omega
           have e4 : ¬ X < 57344 := by omega
           have HV : Hid (R = (4, X)) := hid (by have := HX.out; rw [HR.out]; refine let_ok h0 ?_ (.inr (by decide)); unfold Lib.decodeN; (repeat' split); all_goals first | (exfalso; omega) | (refine Prod.ext ?_ rfl; show _ = X; omega))
           go_wp2
           go_ret2
           rw [HV.out]
           exact ⟨rfl, rfl⟩
 have HV : Hid (R = (0, 0)) := hid (by rw [HR.out]; apply let_bad; unfold Lib.decodeN; (repeat' split); all_goals first | rfl | (exfalso; omega) | omega)
 have g1 : ¬ (c0 : Int) < 128 := by omega
 by_cases g2 : c0 < 192
 · go_enter Tryz.func99, Tryz.ntmps99
   go_wp2
   go_ret2
   rw [HV.out]
   exact ⟨rfl, rfl⟩
 · go_enter Tryz.func99, Tryz.ntmps99
   go_wp2
   go_ret2
   rw [HV.out]
   exact ⟨rfl, rfl⟩
end Go.Proofs.YtmhbkjjkalnggaaGreatDoor
