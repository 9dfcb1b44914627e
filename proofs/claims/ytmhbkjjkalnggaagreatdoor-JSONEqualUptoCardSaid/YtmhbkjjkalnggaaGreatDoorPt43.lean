import Derived.Test.YtmhbkjjkalnggaaGreatDoorPt42
namespace Go.Proofs.YtmhbkjjkalnggaaGreatDoor
open Go.RowKit
set_option maxRecDepth 100000
set_option maxHeartbeats 4000000
theorem letR_bad {m : List UInt8} (h : (Lib.decodeL m).1 = 65533 /\ (Lib.decodeL m).2 = 1) : letR m = (0, 0) := by
 unfold letR
 rw [Lib.decodeL_N] at h
 split
 · rfl
 · rw [if_pos (Prod.ext h.1 h.2)]
theorem letR_ok {m : List UInt8} (hm : m ≠ []) (h : ¬ ((Lib.decodeL m).1 = 65533 /\ (Lib.decodeL m).2 = 1)) : letR m = ((Lib.decodeL m).2, (Lib.decodeL m).1) := by
 unfold letR
 rw [Lib.decodeL_N] at h ⊢
 rw [if_neg hm, if_neg (fun e => h ⟨congrArg Prod.fst e, congrArg Prod.snd e⟩)]
 rfl
theorem let_wide (m : List UInt8) (hm : m ≠ []) : 1 <= (Lib.decodeL m).2 /\ (Lib.decodeL m).2 <= m.length := by
 have h0 : 0 < m.length := List.length_pos_iff.2 hm
 have e : Lib.decodeL m = Utf8.decode (bs m) 0 := rfl
 rw [e]
 rcases dec_bs m 0 h0 with ⟨h1, h2⟩ | ⟨h1, h2, h3, h4, h5⟩
 · rw [h2]; exact ⟨Nat.le_refl _, h0⟩
 · have := (h5 ((Utf8.decode (bs m) 0).2 - 1) (by omega)).1
   exact ⟨h4, by omega⟩
def strLen : Value -> Nat
 | .string b => b.size
 | _ => 0
theorem dutf_ok (l : List UInt8) (w : World) (hl : l.length <= 9223372036854775807) :
   Calls Tryz.prog 72 #[.string (bs l)] w fun e w' => e = .returned (.bool (Lib.validD l)) /\ w = w' := by
 have HL := hid hl
 obtain ⟨R, hR⟩ : ∃ R, R = Lib.validD l := ⟨_, rfl⟩
 rw [<- hR]
 have HR := hid hR
 clear hR hl
 go_enter Tryz.func72, Tryz.ntmps72
 go_wp2
 go_loop [0] (fun v0 => ∃ m : List UInt8, v0 = .string (bs m) /\ Hid (m.length <= l.length /\ Lib.validD m = R)) (fun v0 => strLen v0)
 case atStart => exact ⟨l, rfl, hid ⟨Nat.le_refl _, HR.out.symm⟩⟩
 case round =>
   obtain ⟨m, rfl, HM⟩ := hrel
   have hsz := bs_size m
   by_cases hm : m = []
   · have HV : Hid (R = true) := hid (by rw [<- HM.out.2, hm]; rfl)
     have hz : ¬ (0 : Int) < (m.length : Int) := by rw [hm]; simp
     clear hm
     go_wp2
     go_ret
     rw [HV.out]
     exact ⟨rfl, rfl⟩
   · have hz : (0 : Int) < (m.length : Int) := by have := List.length_pos_iff.2 hm; omega
     have HC : Hid (∀ W, Calls Tryz.prog 99 #[.string (bs m)] W fun e w' => e = .returned (.tuple #[.int .i64 ((letR m).1 : Nat), .int .i64 ((letR m).2 : Nat)]) /\ W = w') := hid fun W => letter_ok m W (by have := HL.out; have := HM.out.1; omega)
     obtain ⟨hw1, hw2⟩ := let_wide m hm
     by_cases hb : (Lib.decodeL m).1 = 65533 /\ (Lib.decodeL m).2 = 1
     · have HV : Hid (R = false) := hid (by rw [<- HM.out.2, Lib.validD_step m hm, if_pos hb])
       rw [letR_bad hb] at HC
       clear hb hw1 hw2
       go_wp2_with fail
       refine (HC.out _).mono ?_
       rintro e w2 ⟨rfl, rfl⟩
       go_wp2
       go_ret
       rw [HV.out]
       exact ⟨rfl, rfl⟩
     · have HV : Hid (Lib.validD (m.drop (Lib.decodeL m).2) = R) := hid (by rw [<- HM.out.2, Lib.validD_step m hm, if_neg hb])
       rw [letR_ok hm hb] at HC
       clear hb
       generalize (Lib.decodeL m).2 = k at *
       generalize (Lib.decodeL m).1 = x at *
       have hk0 : ((k : Int) == 0) = false := by rw [beq_eq_false_iff_ne]; omega
       have hfrom := fun (V : World) => run_from_bs (P := Tryz.prog) V 9 Tryz.underlying9 m k hw2
       go_wp2_with fail
       refine (HC.out _).mono ?_
       rintro e w2 ⟨rfl, rfl⟩
       go_wp2
       go_round
       case rel => exact ⟨m.drop k, rfl, hid ⟨by rw [List.length_drop]; have := HM.out.1; omega, HV.out⟩⟩
       case measure => simp only [strLen, bs_size, List.length_drop]; omega
end Go.Proofs.YtmhbkjjkalnggaaGreatDoor
