import Derived.Test.YtmhbkjjkalnggaaGreatDoorPt06
namespace Go.Proofs.YtmhbkjjkalnggaaGreatDoor
open Go.RowKit
set_option maxRecDepth 100000
set_option maxHeartbeats 4000000
theorem jhi_ok (x : Nat) (w : World) : Calls Tryz.prog 181 #[.int .i32 (x : Int), .int .i32 55296] w fun e w' => e = .returned (.bool (isHi x)) /\ w = w' := by
 by_cases h1 : 55296 <= x
 · have d1 : decide ((55296 : Int) <= (x : Int)) = true := by simp; omega
   have e1 : isHi x = decide ((x : Int) < 56320) := by unfold isHi; rw [decide_eq_decide]; omega
   rw [e1]
   go_enter Tryz.func181, Tryz.ntmps181
   go_wp2
   go_ret
   exact ⟨rfl, rfl⟩
 · have d1 : decide ((55296 : Int) <= (x : Int)) = false := by simp; omega
   have e1 : isHi x = false := by unfold isHi; simp; omega
   rw [e1]
   go_enter Tryz.func181, Tryz.ntmps181
   go_wp2
   go_ret
   exact ⟨rfl, rfl⟩
theorem jlo_ok (x : Nat) (w : World) : Calls Tryz.prog 181 #[.int .i32 (x : Int), .int .i32 56320] w fun e w' => e = .returned (.bool (isLo x)) /\ w = w' := by
 by_cases h1 : 56320 <= x
 · have d1 : decide ((56320 : Int) <= (x : Int)) = true := by simp; omega
   have e1 : isLo x = decide ((x : Int) < 57344) := by unfold isLo; rw [decide_eq_decide]; omega
   rw [e1]
   go_enter Tryz.func181, Tryz.ntmps181
   go_wp2
   go_ret
   exact ⟨rfl, rfl⟩
 · have d1 : decide ((56320 : Int) <= (x : Int)) = false := by simp; omega
   have e1 : isLo x = false := by unfold isLo; simp; omega
   rw [e1]
   go_enter Tryz.func181, Tryz.ntmps181
   go_wp2
   go_ret
   exact ⟨rfl, rfl⟩
theorem JAt.setAlone {w : World} {p : Nat} {X : Txt} {s : List UInt8} {E O : Value} {f : Fl} (h : JAt w p X s E O f) :
   w.cell? ⟨p, 5, none⟩ = some (.bool f.alone) /\ w.frozen? ⟨p, 5, none⟩ = false /\ JTo p X s E O { f with alone := true } w (w.setCell ⟨p, 5, none⟩ (.bool true)) := by
 obtain ⟨hl, k, hr, hs, hk⟩ := h
 have hkk : Kept (· = p) w (w.setCell ⟨p, 5, none⟩ (.bool true)) := Kept.cell _ _ _ _
 exact ⟨hr.row.cell (i := 5) rfl, hr.row.free 5, ⟨hl, k, hr.step hkk (by simpa [rdCells] using hr.row.set_ 5 (.bool true)), hs, hk⟩, hkk⟩
def codedR (f : Fl) (s : List UInt8) : Option (Value × Fl × List UInt8) := (codedL s).map fun q => (.int .i32 (q.1 : Int), { f with alone := f.alone || q.2.1 }, q.2.2)
theorem four_lt {s : List UInt8} {x : Nat} {t : List UInt8} (h : four s = some (x, t)) : x < 65536 := by
 have := hexN_lt 4 0 s x t h
 simpa using this
theorem codedL_none {s : List UInt8} (h : four s = none) : codedL s = none := by unfold codedL; rw [h]
theorem codedL_plain {s t : List UInt8} {x : Nat} (h : four s = some (x, t)) (h1 : isHi x = false) (h2 : isLo x = false) : codedL s = some (x, false, t) := by
 unfold codedL; rw [h]; simp only; rw [if_pos ⟨h1, h2⟩]
theorem codedL_low {s t : List UInt8} {x : Nat} (h : four s = some (x, t)) (h1 : isHi x = false) (h2 : isLo x = true) : codedL s = some (65533, true, t) := by
 unfold codedL; rw [h]; simp only; rw [if_neg (by rw [h2]; simp), if_neg (by rw [h1]; simp)]
theorem codedL_high {s t : List UInt8} {x : Nat} (h : four s = some (x, t)) (h1 : isHi x = true) (h2 : pfx [92, 117] t = false) : codedL s = some (65533, true, t) := by
 unfold codedL; rw [h]; simp only; rw [if_neg (by rw [h1]; simp), if_neg (by rw [h2]; simp)]
theorem codedL_two {s t : List UInt8} {x : Nat} (h : four s = some (x, t)) (h1 : isHi x = true) (h2 : pfx [92, 117] t = true) : codedL s = match four (t.drop 2) with
     | none => none
     | some (y, r) => if isLo y = true then some (65536 + (x - 55296) * 1024 + (y - 56320), false, r) else some (65533, true, r) := by
 unfold codedL; rw [h]; simp only; rw [if_neg (by rw [h1]; simp), if_pos ⟨h1, h2⟩]
 rfl
theorem jcoded_ok (p : Nat) (X : Txt) (s : List UInt8) (E O : Value) (f : Fl) (w : World) (h : JAt w p X s E O f) :
   Calls Tryz.prog 157 #[.pointer (some ⟨p, 0, none⟩)] w (JRes p X E O w (codedR f s)) := by
 have HF := hid (jfour_ok p X s E O f w h)
 have HR : Hid (codedR f s = (codedL s).map fun q => (.int .i32 (q.1 : Int), { f with alone := f.alone || q.2.1 }, q.2.2)) := hid rfl
 clear h
 generalize codedR f s = R at *
 go_enter Tryz.func157, Tryz.ntmps157
 cases h4 : four s with
 | none =>
   obtain rfl : R = none := by rw [HR.out, codedL_none h4]; rfl
   have e4 : fourR f s = none := by unfold fourR; rw [h4]; rfl
   rw [e4] at HF
   clear h4 e4
   go_wp2_with fail
   refine HF.out.mono ?_
   rintro e w1 ⟨rfl, hk⟩
   have HK := hid hk
   clear hk HF
   go_wp2_with fail
   exact ⟨rfl, rfl, HK.out⟩
 | some q =>
   obtain ⟨x, t⟩ := q
   have e4 : fourR f s = some (.int .i32 (x : Int), f, t) := by unfold fourR; rw [h4]; rfl
   rw [e4] at HF
   have hx := four_lt h4
   have HHI := hid (fun W => jhi_ok x W)
   have HLO := hid (fun W => jlo_ok x W)
   have HC0 := hid (fun (h1 : isHi x = false) (h2 : isLo x = false) => codedL_plain h4 h1 h2)
   have HC1 := hid (fun (h1 : isHi x = false) (h2 : isLo x = true) => codedL_low h4 h1 h2)
   have HC2 := hid (fun (h1 : isHi x = true) (h2 : pfx [92, 117] t = false) => codedL_high h4 h1 h2)
   have HC3 := hid (fun (h1 : isHi x = true) (h2 : pfx [92, 117] t = true) => codedL_two h4 h1 h2)
   have HXR : Hid (isHi x = true -> 55296 <= x /\ x < 56320) := hid fun h9 => by unfold isHi at h9; exact of_decide_eq_true h9
   clear h4 e4
   go_wp2_with fail
   refine HF.out.mono ?_
   rintro e w1 ⟨rfl, hj, hk⟩
   have HJ := hid hj
   have HK := hid hk
   clear hj hk HF
   cases h1 : isHi x with
   | false =>
     rw [h1] at HHI
     cases h2 : isLo x with
     | false =>
       rw [h2] at HLO
       obtain rfl : R = some (.int .i32 (x : Int), f, t) := by rw [HR.out, HC0.out h1 h2]; simp
       clear h1 h2 HC0 HC1 HC2 HC3 HXR
       go_wp2_with fail
       refine (HHI.out _).mono ?_
       rintro e w2 ⟨rfl, rfl⟩
       go_wp2_with fail
       refine (HLO.out _).mono ?_
       rintro e w2 ⟨rfl, rfl⟩
       go_wp2_with fail
       go_ret
       exact ⟨rfl, HJ.out, HK.out⟩
     | true =>
       rw [h2] at HLO
       obtain rfl : R = some (.int .i32 ((65533 : Nat) : Int), { f with alone := true }, t) := by rw [HR.out, HC1.out h1 h2]; simp
       clear h1 h2 HC0 HC1 HC2 HC3 HXR
       obtain ⟨a1, a2, a3⟩ := HJ.out.setAlone
       have HA := hid a3
       clear a3
       go_wp2_with fail
       refine (HHI.out _).mono ?_
       rintro e w2 ⟨rfl, rfl⟩
       go_wp2_with fail
       refine (HLO.out _).mono ?_
       rintro e w2 ⟨rfl, rfl⟩
       go_wp2_with fail
       refine (HHI.out _).mono ?_
       rintro e w2 ⟨rfl, rfl⟩
       go_wp2_with fail
       go_ret
       exact ⟨rfl, HA.out.1, HK.out.trans' HA.out.2⟩
   | true =>
     rw [h1] at HHI
     obtain ⟨hx1, hx2⟩ := HXR.out h1
     have HWD := hid (jword_ok p X [92, 117] t E O f _ HJ.out (by decide))
     cases h2 : pfx [92, 117] t with
     | false =>
       rw [h2] at HWD
       obtain rfl : R = some (.int .i32 ((65533 : Nat) : Int), { f with alone := true }, t) := by rw [HR.out, HC2.out h1 h2]; simp
       clear h1 h2 HC0 HC1 HC2 HC3 HXR
       go_wp2_with fail
       refine (HHI.out _).mono ?_
       rintro e w2 ⟨rfl, rfl⟩
       go_wp2_with fail
       refine (HHI.out _).mono ?_
       rintro e w2 ⟨rfl, rfl⟩
       go_wp2_with fail
       refine HWD.out.mono ?_
       rintro e w3 ⟨rfl, hj, hk⟩
       have hj2 : JAt w3 p X t E O f := hj
       obtain ⟨a1, a2, a3⟩ := hj2.setAlone
       have HA := hid a3
       have HK2 := hid (HK.out.trans' hk)
       clear a3 hj hk hj2
       go_wp2_with fail
       go_ret
       exact ⟨rfl, HA.out.1, HK2.out.trans' HA.out.2⟩
     | true =>
       rw [h2] at HWD
       have HC := hid (HC3.out h1 h2)
       clear h1 h2 HC0 HC1 HC2 HC3 HXR
       go_wp2_with fail
       refine (HHI.out _).mono ?_
       rintro e w2 ⟨rfl, rfl⟩
       go_wp2_with fail
       refine (HHI.out _).mono ?_
       rintro e w2 ⟨rfl, rfl⟩
       go_wp2_with fail
       refine HWD.out.mono ?_
       rintro e w3 ⟨rfl, hj, hk⟩
       have hj2 : JAt w3 p X (t.drop 2) E O f := hj
       have HK2 := hid (HK.out.trans' hk)
       have HF2 := hid (jfour_ok p X (t.drop 2) E O f w3 hj2)
       clear hj hk hj2
       generalize t.drop 2 = u at *
       cases h5 : four u with
       | none =>
         obtain rfl : R = none := by rw [HR.out, HC.out, h5]; rfl
         have e4 : fourR f u = none := by unfold fourR; rw [h5]; rfl
         rw [e4] at HF2
         clear h5 e4
         go_wp2_with fail
         refine HF2.out.mono ?_
         rintro e w4 ⟨rfl, hk⟩
         have HK3 := hid (HK2.out.trans' hk)
         clear hk
         go_wp2_with fail
         exact ⟨rfl, rfl, HK3.out⟩
       | some q =>
         obtain ⟨y, r⟩ := q
         have e4 : fourR f u = some (.int .i32 (y : Int), f, r) := by unfold fourR; rw [h5]; rfl
         rw [e4] at HF2
         have hy := four_lt h5
         have HLY := hid (fun W => jlo_ok y W)
         have HYR : Hid (isLo y = true -> 56320 <= y /\ y < 57344) := hid fun h9 => by unfold isLo at h9; exact of_decide_eq_true h9
         rw [h5] at HC
         clear h5 e4
         go_wp2_with fail
         refine HF2.out.mono ?_
         rintro e w4 ⟨rfl, hj, hk⟩
         have HJ3 := hid hj
         have HK3 := hid (HK2.out.trans' hk)
         clear hj hk
         cases h6 : isLo y with
         | false =>
           rw [h6] at HLY
           obtain rfl : R = some (.int .i32 ((65533 : Nat) : Int), { f with alone := true }, r) := by rw [HR.out, HC.out, if_neg (by rw [h6]; simp)]; simp
           clear h6
           obtain ⟨a1, a2, a3⟩ := HJ3.out.setAlone
           have HA := hid a3
           clear a3
           go_wp2_with fail
           refine (HLY.out _).mono ?_
           rintro e w5 ⟨rfl, rfl⟩
           go_wp2_with fail
           go_ret
           exact ⟨rfl, HA.out.1, HK3.out.trans' HA.out.2⟩
         | true =>
           obtain ⟨hy1, hy2⟩ := HYR.out h6
           rw [h6] at HLY
           obtain rfl : R = some (.int .i32 ((65536 + (x - 55296) * 1024 + (y - 56320) : Nat) : Int), f, r) := by rw [HR.out, HC.out, if_pos h6]; simp
           clear h6
           have HE : Hid ((65536 + ((x : Int) - 55296) * 1024 + (y : Int) - 56320) = ((65536 + (x - 55296) * 1024 + (y - 56320) : Nat) : Int)) := hid (by omega)
           generalize ((65536 + (x - 55296) * 1024 + (y - 56320) : Nat) : Int) = zz at *
           go_wp2_with fail
           refine (HLY.out _).mono ?_
           rintro e w5 ⟨rfl, rfl⟩
           go_wp2_with fail
           go_ret
           exact ⟨by rw [<- HE.out]; rfl, HJ3.out, HK3.out⟩
def letterR (f : Fl) (s : List UInt8) : Option (Value × Fl × List UInt8) := (letterL s).map fun q => (.int .i32 (q.1 : Int), { f with alone := f.alone || q.2.1 }, q.2.2)
def escSigns : List UInt8 := [34, 92, 98, 102, 110, 114, 116, 47]
def escLetters : List UInt8 := [34, 92, 8, 12, 10, 13, 9, 47]
def escOk (b : UInt8) : Bool := match escV b with
 | none => decide (Lib.indexByte escSigns b = -1)
 | some x => decide (0 <= Lib.indexByte escSigns b /\ Lib.indexByte escSigns b < 8 /\ (escLetters.getD (Lib.indexByte escSigns b).toNat 0).toNat = x /\ x < 128)
theorem escOk_all : ∀ b : Fin 256, escOk (UInt8.ofNat b.val) = true := by decide +kernel
theorem escOk_at (b : UInt8) : escOk b = true := by
 have := escOk_all ⟨b.toNat, b.toNat_lt⟩
 simpa only [UInt8.ofNat_toNat] using this
theorem esc_none {b : UInt8} (h : escV b = none) : Lib.indexByte escSigns b = -1 := by
 have := escOk_at b
 unfold escOk at this
 rw [h] at this
 exact of_decide_eq_true this
theorem esc_some {b : UInt8} {x : Nat} (h : escV b = some x) : ∃ i : Nat, Lib.indexByte escSigns b = (i : Int) /\ i < escLetters.length /\ byteAt escLetters i = x /\ x < 128 := by
 have := escOk_at b
 unfold escOk at this
 rw [h] at this
 obtain ⟨h1, h2, h3, h4⟩ := of_decide_eq_true this
 exact ⟨(Lib.indexByte escSigns b).toNat, by omega, by show _ < 8; omega, h3, h4⟩
theorem jletter_ok (p : Nat) (X : Txt) (s : List UInt8) (E O : Value) (f : Fl) (w : World) (h : JAt w p X s E O f) :
   Calls Tryz.prog 126 #[.pointer (some ⟨p, 0, none⟩)] w (JRes p X E O w (letterR f s)) := by
 have HN := hid (jnext_ok p X s E O f w h)
 have HR : Hid (letterR f s = (letterL s).map fun q => (.int .i32 (q.1 : Int), { f with alone := f.alone || q.2.1 }, q.2.2)) := hid rfl
 clear h
 generalize letterR f s = R at *
 go_enter Tryz.func126, Tryz.ntmps126
 cases s with
 | nil =>
   obtain rfl : R = none := HR.out
   go_wp2_with fail
   refine HN.out.mono ?_
   rintro e w1 ⟨rfl, hk⟩
   have HK := hid hk
   clear hk
   go_wp2_with fail
   exact ⟨rfl, rfl, HK.out⟩
 | cons b t =>
   by_cases hb : b = 117
   · subst hb
     have hr : R = codedR f t := by rw [HR.out]; unfold letterL codedR; simp
     have HRC := hid hr
     clear hr
     go_wp2_with fail
     refine HN.out.mono ?_
     rintro e w1 ⟨rfl, hj, hk⟩
     have HC := hid (jcoded_ok p X t E O f w1 hj)
     have HK := hid hk
     rw [<- HRC.out] at HC
     clear hj hk HRC HR
     go_wp2_with fail
     refine HC.out.mono ?_
     intro e w2 hx
     cases R with
     | none =>
       obtain ⟨rfl, hk⟩ := hx
       have HK2 := hid (HK.out.trans' hk)
       clear hk
       go_wp2_with fail
       exact ⟨rfl, rfl, HK2.out⟩
     | some q =>
       obtain ⟨v, f2, r⟩ := q
       obtain ⟨rfl, hj, hk⟩ := hx
       have HJ := hid hj
       have HK2 := hid (HK.out.trans' hk)
       clear hj hk
       go_wp2_with fail
       go_ret
       exact ⟨rfl, HJ.out, HK2.out⟩
   · have HIB := hid (fun W => jindex_ok escSigns b W)
     have hne : ((b.toNat : Int) == 117) = false := by
       rw [beq_eq_false_iff_ne]
       intro h9
       exact hb (by rw [<- UInt8.toNat_inj]; show b.toNat = 117; omega)
     have HL : Hid (letterL (b :: t) = match escV b with | none => none | some x => some (x, false, t)) := hid (by unfold letterL; simp only; rw [if_neg hb]; rfl)
     cases he : escV b with
     | none =>
       rw [he] at HL
       obtain rfl : R = none := by rw [HR.out, HL.out]; rfl
       rw [esc_none he] at HIB
       clear he hb HL HR
       generalize hy : b.toNat = y at *
       go_wp2_with fail
       refine HN.out.mono ?_
       rintro e w1 ⟨rfl, hj, hk⟩
       have HK := hid hk
       rw [hy]
       clear hj hk hy
       go_wp2_with fail
       refine (HIB.out _).mono ?_
       rintro e w2 ⟨rfl, rfl⟩
       go_wp2_with fail
       exact ⟨rfl, rfl, HK.out⟩
     | some x =>
       rw [he] at HL
       obtain rfl : R = some (.int .i32 (x : Int), f, t) := by rw [HR.out, HL.out]; simp
       obtain ⟨i, hi1, hi2, hi3, hi4⟩ := esc_some he
       rw [hi1] at HIB
       have hidx : ∀ W : World, (Instr.index 9 (.string ⟨#[34, 92, 8, 12, 10, 13, 9, 47]⟩) (.int .i64 (i : Int))).run Tryz.prog W = .ok (.int .u8 (x : Int)) W := fun W => by
         have h9 := run_byte (P := Tryz.prog) 9 Tryz.underlying9 escLetters i hi2 W
         rwa [hi3] at h9
       clear he hb HL HR hi1 hi3
       generalize hy : b.toNat = y at *
       go_wp2_with fail
       refine HN.out.mono ?_
       rintro e w1 ⟨rfl, hj, hk⟩
       have HJ := hid hj
       have HK := hid hk
       rw [hy]
       clear hj hk hy
       go_wp2_with fail
       refine (HIB.out _).mono ?_
       rintro e w2 ⟨rfl, rfl⟩
       have hw : IntKind.i32.wrap (x : Int) = (x : Int) := by simp [IntKind.wrap, IntKind.bits, IntKind.signed]; omega
       go_wp2_with fail
       go_ret
       exact ⟨rfl, HJ.out, HK.out⟩
theorem JAt.len {w : World} {p : Nat} {X : Txt} {s : List UInt8} {E O : Value} {f : Fl} (h : JAt w p X s E O f) : s.length <= X.l.length := by
 obtain ⟨_, k, _, rfl, _⟩ := h
 rw [List.length_drop]
 omega
theorem JAt.lt {w : World} {p : Nat} {X : Txt} {s : List UInt8} {E O : Value} {f : Fl} (h : JAt w p X s E O f) : p < w.heap.size := by
 obtain ⟨_, k, hr, _, _⟩ := h
 exact hr.row.lt
theorem JAt.above {w wr w' : World} {p : Nat} {X : Txt} {s s0 : List UInt8} {E O E0 O0 : Value} {f f0 : Fl} (h0 : JAt w p X s0 E0 O0 f0) (h : JAt wr p X s E O f) (hk : Kept (fun q => w.heap.size <= q) wr w') : JAt w' p X s E O f := by
 have hp := h0.lt
 obtain ⟨hl, k, hr, hs, hkl⟩ := h
 obtain ⟨_, k0, hr0, _, _⟩ := h0
 refine ⟨hl, k, ⟨?_, fun i hi => ?_⟩, hs, hkl⟩
 · exact (hk.block p hr.row.lt (by show ¬ w.heap.size <= p; omega)).trans hr.row
 · obtain ⟨g, off, e, hg, hlt, hc⟩ := hr.txt i hi
   obtain ⟨g0, off0, e0, _, hlt0, _⟩ := hr0.txt i hi
   rw [e] at e0
   injection e0 with e0
   injection e0 with e1 e2 _
   subst e1 e2
   exact ⟨g, off, e, hg, Nat.lt_of_lt_of_le hlt hk.size, (World.cell?_of_block (a := ⟨g, off + i, none⟩) (hk.block g hlt (by show ¬ w.heap.size <= g; omega))).trans hc⟩
theorem own_kept {w w' : World} {B p n : Nat} {e : TypeId} {v : Value} {xs : List Value} (h : w.ownsRowF B e 1 v n xs) (hk : Kept (· = p) w w') (hp : p < B) : w'.ownsRowF B e 1 v n xs := by
 refine ⟨h.1, h.2.imp id ?_⟩
 rintro ⟨g, cap, cur, fz, h1, h2, h3, h4⟩
 exact ⟨g, cap, cur, fz, h1, h2, hk.heap h3 (by show ¬ g = p; omega), h4⟩
theorem own_holds {w : World} {B : Nat} {e : TypeId} {v : Value} {l : List UInt8} (h : w.ownsRowF B e 1 v l.length (u8s l)) : ∃ A c, v = .slice A l.length c /\ Holds w A l.length 1 (u8s l) := by
 rcases h.2 with ⟨h1, h2⟩ | ⟨g, cap, cur, fz, h1, h2, h3, h4, h5, h6, h7, h8⟩
 · refine ⟨none, 0, by rw [h1, h2], h.1, fun h0 => by omega⟩
 · refine ⟨some ⟨g, 0, none⟩, cap, h1, h.1, fun _ => ⟨g, 0, rfl, lt_of_heap h3, fun j u hu => ?_⟩⟩
   rw [Nat.zero_add, cell_of_row _ _ _ _ _ _ h3]
   rw [<- h8] at hu
   have hj : j < l.length * 1 := by
     have := (List.getElem?_eq_some_iff.1 hu).1
     rw [List.length_take] at this; omega
   rw [List.getElem?_take_of_lt hj] at hu
   simpa using hu
theorem kept_own {w w' : World} {row : Option Nat} {B : Nat} (hg : w.grownBy w' row) (hr : ∀ r, row = some r -> B <= r) : Kept (fun q => B <= q) w w' := kept_grown (Kept.refl _ _) hg hr
theorem letterL_ok {s : List UInt8} {x : Nat} {a : Bool} {t : List UInt8} (h : letterL s = some (x, a, t)) : x < 1114112 /\ ¬ (55296 <= x /\ x <= 57343) := by
 cases s with
 | nil => cases h
 | cons b r =>
   unfold letterL at h
   simp only at h
   split at h
   · unfold codedL at h
     split at h
     · cases h
     · rename_i x1 t1 h1
       have := four_lt h1
       split at h
       · rename_i hh
         injection h with h; injection h with h _; subst h
         obtain ⟨g1, g2⟩ := hh
         unfold isHi at g1; unfold isLo at g2
         have g1 := of_decide_eq_false g1
         have g2 := of_decide_eq_false g2
         omega
       · split at h
         · rename_i hh
           have g1 := hh.1
           unfold isHi at g1
           have g1 := of_decide_eq_true g1
           split at h
           · cases h
           · rename_i y r2 h2
             split at h
             · rename_i g2
               unfold isLo at g2
               have g2 := of_decide_eq_true g2
               injection h with h; injection h with h _; subst h
               omega
             · injection h with h; injection h with h _; subst h; omega
         · injection h with h; injection h with h _; subst h; omega
   · split at h
     · cases h
     · rename_i x2 h2
       obtain ⟨_, _, _, _, h9⟩ := esc_some h2
       injection h with h; injection h with h _; subst h; omega
theorem ofNat_lt {x : Nat} (h : x < 256) : (UInt8.ofNat x).toNat = x := by simp; omega
theorem runeL_cells {x : Nat} (h : x < 1114112) (h2 : ¬ (55296 <= x /\ x <= 57343)) : Lib.runeCells (x : Int) = u8s (runeL x) := by
 unfold Lib.runeCells runeL u8s
 split
 · rw [Lib.encodeRuneZ_one (by omega) (by omega)]
   simp; omega
 · split
   · rw [Lib.encodeRuneZ_two (by omega) (by omega)]
     simp only [List.map_cons, List.map_nil, ofNat_lt (show 192 + x / 64 < 256 by omega), ofNat_lt (show 128 + x % 64 < 256 by omega)]
     simp
   · split
     · rw [Lib.encodeRuneZ_three (by omega)]
       simp only [List.map_cons, List.map_nil, ofNat_lt (show 224 + x / 4096 < 256 by omega), ofNat_lt (show 128 + x / 64 % 64 < 256 by omega), ofNat_lt (show 128 + x % 64 < 256 by omega)]
       simp
     · rw [Lib.encodeRuneZ_four (by omega) (by omega)]
       simp only [List.map_cons, List.map_nil, ofNat_lt (show 240 + x / 262144 < 256 by omega), ofNat_lt (show 128 + x / 4096 % 64 < 256 by omega), ofNat_lt (show 128 + x / 64 % 64 < 256 by omega), ofNat_lt (show 128 + x % 64 < 256 by omega)]
       simp
def letsR (f : Fl) (s : List UInt8) : Option (Value × Fl × List UInt8) := (letsL s).map fun q => (.string (bs q.1), { f with alone := f.alone || q.2.1 }, q.2.2)
def letsQ (done : List UInt8) (f : Fl) (r : List UInt8) : Option (Value × Fl × List UInt8) := (letsL r).map fun q => (.string (bs (done ++ q.1)), { f with alone := f.alone || q.2.1 }, q.2.2)
theorem letsQ_nil (done : List UInt8) (f : Fl) : letsQ done f [] = none := by unfold letsQ; rw [letsL]; rfl
theorem letsQ_end (done : List UInt8) (f : Fl) (t : List UInt8) : letsQ done f (34 :: t) = some (.string (bs done), f, t) := by unfold letsQ; rw [letsL, if_pos rfl]; simp
theorem letsQ_bad {b : UInt8} (h1 : b ≠ 34) (h2 : b ≠ 92) (h3 : b.toNat < 32) (done : List UInt8) (f : Fl) (t : List UInt8) : letsQ done f (b :: t) = none := by unfold letsQ; rw [letsL, if_neg h1, if_neg h2, if_pos h3]; rfl
theorem letsQ_one {b : UInt8} (h1 : b ≠ 34) (h2 : b ≠ 92) (h3 : ¬ b.toNat < 32) (done : List UInt8) (f : Fl) (t : List UInt8) : letsQ done f (b :: t) = letsQ (done ++ [b]) f t := by
 unfold letsQ
 rw [letsL_plain h1 h2 h3]
 cases letsL t with
 | none => rfl
 | some q => simp
theorem letsQ_none {t : List UInt8} (h : letterL t = none) (done : List UInt8) (f : Fl) : letsQ done f (92 :: t) = none := by
 unfold letsQ
 rw [letsL, if_neg (by decide), if_pos rfl]
 split
 · rfl
 · rename_i h2; rw [h] at h2; cases h2
theorem letsQ_esc {t r : List UInt8} {x : Nat} {a : Bool} (h : letterL t = some (x, a, r)) (done : List UInt8) (f : Fl) : letsQ done f (92 :: t) = letsQ (done ++ runeL x) { f with alone := f.alone || a } r := by
 unfold letsQ
 rw [letsL_esc92 h]
 cases letsL r with
 | none => rfl
 | some q => simp [Bool.or_assoc]
theorem runeL_len (x : Nat) : (runeL x).length <= 4 := by
 unfold runeL
 split
 · simp
 · split
   · simp
   · split <;> simp
theorem infoByte : (Tryz.prog.info? 5).map (fun i => (i.zero, i.size, i.bytes)) = some (some (.int .u8 0), 1, 1) := by kernel_rfl
theorem kept_mono {F G : Nat -> Prop} {a b : World} (h : Kept F a b) (hf : ∀ k, F k -> G k) : Kept G a b := ⟨h.os, h.tape, h.output, h.size, fun k hk hn => h.block k hk fun hF => hn (hf k hF)⟩
def TxF (w : World) (p q : Nat) : Prop := q = p ∨ w.heap.size <= q
theorem kept_cut {w w' : World} {p : Nat} (h : Kept (TxF w p) w w') : Kept (· = p) w w' := ⟨h.os, h.tape, h.output, h.size, fun k hk hn => h.block k hk fun hF => by
 rcases hF with h1 | h1
 · exact hn h1
 · omega⟩
theorem kept_p {w a b : World} {p : Nat} (h : Kept (· = p) a b) : Kept (TxF w p) a b := kept_mono h fun _ e => .inl e
theorem kept_new {w a b : World} {p : Nat} (h : Kept (fun q => w.heap.size <= q) a b) : Kept (TxF w p) a b := kept_mono h fun _ e => .inr e
theorem kept_rune {w a b : World} {e : TypeId} {v : Value} {n : Nat} {xs : List Value} (ho : a.ownsRowF w.heap.size e 1 v n xs) {o : Obj} (hg : (a.alloc o).grownBy b v.ownBlock) : Kept (fun q => w.heap.size <= q) a b :=
 ((Kept.refl _ _).alloc o).trans' (kept_own hg fun r hr => (ho.lt r hr).1)
theorem rune_own {w : World} {B : Nat} {v : Value} {done : List UInt8} {x : Nat} (h1 : x < 1114112) (h2 : ¬ (55296 <= x /\ x <= 57343)) (h : w.ownsRowF B 5 1 v (done.length + (Lib.runeCells (x : Int)).length) (u8s done ++ Lib.runeCells (x : Int))) :
   w.ownsRowF B 5 1 v (done ++ runeL x).length (u8s (done ++ runeL x)) := by
 rw [runeL_cells h1 h2, u8s_length] at h
 have e : u8s (done ++ runeL x) = u8s done ++ u8s (runeL x) := by unfold u8s; rw [List.map_append]
 rw [e, List.length_append]
 exact h
theorem byte_own {w : World} {B : Nat} {v : Value} {done : List UInt8} {b : UInt8} (h : w.ownsRowF B 5 1 v (done.length + 1) (u8s done ++ [.int .u8 (b.toNat : Int)])) :
   w.ownsRowF B 5 1 v (done ++ [b]).length (u8s (done ++ [b])) := by
 have e : u8s (done ++ [b]) = u8s done ++ [.int .u8 (b.toNat : Int)] := by unfold u8s; rw [List.map_append]; rfl
 rw [e, List.length_append]
 exact h
theorem jletters_ok (p : Nat) (X : Txt) (s : List UInt8) (E O : Value) (f : Fl) (w : World) (h : JAt w p X s E O f) (hX : X.l.length <= 1048576) :
   Calls Tryz.prog 102 #[.pointer (some ⟨p, 0, none⟩)] w (JRes p X E O w (letsR f s)) := by
 have H := hid h
 have HS := hid h.len
 have HP := hid h.lt
 have HR : Hid (letsR f s = letsQ [] f s) := hid (by unfold letsR letsQ; simp)
 clear h
 generalize letsR f s = R at *
 obtain ⟨i, hi, hz, hsz, hby⟩ : ∃ i, Tryz.prog.info? 5 = some i /\ i.zero = some (.int .u8 0) /\ i.size = 1 /\ i.bytes = 1 := by
   have h9 := infoByte
   cases hq : Tryz.prog.info? 5 with
   | none => rw [hq] at h9; cases h9
   | some i =>
     rw [hq] at h9
     injection h9 with h9
     injection h9 with e1 h9
     injection h9 with e2 e3
     exact ⟨i, rfl, e1, e2, e3⟩
 have HI := hid (And.intro hi (And.intro hz (And.intro hsz hby)))
 clear hi hz hsz hby
 go_enter Tryz.func102, Tryz.ntmps102
 go_wp2_with fail
 go_loopw [3] (fun v3 wr => ∃ (r done : List UInt8) (fl : Fl), Hid (wr.ownsRowF w.heap.size 5 1 v3 done.length (u8s done)) /\ Hid (JAt wr p X r E O fl) /\ Hid (Kept (TxF w p) w wr) /\ Hid (R = letsQ done fl r) /\ Hid (done.length + 4 * r.length <= 4 * s.length)) (fun _ wr => leftOf X p wr)
 case atStart => exact ⟨s, [], f, hid (World.ownsRowF_nil w w.heap.size 5 1), H, hid (Kept.refl _ _), HR, hid (by simp)⟩
 case round =>
   obtain ⟨r, done, fl, HO, HJ, HK, HQ, HN⟩ := hrel
   obtain ⟨A, c, rfl, hho⟩ := own_holds HO.out
   have HX := hid (jnext_ok p X r E O fl _ HJ.out)
   have HLF := hid HJ.out.left
   clear hho
   cases r with
   | nil =>
     obtain rfl : R = none := by rw [HQ.out, letsQ_nil]
     go_wp2_with fail
     refine HX.out.mono ?_
     rintro e w2 ⟨rfl, hk⟩
     have HK2 := hid (kept_cut (HK.out.trans' (kept_p hk)))
     clear hk
     go_wp2_with fail
     exact ⟨rfl, rfl, HK2.out⟩
   | cons b t =>
     by_cases h34 : b = 34
     · subst h34
       obtain rfl : R = some (.string (bs done), fl, t) := by rw [HQ.out, letsQ_end]
       go_wp2_with fail
       refine HX.out.mono ?_
       rintro e w2 ⟨rfl, hj, hk⟩
       have HJ2 := hid hj
       have HK2 := hid (kept_cut (HK.out.trans' (kept_p hk)))
       obtain ⟨A2, c2, hv2, hho⟩ := own_holds (own_kept HO.out hk HP.out)
       injection hv2 with e1 _ e3
       subst e1 e3
       have hcv := run_text_bs (P := Tryz.prog) hho 35 9 5 c Tryz.underlying35 Tryz.underlying5 Tryz.underlying9
       clear hj hk hho
       go_wp2_with fail
       go_ret
       exact ⟨rfl, HJ2.out, HK2.out⟩
     by_cases h92 : b = 92
     · subst h92
       have HLQ0 := hid (fun h => letsQ_none (t := t) h done fl)
       have HLQ1 := hid (fun x a q h => letsQ_esc (t := t) (x := x) (a := a) (r := q) h done fl)
       go_wp2_with fail
       refine HX.out.mono ?_
       rintro e w2 ⟨rfl, hj, hk⟩
       have HK2 := hid (HK.out.trans' (kept_p hk))
       have HO2 := hid (own_kept HO.out hk HP.out)
       have HLT := hid (jletter_ok p X t E O fl w2 hj)
       have HR2 : Hid (letterR fl t = (letterL t).map fun q => (.int .i32 (q.1 : Int), { fl with alone := fl.alone || q.2.1 }, q.2.2)) := hid rfl
       clear hj hk h34
       generalize letterR fl t = R2 at *
       cases hl : letterL t with
       | none =>
         rw [hl] at HR2
         obtain rfl : R2 = none := HR2.out
         obtain rfl : R = none := by rw [HQ.out, HLQ0.out hl]
         clear hl HLQ0 HLQ1
         go_wp2_with fail
         refine HLT.out.mono ?_
         rintro e w3 ⟨rfl, hk⟩
         have HK3 := hid (kept_cut (HK2.out.trans' (kept_p hk)))
         clear hk
         go_wp2_with fail
         exact ⟨rfl, rfl, HK3.out⟩
       | some q =>
         obtain ⟨x, a, t2⟩ := q
         rw [hl] at HR2
         obtain rfl : R2 = some (.int .i32 (x : Int), { fl with alone := fl.alone || a }, t2) := HR2.out
         have HQ2 : Hid (R = letsQ (done ++ runeL x) { fl with alone := fl.alone || a } t2) := hid (by rw [HQ.out, HLQ1.out _ _ _ hl])
         have HXO := hid (letterL_ok hl)
         have HLL := hid (letterL_len hl)
         clear hl HLQ0 HLQ1 HQ
         go_wp2_with fail
         refine HLT.out.mono ?_
         rintro e w3 ⟨rfl, hj, hk⟩
         have HK3 := hid (HK2.out.trans' (kept_p hk))
         have HO3 := hid (own_kept HO2.out hk HP.out)
         have HJ3 := hid hj
         have hd1 := HN.out
         have hd2 := HS.out
         simp only [List.length_cons] at hd1
         have HAR := hid (Tryz.utf8_AppendRune_row w.heap.size (.slice A done.length c) done.length (u8s done) (x : Int) (by omega) (by have := HXO.out.1; omega) w3 HO3.out (by omega) HK3.out.size)
         clear hj hk hd1 hd2
         go_wp2_with fail
         refine HAR.out.mono ?_
         rintro e w4 ⟨v', rfl, ho4, o, hg4⟩
         have hk4 := kept_rune (w := w) HO3.out hg4
         have HJ4 := hid (H.out.above HJ3.out hk4)
         have HK4 := hid (HK3.out.trans' (kept_new hk4))
         have HO4 := hid (rune_own HXO.out.1 HXO.out.2 ho4)
         have HN4 : Hid ((done ++ runeL x).length + 4 * t2.length <= 4 * s.length) := hid (by
           have h1 := HN.out
           have h2 := HLL.out
           have h3 := runeL_len x
           simp only [List.length_cons] at h1
           rw [List.length_append]; omega)
         have HLN : Hid (t2.length < (92 :: t).length) := hid (by have := HLL.out; simp only [List.length_cons]; omega)
         clear ho4 hg4 hk4
         go_wp2_with fail
         exact ⟨⟨t2, done ++ runeL x, _, HO4, HJ4, HK4, HQ2, HN4⟩, by rw [HJ4.out.left, HLF.out]; exact HLN.out⟩
     have e34 : ((b.toNat : Int) == 34) = false := by
       rw [beq_eq_false_iff_ne]
       intro h9
       exact h34 (by rw [<- UInt8.toNat_inj]; show b.toNat = 34; omega)
     have e92 : ((b.toNat : Int) == 92) = false := by
       rw [beq_eq_false_iff_ne]
       intro h9
       exact h92 (by rw [<- UInt8.toNat_inj]; show b.toNat = 92; omega)
     by_cases h32 : b.toNat < 32
     · obtain rfl : R = none := by rw [HQ.out, letsQ_bad h34 h92 h32]
       have e32 : decide ((b.toNat : Int) < 32) = true := by simp; omega
       clear h34 h92
       generalize hy : b.toNat = y at *
       go_wp2_with fail
       refine HX.out.mono ?_
       rintro e w2 ⟨rfl, hj, hk⟩
       have HK2 := hid (kept_cut (HK.out.trans' (kept_p hk)))
       rw [hy]
       clear hj hk hy
       go_wp2_with fail
       exact ⟨rfl, rfl, HK2.out⟩
     · have HQ2 : Hid (R = letsQ (done ++ [b]) fl t) := hid (by rw [HQ.out, letsQ_one h34 h92 h32])
       have e32 : decide ((b.toNat : Int) < 32) = false := by simp; omega
       have HYB : Hid (∀ v' w', World.ownsRowF w' w.heap.size 5 1 v' (done.length + 1) (u8s done ++ [.int .u8 (b.toNat : Int)]) -> World.ownsRowF w' w.heap.size 5 1 v' (done ++ [b]).length (u8s (done ++ [b]))) := hid fun v' w' h => byte_own h
       clear h34 h92 h32
       have HN2 : Hid ((done ++ [b]).length + 4 * t.length <= 4 * s.length) := hid (by
         have h1 := HN.out
         simp only [List.length_cons] at h1
         rw [List.length_append, List.length_singleton]; omega)
       have hd3 : done.length <= 4194304 := by
         have hd1 := HN.out
         have hd2 := HS.out
         simp only [List.length_cons] at hd1
         omega
       have HLN : Hid (t.length < (b :: t).length) := hid (by simp)
       generalize hy : b.toNat = y at *
       go_wp2_with fail
       refine HX.out.mono ?_
       rintro e w2 ⟨rfl, hj, hk⟩
       have HJ2 := hid hj
       have HK2 := hid (HK.out.trans' (kept_p hk))
       have HO2 := hid (World.ownsRowF.alloc (own_kept HO.out hk HP.out) (.cells #[.int .u8 (y : Int)] 5))
       have HS2 : Hid (w.heap.size <= (w2.alloc (.cells #[.int .u8 (y : Int)] 5)).heap.size) := hid (Nat.le_trans HK2.out.size ((Below.refl w2.heap.size w2).alloc (Nat.le_refl _) _).size)
       rw [hy]
       clear hj hk hy
       go_wp2_with (
         at_builtin
         refine wpList_append_ownF _ ?_ (.tmp 7) (.tmp 9) 35 ?_ w.heap.size 5 i (.int .u8 0) 1 1 Tryz.underlying35 HI.out.1 HI.out.2.1 HI.out.2.2.1 HI.out.2.2.2 rfl (by decide) (.slice A done.length c) done.length (u8s done) ?_ HO2.out ⟨w2.heap.size, 0, none⟩ 1 1 [.int .u8 (y : Int)] ?_ rfl ?_ ?_ (by unfold maxLen; omega) (by omega) HS2.out ?_
         · with_reducible rfl
         · with_reducible rfl
         · rfl
         · rfl
         · exact World.news_of_block (w := w2.alloc (.cells #[.int .u8 (y : Int)] 5)) (heap_alloc_new w2 _)
         · intro u hu; simp at hu; subst hu; rfl
         intro v' w4 ho4 hg4 _
         have hk4 := ((Kept.refl (F := fun q => w.heap.size <= q) w2).alloc (.cells #[.int .u8 (y : Int)] 5)).trans' (kept_own hg4 fun r hr => (HO2.out.lt r hr).1)
         have HJ4 := hid (H.out.above HJ2.out hk4)
         have HK4 := hid (HK2.out.trans' (kept_new hk4))
         have HO4 := hid (HYB.out _ _ ho4)
         clear ho4 hg4 hk4)
       exact ⟨⟨t, done ++ [b], fl, HO4, HJ4, HK4, HQ2, HN2⟩, by rw [HJ4.out.left, HLF.out]; exact HLN.out⟩
def jumps (J : Nat -> Act -> World -> Prop) (Q : Exit -> Act -> World -> Prop) : Exit -> Act -> World -> Prop
 | .goto l, a, w => J l a w
 | e, a, w => Q e a w
theorem wp_code {P : Program} {c : Code} {Q : Exit -> Act -> World -> Prop} {a : Act} {w : World} (c' : Code) (e : c = c') (h : c'.wp P Q a w) : c.wp P Q a w := e ▸ h
section
variable {P : Program} {a : Act} {w : World} {Q : Exit -> Act -> World -> Prop}
theorem wp_scope_labels {c : Code} (rest : Nat -> Code) (J : Nat -> Act -> World -> Prop) (μ : Nat -> Act -> World -> Nat) (hf : ∀ l a w, J l a w -> findLabel c l = some (rest l))
   (first : c.wp P (jumps J Q) a w)
   (pass : ∀ l a w, J l a w -> (rest l).wp P (jumps (fun l' a' w' => J l' a' w' /\ μ l' a' w' < μ l a w) Q) a w) : (Code.scope c).wp P Q a w := by
 intro b k cs
 have hg : ∀ l a w, J l a w -> gotoIn l (.inScope c :: k) = some (.code (rest l) :: .inScope c :: k) := fun l a w h => by simp [gotoIn, hf l a w h]
 have key : ∀ n l a w, μ l a w = n -> J l a w -> ∃ e a' w', Q e a' w' /\ Arrives P (lone (b.at a (.code (rest l) :: .inScope c :: k)) cs w) b k cs e a' w' := by
   intro n
   induction n using Nat.strongRecOn with
   | _ n ih =>
     intro l a w hn hJ
     obtain ⟨e, a₁, w₁, hq, harr⟩ := pass l a w hJ b (.inScope c :: k) cs
     cases e with
     | normal => exact ⟨.normal, a₁, w₁, hq, Steps.trans harr (.one step_inScope)⟩
     | exit id => exact ⟨.exit id, a₁, w₁, hq, fun k' hk => harr k' (by simp [exitTo, hk])⟩
     | goto l' =>
       obtain ⟨hJ', hlt⟩ := hq
       obtain ⟨e₂, a₂, w₂, hq₂, harr₂⟩ := ih _ (by omega) l' a₁ w₁ rfl hJ'
       exact ⟨e₂, a₂, w₂, hq₂, .of_steps (harr _ (hg l' a₁ w₁ hJ')) harr₂⟩
     | ret => exact ⟨_, a₁, w₁, hq, harr⟩
     | panic ch => exact ⟨_, a₁, w₁, hq, harr⟩
     | outgrown => exact ⟨_, a₁, w₁, hq, harr⟩
 obtain ⟨e, a₁, w₁, hq, harr⟩ := first b (.inScope c :: k) cs
 cases e with
 | normal => exact ⟨.normal, a₁, w₁, hq, .head step_scope (Steps.trans harr (.one step_inScope))⟩
 | exit id => exact ⟨.exit id, a₁, w₁, hq, fun k' hk => .head step_scope (harr k' (by simp [exitTo, hk]))⟩
 | goto l' =>
   obtain ⟨e₂, a₂, w₂, hq₂, harr₂⟩ := key _ l' a₁ w₁ rfl hq
   exact ⟨e₂, a₂, w₂, hq₂, .of_steps (.head step_scope (harr _ (hg l' a₁ w₁ hq))) harr₂⟩
 | ret => exact ⟨_, a₁, w₁, hq, .of_steps (.one step_scope) harr⟩
 | panic ch => exact ⟨_, a₁, w₁, hq, .of_steps (.one step_scope) harr⟩
 | outgrown => exact ⟨_, a₁, w₁, hq, .of_steps (.one step_scope) harr⟩
end
def gEnd (neg : Bool) (a b : List UInt8) (sg : Bool) (pw r : List UInt8) : Option Parts := if r = [] then some ⟨neg, a, b, sg, pw⟩ else none
def gRaise (neg : Bool) (a b : List UInt8) (sg : Bool) (pw r : List UInt8) : Option Parts := gEnd neg a b sg (pw ++ spanT r) (spanD r)
def gRaised (neg : Bool) (a b r : List UInt8) : Option Parts := match power r with | none => none | some (sg, p, r) => gEnd neg a b sg p r
def gBehind (neg : Bool) (a b r : List UInt8) : Option Parts := gRaised neg a (b ++ spanT r) (spanD r)
def gPoint (neg : Bool) (a r : List UInt8) : Option Parts := match behind r with | none => none | some (b, r) => gRaised neg a b r
def gAhead (neg : Bool) (a r : List UInt8) : Option Parts := gPoint neg (a ++ spanT r) (spanD r)
theorem parts_eq (l : List UInt8) : parts l = match ahead (signed l).2 with | none => none | some (a, r) => gPoint (signed l).1 a r := by
 unfold parts gPoint gRaised gEnd
 cases ahead (signed l).2 with
 | none => rfl
 | some q =>
   obtain ⟨a, r⟩ := q
   simp only
   cases behind r with
   | none => rfl
   | some q =>
     obtain ⟨b, r⟩ := q
     simp only
     cases power r with
     | none => rfl
     | some q => rfl
theorem drop_cons {l : List UInt8} {k : Nat} (h : k < l.length) : l.drop k = l.getD k 0 :: l.drop (k + 1) := by
 rw [List.drop_eq_getElem_cons h]
 simp [List.getD, List.getElem?_eq_getElem h]
theorem digAt_lt {l : List UInt8} {k : Nat} (h : digAt l k = true) : k < l.length /\ isDig (l.getD k 0) = true := by
 unfold digAt at h
 simpa using h
theorem span_dig {l : List UInt8} {k : Nat} (h : digAt l k = true) : spanT (l.drop k) = l.getD k 0 :: spanT (l.drop (k + 1)) /\ spanD (l.drop k) = spanD (l.drop (k + 1)) := by
 obtain ⟨h1, h2⟩ := digAt_lt h
 rw [drop_cons h1]
 unfold spanT spanD
 rw [List.takeWhile_cons, List.dropWhile_cons, if_pos h2, if_pos h2]
 exact ⟨rfl, rfl⟩
theorem span_none {l : List UInt8} {k : Nat} (h : digAt l k = false) : spanT (l.drop k) = [] /\ spanD (l.drop k) = l.drop k := by
 by_cases hk : k < l.length
 · rw [drop_cons hk]
   have h2 : isDig (l.getD k 0) = false := by unfold digAt at h; simpa [hk] using h
   unfold spanT spanD
   rw [List.takeWhile_cons, List.dropWhile_cons, h2]
   exact ⟨rfl, rfl⟩
 · rw [List.drop_of_length_le (by omega)]; exact ⟨rfl, rfl⟩
theorem span_some {l : List UInt8} {k : Nat} (h : digAt l k = true) : spanT (l.drop k) ≠ [] := by rw [(span_dig h).1]; simp
theorem gAhead_more {neg : Bool} {a l : List UInt8} {k : Nat} (h : digAt l k = true) : gAhead neg a (l.drop k) = gAhead neg (a ++ [l.getD k 0]) (l.drop (k + 1)) := by
 unfold gAhead; rw [(span_dig h).1, (span_dig h).2, List.append_assoc]; rfl
theorem gAhead_stop {neg : Bool} {a l : List UInt8} {k : Nat} (h : digAt l k = false) : gAhead neg a (l.drop k) = gPoint neg a (l.drop k) := by
 unfold gAhead; rw [(span_none h).1, (span_none h).2, List.append_nil]
theorem gBehind_more {neg : Bool} {a b l : List UInt8} {k : Nat} (h : digAt l k = true) : gBehind neg a b (l.drop k) = gBehind neg a (b ++ [l.getD k 0]) (l.drop (k + 1)) := by
 unfold gBehind; rw [(span_dig h).1, (span_dig h).2, List.append_assoc]; rfl
theorem gBehind_stop {neg : Bool} {a b l : List UInt8} {k : Nat} (h : digAt l k = false) : gBehind neg a b (l.drop k) = gRaised neg a b (l.drop k) := by
 unfold gBehind; rw [(span_none h).1, (span_none h).2, List.append_nil]
theorem gRaise_more {neg : Bool} {a b : List UInt8} {sg : Bool} {pw l : List UInt8} {k : Nat} (h : digAt l k = true) : gRaise neg a b sg pw (l.drop k) = gRaise neg a b sg (pw ++ [l.getD k 0]) (l.drop (k + 1)) := by
 unfold gRaise; rw [(span_dig h).1, (span_dig h).2, List.append_assoc]; rfl
theorem gRaise_stop {neg : Bool} {a b : List UInt8} {sg : Bool} {pw l : List UInt8} {k : Nat} (h : digAt l k = false) : gRaise neg a b sg pw (l.drop k) = gEnd neg a b sg pw (l.drop k) := by
 unfold gRaise; rw [(span_none h).1, (span_none h).2, List.append_nil]
theorem takeAt_lt {t l : List UInt8} {k : Nat} (h : takeAt t l k = true) : k < l.length /\ t.contains (l.getD k 0) = true := by
 unfold takeAt at h
 simpa using h
theorem head_drop (l : List UInt8) (k : Nat) : (l.drop k).head? = if k < l.length then some (l.getD k 0) else none := by
 by_cases h : k < l.length
 · rw [drop_cons h, if_pos h]; rfl
 · rw [List.drop_of_length_le (by omega), if_neg h]; rfl
theorem take_one (c : UInt8) (l : List UInt8) (k : Nat) : takeAt [c] l k = true ↔ (l.drop k).head? = some c := by
 rw [head_drop]
 unfold takeAt
 by_cases h : k < l.length
 · simp [h]
 · simp [h]
theorem take_two (c d : UInt8) (l : List UInt8) (k : Nat) : takeAt [c, d] l k = true ↔ ((l.drop k).head? = some c ∨ (l.drop k).head? = some d) := by
 rw [head_drop]
 unfold takeAt
 by_cases h : k < l.length
 · simp [h]
 · simp [h]
theorem drop_one (l : List UInt8) (k : Nat) : (l.drop k).drop 1 = l.drop (k + 1) := by rw [List.drop_drop]
theorem gPoint_no {neg : Bool} {a l : List UInt8} {k : Nat} (h : takeAt [46] l k = false) : gPoint neg a (l.drop k) = gRaised neg a [] (l.drop k) := by
 unfold gPoint behind
 rw [if_neg (fun e => by rw [(take_one 46 l k).2 e] at h; cases h)]
theorem gPoint_bad {neg : Bool} {a l : List UInt8} {k : Nat} (h : takeAt [46] l k = true) (hd : digAt l (k + 1) = false) : gPoint neg a (l.drop k) = none := by
 unfold gPoint behind
 rw [if_pos ((take_one 46 l k).1 h), drop_one, (span_none hd).1, if_pos rfl]
theorem gPoint_yes {neg : Bool} {a l : List UInt8} {k : Nat} (h : takeAt [46] l k = true) (hd : digAt l (k + 1) = true) : gPoint neg a (l.drop k) = gBehind neg a [] (l.drop (k + 1)) := by
 unfold gPoint behind gBehind
 rw [if_pos ((take_one 46 l k).1 h), drop_one, if_neg (span_some hd)]
 rfl
theorem gRaised_no {neg : Bool} {a b l : List UInt8} {k : Nat} (h : takeAt [101, 69] l k = false) : gRaised neg a b (l.drop k) = gEnd neg a b false [] (l.drop k) := by
 unfold gRaised power
 rw [if_neg (fun e => by rw [(take_two 101 69 l k).2 e] at h; cases h)]
theorem gRaised_e {neg : Bool} {a b l : List UInt8} {k k' : Nat} {sg : Bool} (h : takeAt [101, 69] l k = true)
   (hs : (takeAt [45] l (k + 1) = true /\ sg = true /\ k' = k + 2) ∨ (takeAt [45] l (k + 1) = false /\ sg = false /\ k' = if takeAt [43] l (k + 1) then k + 2 else k + 1)) :
   gRaised neg a b (l.drop k) = if digAt l k' = true then gRaise neg a b sg [] (l.drop k') else none := by
 unfold gRaised power
 rw [if_pos ((take_two 101 69 l k).1 h), drop_one]
 have e1 : (if (l.drop (k + 1)).head? = some 45 ∨ (l.drop (k + 1)).head? = some 43 then (l.drop (k + 1)).drop 1 else l.drop (k + 1)) = l.drop k' /\ ((l.drop (k + 1)).head? == some 45) = sg := by
   rcases hs with ⟨h1, h2, h3⟩ | ⟨h1, h2, h3⟩
   · have := (take_one 45 l (k + 1)).1 h1
     rw [if_pos (.inl this), drop_one, h2, h3]
     exact ⟨rfl, by rw [this]; rfl⟩
   · have hn : (l.drop (k + 1)).head? ≠ some 45 := fun e => by rw [(take_one 45 l (k + 1)).2 e] at h1; cases h1
     refine ⟨?_, by rw [h2]; simpa using hn⟩
     rw [h3]
     cases hp : takeAt [43] l (k + 1) with
     | true => rw [if_pos (.inr ((take_one 43 l (k + 1)).1 hp)), drop_one]; rfl
     | false => rw [if_neg (fun e => by
         rcases e with e | e
         · exact hn e
         · rw [(take_one 43 l (k + 1)).2 e] at hp; cases hp)]; rfl
 simp only [e1.1, e1.2]
 cases hd : digAt l k' with
 | true =>
   rw [if_neg (span_some hd), if_pos rfl]
   rfl
 | false =>
   rw [(span_none hd).1, if_pos rfl]
   rfl
theorem parts_from (l : List UInt8) (k : Nat) (neg : Bool) (h : (takeAt [45] l 0 = true /\ neg = true /\ k = 1) ∨ (takeAt [45] l 0 = false /\ neg = false /\ k = 0)) :
   parts l = if takeAt [48] l k = true then gPoint neg [] (l.drop (k + 1)) else if digAt l k = true then gAhead neg [] (l.drop k) else none := by
 have e1 : signed l = (neg, l.drop k) := by
   unfold signed
   rcases h with ⟨h1, h2, h3⟩ | ⟨h1, h2, h3⟩
   · have := (take_one 45 l 0).1 h1
     rw [List.drop_zero] at this
     rw [if_pos this, h2, h3]
   · have hn : l.head? ≠ some 45 := fun e => by rw [(take_one 45 l 0).2 (by rw [List.drop_zero]; exact e)] at h1; cases h1
     rw [if_neg hn, h2, h3, List.drop_zero]
 rw [parts_eq, e1]
 unfold ahead
 simp only
 cases h0 : takeAt [48] l k with
 | true =>
   rw [if_pos ((take_one 48 l k).1 h0), if_pos rfl, drop_one]
 | false =>
   rw [if_neg (fun e => by rw [(take_one 48 l k).2 e] at h0; cases h0)]
   cases hd : digAt l k with
   | true =>
     rw [if_neg (span_some hd)]
     simp only [Bool.false_eq_true, if_false, if_true]
     rfl
   | false =>
     rw [(span_none hd).1, if_pos rfl]
     simp only [Bool.false_eq_true, if_false]
theorem min_step (p : Nat) (c : UInt8) (h : isDig c = true) : min (10 * min p 3000 + dval c) 3000 = min (10 * p + dval c) 3000 := by
 have := dval_lt h
 omega
end Go.Proofs.YtmhbkjjkalnggaaGreatDoor
