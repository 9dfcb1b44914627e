/- Layer 8: a letter that is told by an escape. -/
import Derived.Test.YtfdodndagakmmaaGreatDoorPt10
import Derived.Test.YtfdodndagakmmaaGreatDoorPt04
import Derived.Lib.FrozenHead2
namespace Go.Proofs.YtfdodndagakmmaaGreatDoor
open Go.RowKit

theorem jhi_ok (x : Nat) (w : World) : Calls Tryz.prog 207 #[.int .i32 (x : Int), .int .i32 55296] w fun e w' => e = .returned (.bool (isHi x)) ∧ w = w' := by
  by_cases h1 : 55296 ≤ x
  · have d1 : decide ((55296 : Int) ≤ (x : Int)) = true := by simp; omega
    have e1 : isHi x = decide ((x : Int) < 56320) := by unfold isHi; rw [decide_eq_decide]; omega
    rw [e1]
    go_enter Tryz.func207, Tryz.ntmps207
    go_wp2
    go_ret
    exact ⟨rfl, rfl⟩
  · have d1 : decide ((55296 : Int) ≤ (x : Int)) = false := by simp; omega
    have e1 : isHi x = false := by unfold isHi; simp; omega
    rw [e1]
    go_enter Tryz.func207, Tryz.ntmps207
    go_wp2
    go_ret
    exact ⟨rfl, rfl⟩
theorem jlo_ok (x : Nat) (w : World) : Calls Tryz.prog 207 #[.int .i32 (x : Int), .int .i32 56320] w fun e w' => e = .returned (.bool (isLo x)) ∧ w = w' := by
  by_cases h1 : 56320 ≤ x
  · have d1 : decide ((56320 : Int) ≤ (x : Int)) = true := by simp; omega
    have e1 : isLo x = decide ((x : Int) < 57344) := by unfold isLo; rw [decide_eq_decide]; omega
    rw [e1]
    go_enter Tryz.func207, Tryz.ntmps207
    go_wp2
    go_ret
    exact ⟨rfl, rfl⟩
  · have d1 : decide ((56320 : Int) ≤ (x : Int)) = false := by simp; omega
    have e1 : isLo x = false := by unfold isLo; simp; omega
    rw [e1]
    go_enter Tryz.func207, Tryz.ntmps207
    go_wp2
    go_ret
    exact ⟨rfl, rfl⟩
theorem JAt.setAlone {w : World} {p : Nat} {X : Txt} {s : List UInt8} {E O : Value} {f : Fl} (h : JAt w p X s E O f) :
    w.cell? ⟨p, 5, none⟩ = some (.bool f.alone) ∧ w.frozen? ⟨p, 5, none⟩ = false ∧ JTo p X s E O { f with alone := true } w (w.setCell ⟨p, 5, none⟩ (.bool true)) := by
  obtain ⟨hl, k, hr, hs, hk⟩ := h
  have hkk : Kept (· = p) w (w.setCell ⟨p, 5, none⟩ (.bool true)) := Kept.cell _ _ _ _
  exact ⟨hr.row.cell (i := 5) rfl, hr.row.free 5, ⟨hl, k, hr.step hkk (by simpa [rdCells] using hr.row.set_ 5 (.bool true)), hs, hk⟩, hkk⟩
def codedR (f : Fl) (s : List UInt8) : Option (Value × Fl × List UInt8) := (codedL s).map fun q => (.int .i32 (q.1 : Int), { f with alone := f.alone || q.2.1 }, q.2.2)
theorem four_lt {s : List UInt8} {x : Nat} {t : List UInt8} (h : four s = some (x, t)) : x < 65536 := by
  have := hexN_lt 4 0 s x t h
  simpa using this
theorem codedL_none {s : List UInt8} (h : four s = none) : codedL s = none := by unfold codedL; rw [h]
theorem codedL_plain {s t : List UInt8} {x : Nat} (h : four s = some (x, t)) (h1 : isHi x = false) (h2 : isLo x = false) : codedL s = some (x, false, t) := by
  unfold codedL; rw [h]; simp only; rw [if_pos ⟨h1, h2⟩]
theorem codedL_low {s t : List UInt8} {x : Nat} (h : four s = some (x, t)) (h1 : isHi x = false) (h2 : isLo x = true) : codedL s = some (65533, true, t) := by
  unfold codedL; rw [h]; simp only; rw [if_neg (by rw [h2]; simp), if_neg (by rw [h1]; simp)]
theorem codedL_high {s t : List UInt8} {x : Nat} (h : four s = some (x, t)) (h1 : isHi x = true) (h2 : pfx [92, 117] t = false) : codedL s = some (65533, true, t) := by
  unfold codedL; rw [h]; simp only; rw [if_neg (by rw [h1]; simp), if_neg (by rw [h2]; simp)]
theorem codedL_two {s t : List UInt8} {x : Nat} (h : four s = some (x, t)) (h1 : isHi x = true) (h2 : pfx [92, 117] t = true) : codedL s = match four (t.drop 2) with
      | none => none
      | some (y, r) => if isLo y = true then some (65536 + (x - 55296) * 1024 + (y - 56320), false, r) else some (65533, true, r) := by
  unfold codedL; rw [h]; simp only; rw [if_neg (by rw [h1]; simp), if_pos ⟨h1, h2⟩]
  rfl
set_option maxRecDepth 100000 in
set_option maxHeartbeats 4000000 in
theorem jcoded_ok (p : Nat) (X : Txt) (s : List UInt8) (E O : Value) (f : Fl) (w : World) (h : JAt w p X s E O f) :
    Calls Tryz.prog 175 #[.pointer (some ⟨p, 0, none⟩)] w (JRes p X E O w (codedR f s)) := by
  have HF := Lib.hid (jfour_ok p X s E O f w h)
  have HR : Hid (codedR f s = (codedL s).map fun q => (.int .i32 (q.1 : Int), { f with alone := f.alone || q.2.1 }, q.2.2)) := Lib.hid rfl
  clear h
  generalize codedR f s = R at *
  go_enter Tryz.func175, Tryz.ntmps175
  cases h4 : four s with
  | none =>
    obtain rfl : R = none := by rw [HR.out, codedL_none h4]; rfl
    have e4 : fourR f s = none := by unfold fourR; rw [h4]; rfl
    rw [e4] at HF
    clear h4 e4
    go_wp2_with fail
    refine HF.out.mono ?_
    rintro e w1 ⟨rfl, hk⟩
    have HK := Lib.hid hk
    clear hk HF
    go_wp2_with fail
    exact ⟨rfl, rfl, HK.out⟩
  | some q =>
    obtain ⟨x, t⟩ := q
    have e4 : fourR f s = some (.int .i32 (x : Int), f, t) := by unfold fourR; rw [h4]; rfl
    rw [e4] at HF
    have hx := four_lt h4
    have HHI := Lib.hid (fun W => jhi_ok x W)
    have HLO := Lib.hid (fun W => jlo_ok x W)
    have HC0 := Lib.hid (fun (h1 : isHi x = false) (h2 : isLo x = false) => codedL_plain h4 h1 h2)
    have HC1 := Lib.hid (fun (h1 : isHi x = false) (h2 : isLo x = true) => codedL_low h4 h1 h2)
    have HC2 := Lib.hid (fun (h1 : isHi x = true) (h2 : pfx [92, 117] t = false) => codedL_high h4 h1 h2)
    have HC3 := Lib.hid (fun (h1 : isHi x = true) (h2 : pfx [92, 117] t = true) => codedL_two h4 h1 h2)
    have HXR : Hid (isHi x = true → 55296 ≤ x ∧ x < 56320) := Lib.hid fun h9 => by unfold isHi at h9; exact of_decide_eq_true h9
    clear h4 e4
    go_wp2_with fail
    refine HF.out.mono ?_
    rintro e w1 ⟨rfl, hj, hk⟩
    have HJ := Lib.hid hj
    have HK := Lib.hid hk
    clear hj hk HF
    cases h1 : isHi x with
    | false =>
      rw [h1] at HHI
      cases h2 : isLo x with
      | false =>
        rw [h2] at HLO
        obtain rfl : R = some (.int .i32 (x : Int), f, t) := by rw [HR.out, HC0.out h1 h2]; simp
        clear h1 h2 HC0 HC1 HC2 HC3 HXR
        go_wp2_with fail
        refine (HHI.out _).mono ?_
        rintro e w2 ⟨rfl, rfl⟩
        go_wp2_with fail
        refine (HLO.out _).mono ?_
        rintro e w2 ⟨rfl, rfl⟩
        go_wp2_with fail
        go_ret
        exact ⟨rfl, HJ.out, HK.out⟩
      | true =>
        rw [h2] at HLO
        obtain rfl : R = some (.int .i32 ((65533 : Nat) : Int), { f with alone := true }, t) := by rw [HR.out, HC1.out h1 h2]; simp
        clear h1 h2 HC0 HC1 HC2 HC3 HXR
        obtain ⟨a1, a2, a3⟩ := HJ.out.setAlone
        have HA := Lib.hid a3
        clear a3
        go_wp2_with fail
        refine (HHI.out _).mono ?_
        rintro e w2 ⟨rfl, rfl⟩
        go_wp2_with fail
        refine (HLO.out _).mono ?_
        rintro e w2 ⟨rfl, rfl⟩
        go_wp2_with fail
        refine (HHI.out _).mono ?_
        rintro e w2 ⟨rfl, rfl⟩
        go_wp2_with fail
        go_ret
        exact ⟨rfl, HA.out.1, HK.out.trans' HA.out.2⟩
    | true =>
      rw [h1] at HHI
      obtain ⟨hx1, hx2⟩ := HXR.out h1
      have HWD := Lib.hid (jword_ok p X [92, 117] t E O f _ HJ.out (by decide))
      cases h2 : pfx [92, 117] t with
      | false =>
        rw [h2] at HWD
        obtain rfl : R = some (.int .i32 ((65533 : Nat) : Int), { f with alone := true }, t) := by rw [HR.out, HC2.out h1 h2]; simp
        clear h1 h2 HC0 HC1 HC2 HC3 HXR
        go_wp2_with fail
        refine (HHI.out _).mono ?_
        rintro e w2 ⟨rfl, rfl⟩
        go_wp2_with fail
        refine (HHI.out _).mono ?_
        rintro e w2 ⟨rfl, rfl⟩
        go_wp2_with fail
        refine HWD.out.mono ?_
        rintro e w3 ⟨rfl, hj, hk⟩
        have hj2 : JAt w3 p X t E O f := hj
        obtain ⟨a1, a2, a3⟩ := hj2.setAlone
        have HA := Lib.hid a3
        have HK2 := Lib.hid (HK.out.trans' hk)
        clear a3 hj hk hj2
        go_wp2_with fail
        go_ret
        exact ⟨rfl, HA.out.1, HK2.out.trans' HA.out.2⟩
      | true =>
        rw [h2] at HWD
        have HC := Lib.hid (HC3.out h1 h2)
        clear h1 h2 HC0 HC1 HC2 HC3 HXR
        go_wp2_with fail
        refine (HHI.out _).mono ?_
        rintro e w2 ⟨rfl, rfl⟩
        go_wp2_with fail
        refine (HHI.out _).mono ?_
        rintro e w2 ⟨rfl, rfl⟩
        go_wp2_with fail
        refine HWD.out.mono ?_
        rintro e w3 ⟨rfl, hj, hk⟩
        have hj2 : JAt w3 p X (t.drop 2) E O f := hj
        have HK2 := Lib.hid (HK.out.trans' hk)
        have HF2 := Lib.hid (jfour_ok p X (t.drop 2) E O f w3 hj2)
        clear hj hk hj2
        generalize t.drop 2 = u at *
        cases h5 : four u with
        | none =>
          obtain rfl : R = none := by rw [HR.out, HC.out, h5]; rfl
          have e4 : fourR f u = none := by unfold fourR; rw [h5]; rfl
          rw [e4] at HF2
          clear h5 e4
          go_wp2_with fail
          refine HF2.out.mono ?_
          rintro e w4 ⟨rfl, hk⟩
          have HK3 := Lib.hid (HK2.out.trans' hk)
          clear hk
          go_wp2_with fail
          exact ⟨rfl, rfl, HK3.out⟩
        | some q =>
          obtain ⟨y, r⟩ := q
          have e4 : fourR f u = some (.int .i32 (y : Int), f, r) := by unfold fourR; rw [h5]; rfl
          rw [e4] at HF2
          have hy := four_lt h5
          have HLY := Lib.hid (fun W => jlo_ok y W)
          have HYR : Hid (isLo y = true → 56320 ≤ y ∧ y < 57344) := Lib.hid fun h9 => by unfold isLo at h9; exact of_decide_eq_true h9
          rw [h5] at HC
          clear h5 e4
          go_wp2_with fail
          refine HF2.out.mono ?_
          rintro e w4 ⟨rfl, hj, hk⟩
          have HJ3 := Lib.hid hj
          have HK3 := Lib.hid (HK2.out.trans' hk)
          clear hj hk
          cases h6 : isLo y with
          | false =>
            rw [h6] at HLY
            obtain rfl : R = some (.int .i32 ((65533 : Nat) : Int), { f with alone := true }, r) := by rw [HR.out, HC.out, if_neg (by rw [h6]; simp)]; simp
            clear h6
            obtain ⟨a1, a2, a3⟩ := HJ3.out.setAlone
            have HA := Lib.hid a3
            clear a3
            go_wp2_with fail
            refine (HLY.out _).mono ?_
            rintro e w5 ⟨rfl, rfl⟩
            go_wp2_with fail
            go_ret
            exact ⟨rfl, HA.out.1, HK3.out.trans' HA.out.2⟩
          | true =>
            obtain ⟨hy1, hy2⟩ := HYR.out h6
            rw [h6] at HLY
            obtain rfl : R = some (.int .i32 ((65536 + (x - 55296) * 1024 + (y - 56320) : Nat) : Int), f, r) := by rw [HR.out, HC.out, if_pos h6]; simp
            clear h6
            have HE : Hid ((65536 + ((x : Int) - 55296) * 1024 + (y : Int) - 56320) = ((65536 + (x - 55296) * 1024 + (y - 56320) : Nat) : Int)) := Lib.hid (by omega)
            generalize ((65536 + (x - 55296) * 1024 + (y - 56320) : Nat) : Int) = zz at *
            go_wp2_with fail
            refine (HLY.out _).mono ?_
            rintro e w5 ⟨rfl, rfl⟩
            go_wp2_with fail
            go_ret
            exact ⟨by rw [← HE.out]; rfl, HJ3.out, HK3.out⟩
def letterR (f : Fl) (s : List UInt8) : Option (Value × Fl × List UInt8) := (letterL s).map fun q => (.int .i32 (q.1 : Int), { f with alone := f.alone || q.2.1 }, q.2.2)
def escSigns : List UInt8 := [34, 92, 98, 102, 110, 114, 116, 47]
def escLetters : List UInt8 := [34, 92, 8, 12, 10, 13, 9, 47]
def escOk (b : UInt8) : Bool := match escV b with
  | none => decide (Lib.indexByte escSigns b = -1)
  | some x => decide (0 ≤ Lib.indexByte escSigns b ∧ Lib.indexByte escSigns b < 8 ∧ (escLetters.getD (Lib.indexByte escSigns b).toNat 0).toNat = x ∧ x < 128)
theorem escOk_all : ∀ b : Fin 256, escOk (UInt8.ofNat b.val) = true := by decide +kernel
theorem escOk_at (b : UInt8) : escOk b = true := by
  have := escOk_all ⟨b.toNat, b.toNat_lt⟩
  simpa only [UInt8.ofNat_toNat] using this
theorem esc_none {b : UInt8} (h : escV b = none) : Lib.indexByte escSigns b = -1 := by
  have := escOk_at b
  unfold escOk at this
  rw [h] at this
  exact of_decide_eq_true this
theorem esc_some {b : UInt8} {x : Nat} (h : escV b = some x) : ∃ i : Nat, Lib.indexByte escSigns b = (i : Int) ∧ i < escLetters.length ∧ byteAt escLetters i = x ∧ x < 128 := by
  have := escOk_at b
  unfold escOk at this
  rw [h] at this
  obtain ⟨h1, h2, h3, h4⟩ := of_decide_eq_true this
  exact ⟨(Lib.indexByte escSigns b).toNat, by omega, by show _ < 8; omega, h3, h4⟩
set_option maxRecDepth 100000 in
set_option maxHeartbeats 4000000 in
theorem jletter_ok (p : Nat) (X : Txt) (s : List UInt8) (E O : Value) (f : Fl) (w : World) (h : JAt w p X s E O f) :
    Calls Tryz.prog 138 #[.pointer (some ⟨p, 0, none⟩)] w (JRes p X E O w (letterR f s)) := by
  have HN := Lib.hid (jnext_ok p X s E O f w h)
  have HR : Hid (letterR f s = (letterL s).map fun q => (.int .i32 (q.1 : Int), { f with alone := f.alone || q.2.1 }, q.2.2)) := Lib.hid rfl
  clear h
  generalize letterR f s = R at *
  go_enter Tryz.func138, Tryz.ntmps138
  cases s with
  | nil =>
    obtain rfl : R = none := HR.out
    go_wp2_with fail
    refine HN.out.mono ?_
    rintro e w1 ⟨rfl, hk⟩
    have HK := Lib.hid hk
    clear hk
    go_wp2_with fail
    exact ⟨rfl, rfl, HK.out⟩
  | cons b t =>
    by_cases hb : b = 117
    · subst hb
      have hr : R = codedR f t := by rw [HR.out]; unfold letterL codedR; simp
      have HRC := Lib.hid hr
      clear hr
      go_wp2_with fail
      refine HN.out.mono ?_
      rintro e w1 ⟨rfl, hj, hk⟩
      have HC := Lib.hid (jcoded_ok p X t E O f w1 hj)
      have HK := Lib.hid hk
      rw [← HRC.out] at HC
      clear hj hk HRC HR
      go_wp2_with fail
      refine HC.out.mono ?_
      intro e w2 hx
      cases R with
      | none =>
        obtain ⟨rfl, hk⟩ := hx
        have HK2 := Lib.hid (HK.out.trans' hk)
        clear hk
        go_wp2_with fail
        exact ⟨rfl, rfl, HK2.out⟩
      | some q =>
        obtain ⟨v, f2, r⟩ := q
        obtain ⟨rfl, hj, hk⟩ := hx
        have HJ := Lib.hid hj
        have HK2 := Lib.hid (HK.out.trans' hk)
        clear hj hk
        go_wp2_with fail
        go_ret
        exact ⟨rfl, HJ.out, HK2.out⟩
    · have HIB := Lib.hid (fun W => jindex_ok escSigns b W)
      have hne : ((b.toNat : Int) == 117) = false := by
        rw [beq_eq_false_iff_ne]
        intro h9
        exact hb (by rw [← UInt8.toNat_inj]; show b.toNat = 117; omega)
      have HL : Hid (letterL (b :: t) = match escV b with | none => none | some x => some (x, false, t)) := Lib.hid (by unfold letterL; simp only; rw [if_neg hb]; rfl)
      cases he : escV b with
      | none =>
        rw [he] at HL
        obtain rfl : R = none := by rw [HR.out, HL.out]; rfl
        rw [esc_none he] at HIB
        clear he hb HL HR
        generalize hy : b.toNat = y at *
        go_wp2_with fail
        refine HN.out.mono ?_
        rintro e w1 ⟨rfl, hj, hk⟩
        have HK := Lib.hid hk
        rw [hy]
        clear hj hk hy
        go_wp2_with fail
        refine (HIB.out _).mono ?_
        rintro e w2 ⟨rfl, rfl⟩
        go_wp2_with fail
        exact ⟨rfl, rfl, HK.out⟩
      | some x =>
        rw [he] at HL
        obtain rfl : R = some (.int .i32 (x : Int), f, t) := by rw [HR.out, HL.out]; simp
        obtain ⟨i, hi1, hi2, hi3, hi4⟩ := esc_some he
        rw [hi1] at HIB
        have hidx : ∀ W : World, (Instr.index 9 (.string ⟨#[34, 92, 8, 12, 10, 13, 9, 47]⟩) (.int .i64 (i : Int))).run Tryz.prog W = .ok (.int .u8 (x : Int)) W := fun W => by
          have h9 := run_byte (P := Tryz.prog) 9 Tryz.underlying9 escLetters i hi2 W
          rwa [hi3] at h9
        clear he hb HL HR hi1 hi3
        generalize hy : b.toNat = y at *
        go_wp2_with fail
        refine HN.out.mono ?_
        rintro e w1 ⟨rfl, hj, hk⟩
        have HJ := Lib.hid hj
        have HK := Lib.hid hk
        rw [hy]
        clear hj hk hy
        go_wp2_with fail
        refine (HIB.out _).mono ?_
        rintro e w2 ⟨rfl, rfl⟩
        have hw : IntKind.i32.wrap (x : Int) = (x : Int) := by simp [IntKind.wrap, IntKind.bits, IntKind.signed]; omega
        go_wp2_with fail
        go_ret
        exact ⟨rfl, HJ.out, HK.out⟩
end Go.Proofs.YtfdodndagakmmaaGreatDoor
/- Layer 8: the letters of a text. -/
namespace Go.Proofs.YtfdodndagakmmaaGreatDoor
open Go.RowKit

theorem JAt.len {w : World} {p : Nat} {X : Txt} {s : List UInt8} {E O : Value} {f : Fl} (h : JAt w p X s E O f) : s.length ≤ X.l.length := by
  obtain ⟨_, k, _, rfl, _⟩ := h
  rw [List.length_drop]
  omega
theorem JAt.lt {w : World} {p : Nat} {X : Txt} {s : List UInt8} {E O : Value} {f : Fl} (h : JAt w p X s E O f) : p < w.heap.size := by
  obtain ⟨_, k, hr, _, _⟩ := h
  exact hr.row.lt
/-- What is newer than a world turns. -/
theorem JAt.above {w wr w' : World} {p : Nat} {X : Txt} {s s0 : List UInt8} {E O E0 O0 : Value} {f f0 : Fl} (h0 : JAt w p X s0 E0 O0 f0) (h : JAt wr p X s E O f) (hk : Kept (fun q => w.heap.size ≤ q) wr w') : JAt w' p X s E O f := by
  have hp := h0.lt
  obtain ⟨hl, k, hr, hs, hkl⟩ := h
  obtain ⟨_, k0, hr0, _, _⟩ := h0
  refine ⟨hl, k, ⟨?_, fun i hi => ?_⟩, hs, hkl⟩
  · exact (hk.block p hr.row.lt (by show ¬ w.heap.size ≤ p; omega)).trans hr.row
  · obtain ⟨g, off, e, hg, hlt, hc⟩ := hr.txt i hi
    obtain ⟨g0, off0, e0, _, hlt0, _⟩ := hr0.txt i hi
    rw [e] at e0
    injection e0 with e0
    injection e0 with e1 e2 _
    subst e1 e2
    exact ⟨g, off, e, hg, Nat.lt_of_lt_of_le hlt hk.size, (World.cell?_of_block (a := ⟨g, off + i, none⟩) (hk.block g hlt (by show ¬ w.heap.size ≤ g; omega))).trans hc⟩
theorem own_kept {w w' : World} {B p n : Nat} {e : TypeId} {v : Value} {xs : List Value} (h : w.ownsRowF B e 1 v n xs) (hk : Kept (· = p) w w') (hp : p < B) : w'.ownsRowF B e 1 v n xs := by
  refine ⟨h.1, h.2.imp id ?_⟩
  rintro ⟨g, cap, cur, fz, h1, h2, h3, h4⟩
  exact ⟨g, cap, cur, fz, h1, h2, hk.heap h3 (by show ¬ g = p; omega), h4⟩
theorem own_holds {w : World} {B : Nat} {e : TypeId} {v : Value} {l : List UInt8} (h : w.ownsRowF B e 1 v l.length (u8s l)) : ∃ A c, v = .slice A l.length c ∧ Holds w A l.length 1 (u8s l) := by
  rcases h.2 with ⟨h1, h2⟩ | ⟨g, cap, cur, fz, h1, h2, h3, h4, h5, h6, h7, h8⟩
  · refine ⟨none, 0, by rw [h1, h2], h.1, fun h0 => by omega⟩
  · refine ⟨some ⟨g, 0, none⟩, cap, h1, h.1, fun _ => ⟨g, 0, rfl, lt_of_heap h3, fun j u hu => ?_⟩⟩
    rw [Nat.zero_add, cell_of_row _ _ _ _ _ _ h3]
    rw [← h8] at hu
    have hj : j < l.length * 1 := by
      have := (List.getElem?_eq_some_iff.1 hu).1
      rw [List.length_take] at this; omega
    rw [List.getElem?_take_of_lt hj] at hu
    simpa using hu
theorem kept_own {w w' : World} {row : Option Nat} {B : Nat} (hg : w.grownBy w' row) (hr : ∀ r, row = some r → B ≤ r) : Kept (fun q => B ≤ q) w w' := kept_grown (Kept.refl _ _) hg hr
theorem letterL_ok {s : List UInt8} {x : Nat} {a : Bool} {t : List UInt8} (h : letterL s = some (x, a, t)) : x < 1114112 ∧ ¬ (55296 ≤ x ∧ x ≤ 57343) := by
  cases s with
  | nil => cases h
  | cons b r =>
    unfold letterL at h
    simp only at h
    split at h
    · unfold codedL at h
      split at h
      · cases h
      · rename_i x1 t1 h1
        have := four_lt h1
        split at h
        · rename_i hh
          injection h with h; injection h with h _; subst h
          obtain ⟨g1, g2⟩ := hh
          unfold isHi at g1; unfold isLo at g2
          have g1 := of_decide_eq_false g1
          have g2 := of_decide_eq_false g2
          omega
        · split at h
          · rename_i hh
            have g1 := hh.1
            unfold isHi at g1
            have g1 := of_decide_eq_true g1
            split at h
            · cases h
            · rename_i y r2 h2
              split at h
              · rename_i g2
                unfold isLo at g2
                have g2 := of_decide_eq_true g2
                injection h with h; injection h with h _; subst h
                omega
              · injection h with h; injection h with h _; subst h; omega
          · injection h with h; injection h with h _; subst h; omega
    · split at h
      · cases h
      · rename_i x2 h2
        obtain ⟨_, _, _, _, h9⟩ := esc_some h2
        injection h with h; injection h with h _; subst h; omega
theorem ofNat_lt {x : Nat} (h : x < 256) : (UInt8.ofNat x).toNat = x := by simp; omega
theorem runeL_cells {x : Nat} (h : x < 1114112) (h2 : ¬ (55296 ≤ x ∧ x ≤ 57343)) : Lib.runeCells (x : Int) = u8s (runeL x) := by
  unfold Lib.runeCells runeL u8s
  split
  · rw [Lib.encodeRuneZ_one (by omega) (by omega)]
    simp; omega
  · split
    · rw [Lib.encodeRuneZ_two (by omega) (by omega)]
      simp only [List.map_cons, List.map_nil, ofNat_lt (show 192 + x / 64 < 256 by omega), ofNat_lt (show 128 + x % 64 < 256 by omega)]
      simp
    · split
      · rw [Lib.encodeRuneZ_three (by omega)]
        simp only [List.map_cons, List.map_nil, ofNat_lt (show 224 + x / 4096 < 256 by omega), ofNat_lt (show 128 + x / 64 % 64 < 256 by omega), ofNat_lt (show 128 + x % 64 < 256 by omega)]
        simp
      · rw [Lib.encodeRuneZ_four (by omega) (by omega)]
        simp only [List.map_cons, List.map_nil, ofNat_lt (show 240 + x / 262144 < 256 by omega), ofNat_lt (show 128 + x / 4096 % 64 < 256 by omega), ofNat_lt (show 128 + x / 64 % 64 < 256 by omega), ofNat_lt (show 128 + x % 64 < 256 by omega)]
        simp
end Go.Proofs.YtfdodndagakmmaaGreatDoor
