import Derived.Test.YtmhbkjjkalnggaaGreatDoorPt22
namespace Go.Proofs.YtmhbkjjkalnggaaGreatDoor
open Go.RowKit
set_option maxRecDepth 100000
set_option maxHeartbeats 8000000
def Spot (W : World) (g o n c : Nat) (t : ByteArray) : Prop := t.size = n /\ n <= c /\ c <= 9223372036854775807 /\ g < W.heap.size /\ ∀ j, j < n -> W.cell? ⟨g, o + j, none⟩ = some (.int .u8 ((t.get! j).toNat : Int))
theorem Spot.below {W V : World} {g o n c B : Nat} {t : ByteArray} (h : Spot W g o n c t) (hb : Below B W V) (hB : g < B) : Spot V g o n c t :=
 ⟨h.1, h.2.1, h.2.2.1, Nat.lt_of_lt_of_le h.2.2.2.1 hb.size, fun j hj => (hb.cell (p := ⟨g, o + j, none⟩) hB).trans (h.2.2.2.2 j hj)⟩
theorem Spot.drewN {W : World} {g o n c : Nat} {t : ByteArray} (h : Spot W g o n c t) (q : Nat) : Spot (W.drewN q) g o n c t := by
 have e : ∀ a, (W.drewN q).cell? a = W.cell? a := fun a => by induction q <;> simp_all [World.drewN, World.cell?]
 refine ⟨h.1, h.2.1, h.2.2.1, ?_, fun j hj => (e _).trans (h.2.2.2.2 j hj)⟩
 have := h.2.2.2.1
 induction q <;> simp_all [World.drewN]
theorem spot_cut {P : Program} {W : World} {g o n c : Nat} {t : ByteArray} (h : Spot W g o n c t) (ty e : TypeId) (ht : P.underlying ty = some (.slice e)) (hi1 : (P.info? e).map (·.size) = some 1) (k : Nat) (kz : Int) (hkz : kz = (k : Int)) (hk : k <= n) :
   ∃ o' n' c', n' + k = n /\ (∀ V, (Instr.sliceAt ty (.slice (some ⟨g, o, none⟩) n c) (some (.int .i64 kz)) none none).run P V = .ok (.slice (some ⟨g, o', none⟩) n' c') V) /\ Spot W g o' n' c' (t.extract k t.size) := by
 subst hkz
 obtain ⟨h1, h2, h3, h4, h5⟩ := h
 obtain ⟨i, hi, hs⟩ : ∃ i, P.info? e = some i /\ i.size = 1 := by
   cases h : P.info? e with
   | none => rw [h] at hi1; cases hi1
   | some i => rw [h] at hi1; exact ⟨i, rfl, Option.some.inj hi1⟩
 refine ⟨if c = k then o else o + k, n - k, c - k, by omega, fun V => ?_, by rw [Lib.ext_size, h1], by omega, by omega, h4, fun j hj => ?_⟩
 · by_cases e1 : c = k
   · simp [Instr.sliceAt, Instr.slice, Instr.sliceBounds, Instr.sliceBound, asIntOf, go_sem, run_underlying ht, sizeOf, typeInfo, hi, hk, e1, Addr.add]
   · simp [Instr.sliceAt, Instr.slice, Instr.sliceBounds, Instr.sliceBound, asIntOf, go_sem, run_underlying ht, sizeOf, typeInfo, hi, hs, hk, e1, Addr.add]
 · rw [if_neg (by omega)]
   have := h5 (k + j) (by omega)
   rw [<- Nat.add_assoc] at this
   rw [this, <- Lib.getD_get!', <- Lib.getD_get!', Lib.ext_list]
   simp [List.getD]
theorem word_ok (g o n c : Nat) (s : ByteArray) (w : World) (hsp : Spot w g o n c s) (hs : 8 <= n) :
   Calls Tryz.prog 75 #[.slice (some ⟨g, o, none⟩) n c] w fun e w' => e = .returned (.int .u64 (Lib.leNat [s.get! 0, s.get! 1, s.get! 2, s.get! 3, s.get! 4, s.get! 5, s.get! 6, s.get! 7])) /\ ∃ q, w' = w.drewN q := by
 obtain ⟨hn, h2, h3, h4, h5⟩ := hsp
 obtain ⟨x0, hx0⟩ : ∃ x0, s.get! 0 = x0 := ⟨_, rfl⟩
 have hc0 : w.cell? ⟨g, o, none⟩ = some (.int .u8 (x0.toNat : Int)) := by rw [<- hx0]; exact h5 0 (by omega)
 have h0' : x0.toNat < 256 := x0.toNat_lt
 have q0 : (0 : Int) < (n : Int) := by omega
 have p0 : 0 < n := by omega
 obtain ⟨x1, hx1⟩ : ∃ x1, s.get! 1 = x1 := ⟨_, rfl⟩
 have hc1 : w.cell? ⟨g, o + 1, none⟩ = some (.int .u8 (x1.toNat : Int)) := by rw [<- hx1]; exact h5 1 (by omega)
 have h1' : x1.toNat < 256 := x1.toNat_lt
 have q1 : (1 : Int) < (n : Int) := by omega
 have p1 : 1 < n := by omega
 obtain ⟨x2, hx2⟩ : ∃ x2, s.get! 2 = x2 := ⟨_, rfl⟩
 have hc2 : w.cell? ⟨g, o + 2, none⟩ = some (.int .u8 (x2.toNat : Int)) := by rw [<- hx2]; exact h5 2 (by omega)
 have h2' : x2.toNat < 256 := x2.toNat_lt
 have q2 : (2 : Int) < (n : Int) := by omega
 have p2 : 2 < n := by omega
 obtain ⟨x3, hx3⟩ : ∃ x3, s.get! 3 = x3 := ⟨_, rfl⟩
 have hc3 : w.cell? ⟨g, o + 3, none⟩ = some (.int .u8 (x3.toNat : Int)) := by rw [<- hx3]; exact h5 3 (by omega)
 have h3' : x3.toNat < 256 := x3.toNat_lt
 have q3 : (3 : Int) < (n : Int) := by omega
 have p3 : 3 < n := by omega
 obtain ⟨x4, hx4⟩ : ∃ x4, s.get! 4 = x4 := ⟨_, rfl⟩
 have hc4 : w.cell? ⟨g, o + 4, none⟩ = some (.int .u8 (x4.toNat : Int)) := by rw [<- hx4]; exact h5 4 (by omega)
 have h4' : x4.toNat < 256 := x4.toNat_lt
 have q4 : (4 : Int) < (n : Int) := by omega
 have p4 : 4 < n := by omega
 obtain ⟨x5, hx5⟩ : ∃ x5, s.get! 5 = x5 := ⟨_, rfl⟩
 have hc5 : w.cell? ⟨g, o + 5, none⟩ = some (.int .u8 (x5.toNat : Int)) := by rw [<- hx5]; exact h5 5 (by omega)
 have h5' : x5.toNat < 256 := x5.toNat_lt
 have q5 : (5 : Int) < (n : Int) := by omega
 have p5 : 5 < n := by omega
 obtain ⟨x6, hx6⟩ : ∃ x6, s.get! 6 = x6 := ⟨_, rfl⟩
 have hc6 : w.cell? ⟨g, o + 6, none⟩ = some (.int .u8 (x6.toNat : Int)) := by rw [<- hx6]; exact h5 6 (by omega)
 have h6' : x6.toNat < 256 := x6.toNat_lt
 have q6 : (6 : Int) < (n : Int) := by omega
 have p6 : 6 < n := by omega
 obtain ⟨x7, hx7⟩ : ∃ x7, s.get! 7 = x7 := ⟨_, rfl⟩
 have hc7 : w.cell? ⟨g, o + 7, none⟩ = some (.int .u8 (x7.toNat : Int)) := by rw [<- hx7]; exact h5 7 (by omega)
 have h7' : x7.toNat < 256 := x7.toNat_lt
 have q7 : (7 : Int) < (n : Int) := by omega
 have p7 : 7 < n := by omega
 rw [hx0, hx1, hx2, hx3, hx4, hx5, hx6, hx7]
 have hv : ((Lib.leNat [x0, x1, x2, x3, x4, x5, x6, x7] : Nat) : Int) = (x0.toNat : Int) + (x1.toNat : Int) * 256 + (x2.toNat : Int) * 65536 + (x3.toNat : Int) * 16777216 + (x4.toNat : Int) * 4294967296 + (x5.toNat : Int) * 1099511627776 + (x6.toNat : Int) * 281474976710656 + (x7.toNat : Int) * 72057594037927936 := by
   simp only [Lib.leNat]
   push_cast
   omega
 clear h5
 have mixed : Tryz.prog.follows .mixedOrders = true := by kernel_rfl
 go_enter Tryz.func75, Tryz.ntmps75
 go_wp2
 go_quiet_o (fail)
 go_wp2
 go_ret
 refine ⟨?_, _, rfl⟩
 simp (disch := omega) only [u64_wrap_id, u64_or8, u64_or16, u64_or24, u64_or32, u64_or40, u64_or48, u64_or56]
 rw [hv]
 rfl
end Go.Proofs.YtmhbkjjkalnggaaGreatDoor
