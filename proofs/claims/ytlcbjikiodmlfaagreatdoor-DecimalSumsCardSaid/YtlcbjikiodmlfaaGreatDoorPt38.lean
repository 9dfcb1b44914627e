/- Layer 7: the document's Made. -/
import Derived.Test.YtlcbjikiodmlfaaGreatDoorPt29
import Derived.Test.YtlcbjikiodmlfaaGreatDoorPt37
import Derived.Test.YtlcbjikiodmlfaaGreatDoorPt19
namespace Go.Proofs.YtlcbjikiodmlfaaGreatDoor
open Go.RowKit

/-- Digits without noughts ahead and behind. -/
def coreL (n : Nat) : List UInt8 := if n = 0 then [] else dig (core n)
theorem plain_core {l : List UInt8} (h : Digs l) : plain l = coreL (num l) ++ zeros (tz (num l)) := by
  rw [plain_eq h]
  unfold coreL
  rcases Nat.eq_zero_or_pos (num l) with e | e
  · rw [e, tz_zero]; rfl
  · rw [if_neg (by omega), dig_core e]; rfl
theorem coreL_last (n : Nat) : (coreL n).getLast? ≠ some 48 := by
  unfold coreL
  split
  · simp
  · exact dig_last (core_mod (by omega))
theorem coreL_nil {n : Nat} : coreL n = [] ↔ n = 0 := by
  unfold coreL
  constructor
  · intro h
    by_cases e : n = 0
    · exact e
    · rw [if_neg e] at h
      have := num_dig (core n)
      rw [h] at this
      have := core_pos (n := n) (by omega)
      simp [num_nil] at *
      omega
  · intro e; rw [if_pos e]
theorem dec_coreL (neg : Bool) (n : Nat) (e : Int) (h : ¬ coreL n = []) : dec neg n e = ⟨neg, coreL n, e + tz n⟩ := by
  have : ¬ n = 0 := fun e => h (coreL_nil.2 e)
  unfold dec coreL
  rw [if_neg this, if_neg this]
theorem take_zeros (C : List UInt8) (k : Nat) : (C ++ zeros (k + 1)).take (C.length + k) = C ++ zeros k := by
  rw [List.take_append]
  simp [zeros, List.take_of_length_le]
theorem byte_zeros (C : List UInt8) (k : Nat) : byteAt (C ++ zeros (k + 1)) (C.length + k) = 48 := by
  unfold byteAt zeros
  rw [List.getD_eq_getElem?_getD, List.getElem?_append_right (by omega)]
  simp
theorem Decs.one {w W : World} {b : Nat} {d : Dec} (hb : Below w.heap.size w W) (hr : Row W b 24 (decC d)) : Decs w W [(b, d)] :=
  ⟨hb, fun i b' d' hi => by
    cases i with
    | zero => injection hi with hi; injection hi with q1 q2; subst q1; subst q2; exact hr
    | succ i => simp at hi⟩
theorem Decs.set_ {w W : World} {L : List (Nat × Dec)} (h : Decs w W L) (p : Addr) (hp : w.heap.size ≤ p.block) (hn : ∀ q ∈ L, q.1 ≠ p.block) (v : Value) : Decs w (W.setCell p v) L :=
  ⟨h.below.setCell hp v, fun i b d hi => (h.at_ i b d hi).far (hn _ (List.mem_of_getElem? hi)) v⟩
def MadePost (w : World) (d : Dec) (e : Ending) (w' : World) : Prop := e = .returned (.tuple #[decV d, .bool (mayB d)]) ∧ Below w.heap.size w w'
set_option maxHeartbeats 2000000 in
theorem made_ok (neg : Bool) (l : List UInt8) (x : Int) (w : World) (hd : Digs l) (hl : l.length ≤ 1000000) (h1 : -1000000000 ≤ x) (h2 : x ≤ 1000000000) :
    Calls Tryz.prog 25 #[.bool neg, .string (bs l), .int .i64 x] w (MadePost w (dec neg (num l) x)) := by
  have HP := Lib.hid (fun W => plain_ok l W (by omega))
  rw [plain_core hd] at HP
  have htz : tz (num l) ≤ l.length := tz_le hd
  have hcl : (coreL (num l)).length ≤ 1000000 := by
    have := plain_core hd
    have h3 : (plain l).length ≤ l.length := by
      clear this HP htz hd hl
      induction l with
      | nil => simp [plain]
      | cons b r ih => unfold plain; split <;> simp; omega
    rw [this, List.length_append] at h3
    omega
  have HL := Lib.hid (coreL_last (num l))
  have HZ : Hid (coreL (num l) = [] → dec neg (num l) x = Dec.zero) := Lib.hid fun h => by rw [coreL_nil.1 h]; rfl
  have HD : Hid (¬ coreL (num l) = [] → dec neg (num l) x = ⟨neg, coreL (num l), x + tz (num l)⟩) := Lib.hid (dec_coreL neg (num l) x)
  generalize dec neg (num l) x = D at *
  generalize coreL (num l) = C at *
  generalize tz (num l) = T at *
  have hT : T ≤ 1000000 := by omega
  clear hd htz
  obtain ⟨w1, hw1⟩ : ∃ w1, w1 = w.alloc (.cells #[.bool false, .string ⟨#[]⟩, .int .i64 0] 24) := ⟨_, rfl⟩
  have HR1 : Hid (Row w1 w.heap.size 24 #[.bool false, .string ⟨#[]⟩, .int .i64 0]) := Lib.hid (by subst hw1; exact Row.new _ _ _)
  have HB1 : Hid (Below w.heap.size w w1) := Lib.hid (by subst hw1; exact (Below.refl _ _).alloc (Nat.le_refl _) _)
  go_enter Tryz.func25, Tryz.ntmps25
  go_upto_region 1 with fail
  rw [← hw1]
  clear hw1
  generalize bs l = S at *
  go_wp2_with fail
  refine (HP.out _).mono ?_
  rintro e w2 ⟨rfl, rfl⟩
  clear HP
  go_wp2_with fail
  go_loop [2, 8] (fun v2 v8 => ∃ k : Nat, k ≤ T ∧ v2 = .int .i64 (x + T - k) ∧ v8 = .string (bs (C ++ zeros k))) (fun _ v8 => match v8 with | .string s => s.size | _ => 0)
  case atStart => exact ⟨T, Nat.le_refl _, by simp, rfl⟩
  case round =>
    obtain ⟨k, hk, rfl, rfl⟩ := hrel
    have hsz : (bs (C ++ zeros k)).size = C.length + k := by rw [bs_size]; simp [zeros]
    rcases Nat.eq_zero_or_pos k with h0 | h0
    · subst h0
      have e0 : C ++ zeros 0 = C := by simp [zeros]
      rw [e0] at hsz ⊢
      rw [Nat.add_zero] at hsz
      have hxe : x + (T : Int) - ((0 : Nat) : Int) = x + T := by omega
      rw [hxe]
      clear e0 hxe
      by_cases hC : C = []
      · have HDD := Lib.hid (HZ.out hC)
        subst hC
        have hsz0 : (bs []).size = 0 := rfl
        have ht0 : (bs []).toList.isEmpty = true := by rw [bs_toList]; rfl
        have ht1 : (bs []).toList = [] := bs_toList []
        have y0 := HR1.out.cell (i := 0) (v := .bool false) rfl
        have y1 := HR1.out.cell (i := 1) (v := .string ⟨#[]⟩) rfl
        have y2 := HR1.out.cell (i := 2) (v := .int .i64 0) rfl
        have g0 := HR1.out.free 0
        have g1 := HR1.out.free 1
        have g2 := HR1.out.free 2
        clear hsz HZ HD HL hcl
        go_wp2_with fail
        have hrow := ((HR1.out.set_ 0 (.bool false)).set_ 1 (.string ⟨#[]⟩)).set_ 2 (.int .i64 0)
        refine bodyPost_ret_by (results_row_tmp rfl _ _ w.heap.size #[.bool false, .string ⟨#[]⟩, .int .i64 0] rfl (load_dec hrow rfl)) rfl ?_
        exact ⟨by rw [HDD.out]; rfl, ((HB1.out.setCell (p := ⟨w.heap.size, 0, none⟩) (Nat.le_refl _) _).setCell (p := ⟨w.heap.size, 1, none⟩) (Nat.le_refl _) _).setCell (p := ⟨w.heap.size, 2, none⟩) (Nat.le_refl _) _⟩
      · have HDD := Lib.hid (HD.out hC)
        have hpos : 0 < C.length := List.length_pos_iff.2 hC
        obtain ⟨m, hm⟩ : ∃ m, C.length = m + 1 := ⟨C.length - 1, by omega⟩
        have hidx : ∀ W, (Instr.index 9 (.string (bs C)) (.int .i64 (m : Int))).run Tryz.prog W = .ok (.int .u8 (byteAt C m : Int)) W := fun W => run_byte _ Tryz.underlying9 C m (by omega) W
        have hb : ¬ byteAt C m = 48 := fun h => HL.out ((last_byte hC).2 (by rw [hm]; exact h))
        have hne : ((byteAt C m : Int) == 48) = false := by rw [beq_eq_false_iff_ne]; omega
        have hm1 : ((m + 1 : Nat) : Int) - 1 = (m : Int) := by omega
        have hE : (bs C).toList.isEmpty = false := by rw [bs_toList]; cases C with | nil => exact absurd rfl hC | cons b r => rfl
        have hE1 : ¬ (bs C).toList = [] := by rw [bs_toList]; exact hC
        have HMY := Lib.hid (fun W => may_ok ⟨neg, C, x + T⟩ W (by simp only; omega))
        unfold decV at HMY
        simp only at HMY
        rw [hm] at hsz
        generalize byteAt C m = y at *
        clear hb HZ HD HL
        obtain ⟨w3, hw3⟩ : ∃ w3, w3 = w1.alloc (.cells #[.bool neg, .string (bs C), .int .i64 (x + T)] 24) := ⟨_, rfl⟩
        have HRD : Hid (Row w3 w1.heap.size 24 #[.bool neg, .string (bs C), .int .i64 (x + T)]) := Lib.hid (by subst hw3; exact Row.new _ _ _)
        have HR3 : Hid (Row w3 w.heap.size 24 #[.bool false, .string ⟨#[]⟩, .int .i64 0]) := Lib.hid (by subst hw3; exact HR1.out.alloc _)
        have HB3 : Hid (Below w.heap.size w w3) := Lib.hid (by subst hw3; exact HB1.out.alloc HB1.out.size _)
        have hne8 : ∀ q ∈ [(w1.heap.size, (⟨neg, C, x + T⟩ : Dec))], q.1 ≠ w.heap.size := fun q hq => by rw [List.mem_singleton] at hq; rw [hq]; exact (Nat.ne_of_lt HR1.out.lt).symm
        go_upto_region 8 with fail
        rw [← hw3]
        clear hw3 HR1 HB1
        refine wp_region_held_drew (S := (fun W => Decs w W [(w1.heap.size, ⟨neg, C, x + T⟩)])) (by kernel_rfl) (Decs.one HB3.out.drew HRD.out) (fun hHeld => ?_)
        refine wpAnyH_take (i := 0) (oi := ?_) (v := ?_) ?_ (by kernel_rfl) (by kernel_rfl) (by kernel_rfl) ?_ ?_ (by assumption) ?_
        rotate_left 2
        · simp only [List.getElem?_toArray, List.getElem?_cons_zero]; with_reducible rfl
        · exact fun _ _ _ h => h
        · refine Or.inl ⟨by rfl, ?_⟩; intro W hSw; have q0 := hSw.c0 (i := 0) rfl; have q1 := hSw.c1 (i := 0) rfl; have q2 := hSw.c2 (i := 0) rfl; go_simp; try with_reducible rfl
        try simp only [Act.put, List.setIfInBounds_toArray, List.set_cons_zero, List.set_cons_succ]
        refine wpAnyH_take (i := 1) (oi := ?_) (v := ?_) ?_ (by kernel_rfl) (by kernel_rfl) (by kernel_rfl) ?_ ?_ (by assumption) ?_
        rotate_left 2
        · simp only [List.getElem?_toArray, List.getElem?_cons_succ, List.getElem?_cons_zero]; with_reducible rfl
        · exact fun _ _ _ h => h
        · refine Or.inl ⟨by rfl, ?_⟩; intro W hSw; have q0 := hSw.c0 (i := 0) rfl; have q1 := hSw.c1 (i := 0) rfl; have q2 := hSw.c2 (i := 0) rfl; go_simp; try with_reducible rfl
        try simp only [Act.put, List.setIfInBounds_toArray, List.set_cons_zero, List.set_cons_succ]
        refine wpAnyH_ready (rs := [2]) (by kernel_rfl) (by simp) ?_
        refine AllReadyH.cons (o := ?_) ?_ (fun K1 hK1 => ?_) AllReadyH.nil
        rotate_left 1
        · simp only [List.getElem?_toArray, List.getElem?_cons_succ, List.getElem?_cons_zero]; with_reducible rfl
        rw [if_pos (by rfl)]
        go_simp
        refine (HMY.out _).mono ?_
        rintro e4 w4 ⟨rfl, hb4⟩
        have HR4 := Lib.hid (HR3.out.drew.call hb4)
        have y0 := HR4.out.cell (i := 0) (v := .bool false) rfl
        have y1 := HR4.out.cell (i := 1) (v := .string ⟨#[]⟩) rfl
        have y2 := HR4.out.cell (i := 2) (v := .int .i64 0) rfl
        have g0 := HR4.out.free 0
        have g1 := HR4.out.free 1
        have g2 := HR4.out.free 2
        go_wp2_with fail
        refine hK1.out _ _ (hHeld.call hb4) (fun hHeld1 => ?_)
        clear hK1 K1
        try simp only [Act.put, List.setIfInBounds_toArray, List.set_cons_zero, List.set_cons_succ]
        refine wpAnyH_ready (rs := [3]) (by kernel_rfl) (by simp) ?_
        refine AllReadyH.cons (o := ?_) ?_ (fun K2 hK2 => ?_) AllReadyH.nil
        rotate_left 1
        · simp only [List.getElem?_toArray, List.getElem?_cons_succ, List.getElem?_cons_zero]; with_reducible rfl
        rw [if_pos (by rfl)]
        go_simp
        skip
        go_wp2_with fail
        refine hK2.out _ _ (((hHeld1.set_ ⟨w.heap.size, 0, none⟩ (Nat.le_refl _) hne8 _).set_ ⟨w.heap.size, 1, none⟩ (Nat.le_refl _) hne8 _).set_ ⟨w.heap.size, 2, none⟩ (Nat.le_refl _) hne8 _) (fun hHeld2 => ?_)
        clear hK2 K2
        try simp only [Act.put, List.setIfInBounds_toArray, List.set_cons_zero, List.set_cons_succ]
        refine wpAnyH_take (i := 4) (oi := ?_) (v := ?_) ?_ (by kernel_rfl) (by kernel_rfl) (by kernel_rfl) ?_ ?_ (by assumption) ?_
        rotate_left 2
        · simp only [List.getElem?_toArray, List.getElem?_cons_succ, List.getElem?_cons_zero]; with_reducible rfl
        · exact fun _ _ _ h => h
        · refine Or.inl ⟨by rfl, ?_⟩; intro W hSw; go_simp; try with_reducible rfl
        try simp only [Act.put, List.setIfInBounds_toArray, List.set_cons_zero, List.set_cons_succ]
        refine wpAnyH_done (by kernel_rfl) ?_ _
        go_wp2_with fail
        have hrow := ((HR4.out.set_ 0 (.bool neg)).set_ 1 (.string (bs C))).set_ 2 (.int .i64 (x + T))
        refine bodyPost_ret_by (results_row_tmp rfl _ _ w.heap.size #[.bool neg, .string (bs C), .int .i64 (x + T)] rfl (load_dec hrow rfl)) rfl ?_
        exact ⟨by rw [HDD.out]; rfl, hHeld2.below⟩
    · obtain ⟨j, rfl⟩ : ∃ j, k = j + 1 := ⟨k - 1, by omega⟩
      have hidx : ∀ W, (Instr.index 9 (.string (bs (C ++ zeros (j + 1)))) (.int .i64 ((C.length + j : Nat) : Int))).run Tryz.prog W = .ok (.int .u8 (48 : Nat)) W := fun W => by
        have := run_byte (P := Tryz.prog) 9 Tryz.underlying9 (C ++ zeros (j + 1)) (C.length + j) (by simp [zeros]) W
        rwa [byte_zeros] at this
      have hsl : ∀ W, (Instr.slice 9 (.string (bs (C ++ zeros (j + 1)))) none (some (.int .i64 ((C.length + j : Nat) : Int))) none).run Tryz.prog W = .ok (.string (bs (C ++ zeros j))) W := fun W => by
        have := run_to_bs (P := Tryz.prog) W 9 Tryz.underlying9 (C ++ zeros (j + 1)) (C.length + j) (by simp [zeros])
        rwa [take_zeros] at this
      obtain ⟨m, hm⟩ : ∃ m, m = C.length + j := ⟨_, rfl⟩
      rw [← hm] at hidx hsl
      have hsz2 : (bs (C ++ zeros (j + 1))).size = m + 1 := by rw [hsz]; omega
      have hmb : m ≤ 3000000 := by omega
      have hm1 : ((m + 1 : Nat) : Int) - 1 = (m : Int) := by omega
      have hz3 : (bs (C ++ zeros j)).size = m := by rw [bs_size]; simp [zeros]; omega
      clear hsz hm HZ HD HL
      generalize bs (C ++ zeros (j + 1)) = s2 at *
      go_wp2
      refine ⟨⟨j, by omega, ?_, rfl⟩, ?_⟩
      · exact congrArg (Value.int .i64) (by omega)
      · show (bs (C ++ zeros j)).size < s2.size
        omega
end Go.Proofs.YtlcbjikiodmlfaaGreatDoor
/- Layer 7: the document's Cmp. -/
namespace Go.Proofs.YtlcbjikiodmlfaaGreatDoor
open Go.RowKit

/-- Digit texts by their length, then by their bytes. -/
def cmpC (a b : List UInt8) : Int := if a.length < b.length then -1 else if b.length < a.length then 1 else cmpB a b
set_option maxHeartbeats 1000000 in
theorem rcmp_ok (a b : List UInt8) (w : World) : Calls Tryz.prog 24 #[.string (bs a), .string (bs b)] w fun e w' => e = .returned (.int .i64 (cmpC a b)) ∧ w = w' := by
  have h1 : (bs a).toList = a := bs_toList a
  have h2 : (bs b).toList = b := bs_toList b
  have s1 := bs_size a
  have s2 := bs_size b
  unfold cmpC
  rw [cmpB_less]
  generalize bs a = s at *
  generalize bs b = t at *
  by_cases q1 : a.length < b.length
  · have e1 : ((a.length : Int) == (b.length : Int)) = false := by rw [beq_eq_false_iff_ne]; omega
    rw [if_pos q1]
    generalize a.length = la at *
    generalize b.length = lb at *
    go_enter Tryz.func24, Tryz.ntmps24
    go_wp2
    go_ret
    exact ⟨rfl, rfl⟩
  rw [if_neg q1]
  by_cases q2 : b.length < a.length
  · have e1 : ((a.length : Int) == (b.length : Int)) = false := by rw [beq_eq_false_iff_ne]; omega
    rw [if_pos q2]
    generalize a.length = la at *
    generalize b.length = lb at *
    go_enter Tryz.func24, Tryz.ntmps24
    go_wp2
    go_ret
    exact ⟨rfl, rfl⟩
  rw [if_neg q2]
  have e0 : a.length = b.length := by omega
  rw [e0] at s1
  clear q1 q2 e0
  generalize b.length = lb at *
  cases c1 : Op.bytesLess a b <;> cases c2 : (a == b)
  all_goals
    go_enter Tryz.func24, Tryz.ntmps24
    go_wp2
    go_ret
    exact ⟨rfl, rfl⟩
end Go.Proofs.YtlcbjikiodmlfaaGreatDoor
