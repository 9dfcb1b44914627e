/- Layer 2: Crash. -/
import Derived.Test.YtljlkmmeedlaiaaDoorPt08
namespace Go.Proofs.YtljlkmmeedlaiaaDoor
open Go.RowKit

/-- A sector of which a piece's first bytes, by the pick, are the piece's. -/
def tear (s old : List Nat) (pick : Int) : List Nat := s.take (keptN pick) ++ old.drop (keptN pick)
theorem tear_sec {s old : List Nat} (hs : Sec s) (ho : Sec old) (x : Int) : Sec (tear s old x) := by
  have := keptN_le x
  refine ⟨?_, (hs.2.take _).append (ho.2.drop _)⟩
  unfold tear
  rw [List.length_append, List.length_take, List.length_drop, hs.1, ho.1]
  omega
/-- What lasts behind the first k pieces. -/
def crashTo (f : Int → List Nat) (ps : List (Int × List Nat)) (picks : List Int) : Nat → Int → List Nat
  | 0 => f
  | k + 1 => upd (crashTo f ps picks k) (ps.getD k (0, zsec)).1 (tear (ps.getD k (0, zsec)).2 (crashTo f ps picks k (ps.getD k (0, zsec)).1) (picks.getD k 0))
theorem pcs_range {w : World} {b off : Nat} {l : List (Int × List Nat)} (hs : ∀ p ∈ l, Sec p.2) (h : w.rangeAt b off (pcs l)) {k : Nat} (hk : k < l.length) : w.rangeAt b (off + k * 513) (pieceCells (l.getD k (0, zsec)).1 (l.getD k (0, zsec)).2) := by
  intro j v hv
  have hj : j < 513 := by
    have := (List.getElem?_eq_some_iff.1 hv).1
    rw [pieceCells_length] at this
    · exact this
    · rw [List.getD_eq_getElem?_getD, List.getElem?_eq_getElem hk]; exact hs _ (List.getElem_mem hk)
  rw [Nat.add_assoc]
  refine h _ _ ?_
  have e : pcs l = pcs (l.take k) ++ (pieceCells (l.getD k (0, zsec)).1 (l.getD k (0, zsec)).2 ++ pcs (l.drop (k + 1))) := by
    have h1 : l = l.take k ++ (l[k] :: l.drop (k + 1)) := by rw [← List.drop_eq_getElem_cons hk, List.take_append_drop]
    conv => lhs; rw [h1, pcs_append]
    rw [List.getD_eq_getElem?_getD, List.getElem?_eq_getElem hk]
    rfl
  have h2 : (pcs (l.take k)).length = k * 513 := by
    rw [pcs_length (fun p hp => hs p (List.mem_of_mem_take hp)), List.length_take]
    congr 1; omega
  rw [e, List.getElem?_append_right (by omega), h2, Nat.add_sub_cancel_left, List.getElem?_append_left (by exact (List.getElem?_eq_some_iff.1 hv).1)]
  exact hv

def CrashPost (w : World) (d : D) (picks : List Int) (e : Ending) (w' : World) : Prop :=
  ∃ p, e = .returned (.tuple #[.pointer (some ⟨p, 0, none⟩), .int .i64 0]) ∧ DiskAt w' (grow noBlock w) p (laidD d.size (crashTo d.lasting d.pieces picks d.pieces.length)) ∧ Below w.heap.size w w'

def CrashRel (d : D) (picks : List Int) (w : World) (k : Nat) (wr : World) : Prop :=
  IsMap wr (w.heap.size + 1) (crashTo d.lasting d.pieces picks k) ∧ PicksIs wr w.heap.size (picks.drop k) ∧ Below w.heap.size w wr
theorem wpList_put {ops : Array Oper} {rest : List Oper} {o : Oper} {a : Act} {w : World} {Q : Exit → Act → World → Prop} (hgd : o.guard = none) (m x v : Operand) (hop : o.op = .mapUpdate 71 m x v) (b : Nat) (f : Int → List Nat) (hown : IsMap w b f)
    (k : Int) (l : List Nat) (hm : a.eval m = .map (some b)) (hx : a.eval x = .int .i64 k) (hv : a.eval v = secV l) (hk : (Lit.int .i64 k).wf = true) (hl : Sec l)
    (h : ∀ w', IsMap w' b (upd f k l) → Kept (· = b) w w' → wpList Tryd.prog ops Q rest (a.put o.dst undef) w') : wpList Tryd.prog ops Q (o :: rest) a w :=
  wpList_plain hgd fun _ hK => wp_put m x v hop b f hown k l hm hx hv hk hl fun w' h1 h2 => hK _ _ (h w' h1 h2)

set_option maxRecDepth 100000 in
set_option maxHeartbeats 2000000 in
theorem crash_ok {F : Nat → Prop} (p : Nat) (d : D) (A : Option Addr) (c : Nat) (picks : List Int) (w : World) (h : DiskAt w F p d) (hp : Holds w A picks.length 1 (ints picks)) (hn : picks.length ≤ c) (hc : c ≤ 9223372036854775807) (hnb : noneBelow picks) (hwf : ∀ x ∈ picks, (Lit.int .i64 x).wf = true) (hpl : d.pieces.length ≤ 1000000) :
    Calls Tryd.prog 23 #[.pointer (some ⟨p, 0, none⟩), .slice A picks.length c] w (CrashPost w d picks) := by
  obtain ⟨t, ht⟩ := h
  have hb1 : Below w.heap.size w (w.alloc (.cells #[.slice A picks.length c] 57)) := (Below.refl _ _).alloc (Nat.le_refl _) _
  have HT := Lib.hid (ht.below hb1)
  have HPI : Hid (PicksIs (w.alloc (.cells #[.slice A picks.length c] 57)) w.heap.size picks) := Lib.hid ⟨A, c, Row.new _ _ _, hp.below hb1, hn, hc, fun x h0 hx => by
    obtain ⟨b, off, e1, hb, _⟩ := hp.2 h0
    rw [e1] at hx; injection hx with hx; subst hx; exact hb⟩
  have HP := Lib.hid (hp.below hb1)
  have HB1 := Lib.hid hb1
  have HNB := Lib.hid hnb
  have HWF := Lib.hid hwf
  have hcont : Hid (∀ w, Holds w A picks.length 1 (ints picks) → Calls Tryd.prog 46 #[.slice A picks.length c, .func (.func 47) #[] #[]] w fun e w' => e = .returned (.bool false) ∧ w = w') := Lib.hid fun w hh => contains_ok A c picks w hh (by omega) false ⟨fun h => (by cases h), fun h => absurd hnb h⟩
  have hsz := ht.good.most
  have hpos := ht.good.pos
  have hfr : Hid (∀ (w' : World), Below w.heap.size w w' → DiskIs w' F p d t) := Lib.hid fun w' hb => ht.below hb
  have hps : Hid (∀ q ∈ d.pieces, 0 ≤ q.1 ∧ q.1 < d.size ∧ Sec q.2) := Lib.hid ht.good.piece
  obtain ⟨Av, cv, hv, hv1, hv2, hvh⟩ := ht.pieces.holds
  have HV := Lib.hid hv
  have HVH := Lib.hid hvh
  clear ht hb1 hp hnb hwf hv hvh hn
  have c1 := HT.out.c1
  have c3 := HT.out.c3
  rw [HV.out] at c3
  have hd0 : Hid (∀ w', Below w.heap.size w w' → DiskAt w' F p d) := Lib.hid fun w' hb => ⟨t, hfr.out w' hb⟩
  go_enter Tryd.func23, Tryd.ntmps23
  go_wp2_with (first
    | (go_at_call 41; refine (none_ok p d _ (hd0.out _ HB1.out)).mono ?_; rintro e w' ⟨rfl, rfl⟩)
    | (go_at_call 46; refine (hcont.out _ HP.out).mono ?_; rintro e w' ⟨rfl, rfl⟩)
    | (go_at_call 42; refine (cloneMap_ok t.bl d.lasting _ HT.out.last).mono ?_; (rintro e w2 ⟨rfl, hm2, hb2, hs2⟩); (have hb3 := HB1.out.call hb2); (have d3 := (hfr.out _ hb3).c3); (rw [HV.out] at d3)))
  have HM2 : Hid (IsMap w2 (w.heap.size + 1) (crashTo d.lasting d.pieces picks 0)) := Lib.hid (by simpa [crashTo] using hm2)
  have HPI2 : Hid (PicksIs w2 w.heap.size (picks.drop 0)) := Lib.hid (HPI.out.kept hb2)
  have HB3 := Lib.hid hb3
  clear hm2 hb2 hs2 hb3 d3 c1 c3 HPI
  go_loopw [28] (fun v28 wr => ∃ k : Nat, k ≤ d.pieces.length ∧ v28 = .int .i64 k ∧ CrashRel d picks w k wr) (fun v28 _ => d.pieces.length - (intOf v28).toNat)
  case atStart => exact ⟨0, Nat.zero_le _, rfl, HM2.out, HPI2.out, HB3.out⟩
  case round =>
    obtain ⟨k, hk, rfl, hmk, hpk, hbk⟩ := hrel
    by_cases hlt : k < d.pieces.length
    · obtain ⟨b, off, rfl, hbl, hrg⟩ := HVH.out.2 (by omega)
      have hrg2 := pcs_range (fun q hq => (hps.out q hq).2.2) hrg hlt
      have hmem : d.pieces.getD k (0, zsec) ∈ d.pieces := by rw [List.getD_eq_getElem?_getD, List.getElem?_eq_getElem hlt]; exact List.getElem_mem hlt
      obtain ⟨ha0, ha1, hs0⟩ := hps.out _ hmem
      have hxn := HNB.out.get k
      have hxw0 : (Lit.int .i64 (picks.getD k 0)).wf = true := by
        rcases Nat.lt_or_ge k picks.length with h9 | h9
        · rw [List.getD_eq_getElem?_getD, List.getElem?_eq_getElem h9]; exact HWF.out _ (List.getElem_mem h9)
        · rw [List.getD_eq_getElem?_getD, List.getElem?_eq_none h9]; rfl
      have hhd : (picks.drop k).headD 0 = picks.getD k 0 := by
        rw [List.headD_eq_head?_getD, List.head?_drop, List.getD_eq_getElem?_getD]
      have HC : Hid (crashTo d.lasting d.pieces picks (k + 1) = upd (crashTo d.lasting d.pieces picks k) (d.pieces.getD k (0, zsec)).1 (tear (d.pieces.getD k (0, zsec)).2 (crashTo d.lasting d.pieces picks k (d.pieces.getD k (0, zsec)).1) (picks.getD k 0))) := Lib.hid rfl
      generalize (d.pieces.getD k (0, zsec)).1 = a at *
      generalize (d.pieces.getD k (0, zsec)).2 = s at *
      generalize picks.getD k 0 = x at *
      have ho0 := hmk.sec a
      obtain ⟨old, hold⟩ : ∃ old, crashTo d.lasting d.pieces picks k a = old := ⟨_, rfl⟩
      rw [hold] at HC ho0
      have HOLD := Lib.hid hold
      have hrgw := rangeAt_below hrg2 hbl hbk
      have HRG := Lib.hid hrgw
      have HS := Lib.hid hs0
      have HO := Lib.hid ho0
      have hhead := Lib.hid hhd
      have hxw := Lib.hid hxw0
      have HMK := Lib.hid hmk
      have HPK := Lib.hid hpk
      have HBK := Lib.hid hbk
      have hx0 : 0 ≤ x := hxn
      have hkn := keptN_le x
      have hpi : Hid ((Tryd.prog.info? 93).map (·.size) = some (pieceCells a s).length) := Lib.hid (by rw [infoPiece1, pieceCells_length HS.out])
      have hpi2 : Hid ((Tryd.prog.info? 93).map (·.size) = some (pieceCells a s).toArray.size) := Lib.hid (by rw [List.size_toArray]; exact hpi.out)
      have hlo : Hid ((cellsOf old).length = 512) := Lib.hid (by rw [cellsOf_length, HO.out.1])
      have hwfa : Hid ((Lit.int .i64 a).wf = true) := Lib.hid (WalkArith.wf_i64 (by omega))
      have hhk : (0 : Int) ≤ ((keptN x : Nat) : Int) := by omega
      have hhk2 : ((keptN x : Nat) : Int) ≤ 512 := by omega
      clear hrg hrg2 hmem hs0 hhd hold ho0 hrgw hxw0 hmk hpk hbk hxn
      go_wp2_with (first
        | (refine wpList_load_mid ?_ 93 (.tmp 30) ?_ b (off + k * 513) ?_ (pieceCells a s) _ HRG.out Tryd.underlying93 rfl hpi.out ?_
           · with_reducible rfl
           · with_reducible rfl
           · rfl)
        | (refine wpList_alloc_store ?_ ?_ 93 (.tmp 9) (.tmp 31) ?_ ?_ (pieceCells 0 zsec).toArray (pieceCells a s).toArray zeroPiece ?_ ?_ ?_ ?_ ?_ ?_
           · with_reducible rfl
           · with_reducible rfl
           · with_reducible rfl
           · with_reducible rfl
           · exact hpi2.out
           · rw [List.size_toArray, List.size_toArray, pieceCells_length Sec.zero, pieceCells_length HS.out]
           · exact all_oneCell_toArray (pieceCells_one _ _)
           · rfl
           · rfl
           intro g1 w3 hg1 hr1 hb1 hs1
           have hca := atPiece hr1
           have hlk := (HMK.out.below hb1).look hwfa.out
           rw [HOLD.out] at hlk)
        | (refine wpList_alloc_store ?_ ?_ 90 (.tmp 10) (.tmp 35) ?_ ?_ (cellsOf zsec).toArray (cellsOf old).toArray zeroSec ?_ ?_ ?_ ?_ ?_ ?_
           · with_reducible rfl
           · with_reducible rfl
           · with_reducible rfl
           · with_reducible rfl
           · rw [infoSec1, List.size_toArray, hlo.out]
           · rw [List.size_toArray, List.size_toArray, hlo.out, zsec_cells]
           · exact all_oneCell_toArray (cellsOf_one _)
           · rfl
           · rfl
           intro g2 w4 hg2 hr2 hb2 hs2))
      simp only [Act.put, List.setIfInBounds_toArray, List.set_cons_zero, List.set_cons_succ]
      have hsz1 := HBK.out.size
      have hg1' := hg1.out
      have hg2' := hg2.out
      have hmlt := HMK.out.lt
      have hne : w.heap.size < wr.heap.size := by omega
      have hb4 : Below wr.heap.size wr w4 := hb1.call hb2
      have HPK4 : Hid (PicksIs w4.drew w.heap.size (picks.drop k)) := Lib.hid (HPK.out.kept hb4.drew)
      have hkk : Hid (∀ w5, Kept (· = w.heap.size) w4.drew w5 → Row w5 g2 90 (cellsOf old).toArray ∧ Row w5 g1 93 (pieceCells a s).toArray ∧ IsMap w5 (w.heap.size + 1) (crashTo d.lasting d.pieces picks k) ∧ Below w.heap.size w w5) := Lib.hid fun w5 h5 => by
        refine ⟨(Row.drew hr2).kept h5 (by omega), (Row.drew (hr1.call hb2)).kept h5 (by omega), ((HMK.out.below hb4.drew).kept h5 (by omega)), ?_⟩
        exact (HBK.out.call hb4.drew).trans (h5.below (by show w.heap.size ≤ w4.heap.size; have := hb4.size; omega) fun k hk => by omega)
      have hr2k : Hid (∀ w5, Kept (· = w.heap.size) w4.drew w5 → w5.heap[g2]? = some (.cells (cellsOf old).toArray 90 (0, 0))) := Lib.hid fun w5 h5 => (hkk.out w5 h5).1
      have hsrck : Hid (∀ w5, Kept (· = w.heap.size) w4.drew w5 → w5.rangeAt g1 1 (cellsOf (s.take (keptN x)))) := Lib.hid fun w5 h5 j v hv => by
        have h6 := secPiece (hkk.out w5 h5).2.1
        refine h6 j v ?_
        have hj : j < (cellsOf (s.take (keptN x))).length := (List.getElem?_eq_some_iff.1 hv).1
        rw [cellsOf_length, List.length_take] at hj
        rw [← hv]
        simp only [cellsOf, List.getElem?_map]
        rw [List.getElem?_take_of_lt (by omega)]
      have hlen : Hid ((cellsOf (s.take (keptN x))).length = Nat.min 512 (keptN x)) := Lib.hid (by rw [cellsOf_length, List.length_take, HS.out.1]; exact Nat.min_comm _ _)
      have hfit : Hid (0 + (cellsOf (s.take (keptN x))).length ≤ (cellsOf old).length) := Lib.hid (by rw [hlo.out, cellsOf_length, List.length_take]; omega)
      have hsp : Hid (∀ W : World, W.heap[g2]? = some (.cells (splice (cellsOf old) 0 (cellsOf (s.take (keptN x)))).toArray 90 (0, 0)) → Row W g2 90 (cellsOf (tear s old x)).toArray) := Lib.hid fun W hW => by
        have e : splice (cellsOf old) 0 (cellsOf (s.take (keptN x))) = cellsOf (tear s old x) := by
          have e1 : (s.take (keptN x)).length = keptN x := by rw [List.length_take, HS.out.1]; omega
          unfold splice tear
          rw [cellsOf_append, List.take_zero, List.nil_append, cellsOf_length, e1, Nat.zero_add]
          simp [cellsOf]
        rw [e] at hW
        exact hW
      have ht0 := tear_sec HS.out HO.out x
      have HTR := Lib.hid ht0
      have HLT : Hid (w.heap.size + 1 < g2 ∧ g1 < g2 ∧ w.heap.size < g2) := Lib.hid (by
        have := hb1.size
        exact ⟨by omega, by omega, by omega⟩)
      have hsi : Hid ((Tryd.prog.info? 90).map (·.size) = some (cellsOf (tear s old x)).toArray.size) := Lib.hid (by rw [infoSec1, List.size_toArray, cellsOf_length, ht0.1])
      clear hr1 hb1 hs1 hr2 hb2 hs2 hca hlk hb4 hg1' hg2' hmlt hne hsz1 ht0
      refine wp_region_any (by kernel_rfl) ?_
      change wpAny _ _ _ _ _ _ _ (World.drew _)
      refine wpAny_take (i := 0) (oi := ?_) (v := ?_) ?_ (by kernel_rfl) (by kernel_rfl) (by kernel_rfl) ?_ ?_ ?_
      rotate_left 2
      · simp only [List.getElem?_toArray, List.getElem?_cons_zero]; with_reducible rfl
      · exact fun _ _ _ h => h
      · refine Or.inl ⟨by rfl, ?_⟩; intro W; go_simp; try with_reducible rfl
      try simp only [Act.put, List.setIfInBounds_toArray, List.set_cons_zero, List.set_cons_succ]
      refine wpAny_take (i := 4) (oi := ?_) (v := ?_) ?_ (by kernel_rfl) (by kernel_rfl) (by kernel_rfl) ?_ ?_ ?_
      rotate_left 2
      · simp only [List.getElem?_toArray, List.getElem?_cons_succ, List.getElem?_cons_zero]; with_reducible rfl
      · exact fun _ _ _ h => h
      · refine Or.inl ⟨by rfl, ?_⟩; intro W; go_simp; try with_reducible rfl
      try simp only [Act.put, List.setIfInBounds_toArray, List.set_cons_zero, List.set_cons_succ]
      refine wpAny_take (i := 5) (oi := ?_) (v := ?_) ?_ (by kernel_rfl) (by kernel_rfl) (by kernel_rfl) ?_ ?_ ?_
      rotate_left 2
      · simp only [List.getElem?_toArray, List.getElem?_cons_succ, List.getElem?_cons_zero]; with_reducible rfl
      · exact fun _ _ _ h => h
      · refine Or.inl ⟨by rfl, ?_⟩; intro W; go_simp; try with_reducible rfl
      try simp only [Act.put, List.setIfInBounds_toArray, List.set_cons_zero, List.set_cons_succ]
      refine wpAny_ready (rs := [1]) (by kernel_rfl) (by simp) ?_
      refine AllReady.cons (o := ?_) ?_ (fun K hK => ?_) AllReady.nil
      rotate_left 1
      · simp only [List.getElem?_toArray, List.getElem?_cons_succ, List.getElem?_cons_zero]; with_reducible rfl
      rw [if_pos (by rfl)]
      go_simp
      refine (next_ok w.heap.size (picks.drop k) _ HPK4.out).mono ?_
      rintro e w5 ⟨rfl, hpk5, hk5⟩
      rw [hhead.out]
      have HPK5 := Lib.hid hpk5
      have HK5 := Lib.hid hk5
      clear hpk5 hk5
      refine hK _ _ ?_
      clear hK K
      try simp only [Act.put, List.setIfInBounds_toArray, List.set_cons_zero, List.set_cons_succ]
      refine wpAny_ready (rs := [2]) (by kernel_rfl) (by simp) ?_
      refine AllReady.cons (o := ?_) ?_ (fun K hK => ?_) AllReady.nil
      rotate_left 1
      · simp only [List.getElem?_toArray, List.getElem?_cons_succ, List.getElem?_cons_zero]; with_reducible rfl
      rw [if_pos (by rfl)]
      go_simp
      refine (kept_ok x _ hx0 hxw.out).mono ?_
      rintro e w6 ⟨rfl, rfl⟩
      refine hK _ _ ?_
      clear hK K
      try simp only [Act.put, List.setIfInBounds_toArray, List.set_cons_zero, List.set_cons_succ]
      refine wpAny_take (i := 3) (oi := ?_) (v := ?_) ?_ (by kernel_rfl) (by kernel_rfl) (by kernel_rfl) ?_ ?_ ?_
      rotate_left 2
      · simp only [List.getElem?_toArray, List.getElem?_cons_succ, List.getElem?_cons_zero]; with_reducible rfl
      · exact fun _ _ _ h => h
      · refine Or.inl ⟨by rfl, ?_⟩; intro W; go_simp; try with_reducible rfl
      try simp only [Act.put, List.setIfInBounds_toArray, List.set_cons_zero, List.set_cons_succ]
      refine wpAny_ready (rs := [6]) (by kernel_rfl) (by simp) ?_
      refine AllReady.cons (o := ?_) ?_ (fun K hK => ?_) AllReady.nil
      rotate_left 1
      · simp only [List.getElem?_toArray, List.getElem?_cons_succ, List.getElem?_cons_zero]; with_reducible rfl
      refine step_copy_splice rfl (.tmp 39) (.tmp 41) 41 41 rfl 5 Tryd.underlying41 sizeU8 (some ⟨g2, 0, none⟩) (some ⟨g1, 1, none⟩) (keptN x) 512 512 512 rfl rfl g2 0 (cellsOf old) 90 (hr2k.out _ HK5.out) (cellsOf (s.take (keptN x))) hlen.out (fun _ => ⟨rfl, _, rfl, fun j v hv => by rw [Addr.add_lit]; exact hsrck.out _ HK5.out j v hv⟩) hfit.out (cellsOf_one _) g2 w5 (Below.refl _ _) (Nat.le_refl _) ?_
      intro w7 hg7 hb7
      have HROW7 := Lib.hid (hsp.out _ hg7.out)
      have HB7 := Lib.hid hb7
      clear hg7 hb7
      refine hK _ _ ?_
      clear hK K
      try simp only [Act.put, List.setIfInBounds_toArray, List.set_cons_zero, List.set_cons_succ]
      refine wpAny_done (by kernel_rfl) ?_ _
      have h5 := hkk.out _ HK5.out
      have hm7 : IsMap w7 (w.heap.size + 1) (crashTo d.lasting d.pieces picks k) := h5.2.2.1.heap fun o ho => (HB7.out.block _ HLT.out.1).trans ho
      have hr7 : Row w7 g1 93 (pieceCells a s).toArray := h5.2.1.below HB7.out HLT.out.2.1
      have hpk7 := HPK5.out.upto HB7.out HLT.out.2.2
      have hbk7 : Below w.heap.size w w7 := h5.2.2.2.trans (HB7.out.mono (by have := HLT.out.1; omega))
      have hca7 := atPiece hr7
      have HM7 := Lib.hid hm7
      have HPK7 := Lib.hid hpk7
      have HBK7 := Lib.hid hbk7
      have hpt : Hid ((picks.drop k).tail = picks.drop (k + 1)) := Lib.hid (by rw [List.tail_drop])
      clear h5 hm7 hr7 hpk7 hbk7 HPK4 hkk hr2k hsrck hlen hfit hsp
      go_wp2_with (first
        | (refine wpList_load_row ?_ 90 (.tmp 10) ?_ g2 ?_ 90 (cellsOf (tear s old x)).toArray (0, 0) _ HROW7.out Tryd.underlying90 rfl hsi.out ?_
           · with_reducible rfl
           · with_reducible rfl
           · rfl)
        | (refine wpList_put ?_ (.tmp 43) (.tmp 45) (.tmp 46) ?_ (w.heap.size + 1) _ HM7.out a (tear s old x) ?_ ?_ ?_ hwfa.out HTR.out ?_
           · with_reducible rfl
           · with_reducible rfl
           · rfl
           · rfl
           · rfl
           intro w8 hm8 hk8
           have hrel : Hid (CrashRel d picks w (k + 1) w8) := Lib.hid (by
             refine ⟨by rw [HC.out]; exact hm8, ?_, ?_⟩
             · have h1 := HPK7.out
               rw [hpt.out] at h1
               obtain ⟨A9, c9, hr9, hh9, h9a, h9b, h9c⟩ := h1
               exact ⟨A9, c9, hr9.kept hk8 (by omega), ⟨hh9.1, fun h0 => by
                 obtain ⟨b9, off9, e9, hlt9, hg9⟩ := hh9.2 h0
                 have := h9c _ h0 e9
                 exact ⟨b9, off9, e9, Nat.lt_of_lt_of_le hlt9 hk8.size, fun j v hv => (World.cell?_of_block (w := w7) (a := ⟨b9, off9 + j, none⟩) (hk8.block b9 hlt9 (by show ¬ b9 = w.heap.size + 1; simp at this; omega))).trans (hg9 j v hv)⟩⟩, h9a, h9b, h9c⟩
             · exact HBK7.out.trans (hk8.below (by have := HBK7.out.size; omega) fun k hk => by omega))
           clear hm8 hk8))
      exact ⟨⟨k + 1, by omega, by go_num, hrel.out⟩, by simp [intOf]; omega⟩
    · obtain rfl : k = d.pieces.length := by omega
      have d0 := (hfr.out _ hbk).c0
      have HMK := Lib.hid hmk
      have HBK := Lib.hid hbk
      clear hmk hpk hbk
      go_wp2_with (go_at_call 26; refine (laid_ok d.size (w.heap.size + 1) _ _ HMK.out hpos hsz).mono ?_; rintro e w9 ⟨p9, t9, rfl, hd9, _, _, hp9, hb9⟩)
      go_ret2
      refine ⟨p9, rfl, ⟨t9, hd9.mono fun x hx => ?_⟩, HBK.out.call hb9⟩
      have := HBK.out.size
      rcases hx with hx | hx
      · exact .inr (by omega)
      · exact .inr (by omega)

theorem crash_no (v : Value) (A : Option Addr) (n c : Nat) (w : World) (h : NoDisk w v) :
    Calls Tryd.prog 23 #[v, .slice A n c] w fun e w' => e = .returned (.tuple #[.pointer none, .int .i64 1]) ∧ Below w.heap.size w w' := by
  have hb : Below w.heap.size w (w.alloc (.cells #[.slice A n c] 57)) := (Below.refl _ _).alloc (Nat.le_refl _) _
  have H := Lib.hid (h.below hb)
  have HB := Lib.hid hb
  clear h hb
  go_enter Tryd.func23, Tryd.ntmps23
  go_wp2_with (go_at_call 41; refine (none_no v _ H.out).mono ?_; rintro e w' ⟨rfl, rfl⟩)
  go_ret2
  exact ⟨rfl, HB.out⟩
theorem crash_arg {F : Nat → Prop} (p : Nat) (d : D) (A : Option Addr) (c : Nat) (picks : List Int) (w : World) (h : DiskAt w F p d) (hp : Holds w A picks.length 1 (ints picks)) (hn : picks.length ≤ c) (hc : c ≤ 9223372036854775807) (hnb : ¬ noneBelow picks) :
    Calls Tryd.prog 23 #[.pointer (some ⟨p, 0, none⟩), .slice A picks.length c] w fun e w' => e = .returned (.tuple #[.pointer none, .int .i64 2]) ∧ Below w.heap.size w w' := by
  have hb : Below w.heap.size w (w.alloc (.cells #[.slice A picks.length c] 57)) := (Below.refl _ _).alloc (Nat.le_refl _) _
  have H := Lib.hid (h.below hb)
  have HB := Lib.hid hb
  have HC : Hid (∀ w, Holds w A picks.length 1 (ints picks) → Calls Tryd.prog 46 #[.slice A picks.length c, .func (.func 47) #[] #[]] w fun e w' => e = .returned (.bool true) ∧ w = w') := Lib.hid fun w hh => contains_ok A c picks w hh (by omega) true ⟨fun _ => hnb, fun _ => rfl⟩
  have HP := Lib.hid (hp.below hb)
  clear h hb hp hnb
  go_enter Tryd.func23, Tryd.ntmps23
  go_wp2_with (first
    | (go_at_call 41; refine (none_ok p d _ H.out).mono ?_; rintro e w' ⟨rfl, rfl⟩)
    | (go_at_call 46; refine (HC.out _ HP.out).mono ?_; rintro e w' ⟨rfl, rfl⟩))
  go_ret2
  exact ⟨rfl, HB.out⟩
end Go.Proofs.YtljlkmmeedlaiaaDoor
