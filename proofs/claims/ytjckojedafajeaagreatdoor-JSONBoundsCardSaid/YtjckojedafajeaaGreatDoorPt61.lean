/- Layer 8: pure: the bounds of depth and length. -/
import Derived.Test.YtjckojedafajeaaGreatDoorPt60
import Derived.Test.YtjckojedafajeaaGreatDoorPt45
import Derived.Test.YtjckojedafajeaaGreatDoorPt49
import Derived.Test.YtjckojedafajeaaGreatDoorPt46
import Derived.Test.YtjckojedafajeaaGreatDoorPt24
import Derived.Deep.MidRow
namespace Go.Proofs.YtjckojedafajeaaGreatDoor
open Go.RowKit
set_option maxRecDepth 100000
def nestJ : Nat → JV
  | 0 => .mk 4 false Dec.zero [] [] []
  | n + 1 => .mk 4 false Dec.zero [] [nestJ n] []
def txtJ (n : Nat) : JV := .mk 3 false Dec.zero (List.replicate n 97) [] []
theorem nest_tell : ∀ n, tellJ (nestJ n) = List.replicate (n + 1) 91 ++ List.replicate (n + 1) 93
  | 0 => by kernel_rfl
  | n + 1 => by
    have h := nest_tell n
    unfold nestJ tellJ
    simp only [tellKids, h]
    rw [List.replicate_succ (n := n + 1), List.replicate_succ' (n := n + 1) (a := (93 : UInt8))]
    simp
theorem nest_depth : ∀ n, depthJ (nestJ n) = n + 1
  | 0 => by unfold nestJ depthJ; simp [depthKids]
  | n + 1 => by
    have h := nest_depth n
    unfold nestJ depthJ
    simp [depthKids, h]
theorem nest_may : ∀ n, MayJ (nestJ n)
  | 0 => by unfold nestJ MayJ; exact .inr (.inr (.inr (.inr (.inl ⟨rfl, rfl, rfl, rfl, rfl, by unfold MayKids; trivial⟩))))
  | n + 1 => by
    unfold nestJ MayJ
    exact .inr (.inr (.inr (.inr (.inl ⟨rfl, rfl, rfl, rfl, rfl, by unfold MayKids; exact ⟨nest_may n, by unfold MayKids; trivial⟩⟩))))
theorem nest_small : ∀ n, SmallJ (nestJ n)
  | 0 => by unfold nestJ SmallJ; simp [SmallKids, Dec.zero, maxLen]
  | n + 1 => by unfold nestJ SmallJ; simp [SmallKids, Dec.zero, maxLen, nest_small n]
theorem nest_fine : ∀ n, FineJ (nestJ n)
  | 0 => by unfold nestJ FineJ; simp [FineKids, Dec.zero]
  | n + 1 => by unfold nestJ FineJ; simp [FineKids, Dec.zero, nest_fine n]
def deep64 : List UInt8 := List.replicate 64 91 ++ List.replicate 64 93
def deep65 : List UInt8 := List.replicate 65 91 ++ List.replicate 65 93
theorem deep64_tell : tellJ (nestJ 63) = deep64 := nest_tell 63
theorem deep64_valid : Lib.validD deep64 = true := by kernel_rfl
theorem deep65_valid : Lib.validD deep65 = true := by kernel_rfl
theorem deep64_parse : parseJ true deep64 = (nestJ 63, 0) := by
  refine okR _ _ ?_ (by decide) (by rw [deep64_tell]; decide)
  have h1 := reads_all _ (nestJ 63) (Nat.le_refl _) (nest_may _) [] fl0 [] (.inl rfl) (by rw [nest_depth]; simp)
  rw [List.append_nil, deep64_tell] at h1
  rw [h1]
  exact (runJ_behind0 _ _ _).trans (by kernel_rfl)
theorem run_open : ∀ (k : Nat) (K : List Fr) (f : Fl) (s : List UInt8), (∀ t ∈ K, t.obj = false) → ∃ K' f', runJ .value K f (List.replicate (k + 1) 91 ++ 93 :: s) = runJ .leave K' f' s ∧ K'.length = K.length + k + 1 ∧ (∀ t ∈ K', t.obj = false) ∧ (64 < K.length + k + 1 → f'.deep = true)
  | 0, K, f, s, hK => by
    refine ⟨enterK false K, enterF (enterK false K) f, ?_, by simp [enterK], fun t ht => ?_, fun h => ?_⟩
    · show runJ .value K f (91 :: 93 :: s) = _
      have b1 : blk (91 :: 93 :: s) = 91 :: 93 :: s := blk_cons (by decide) _
      have b2 : blk (93 :: s) = 93 :: s := blk_cons (by decide) _
      rw [runJ_value, b1, if_pos (by rw [tkB_cons]; decide), List.drop_one, List.tail_cons, b2, if_pos (by rw [tkB_cons]; decide), List.drop_one, List.tail_cons]
    · rcases List.mem_cons.1 ht with rfl | h
      · rfl
      · exact hK t h
    · unfold enterF isDeepK enterK maxDeep
      rw [if_pos (by simp; omega)]
  | k + 1, K, f, s, hK => by
    obtain ⟨K', f', h1, h2, h3, h4⟩ := run_open k (enterK false K) (enterF (enterK false K) f) s (fun t ht => by
      rcases List.mem_cons.1 ht with rfl | h
      · rfl
      · exact hK t h)
    have hl : (enterK false K).length = K.length + 1 := by simp [enterK]
    rw [hl] at h2 h4
    refine ⟨K', f', ?_, by omega, h3, fun h => h4 (by omega)⟩
    rw [← h1, List.replicate_succ (n := k + 1)]
    have b1 : blk ((91 :: List.replicate (k + 1) 91) ++ 93 :: s) = 91 :: (List.replicate (k + 1) 91 ++ 93 :: s) := blk_cons (by decide) _
    have b2 : blk (List.replicate (k + 1) 91 ++ 93 :: s) = List.replicate (k + 1) 91 ++ 93 :: s := by rw [List.replicate_succ]; exact blk_cons (by decide) _
    rw [runJ_value, b1, if_pos (by rw [tkB_cons]; decide), List.drop_one, List.tail_cons, b2, if_neg (by rw [List.replicate_succ, List.cons_append, tkB_cons]; decide)]
theorem run_close : ∀ (m : Nat) (K : List Fr) (f : Fl) (v : JV), K.length = m → (∀ t ∈ K, t.obj = false) → ∃ v', runJ (.behind v) K f (List.replicate m 93) = some (v', f)
  | 0, K, f, v, hl, _ => by
    obtain rfl := List.eq_nil_of_length_eq_zero hl
    exact ⟨v, (runJ_behind0 _ _ _).trans (by kernel_rfl)⟩
  | m + 1, [], _, _, hl, _ => by simp at hl
  | m + 1, t :: r, f, v, hl, hK => by
    have ht := hK t List.mem_cons_self
    have b1 : blk (List.replicate (m + 1) 93) = 93 :: List.replicate m 93 := by rw [List.replicate_succ]; exact blk_cons (by decide) _
    rw [runJ_behind, b1, if_neg (by rw [tkB_cons]; decide), if_pos (by rw [tkB_cons, ht]; decide), List.drop_one, List.tail_cons]
    obtain ⟨t', e⟩ : ∃ t', putK v (t :: r) = t' :: r := by
      unfold putK
      simp only
      split <;> exact ⟨_, rfl⟩
    rw [e, runJ_leave]
    exact run_close m r f _ (by simpa using hl) (fun t ht => hK t (List.mem_cons_of_mem _ ht))
theorem deep65_parse : parseJ true deep65 = (JV.null, 182) := by
  obtain ⟨K', f', h1, h2, h3, h4⟩ := run_open 64 [] fl0 (List.replicate 64 93) (by simp)
  have e : deep65 = List.replicate (64 + 1) 91 ++ 93 :: List.replicate 64 93 := by rw [← List.replicate_succ]; rfl
  have hd := h4 (by simp)
  cases K' with
  | nil => simp at h2
  | cons t r =>
    rw [runJ_leave] at h1
    obtain ⟨v', h5⟩ := run_close 64 r f' (if isDeepK (t :: r) = true then JV.null else t.val) (by simpa using h2) (fun x hx => h3 x (List.mem_cons_of_mem _ hx))
    rw [h5, ← e] at h1
    unfold parseJ readR
    rw [if_neg (by decide), if_neg (by simp), h1]
    have hj : judgeE f' = 182 := by unfold judgeE; rw [if_pos hd]
    simp only
    rw [if_pos (by rw [hj]; decide), hj]
theorem nest_check : checkJ (nestJ 63) = 0 := by kernel_rfl
theorem nest_check2 : checkJ (nestJ 64) = 182 := by kernel_rfl
theorem valid_97 (n : Nat) : Lib.validD (List.replicate n 97) = true := by
  rw [Lib.validD_ascii n _ (by intro b hb; rw [List.take_replicate] at hb; rw [List.eq_of_mem_replicate hb]; decide)]
  simp [Lib.validD_nil]
theorem esc_97 : ∀ n : Nat, (List.replicate n (97 : UInt8)).flatMap escL = List.replicate n 97
  | 0 => rfl
  | n + 1 => by rw [List.replicate_succ, List.flatMap_cons, esc_97 n]; rfl
theorem quote_97 (n : Nat) : quoteL (List.replicate n 97) = [34] ++ List.replicate n 97 ++ [34] := by unfold quoteL; rw [esc_97]
theorem quote_97_len (n : Nat) : (quoteL (List.replicate n 97)).length = n + 2 := by rw [quote_97]; simp
theorem txt_tell (n : Nat) : tellJ (txtJ n) = quoteL (List.replicate n 97) := rfl
theorem txt_small (n : Nat) (h : n ≤ maxLen) : SmallJ (txtJ n) := by unfold txtJ SmallJ; simp [SmallKids, Dec.zero, maxLen] at h ⊢; omega
theorem txt_fine (n : Nat) (h : n ≤ 4611686018427387904) : FineJ (txtJ n) := by unfold txtJ FineJ; simp [FineKids, Dec.zero, h]
theorem txt_depth (n : Nat) : depthJ (txtJ n) = 0 := by unfold txtJ depthJ; simp
theorem txt_ask (n : Nat) : askJ (txtJ n) = true := by unfold txtJ askJ; simp [valid_97, Dec.zero, zB]
theorem txt_check (n : Nat) : checkJ (txtJ n) = if 1048576 < n + 2 then 3 else 0 := by
  unfold checkJ
  rw [if_neg (by rw [txt_ask]; simp), if_neg (by rw [txt_depth]; omega), txt_tell, quote_97_len]
theorem long_parse : parseJ true (quoteL (List.replicate 1048574 97)) = (txtJ 1048574, 0) :=
  okR _ _ (quote_run _) (by rw [quote_97_len]; omega) (by show (tellJ (txtJ 1048574)).length ≤ _; rw [txt_tell, quote_97_len]; omega)
theorem long_valid : Lib.validD (quoteL (List.replicate 1048574 97)) = true := valid_quote (valid_97 _)
theorem over_parse (b : Bool) (l : List UInt8) (h : l.length = 1048577) : parseJ b l = (JV.null, 3) := by unfold parseJ; rw [if_pos (by omega)]
theorem quoteR_fit : quoteR (List.replicate 1048575 97) = (quoteL (List.replicate 1048575 97), 0) := by unfold quoteR; rw [if_neg (by rw [List.length_replicate]; omega), if_neg (by rw [valid_97]; simp)]
theorem quoteR_over : quoteR (List.replicate 1048577 97) = ([], 3) := by unfold quoteR; rw [if_pos (by rw [List.length_replicate]; omega)]
end Go.Proofs.YtjckojedafajeaaGreatDoor
/- Layer 8: Depth: how deep a value is. -/
namespace Go.Proofs.YtjckojedafajeaaGreatDoor
open Go.RowKit
set_option maxRecDepth 1000000 in
set_option maxHeartbeats 8000000 in
theorem jDepth_ok (F : Nat → Prop) (cs : Array Value) (v : JV) (w : World) (h : JIs w F v cs.toList) (h8 : cs.size = 8) (hs : SmallJ v) (hf : askJ v = true → FineJ v) (hd : depthJ v ≤ 1000000) (hT : PowTab w) (hU : Lib.Utf8Tabs 0 1 w) :
    Calls Tryz.prog 16 #[.agg cs] w fun e w' => e = .returned (.int .i64 (if checkJ v = 0 then (depthJ v : Int) else 0)) ∧ Below w.heap.size w w' := by
  obtain ⟨w1, hw1⟩ : ∃ w1, w1 = w.alloc (.cells cs 30) := ⟨_, rfl⟩
  have b1 : Below w.heap.size w w1 := by rw [hw1]; exact (Below.refl _ _).alloc (Nat.le_refl _) _
  have r1 : Row w1 w.heap.size 30 cs := by rw [hw1]; exact Row.new _ _ _
  have HRA : Hid (w1.rangeAt w.heap.size 0 cs.toList) := Lib.hid (fun j u hu => by rw [Nat.zero_add]; exact r1.cell (by simpa using hu))
  have HIN : Hid ((Tryz.prog.info? 30).map (·.size) = some cs.size) := Lib.hid (by rw [h8]; exact infoJ)
  have HC := Lib.hid (jmayBe_ok F cs v w1 (h.below b1) h8 hs hf hd (hT.below b1) (Utf8Tabs_below hU b1))
  have HB := Lib.hid b1
  have HD : Hid (∀ V, Below w1.heap.size w1 V → Calls Tryz.prog 40 #[.pointer (some ⟨w.heap.size, 0, none⟩)] V fun e w' => e = .returned (.int .i64 (depthJ v : Nat)) ∧ Below V.heap.size V w') := Lib.hid fun V hb => by
    have r2 := r1.call hb
    exact jdepth_ok _ v (Nat.le_refl _) hd F w.heap.size 0 V ⟨r2.lt, cs.toList, fun q u hu => by rw [Nat.zero_add]; exact r2.cell (by simpa using hu), (h.below b1).below hb⟩
  clear h hs hf hd hT hU b1 r1 h8
  generalize depthJ v = dj at *
  go_enter Tryz.func16, Tryz.ntmps16
  by_cases h0 : checkJ v = 0
  · have h1 : (checkJ v == 0) = true := by rw [h0]; rfl
    rw [h1] at HC
    rw [if_pos h0]
    clear h0 h1
    go_upto_region 1 with fail
    rw [← hw1]
    clear hw1
    go_wp2_with (first
      | (refine wpList_load_mid ?_ 30 (.tmp 1) ?_ w.heap.size 0 ?_ cs.toList _ HRA.out Tryz.underlying30 rfl (by rw [Array.length_toList]; exact HIN.out) ?_
         · with_reducible rfl
         · with_reducible rfl
         · rfl))
    refine HC.out.mono ?_
    rintro e w2 ⟨rfl, hb⟩
    have HB2 := Lib.hid hb
    clear hb
    go_wp2_with fail
    refine (HD.out w2 HB2.out).mono ?_
    rintro e w3 ⟨rfl, hb3⟩
    have HB3 := Lib.hid (HB.out.call (HB2.out.call hb3))
    clear hb3
    go_wp2
    go_ret
    exact ⟨rfl, HB3.out⟩
  · have h1 : (checkJ v == 0) = false := by rw [beq_eq_false_iff_ne]; exact h0
    rw [h1] at HC
    rw [if_neg h0]
    clear h0 h1
    go_upto_region 1 with fail
    rw [← hw1]
    clear hw1
    go_wp2_with (first
      | (refine wpList_load_mid ?_ 30 (.tmp 1) ?_ w.heap.size 0 ?_ cs.toList _ HRA.out Tryz.underlying30 rfl (by rw [Array.length_toList]; exact HIN.out) ?_
         · with_reducible rfl
         · with_reducible rfl
         · rfl))
    refine HC.out.mono ?_
    rintro e w2 ⟨rfl, hb⟩
    have HB2 := Lib.hid (HB.out.call hb)
    clear hb
    go_wp2
    go_ret
    exact ⟨rfl, HB2.out⟩
end Go.Proofs.YtjckojedafajeaaGreatDoor
/- Layer 8: rows of bytes that are filled. -/
namespace Go.Proofs.YtjckojedafajeaaGreatDoor
open Go.RowKit
theorem infoU8j : (Tryz.prog.info? 5).map (fun i => (i.zero, i.size, i.bytes)) = some (some (.int .u8 0), 1, 1) := by kernel_rfl
def zeroB (n : Nat) : List UInt8 := List.replicate n 0
section
variable {P : Program} {ops : Array Oper} {rest : List Oper} {o : Oper} {a : Act} {w : World} {Q : Exit → Act → World → Prop}
/-- 'make([]byte, n)'. -/
theorem wpList_make_u8j (hgd : o.guard = none) (t e : TypeId) (x : Operand) (ho : o.op = .makeSlice t x x) (n : Nat) (hx : a.eval x = .int .i64 n) (ht : P.underlying t = some (.slice e))
    (hi : (P.info? e).map (fun i => (i.zero, i.size, i.bytes)) = some (some (.int .u8 0), 1, 1)) (hn : n ≤ 17592186044416)
    (h : wpList P ops Q rest (a.put o.dst (.slice (some ⟨w.heap.size, 0, none⟩) n n)) (w.alloc (.cells (u8s (zeroB n)).toArray e))) : wpList P ops Q (o :: rest) a w := by
  obtain ⟨i, hi, hz, hs, hb⟩ := info_parts hi
  have hr := run_make (P := P) w t e i _ ht hi hz .i64 .i64 n n (by omega) (Int.le_refl _) (by rw [hb]; omega) (by omega)
  rw [hs, Nat.mul_one] at hr
  have e1 : madeCells (Value.int .u8 0).cells n = (u8s (zeroB n)).toArray := by
    apply Array.toList_inj.1
    have := toList_madeCells_one (.int .u8 0) n
    simp only [zeroB, u8s, List.map_replicate]
    exact this
  simp only [Int.toNat_natCast] at hr
  rw [e1] at hr
  refine wpList_plain hgd fun K hK => ?_
  unfold Oper.wp
  simp [execOp, ho, hx, hr, Result.andThen]
  exact hK _ _ h
end
theorem u8s_getj (l : List UInt8) {j : Nat} (h : j < l.length) : (u8s l).toArray[j]? = some (.int .u8 ((l.getD j 0).toNat : Int)) := by
  simp [u8s, List.getD, List.getElem?_eq_getElem h]
theorem u8s_setj (l : List UInt8) (p : Nat) (v : UInt8) : (u8s l).toArray.setIfInBounds p (.int .u8 (v.toNat : Int)) = (u8s (l.set p v)).toArray := by
  simp [u8s, List.map_set]
theorem holds_row {W : World} {g : Nat} {l : List UInt8} (h : Row W g 5 (u8s l).toArray) : Holds W (some ⟨g, 0, none⟩) l.length 1 (u8s l) :=
  ⟨by rw [u8s_length, Nat.mul_one], fun _ => ⟨g, 0, rfl, h.lt, fun i v hv => by rw [Nat.zero_add]; exact h.cell (by rw [List.getElem?_toArray]; exact hv)⟩⟩
theorem holds_mid {W : World} {g : Nat} {l : List UInt8} (h : Row W g 5 (u8s l).toArray) (p n : Nat) (m : List UInt8) (hm : m = (l.drop p).take n) (hl : m.length = n) : Holds W (some ⟨g, p, none⟩) n 1 (u8s m) :=
  ⟨by rw [u8s_length, Nat.mul_one, hl], fun _ => ⟨g, p, rfl, h.lt, fun i v hv => h.cell (by
    subst hm
    have hi : i < n := by
      have := (List.getElem?_eq_some_iff.1 hv).1
      rw [u8s_length, hl] at this; exact this
    rw [List.getElem?_toArray]
    unfold u8s at hv ⊢
    rw [List.getElem?_map, List.getElem?_take, if_pos hi, List.getElem?_drop] at hv
    rw [List.getElem?_map]; exact hv)⟩⟩
/-- How far the row of brackets is filled. -/
def DeepL (i : Nat) (l : List UInt8) : Prop := l.length = 130 ∧ ∀ j, j < 130 → l.getD j 0 = if j < i then 91 else if 130 - i ≤ j then 93 else 0
theorem getD_set (l : List UInt8) (p j : Nat) (v : UInt8) (h : p < l.length) : (l.set p v).getD j 0 = if p = j then v else l.getD j 0 := by
  rw [List.getD_eq_getElem?_getD, List.getElem?_set, List.getD_eq_getElem?_getD]
  by_cases e : p = j
  · rw [if_pos e, if_pos e, if_pos h]; rfl
  · rw [if_neg e, if_neg e]
theorem deep_zero : DeepL 0 (zeroB 130) := ⟨by simp [zeroB], fun j hj => by rw [if_neg (by omega), if_neg (by omega), List.getD_eq_getElem?_getD, zeroB, List.getElem?_replicate]; split <;> rfl⟩
theorem deep_step {i : Nat} {l : List UInt8} (h : DeepL i l) (hi : i < 65) : DeepL (i + 1) ((l.set i 91).set (129 - i) 93) := by
  obtain ⟨h1, h2⟩ := h
  refine ⟨by simp [h1], fun j hj => ?_⟩
  rw [getD_set _ _ _ _ (by rw [List.length_set]; omega), getD_set _ _ _ _ (by omega), h2 j hj]
  split
  · rw [if_neg (by omega), if_pos (by omega)]
  · split
    · rw [if_pos (by omega)]
    · split
      · rw [if_pos (by omega)]
      · split
        · rw [if_neg (by omega), if_pos (by omega)]
        · rw [if_neg (by omega), if_neg (by omega)]
theorem deep_end {l : List UInt8} (h : DeepL 65 l) : l = deep65 := by
  obtain ⟨h1, h2⟩ := h
  apply List.ext_getElem?
  intro j
  by_cases hj : j < 130
  · have h3 := h2 j hj
    rw [List.getD_eq_getElem?_getD, List.getElem?_eq_getElem (by omega)] at h3
    simp only [Option.getD_some] at h3
    rw [List.getElem?_eq_getElem (by omega), h3]
    unfold deep65
    rw [List.getElem?_append, List.length_replicate]
    by_cases h4 : j < 65
    · rw [if_pos h4, if_pos h4, List.getElem?_replicate, if_pos h4]
    · rw [if_neg h4, if_neg h4, if_pos (by omega), List.getElem?_replicate, if_pos (by omega)]
  · rw [List.getElem?_eq_none (by omega), List.getElem?_eq_none (by rw [show deep65.length = 130 by rfl]; omega)]
/-- How far the long row is filled. -/
def LongL (N i : Nat) (l : List UInt8) : Prop := l.length = N ∧ ∀ j, j < i → l.getD j 0 = 97
theorem long_step {N i : Nat} {l : List UInt8} (h : LongL N i l) (hi : i < N) : LongL N (i + 1) (l.set i 97) := by
  obtain ⟨h1, h2⟩ := h
  refine ⟨by simp [h1], fun j hj => ?_⟩
  rw [getD_set _ _ _ _ (by omega)]
  split
  · rfl
  · exact h2 j (by omega)
theorem long_end {N : Nat} {l : List UInt8} (h : LongL N N l) : l = List.replicate N 97 := by
  obtain ⟨h1, h2⟩ := h
  apply List.ext_getElem?
  intro j
  by_cases hj : j < N
  · have h3 := h2 j hj
    rw [List.getD_eq_getElem?_getD, List.getElem?_eq_getElem (by omega)] at h3
    simp only [Option.getD_some] at h3
    rw [List.getElem?_eq_getElem (by omega), h3, List.getElem?_replicate, if_pos hj]
  · rw [List.getElem?_eq_none (by omega), List.getElem?_eq_none (by rw [List.length_replicate]; omega)]
theorem long_cut (n : Nat) : ((((List.replicate (n + 3) (97 : UInt8)).set 0 34).set (n + 1) 34).drop 0).take (n + 2) = quoteL (List.replicate n 97) := by
  rw [List.drop_zero, quote_97]
  apply List.ext_getElem?
  intro j
  rw [List.getElem?_take]
  split
  · rename_i hj
    rw [List.getElem?_set, List.getElem?_set, List.getElem?_replicate, List.length_set, List.length_replicate]
    rw [List.getElem?_append, List.getElem?_append]
    simp only [List.length_append, List.length_replicate, List.length_cons, List.length_nil]
    by_cases e0 : j = 0
    · subst e0
      rw [if_neg (by omega), if_pos rfl, if_pos (by omega), if_pos (by omega), if_pos (by omega)]; rfl
    · by_cases e1 : j = n + 1
      · subst e1
        rw [if_pos rfl, if_pos (by omega), if_neg (by omega), show n + 1 - (0 + 1 + n) = 0 by omega]; rfl
      · rw [if_neg (by omega), if_neg (by omega), if_pos (by omega), if_pos (by omega), if_neg (by omega), List.getElem?_replicate, if_pos (by omega)]
  · rw [List.getElem?_eq_none (by simp only [List.length_append, List.length_replicate, List.length_cons, List.length_nil]; omega)]
end Go.Proofs.YtjckojedafajeaaGreatDoor
/- Layer 8: variables of the law of bounds. -/
namespace Go.Proofs.YtjckojedafajeaaGreatDoor
open Go.RowKit
set_option maxRecDepth 100000
theorem run_buildL (A : Option Addr) (n c : Nat) (w : World) : (Instr.build 30 #[(0, .int .i64 4), (4, .slice A n c)]).run Tryz.prog w = .ok (.agg (jvC 4 false Dec.zero [] (.slice A n c) (.slice none 0 0))) w := by
  kernel_rfl
theorem run_buildT (t : List UInt8) (w : World) : (Instr.build 30 #[(0, .int .i64 3), (3, .string (bs t))]).run Tryz.prog w = .ok (.agg (jvC 3 false Dec.zero t (.slice none 0 0) (.slice none 0 0))) w := by
  kernel_rfl
/-- A variable that holds a value. -/
structure VarAt (W : World) (g : Nat) (v : JV) (cs : Array Value) : Prop where
  row : Row W g 30 cs
  is : JIs W (fun _ => True) v cs.toList
  size : cs.size = 8
theorem VarAt.call {W W' : World} {g : Nat} {v : JV} {cs : Array Value} (h : VarAt W g v cs) (hb : Below W.heap.size W W') : VarAt W' g v cs := ⟨h.row.call hb, h.is.below hb, h.size⟩
theorem VarAt.range {W : World} {g : Nat} {v : JV} {cs : Array Value} (h : VarAt W g v cs) : W.rangeAt g 0 cs.toList := fun q u hu => by rw [Nat.zero_add]; exact h.row.cell (by simpa using hu)
theorem VarAt.laid {V : World} {F : Nat → Prop} {v : JV} {cs : Array Value} (hj : JIs V F v cs.toList) : VarAt (varW V cs) V.heap.size v cs :=
  have h8 := size_of_jis hj
  ⟨(varW_ok V cs h8).2.1, (JIs.mono (fun _ _ _ => trivial) _ _ hj).below (varW_ok V cs h8).1, h8⟩
theorem over_is {W : World} {g : Nat} {v : JV} {cs : Array Value} (h : VarAt W g v cs) : JIs W (fun _ => True) (.mk 4 false Dec.zero [] [v] []) (jvC 4 false Dec.zero [] (.slice (some ⟨g, 0, none⟩) 1 1) (.slice none 0 0)).toList := by
  unfold JIs
  refine ⟨some ⟨g, 0, none⟩, 1, none, 0, rfl, by simp, by unfold maxLen; omega, by simp, by unfold maxLen; omega, fun i hi => by simp at hi, ?_⟩
  unfold KidsAt
  refine ⟨⟨g, 0, cs.toList, rfl, trivial, h.row.lt, fun j u hu => ?_, h.is⟩, by unfold KidsAt; trivial⟩
  rw [Nat.zero_mul, Nat.zero_add, Nat.zero_add]
  exact h.row.cell (by simpa using hu)
theorem one_is (W : World) (t : List UInt8) : JIs W (fun _ => True) (.mk 3 false Dec.zero t [] []) (jvC 3 false Dec.zero t (.slice none 0 0) (.slice none 0 0)).toList := by
  unfold JIs
  exact ⟨none, 0, none, 0, rfl, by simp, by unfold maxLen; omega, by simp, by unfold maxLen; omega, fun i hi => by simp at hi, by unfold KidsAt; trivial⟩
theorem form_list {W : World} {F : Nat → Prop} {x : JV} {cs : Array Value} (h : JIs W F (.mk 4 false Dec.zero [] [x] []) cs.toList) : ∃ A c A' c', cs = jvC 4 false Dec.zero [] (.slice A 1 c) (.slice A' 0 c') := by
  unfold JIs at h
  obtain ⟨A, c, A', c', e, _⟩ := h
  exact ⟨A, c, A', c', Array.toList_inj.1 e⟩
theorem form_text {W : World} {F : Nat → Prop} {t : List UInt8} {cs : Array Value} (h : JIs W F (.mk 3 false Dec.zero t [] []) cs.toList) : ∃ A c A' c', cs = jvC 3 false Dec.zero t (.slice A 0 c) (.slice A' 0 c') := by
  unfold JIs at h
  obtain ⟨A, c, A', c', e, _⟩ := h
  exact ⟨A, c, A', c', Array.toList_inj.1 e⟩
end Go.Proofs.YtjckojedafajeaaGreatDoor
/- Of no program: a region whose operations come in an order that is drawn, where only one may come up. -/
namespace Go.Proofs.YtjckojedafajeaaGreatDoor
open Go Go.RowKit
section
variable {P : Program} {md : Region.Mode} {ops : Array Oper} {Q : Exit → Act → World → Prop}
/-- Just one may come up. -/
theorem wpAny_one {i : Nat} {o : Oper} {fuel : Nat} {listed : Array Bool} {a : Act} {w : World} (hr : Region.ready md ops listed = [i]) (ho : ops[i]? = some o) (hg : Region.wanted o (yielded ops a.tmps) = true)
    (h : ∀ K : Act → World → Prop, (∀ a' w', wpAny P md ops Q fuel (listed.setIfInBounds i true) a' w' → K a' w') → Oper.wp P o a w K Q) : wpAny P md ops Q (fuel + 1) listed a w :=
  ⟨fun h0 => (by rw [hr] at h0; cases h0), fun j hj => by
    rw [hr] at hj
    obtain rfl : j = i := by simpa using hj
    refine wpOp_step ho fun K hK => ?_
    rw [if_pos hg]
    exact h K fun a' w' h1 => hK a' w' h1⟩
/-- Till z has come up, S holds; just one may come up. -/
theorem wpTill_oneG {S : World → Prop} {z i : Nat} {o : Oper} {fuel : Nat} {listed : Array Bool} {a : Act} {w : World} (hr : Region.ready md ops listed = [i]) (ho : ops[i]? = some o) (hg : Region.wanted o (yielded ops a.tmps) = true)
    (h : ∀ K : Act → World → Prop, (∀ a' w', ((listed.setIfInBounds i true).getD z true = false → S w') → wpTill P md ops Q z S fuel (listed.setIfInBounds i true) a' w' → K a' w') → Oper.wp P o a w K Q) : wpTill P md ops Q z S (fuel + 1) listed a w :=
  ⟨fun h0 => (by rw [hr] at h0; cases h0), fun j hj => by
    rw [hr] at hj
    obtain rfl : j = i := by simpa using hj
    refine wpOp_step ho fun K hK => ?_
    rw [if_pos hg]
    exact h K fun a' w' h1 h2 => hK a' w' ⟨h1, h2⟩⟩
/-- From place k on only one may come up, each time. -/
def lexB (md : Region.Mode) (ops : Array Oper) : Nat → Array Bool → Nat → Bool
  | 0, listed, _ => Region.ready md ops listed == []
  | fuel + 1, listed, k => Region.ready md ops listed == [k] && lexB md ops fuel (listed.setIfInBounds k true) (k + 1)
theorem wpAny_lex : ∀ (rest : List Oper) (k : Nat) (listed : Array Bool) (a : Act) (w : World), (∀ j, rest[j]? = ops[k + j]?) → lexB md ops rest.length listed k = true → wpList P ops Q rest a w → wpAny P md ops Q rest.length listed a w
  | [], k, listed, a, w, _, hl, h => by
    unfold lexB at hl
    exact ⟨by simpa using hl, h⟩
  | o :: rest, k, listed, a, w, hs, hl, h => by
    simp only [List.length_cons] at hl ⊢
    unfold lexB at hl
    rw [Bool.and_eq_true] at hl
    have hr : Region.ready md ops listed = [k] := by simpa using hl.1
    have ho : ops[k]? = some o := (hs 0).symm
    have hs' : ∀ j, rest[j]? = ops[k + 1 + j]? := fun j => by have := hs (j + 1); rw [List.getElem?_cons_succ] at this; rw [this]; congr 1; omega
    refine ⟨fun h0 => (by rw [hr] at h0; cases h0), fun j hj => ?_⟩
    rw [hr] at hj
    obtain rfl : j = k := by simpa using hj
    unfold wpOp
    rw [ho]
    unfold wpList at h
    have hm : ∀ a' w', wpList P ops Q rest a' w' → wpAny P md ops Q rest.length (listed.setIfInBounds j true) a' w' := fun a' w' h9 => wpAny_lex rest (j + 1) _ a' w' hs' hl.2 h9
    split at h
    · rename_i hg
      show if _ then _ else _
      rw [if_pos hg]
      exact h.imp (fun h9 => Oper.wp_mono hm h9) id
    · rename_i hg
      show if _ then _ else _
      rw [if_neg hg]
      exact hm _ _ h
theorem Oper.wp_then {o : Oper} {a : Act} {w : World} {K next : Act → World → Prop} (hh : o.wp P a w next (Exit.then K Q)) : o.wp P a w next Q := by
  unfold Oper.wp at *
  generalize (execOp a.eval o).run P w = r at *
  cases r with
  | ok n w' =>
    cases n <;> simp only [Oper.upon] at hh ⊢ <;>
      first
        | exact hh
        | exact Calls.mono hh (fun e w'' he => by cases e <;> exact he)
  | halt x w' => cases x <;> simp only [Oper.upon] at hh ⊢ <;> exact hh
def segB (md : Region.Mode) (ops : Array Oper) : Nat → Array Bool → Nat → Bool
  | 0, _, _ => true
  | n + 1, listed, k => Region.ready md ops listed == [k] && segB md ops n (listed.setIfInBounds k true) (k + 1)
def setsB : Nat → Array Bool → Nat → Array Bool
  | 0, listed, _ => listed
  | n + 1, listed, k => setsB n (listed.setIfInBounds k true) (k + 1)
theorem wpAny_seg' (fuel : Nat) : ∀ (l : List Oper) (k : Nat) (listed : Array Bool) (a : Act) (w : World), (∀ j, j < l.length → l[j]? = ops[k + j]?) → segB md ops l.length listed k = true → wpList P ops (Exit.then (wpAny P md ops Q fuel (setsB l.length listed k)) Q) l a w → wpAny P md ops Q (fuel + l.length) listed a w
  | [], k, listed, a, w, _, _, h => h
  | o :: rest, k, listed, a, w, hs, hl, h => by
    simp only [List.length_cons] at hl ⊢
    unfold segB at hl
    rw [Bool.and_eq_true] at hl
    have hr : Region.ready md ops listed = [k] := by simpa using hl.1
    have ho : ops[k]? = some o := (hs 0 (by simp)).symm
    have hs' : ∀ j, j < rest.length → rest[j]? = ops[k + 1 + j]? := fun j hj => by have := hs (j + 1) (by simpa using hj); rw [List.getElem?_cons_succ] at this; rw [this]; congr 1; omega
    refine ⟨fun h0 => (by rw [hr] at h0; cases h0), fun j hj => ?_⟩
    rw [hr] at hj
    obtain rfl : j = k := by simpa using hj
    unfold wpOp
    rw [ho]
    unfold wpList at h
    have hm : ∀ a' w', wpList P ops (Exit.then (wpAny P md ops Q fuel (setsB (o :: rest).length listed j)) Q) rest a' w' → wpAny P md ops Q (fuel + rest.length) (listed.setIfInBounds j true) a' w' := fun a' w' h9 => wpAny_seg' fuel rest (j + 1) _ a' w' hs' hl.2 h9
    split at h
    · rename_i hg
      show if _ then _ else _
      rw [if_pos hg]
      exact h.imp (fun h9 => Oper.wp_then (Oper.wp_mono hm h9)) id
    · rename_i hg
      show if _ then _ else _
      rw [if_neg hg]
      exact hm _ _ h
theorem wpAny_seg (n fuel N : Nat) (hN : N = fuel + n) {k : Nat} {listed : Array Bool} {a : Act} {w : World} (hn : ((ops.toList.drop k).take n).length = n) (hs : segB md ops n listed k = true)
    (h : wpList P ops (Exit.then (wpAny P md ops Q fuel (setsB n listed k)) Q) ((ops.toList.drop k).take n) a w) : wpAny P md ops Q N listed a w := by
  subst hN
  have h9 := wpAny_seg' (P := P) (md := md) (Q := Q) fuel ((ops.toList.drop k).take n) k listed a w (fun j hj => by
    rw [hn] at hj
    rw [List.getElem?_take, if_pos hj, List.getElem?_drop, Array.getElem?_toList]) (by rw [hn]; exact hs) (by rw [hn]; exact h)
  rw [hn] at h9
  exact h9
theorem wpAny_end (N : Nat) {k : Nat} {listed : Array Bool} {a : Act} {w : World} (hn : (ops.toList.drop k).length = N) (hs : lexB md ops N listed k = true)
    (h : wpList P ops Q (ops.toList.drop k) a w) : wpAny P md ops Q N listed a w := by
  have h9 := wpAny_lex (P := P) (md := md) (Q := Q) (ops.toList.drop k) k listed a w (fun j => by rw [List.getElem?_drop, Array.getElem?_toList]) (by rw [hn]; exact hs) h
  rw [hn] at h9
  exact h9
/-- Each operation from place k on waits for the one ahead of it, and for none behind it. -/
def chainB (md : Region.Mode) (ops : Array Oper) (k : Nat) : Bool :=
  (List.range ops.size).all fun i => match ops[i]? with
    | none => true
    | some o => (decide (i ≤ k) || o.after.any fun e => Region.binds md e && e.on + 1 == i) && (decide (i < k) || o.after.all fun e => !Region.binds md e || decide (e.on < i))
/-- Just the first k have come up. -/
def firstB (ops : Array Oper) (listed : Array Bool) (k : Nat) : Bool :=
  listed.size == ops.size && (List.range ops.size).all fun i => listed.getD i false == decide (i < k)
theorem wpAny_chain' {k0 : Nat} (hc : chainB md ops k0 = true) : ∀ (rest : List Oper) (k : Nat) (listed : Array Bool) (a : Act) (w : World), k0 ≤ k → (∀ j, rest[j]? = ops[k + j]?) → k + rest.length = ops.size → listed.size = ops.size → (∀ i, i < ops.size → listed.getD i false = decide (i < k)) → wpList P ops Q rest a w → wpAny P md ops Q rest.length listed a w := by
  have hch : ∀ i o, ops[i]? = some o → (k0 < i → ∃ e ∈ o.after, Region.binds md e = true ∧ e.on + 1 = i) ∧ (k0 ≤ i → ∀ e ∈ o.after, Region.binds md e = true → e.on < i) := by
    intro i o ho
    have hi : i < ops.size := (Array.getElem?_eq_some_iff.1 ho).1
    have h1 := List.all_eq_true.1 hc i (List.mem_range.2 hi)
    rw [ho] at h1
    simp only [Bool.and_eq_true, Bool.or_eq_true, decide_eq_true_eq] at h1
    refine ⟨fun hk => ?_, fun hk e he hb => ?_⟩
    · rcases h1.1 with h2 | h2
      · omega
      · obtain ⟨e, he, hb⟩ := Array.any_eq_true'.1 h2
        rw [Bool.and_eq_true, beq_iff_eq] at hb
        exact ⟨e, he, hb⟩
    · rcases h1.2 with h2 | h2
      · omega
      · have := Array.all_eq_true'.1 h2 e he
        rw [hb] at this
        simpa using this
  have hgt : ∀ (l : Array Bool) (i : Nat), i < l.size → l.getD i true = l.getD i false := fun l i hi => by simp [Array.getD, hi]
  intro rest
  induction rest with
  | nil =>
    intro k listed a w hk0 _ hsz hls hin h
    refine ⟨?_, h⟩
    rw [List.eq_nil_iff_forall_not_mem]
    intro i hi
    obtain ⟨h1, o, ho, _⟩ := mem_ready.1 hi
    have hlt : i < ops.size := (Array.getElem?_eq_some_iff.1 ho).1
    rw [hgt _ _ (by omega), hin i hlt] at h1
    simp at hsz h1
    omega
  | cons o rest ih =>
    intro k listed a w hk0 hs hsz hls hin h
    simp only [List.length_cons] at hsz ⊢
    have ho : ops[k]? = some o := (hs 0).symm
    have hklt : k < ops.size := by omega
    have hk : k ∈ Region.ready md ops listed := mem_ready.2 ⟨by rw [hgt _ _ (by omega), hin k hklt]; simp, o, ho, fun e he hb => by
      have h2 := (hch k o ho).2 hk0 e he hb
      rw [hin _ (by omega)]; simpa using h2⟩
    have hs' : ∀ j, rest[j]? = ops[k + 1 + j]? := fun j => by have := hs (j + 1); rw [List.getElem?_cons_succ] at this; rw [this]; congr 1; omega
    refine ⟨fun h0 => (by rw [h0] at hk; cases hk), fun i hi => ?_⟩
    obtain ⟨h1, oi, hoi, hall⟩ := mem_ready.1 hi
    have hilt : i < ops.size := (Array.getElem?_eq_some_iff.1 hoi).1
    rw [hgt _ _ (by omega), hin i hilt] at h1
    have hge : k ≤ i := by simpa using h1
    obtain rfl : i = k := by
      rcases Nat.lt_or_eq_of_le hge with h2 | h2
      · obtain ⟨e, he, hb, hon⟩ := (hch i oi hoi).1 (by omega)
        have h3 := hall e he hb
        rw [hin _ (by omega)] at h3
        simp at h3
        omega
      · exact h2.symm
    unfold wpOp
    rw [ho]
    unfold wpList at h
    have hm : ∀ a' w', wpList P ops Q rest a' w' → wpAny P md ops Q rest.length (listed.setIfInBounds i true) a' w' := fun a' w' h9 => ih (i + 1) _ a' w' (by omega) hs' (by omega) (by rw [Array.size_setIfInBounds, hls]) (fun j hj => by
      by_cases e : j = i
      · subst e
        simp [Array.getD, hls, hj]
      · rw [getD_set_ne false (Ne.symm e), hin j hj]
        by_cases h5 : j < i
        · simp [h5, (by omega : j < i + 1)]
        · simp [h5]; omega) h9
    split at h
    · rename_i hg
      show if _ then _ else _
      rw [if_pos hg]
      exact h.imp (fun h9 => Oper.wp_mono hm h9) id
    · rename_i hg
      show if _ then _ else _
      rw [if_neg hg]
      exact hm _ _ h
theorem wpAny_chain (N : Nat) {k : Nat} {listed : Array Bool} {a : Act} {w : World} (hn : ops.size = k + N) (hc : chainB md ops k = true) (hf : firstB ops listed k = true)
    (h : wpList P ops Q (ops.toList.drop k) a w) : wpAny P md ops Q N listed a w := by
  unfold firstB at hf
  rw [Bool.and_eq_true] at hf
  have hl : (ops.toList.drop k).length = N := by rw [List.length_drop, Array.length_toList, hn]; omega
  have h9 := wpAny_chain' (P := P) (md := md) (Q := Q) hc (ops.toList.drop k) k listed a w (Nat.le_refl _) (fun j => by rw [List.getElem?_drop, Array.getElem?_toList]) (by rw [hl, hn]) (by simpa using hf.1) (fun i hi => by
    have := List.all_eq_true.1 hf.2 i (List.mem_range.2 hi)
    simpa using this) h
  rw [hl] at h9
  exact h9
theorem wpList_guarded {o : Oper} {rest : List Oper} {a : Act} {w : World} (hw : Region.wanted o (yielded ops a.tmps) = true) (h : ∀ K : Act → World → Prop, (∀ a' w', wpList P ops Q rest a' w' → K a' w') → Oper.wp P o a w K Q) : wpList P ops Q (o :: rest) a w := by
  unfold wpList
  rw [if_pos hw]
  exact .inl (h _ fun _ _ h => h)
/-- A load of a variable, guarded. -/
theorem wpList_load_midG {rest : List Oper} {op : Oper} {a : Act} {w : World} (hw : Region.wanted op (yielded ops a.tmps) = true) (ty : TypeId) (x : Operand) (ho : op.op = .load ty x)
    (b o : Nat) (hx : a.eval x = .pointer (some ⟨b, o, none⟩)) (cs : List Value) (d : TypeDesc) (hc : w.rangeAt b o cs)
    (hu : P.underlying ty = some d) (hd : d.isRow = true) (hi : (P.info? ty).map (·.size) = some cs.length)
    (h : wpList P ops Q rest (a.put op.dst (.agg cs.toArray)) w) : wpList P ops Q (op :: rest) a w :=
  wpList_guarded hw fun _ hK => wp_load_mid ty x ho b o hx cs d hc hu hd hi (hK _ _ h)
end
end Go.Proofs.YtjckojedafajeaaGreatDoor
