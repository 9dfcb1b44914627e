import Derived.Test.YtmhbkjjkalnggaaGreatDoorPt02
namespace Go.Proofs.YtmhbkjjkalnggaaGreatDoor
open Go.RowKit Go.Shelf
set_option maxRecDepth 100000
set_option maxHeartbeats 2000000
section
variable {P : Program}
theorem run_append_room_text (w : World) (t u ty e : TypeId) (i : TypeInfo) (ht : P.underlying t = some (.slice e)) (hu : P.underlying u = some .string) (hi : P.info? e = some i) (hs1 : i.size = 1)
   (g off sLen sCap : Nat) (cur : Array Value) (hg : w.heap[g]? = some (.cells cur e (0, 0))) (s : ByteArray)
   (hroom : sLen + s.size <= sCap) (hfit : off + sLen + s.size <= cur.size) :
   (Builtin.append_ #[t, u] ty #[.slice (some ⟨g, off, none⟩) sLen sCap, .string s]).run P w =
     .ok (.slice (some ⟨g, off, none⟩) (sLen + s.size) sCap) (w.setRow g (cur.toList.take (off + sLen) ++ Lib.strCells s ++ cur.toList.drop (off + sLen + s.size)).toArray) := by
 have hf := Lib.run_firstCells_string (P := P) w 1 s
 have hst := run_storeCells_at P g (off + sLen) e (Lib.strCells s) 0 cur w hg (by simpa [Lib.strCells_length] using hfit) (Lib.strCells_oneCell s)
 simp only [Nat.add_zero, Lib.strCells_length] at hst
 simp [Builtin.append_, run_underlying ht, run_underlying hu, sizeOf, typeInfo, hi, hs1, Builtin.lenOf, hroom, hf, Addr.add_lit, hst]
theorem run_append_text (w : World) (F : Nat -> Prop) (t u ty e : TypeId) (i : TypeInfo) (ht : P.underlying t = some (.slice e)) (hu : P.underlying u = some .string) (hi : P.info? e = some i) (hz : i.zero = some (.int .u8 0))
   (hsize : i.size = 1) (hby : i.bytes = 1) (v : Value) (n : Nat) (xs : List Value) (hown : Lies w F e 1 v n xs) (s : ByteArray) (hbytes : n + s.size <= 140737488355328) :
   ∃ v' w', (Builtin.append_ #[t, u] ty #[v, .string s]).run P w = .ok v' w' /\ Lies w' (grow F w) e 1 v' (n + s.size) (xs ++ Lib.strCells s) /\ Kept (fun g => F g /\ Spare v g /\ ∃ cur, w.heap[g]? = some (.cells cur e (0, 0))) w w' := by
 have hxl : xs.length = n := by simpa using hown.1
 have hlen : (xs ++ Lib.strCells s).length = (n + s.size) * 1 := by rw [List.length_append, hxl, Lib.strCells_length, Nat.mul_one]
 have grown : ∀ (old : Nat), old < n + s.size ->
     Lies (w.drew.alloc (.cells (xs.toArray ++ (Lib.strCells s).toArray ++ Builtin.zeroCells (Value.int .u8 0).cells (grownCap w (n + s.size) old e - (n + s.size))) e)) (grow F w) e 1 (.slice (some ⟨w.heap.size, 0, none⟩) (n + s.size) (grownCap w (n + s.size) old e)) (n + s.size) (xs ++ Lib.strCells s) /\
     Kept (fun g => F g /\ Spare v g /\ ∃ cur, w.heap[g]? = some (.cells cur e (0, 0))) w (w.drew.alloc (.cells (xs.toArray ++ (Lib.strCells s).toArray ++ Builtin.zeroCells (Value.int .u8 0).cells (grownCap w (n + s.size) old e - (n + s.size))) e)) := by
   intro old ho
   have hge := grownCap_ge w (n + s.size) old e
   have hcm : grownCap w (n + s.size) old e <= maxLen := grownCap_le_maxLen w (n + s.size) old e (by unfold maxLen; omega)
   refine ⟨⟨hlen, .inr ⟨w.heap.size, 0, _, _, rfl, grow.fresh (Nat.le_refl _), heap_alloc_new w.drew _, hge, hcm, ?_, ?_⟩⟩, (Kept.refl _ _).drew.alloc _⟩
   · have hz1 : (Value.int IntKind.u8 0).cells.size = 1 := rfl
     simp only [Array.size_append, List.size_toArray, size_zeroCells, hz1, hxl, Lib.strCells_length]
     omega
   · simp only [Array.toList_append, List.append_assoc, List.drop_zero]
     rw [<- List.append_assoc, <- hlen]
     exact List.take_left
 rcases hown.2 with ⟨B, rfl, rfl⟩ | ⟨g, off, cap, cur, rfl, hF, hg, hnc, hcm, hfit, htake⟩
 · obtain rfl : xs = [] := List.eq_nil_of_length_eq_zero hxl
   by_cases hm : s.size = 0
   · have hn : Lib.strCells s = [] := List.eq_nil_of_length_eq_zero (by rw [Lib.strCells_length]; exact hm)
     have hf := Lib.run_firstCells_string (P := P) w 1 s
     rw [hm, hn] at hf
     refine ⟨.slice B 0 0, w, ?_, by rw [hm, hn]; exact Lies.empty _ _ _ _ _, Kept.refl _ _⟩
     rcases B with _ | b <;> simp [Builtin.append_, run_underlying ht, run_underlying hu, sizeOf, typeInfo, hi, hsize, Builtin.lenOf, hm, hf, storeCells]
   · rcases B with _ | b
     · have hr := run_append_nil_string (P := P) w t u ty e i (.int .u8 0) ht hu hi hz s (by omega) (by omega) (by rw [hby]; omega)
       have hgr := grown 0 (by omega)
       simp only [Nat.zero_add, List.nil_append, Array.empty_append] at hgr ⊢
       have e1 : (s.data.map fun b => Value.int .u8 b.toNat) = (Lib.strCells s).toArray := by
         apply Array.ext'
         simp [Lib.strCells]
       rw [e1] at hr
       exact ⟨_, _, hr, hgr.1, hgr.2⟩
     · have hr := Lib.run_append_grow_string (P := P) w t u ty e i (.int .u8 0) ht hu hi hz b 0 0 [] (by simp) (by simp) s (by omega) (by omega) (by rw [hby]; exact growslice_fits (by omega) (by omega))
       exact ⟨_, _, hr, (grown 0 (by omega)).1, (grown 0 (by omega)).2⟩
 · by_cases hroom : n + s.size <= cap
   · have hmul : n * 1 + s.size <= cap * 1 := by omega
     have hr := run_append_room_text (P := P) w t u ty e i ht hu hi hsize g off n cap cur hg s hroom (by omega)
     refine ⟨_, _, hr, ⟨hlen, .inr ⟨g, off, cap, _, rfl, grow.old hF, setRow_heap w g cur _ e _ hg, hroom, hcm, ?_, ?_⟩⟩, ?_⟩
     · simp only [List.size_toArray, List.length_append, List.length_take, List.length_drop, Array.length_toList, Lib.strCells_length]
       omega
     · have e1 : (cur.toList.take (off + n)) = cur.toList.take off ++ xs := by
         have := htake
         rw [Nat.mul_one] at this
         rw [<- this, List.take_add]
       simp only [List.append_assoc]
       rw [e1, List.append_assoc, List.drop_append_of_le_length (by simp; omega), List.drop_of_length_le (by simp; omega), List.nil_append, <- List.append_assoc, <- hlen]
       exact List.take_left
     · rcases Nat.eq_zero_or_pos cap with h0 | h0
       · have hs0 : s.size = 0 := by omega
         have hn : Lib.strCells s = [] := List.eq_nil_of_length_eq_zero (by rw [Lib.strCells_length]; exact hs0)
         have e2 : (cur.toList.take (off + n) ++ Lib.strCells s ++ cur.toList.drop (off + n + s.size)).toArray = cur := by
           rw [hn, hs0, List.append_nil, Nat.add_zero, List.take_append_drop]
         rw [e2]
         have e3 : w.setRow g cur = w := setRow_self w g cur e (0, 0) hg
         rw [e3]
         exact Kept.refl _ _
       · exact (Kept.refl _ _).setRow (grow.old ⟨hF, ⟨off, n, cap, rfl, h0⟩, cur, hg⟩) _
   · have holds : ∀ j u, xs[j]? = some u -> w.cell? ((⟨g, off, none⟩ : Addr).add j) = some u := by
       intro j u hu
       rcases Nat.eq_zero_or_pos n with h0 | h0
       · subst h0
         obtain rfl : xs = [] := List.eq_nil_of_length_eq_zero hxl
         simp at hu
       · obtain ⟨g', off', cap', hv, _, _, _, _, hr⟩ := hown.cells h0
         injection hv with hv1 hv2 hv3
         injection hv1 with hv1
         injection hv1 with hv4 hv5
         subst hv4; subst hv5
         rw [Addr.add_lit]
         exact hr j u hu
     have hr := Lib.run_append_grow_string (P := P) w t u ty e i (.int .u8 0) ht hu hi hz ⟨g, off, none⟩ n cap xs (by rw [hsize]; omega) holds s (by omega) (by omega) (by rw [hby]; exact growslice_fits (by omega) (by omega))
     exact ⟨_, _, hr, (grown cap (by omega)).1, (grown cap (by omega)).2⟩
end
theorem strCells_bs (l : List UInt8) : Lib.strCells (bs l) = l.map fun b => Value.int .u8 b.toNat := rfl
section
variable {P : Program} {ops : Array Oper} {rest : List Oper} {o : Oper} {a : Act} {w : World} {Q : Exit -> Act -> World -> Prop}
theorem wpList_append_text (hgd : o.guard = none) (F : Nat -> Prop) (sl x : Operand) (t u : TypeId) (ho : o.op = .call { callee := .builtin .append, args := #[sl, x], argTypes := #[t, u] })
   (e : TypeId) (ht : P.underlying t = some (.slice e)) (hu : P.underlying u = some .string) (hi : (P.info? e).map (fun i => (i.zero, i.size, i.bytes)) = some (some (.int .u8 0), 1, 1))
   (v : Value) (n : Nat) (xs : List Value) (hs : a.eval sl = v) (hown : Lies w F e 1 v n xs) (l : List UInt8) (hx : a.eval x = .string (bs l)) (hbytes : n + l.length <= 140737488355328)
   (h : ∀ v' w', Lies w' (grow F w) e 1 v' (n + l.length) (xs ++ l.map fun b => Value.int .u8 b.toNat) -> Kept (fun g => F g /\ Spare v g /\ ∃ cur, w.heap[g]? = some (.cells cur e (0, 0))) w w' -> wpList P ops Q rest (a.put o.dst v') w') : wpList P ops Q (o :: rest) a w := by
 obtain ⟨i, hi, hz, hs1, hb⟩ := info_parts hi
 refine wpList_plain hgd fun K hK => ?_
 obtain ⟨v', w', hr, h2, h3⟩ := run_append_text (P := P) w F t u o.type e i ht hu hi hz hs1 hb v n xs hown (bs l) (by rw [bs_size]; exact hbytes)
 rw [bs_size, strCells_bs] at h2
 unfold Oper.wp execOp
 simp only [ho, resolve, invoke, builtin, Sem.run_bind, Sem.run_pure, Result.andThen_ok, List.map_toArray, List.map_cons, List.map_nil, hs, hx, hr]
 exact hK _ _ (h v' w' h2 h3)
variable {F₁ : Fence} {n₁ : Nat}
theorem wpListIn_append_text (hgd : o.guard = none) (F : Nat -> Prop) (sl x : Operand) (t u : TypeId) (ho : o.op = .call { callee := .builtin .append, args := #[sl, x], argTypes := #[t, u] })
   (e : TypeId) (ht : P.underlying t = some (.slice e)) (hu : P.underlying u = some .string) (hi : (P.info? e).map (fun i => (i.zero, i.size, i.bytes)) = some (some (.int .u8 0), 1, 1))
   (v : Value) (n : Nat) (xs : List Value) (hs : a.eval sl = v) (hown : Lies w F e 1 v n xs) (l : List UInt8) (hx : a.eval x = .string (bs l)) (hbytes : n + l.length <= 140737488355328)
   (h : ∀ v' w', Lies w' (grow F w) e 1 v' (n + l.length) (xs ++ l.map fun b => Value.int .u8 b.toNat) -> Kept (fun g => F g /\ Spare v g /\ ∃ cur, w.heap[g]? = some (.cells cur e (0, 0))) w w' -> wpListIn F₁ n₁ P ops Q rest (a.put o.dst v') w') : wpListIn F₁ n₁ P ops Q (o :: rest) a w := by
 obtain ⟨i, hi, hz, hs1, hb⟩ := info_parts hi
 obtain ⟨v', w', hr, h2, h3⟩ := run_append_text (P := P) w F t u o.type e i ht hu hi hz hs1 hb v n xs hown (bs l) (by rw [bs_size]; exact hbytes)
 rw [bs_size, strCells_bs] at h2
 refine wpListIn_plain hgd fun K hK => ?_
 unfold Oper.wpIn
 refine ⟨?_, ?_⟩
 · simp [Oper.about, ho, resolve, Target.leads, Sem.run_pure]
 · rw [Oper.semAt_plain F₁ _ _ (by rw [ho]; intro c hc'; cases hc')]
   simp [execOp, ho, resolve, invoke, builtin, hs, hx, hr, Result.andThen]
   exact hK _ _ (h v' w' h2 h3)
end
def puts (a : Act) (l : List (Nat × Value)) : Act := l.foldl (fun a p => a.put (some p.1) p.2) a
theorem wpIn_toE {F : Fence} {n : Nat} {P : Program} {c : Code} {K : Act -> World -> Prop} {Q : Exit -> Act -> World -> Prop} {a : Act} {w : World} {β : Type} (l : β -> List (Nat × Value)) (R : β -> World -> Prop)
   (h : c.wpIn F n P (Exit.then (fun a' w' => ∃ b, a' = puts a (l b) /\ R b w') (fun _ _ _ => False)) a w) (h2 : ∀ b w', R b w' -> K (puts a (l b)) w') : c.wpIn F n P (Exit.then K Q) a w := by
 refine wpIn_mono h fun e a' w' h => ?_
 cases e
 case normal =>
   obtain ⟨b, rfl, hr⟩ := h
   exact h2 b w' hr
 all_goals exact h.elim
section
variable {F : Fence} {n : Nat} {P : Program} {md : Region.Mode} {ops : Array Oper} {Q : Exit -> Act -> World -> Prop}
theorem wpAnyIn_one {i fuel : Nat} {listed : Array Bool} {a : Act} {w : World} (hr : Region.ready md ops listed = [i])
   (h : wpOpIn F n P ops Q i (wpAnyIn F n P md ops Q fuel (listed.setIfInBounds i true)) a w) : wpAnyIn F n P md ops Q (fuel + 1) listed a w :=
 ⟨fun h0 => (by rw [hr] at h0; cases h0), fun j hj => by
   rw [hr] at hj
   obtain rfl := List.mem_singleton.1 hj
   exact h⟩
theorem wpOpIn_value {i : Nat} {o : Oper} {K : Act -> World -> Prop} {a : Act} {w w' : World} {x : Value} (hi : ops[i]? = some o) (hd : ∀ c, o.op ≠ .defer c) (hab : o.about P w a.eval = none) (hw : Region.wanted o (yielded ops a.tmps) = true)
   (hr : (execOp a.eval o).run P w = .ok (.value x) w') (h : K (a.put o.dst x) w') : wpOpIn F n P ops Q i K a w := by
 unfold wpOpIn
 simp only [hi, hw, if_true]
 unfold Oper.wpIn
 refine ⟨fun f hf => (by rw [hab] at hf; cases hf), ?_⟩
 rw [Oper.semAt_eq F.round _ _ hd, hr]
 exact h
theorem wpOpIn_skip {i : Nat} {o : Oper} {K : Act -> World -> Prop} {a : Act} {w w' : World} (hi : ops[i]? = some o) (hd : ∀ c, o.op ≠ .defer c) (hab : o.about P w a.eval = none) (hw : Region.wanted o (yielded ops a.tmps) = true)
   (hr : (execOp a.eval o).run P w = .ok .skip w') (h : K (a.put o.dst undef) w') : wpOpIn F n P ops Q i K a w := by
 unfold wpOpIn
 simp only [hi, hw, if_true]
 unfold Oper.wpIn
 refine ⟨fun f hf => (by rw [hab] at hf; cases hf), ?_⟩
 rw [Oper.semAt_eq F.round _ _ hd, hr]
 exact h
theorem wpOpIn_append_text {i : Nat} {o : Oper} {K : Act -> World -> Prop} {a : Act} {w : World} (hi0 : ops[i]? = some o) (hgd : o.guard = none) (F' : Nat -> Prop) (sl x : Operand) (t u : TypeId) (ho : o.op = .call { callee := .builtin .append, args := #[sl, x], argTypes := #[t, u] })
   (e : TypeId) (ht : P.underlying t = some (.slice e)) (hu : P.underlying u = some .string) (hi : (P.info? e).map (fun i => (i.zero, i.size, i.bytes)) = some (some (.int .u8 0), 1, 1))
   (v : Value) (k : Nat) (xs : List Value) (hs : a.eval sl = v) (hown : Lies w F' e 1 v k xs) (l : List UInt8) (hx : a.eval x = .string (bs l)) (hbytes : k + l.length <= 140737488355328)
   (h : ∀ v' w', Lies w' (grow F' w) e 1 v' (k + l.length) (xs ++ l.map fun b => Value.int .u8 b.toNat) -> Kept (fun g => F' g /\ Spare v g /\ ∃ cur, w.heap[g]? = some (.cells cur e (0, 0))) w w' -> K (a.put o.dst v') w') : wpOpIn F n P ops Q i K a w := by
 obtain ⟨j, hj, hz, hs1, hb⟩ := info_parts hi
 obtain ⟨v', w', hr, h2, h3⟩ := run_append_text (P := P) w F' t u o.type e j ht hu hj hz hs1 hb v k xs hown (bs l) (by rw [bs_size]; exact hbytes)
 rw [bs_size, strCells_bs] at h2
 refine wpOpIn_value hi0 (fun c hc => by rw [ho] at hc; cases hc) ?_ (by simp [Region.wanted, hgd]) (x := v') (w' := w') ?_ (h v' w' h2 h3)
 · simp [Oper.about, ho, resolve, Target.leads, Sem.run_pure]
 · simp [execOp, ho, resolve, invoke, builtin, hs, hx, hr, Result.andThen]
end
def u8s (l : List UInt8) : List Value := l.map fun b => Value.int .u8 (b.toNat : Int)
theorem u8s_length (l : List UInt8) : (u8s l).length = l.length := by simp [u8s]
theorem u8s_append (a b : List UInt8) : u8s (a ++ b) = u8s a ++ u8s b := by simp [u8s]
theorem infoU8 : (Tryz.prog.info? 5).map (fun i => (i.zero, i.size, i.bytes)) = some (some (.int .u8 0), 1, 1) := by kernel_rfl
theorem run_text_bs {P : Program} {w : World} {A : Option Addr} {l : List UInt8} (hA : Holds w A l.length 1 (u8s l)) (src dst e : TypeId) (c : Nat) (hs : P.underlying src = some (.slice e)) (he : P.underlying e = some (.int .u8)) (hd : P.underlying dst = some .string) :
   (convert src dst (.slice A l.length c)).run P w = .ok (.string (bs l)) w := by
 rcases Nat.eq_zero_or_pos l.length with h0 | h0
 · obtain rfl : l = [] := List.eq_nil_of_length_eq_zero h0
   show (convert src dst (.slice A 0 c)).run P w = _
   rcases A with _ | ad
   · exact run_convert_bytes_nil w src e hs he 0 c dst hd
   · rw [run_convert_bytes_string w src dst e _ 0 c hs he hd, run_bytesToString w ad 0 c [] (by simpa using run_loadCells_list (P := P) w ad [] (by simp))]
     rfl
 · obtain ⟨b, off, rfl, hb, hr⟩ := hA.2 h0
   exact run_convert_bytes_back (P := P) w src dst e ⟨b, off, none⟩ c l hs he hd (fun j hj => by
     rw [addr_add]
     exact hr j _ (by simp [u8s, List.getElem?_eq_getElem hj]))
attribute [local go_sem] Oper.semAt_some
def outOf (l : List Nat) {N : Nat} (x : Fin N) : List UInt8 := if x.val + 1 < N then pad9 (wat l x.val) else Lib.decDigits (wat l x.val)
def outL (l : List Nat) {N : Nat} (pre : List (Fin N)) : List UInt8 := pre.flatMap (outOf l)
theorem outL_snoc (l : List Nat) {N : Nat} (pre : List (Fin N)) (x : Fin N) : outL l (pre ++ [x]) = outL l pre ++ outOf l x := by simp [outL, List.flatMap_append]
theorem outOf_len {l : List Nat} (h : Words l) {N : Nat} (x : Fin N) : (outOf l x).length <= 9 := by
 unfold outOf
 split
 · rw [pad9_length (wat_lt h _)]; omega
 · exact decDigits_len (by omega) (by have := wat_lt h x.val; have := ten9; omega)
theorem outL_len {l : List Nat} (h : Words l) {N : Nat} (pre : List (Fin N)) : (outL l pre).length <= 9 * pre.length := by
 induction pre with
 | nil => simp [outL]
 | cons x r ih =>
   have := outOf_len h x
   have e : outL l (x :: r) = outOf l x ++ outL l r := rfl
   rw [e, List.length_append, List.length_cons]; omega
theorem outL_all (n : Nat) (hn : 0 < n) : ∀ j, j < (wds n).length -> outL (wds n) (frBack (wds n).length (j + 1)) = dig (wval ((wds n).drop ((wds n).length - 1 - j)))
 | 0, h => by
   obtain ⟨r, x, e, hx⟩ := wds_last hn
   rw [frBack_succ h, outL_snoc]
   have h0 : frBack (wds n).length 0 = [] := rfl
   have e1 : (wds n).drop ((wds n).length - 1 - 0) = [x] := by rw [e]; simp
   have e2 : wat (wds n) ((wds n).length - 1 - 0) = x := by
     rw [e]
     unfold wat
     rw [List.getD, List.length_append, List.length_singleton, Nat.sub_zero, Nat.add_sub_cancel, List.getElem?_append_right (Nat.le_refl _)]
     simp
   rw [h0, e1]
   unfold outOf
   rw [if_neg (by simp; omega)]
   show [] ++ Lib.decDigits (wat (wds n) ((wds n).length - 1 - 0)) = dig (wval [x])
   rw [e2, List.nil_append]
   have : wval [x] = x := rfl
   rw [this, dig_pos (by omega)]
 | j + 1, h => by
   rw [frBack_succ h, outL_snoc, outL_all n hn j (by omega)]
   have hi : (wds n).length - 1 - (j + 1) + 1 = (wds n).length - 1 - j := by omega
   have hd := dig_from (wds n) (wds_words n) ((wds n).length - 1 - (j + 1)) (by omega) (wval_drop_pos hn (by omega))
   rw [hd, hi]
   unfold outOf
   rw [if_pos (by simp; omega)]
   rfl
theorem outL_done (n : Nat) (hn : 0 < n) : outL (wds n) (frBack (wds n).length (wds n).length) = dig n := by
 have h0 : 0 < (wds n).length := by
   rcases Nat.eq_zero_or_pos (wds n).length with e | e
   · have := wds_nil (List.eq_nil_of_length_eq_zero e); omega
   · exact e
 have := outL_all n hn ((wds n).length - 1) (by omega)
 rw [Nat.sub_add_cancel h0, Nat.sub_self, List.drop_zero, wval_wds] at this
 exact this
def DigPost (w : World) (l : List UInt8) (e : Ending) (w' : World) : Prop := ∃ v, e = .returned v /\ Lies w' (grow noBlock w) 5 1 v l.length (u8s l) /\ Below w.heap.size w w'
structure DigI (w7 : World) (g : Nat) (l : List Nat) {N : Nat} (pre : List (Fin N)) (W : World) : Prop where
 row : ∃ v, Row W g 35 #[v] /\ Lies W (fun k => w7.heap.size <= k) 5 1 v (outL l pre).length (u8s (outL l pre))
 kept : Kept (fun k => k = g ∨ w7.heap.size <= k) w7 W
theorem dig_app {w7 W1 W6 : World} {g : Nat} {v v6 : Value} {n6 : Nat} {xs6 : List Value} (hg : g < w7.heap.size) (hk : Kept (fun k => k = g ∨ w7.heap.size <= k) w7 W1) (hr : Row W1 g 35 #[v])
   (hl6 : Lies W6 (grow (fun k => w7.heap.size <= k) W1) 5 1 v6 n6 xs6) (hk6 : Kept (fun k => w7.heap.size <= k /\ Spare v k /\ ∃ cur, W1.heap[k]? = some (.cells cur 5 (0, 0))) W1 W6) :
   Row (W6.setCell ⟨g, 0, none⟩ v6) g 35 #[v6] /\ Lies (W6.setCell ⟨g, 0, none⟩ v6) (fun k => w7.heap.size <= k) 5 1 v6 n6 xs6 /\ Kept (fun k => k = g ∨ w7.heap.size <= k) W1 (W6.setCell ⟨g, 0, none⟩ v6) /\ Kept (fun k => k = g ∨ w7.heap.size <= k) w7 (W6.setCell ⟨g, 0, none⟩ v6) := by
 have hs := hk.size
 have hr6 := hr.kept hk6 (fun h9 => by have := h9.1; omega)
 have hset := Kept.cell W6 g 0 v6
 have h3 : Kept (fun k => k = g ∨ w7.heap.size <= k) W1 (W6.setCell ⟨g, 0, none⟩ v6) := (hk6.mono fun k _ h9 => .inr h9.1).trans' (hset.mono fun k _ h9 => .inl h9)
 refine ⟨by simpa using hr6.set_ 0 v6, ?_, h3, hk.trans' h3⟩
 exact (hl6.mono (G := fun k => w7.heap.size <= k) fun k h9 => by
   rcases h9 with h9 | h9
   · exact h9
   · exact Nat.le_trans hs h9).kept hset (fun k h9 h8 => by omega)
theorem digits_at (A : Option Addr) (c N : Nat) (a : List Nat) (w : World) (hN : a.length = N) (ha : Wds w (.slice A N c) a) (hW : Words a) (hn : N <= 2000000) (hT : PowTab w) (D : List UInt8) (hD : outL a (frBack N N) = D) :
   Calls Tryz.prog 183 #[.slice A N c] w (DigPost w D) := by
 have HA := hid ha
 have HN := hid hN
 have HW := hid hW
 have HT := hid hT
 have HD := hid hD
 clear ha hN hW hT hD
 obtain ⟨w0, hw0⟩ : ∃ w0, w0 = (w.alloc (.cells #[.slice A N c] 180)).alloc (.cells #[.slice none 0 0] 35) := ⟨_, rfl⟩
 have hb0 : Below w.heap.size w w0 := by subst hw0; exact ((Below.refl _ _).alloc (Nat.le_refl _) _).alloc (by simp) _
 have hr0 : Row w0 w.heap.size 180 #[.slice A N c] := by subst hw0; exact (Row.new _ _ _).alloc _
 have hr1 : Row w0 (w.heap.size + 1) 35 #[.slice none 0 0] := by
   subst hw0
   have := Row.new (w.alloc (.cells #[.slice A N c] 180)) 35 #[.slice none 0 0]
   rwa [show (w.alloc (.cells #[.slice A N c] 180)).heap.size = w.heap.size + 1 by simp] at this
 have hz0 : w0.heap.size = w.heap.size + 2 := by subst hw0; simp
 have c0 := hr0.cell (i := 0) (v := .slice A N c) rfl
 have HB0 := hid hb0
 have HR0 := hid hr0
 have HR1 := hid hr1
 have HZ0 := hid hz0
 clear hb0 hr0 hr1 hz0
 refine (callsIn_wide (n := 3)).1 ?_
 refine callsIn_of_wp_marks Tryz.func183 rfl trivial ?_ rfl
 simp only [Tryz.ntmps183, List.size_toArray, List.length_cons, List.length_nil, Nat.reduceAdd, Nat.reduceSub, Array.replicate_succ, Array.replicate_zero, List.push_toArray, List.append_toArray, List.nil_append, List.cons_append]
 refine wpIn_wide.2 ?_
 go_upto_region 2 with fail
 rw [<- hw0]
 clear hw0
 go_wp2_with fail
 refine (back_ok (.slice A N c) a w w0 HA.out HB0.out).mono ?_
 rintro e w7 ⟨rfl, hk7, hb7, hz7⟩
 have HK7 := hid hk7
 have HR07 := hid (HR0.out.call hb7)
 have HR17 := hid (HR1.out.call hb7)
 have HB7 := hid (HB0.out.call hb7)
 have HZ7 := hid (show w7.heap.size = w.heap.size + 3 by rw [hz7, HZ0.out])
 clear hk7 hb7 hz7 HR0 HR1 HB0 c0
 go_wp2_with fail
 refine (wpIn_wide (n := 4)).1 ?_
 refine wpIn_rangeFunc_ownF rfl (by omega) (gf := 196) (lb := #[.pointer (some ⟨w0.heap.size, 0, none⟩)]) rfl trivial (enters_of Tryz.func196 (by kernel_rfl) rfl)
   (back_stops w.heap.size w0.heap.size a N HN.out.symm (by omega) (Kept (fun k => k = w.heap.size + 1 ∨ w7.heap.size <= k)) (fun W W' hk hB => hB.kept hk (by have := HZ7.out; have := HZ0.out; omega) (fun k hk => by have := HZ7.out; omega)) w7 (by have := HZ7.out; have := HZ0.out; omega) (by have := HZ7.out; omega) HK7.out)
   (fun h k => h.trans' k) (kept_turn fun k hk => .inr hk) (Below.refl _ _) (fun _ => rfl)
   (fun (pre : List (Fin N)) W => DigI w7 (w.heap.size + 1) a pre W) (fun _ _ _ => False) ?hI ?hIx ?h0 ?a1 ?assign ?body ?done ?stop
 case assign =>
   intro l' i W K hK
   simp only [oneWord]
   gi_wp2
   exact hK
 case hI =>
   rintro s W W' row ⟨⟨v, h1, h2⟩, h3⟩ hg hr
   exact ⟨⟨v, h1.grown hg fun r e => (hr r e).2, h2.grown hg fun r e => (hr r e).2⟩, kept_grown h3 hg fun r e => .inr (hr r e).1⟩
 case hIx => exact fun _ _ _ _ _ h _ _ => h
 case h0 => exact ⟨⟨_, HR17.out, Lies.empty _ _ _ _ _⟩, Kept.refl _ _⟩
 case stop => exact fun _ _ _ _ _ _ h => h.elim
 case done =>
   rintro Dk ys W hDk rfl ⟨⟨v, hrow, hl⟩, hk⟩ hK
   rw [HD.out] at hl
   have hbw : Below w.heap.size w W := HB7.out.trans (hk.below HB7.out.size (fun k hk => by have := HZ7.out; rcases hk with hk | hk <;> omega))
   simp only [Exit.inBlock, Exit.then]
   have c9 := hrow.cell (i := 0) (v := v) rfl
   have hbe : Below w.heap.size w (W.putObj Dk (.deferred none)) := hbw.trans (belowK_b (w := w) (Nat.le_refl _) _ Dk _ (.deferred none) (by have := HZ7.out; omega) hK rfl rfl)
   have hl9 : Lies (W.putObj Dk (.deferred none)) (grow noBlock w) 5 1 v D.length (u8s D) := (hl.grown (grownBy_putObj' W Dk (.deferred none)) (fun r e => by cases e; exact ⟨_, hK, rfl⟩)).mono fun k hk => .inr (by have := HZ7.out; omega)
   have HKK := hid hK
   have HBE := hid hbe
   have HL9 := hid hl9
   obtain ⟨A9, c9', rfl, _, _⟩ := hl.form
   clear hrow hbw hK hbe hl hk hl9
   go_wp2_with fail
   refine ⟨by simp, .inl ⟨_, _, rfl, run_takeDeferred HKK.out, ?_⟩⟩
   refine ⟨.slice A9 D.length c9', ?_, ⟨_, rfl, HL9.out, HBE.out⟩⟩
   simp [results, Tryz.f183, go_sem]
 case body =>
   rintro l' pre x W ⟨⟨v, hrow, hl⟩, hk⟩ hlen
   have hxN := x.isLt
   obtain ⟨A2, c2, rfl, hc21, hc22⟩ := hl.form
   unfold maxLen at hc22
   obtain ⟨pl, hpl⟩ : ∃ pl, pl = (outL a pre).length := ⟨_, rfl⟩
   rw [<- hpl] at hrow hl hc21
   have HPL := hid hpl
   have hb7W : Kept (fun k => k = w.heap.size + 1 ∨ w7.heap.size <= k) w7 W := hk
   have hol := outL_len HW.out pre
   have hxl := outOf_len HW.out x
   have hww := wat_lt HW.out x.val
   have HS := hid (outL_snoc a pre x)
   have hkb : Below w.heap.size w7 W := hk.below (by have := HZ7.out; omega) (fun k hk => by have := HZ7.out; rcases hk with hk | hk <;> omega)
   have k0 := (HR07.out.kept hk (by have := HZ7.out; omega)).cell (i := 0) (v := .slice A N c) rfl
   have kv := hrow.cell (i := 0) (v := .slice A2 pl c2) rfl
   have fv := hrow.free 0
   have hTW : PowTab W := HT.out.below (HB7.out.trans hkb)
   obtain ⟨T, hTd⟩ : ∃ T, T = Lib.decDigits (wat a x.val) := ⟨_, rfl⟩
   have htl : T.length <= 9 := by rw [hTd]; exact decDigits_len (by omega) (by have := ten9; omega)
   have HF : Hid (∀ W', PowTab W' -> Calls Tryz.prog 194 #[.int .u64 (wat a x.val : Int), .int .i64 10] W' fun e w' => e = .returned (.string (bs T)) /\ Below W'.heap.size W' w') := hid fun W' h => by rw [hTd]; exact format_ok _ (by omega) W' h
   have HO1 : Hid (x.val + 1 < N -> outOf a x = zeros (9 - T.length) ++ T) := hid fun h => by unfold outOf; rw [if_pos h, hTd]; rfl
   have HO2 : Hid (¬ x.val + 1 < N -> outOf a x = T) := hid fun h => by unfold outOf; rw [if_neg h, hTd]
   have HDI : Hid (∀ W' v', Row W' (w.heap.size + 1) 35 #[v'] -> Lies W' (fun k => w7.heap.size <= k) 5 1 v' (pl + (outOf a x).length) (u8s (outL a pre) ++ u8s (outOf a x)) -> Kept (fun k => k = w.heap.size + 1 ∨ w7.heap.size <= k) w7 W' -> DigI w7 (w.heap.size + 1) a (pre ++ [x]) W') := hid fun W' v' h1 h2 h3 => by
     refine ⟨⟨v', h1, ?_⟩, h3⟩
     rw [HS.out, List.length_append, u8s_append, <- HPL.out]
     exact h2
   have HTW := hid hTW
   have HKW := hid hk
   have HROW := hid hrow
   have HLI := hid hl
   have hsT := bs_size T
   rw [<- hpl] at hol
   clear hpl HPL hTd hTW hk hrow hl hb7W HS hkb
   generalize outL a pre = P at *
   obtain ⟨tl, htl0⟩ : ∃ tl, tl = T.length := ⟨_, rfl⟩
   rw [<- htl0] at hsT htl
   have HTL := hid htl0
   have hsub : (9 : Int) - (tl : Int) = ((9 - tl : Nat) : Int) := by omega
   clear htl0
   obtain ⟨xi, hxi⟩ : ∃ xi, xi = x.val := ⟨_, rfl⟩
   rw [<- hxi] at hxN hww
   rw [<- hxi] at HF HO1 HO2
   simp only [<- hxi]
   clear hxi
   gi_wp2_with fail
   refine ⟨trivial, ?_⟩
   refine (CallsIn.inRound l' (callsIn_wide.2 (HF.out W HTW.out))).mono ?_
   rintro e W1 ⟨rfl, hb1⟩
   have HK1 := hid (HKW.out.trans' (hb1.kept (F := fun k => k = w.heap.size + 1 ∨ w7.heap.size <= k)))
   have hrow1 := HROW.out.call hb1
   have k01 := (HR07.out.kept HK1.out (by have := HZ7.out; omega)).cell (i := 0) (v := .slice A N c) rfl
   have kv1 := hrow1.cell (i := 0) (v := .slice A2 pl c2) rfl
   have fv1 := hrow1.free 0
   have HL1 := hid (HLI.out.below hb1)
   have HR1 := hid hrow1
   have HB1 := hid hb1
   clear hb1 hrow1 k0 kv fv HKW HROW HLI
   have hp9 : pl <= 18000000 := by omega
   by_cases hlast : xi + 1 < N
   · have HOT := hid (HO1.out hlast)
     rw [<- HTL.out] at HOT
     obtain ⟨m, hm⟩ : ∃ m, m = 9 - tl := ⟨_, rfl⟩
     rw [<- hm] at HOT hsub
     have hm9 : m <= 9 := by omega
     have hwr : IntKind.i64.wrap (m : Int) = (m : Int) := IntWalk.i64_in _ (by omega)
     have HNO : Hid (∀ W', Calls Tryz.prog 95 #[.int .i64 (m : Int)] W' fun e w' => e = .returned (.string (bs (zeros m))) /\ Below W'.heap.size W' w') := hid fun W' => noughts_ok m W' (by omega)
     have HZL : Hid ((zeros m).length = m) := hid (by simp [zeros])
     have hmix : Tryz.prog.follows .mixedOrders = true := by kernel_rfl
     clear hm
     generalize zeros m = Z at *
     gi_wp2_with fail
     refine wpIn_toE (fun b : Option Addr × Nat => [(18, .slice A2 pl c2), (19, .string (bs T)), (20, .int .i64 tl), (21, .int .i64 m), (22, .string (bs Z)), (23, .slice b.1 (pl + Z.length) b.2)])
       (fun b W' => Row W' (w.heap.size + 1) 35 #[.slice b.1 (pl + Z.length) b.2] /\ Lies W' (fun k => w7.heap.size <= k) 5 1 (.slice b.1 (pl + Z.length) b.2) (pl + Z.length) (u8s P ++ u8s Z) /\ Kept (fun k => k = w.heap.size + 1 ∨ w7.heap.size <= k) W W' /\ Kept (fun k => k = w.heap.size + 1 ∨ w7.heap.size <= k) w7 W' /\ KeepsOthers W W') ?reg ?rest
     case reg =>
      gi_region_with_o (first
       | (refine ⟨trivial, ?_⟩
          refine (CallsIn.inRound l' (callsIn_wide.2 (HNO.out _))).mono ?_
          rintro e Wx ⟨rfl, hbx⟩
          have hkx := HK1.out.trans' ((Below.call (Below.refl _ _).drew hbx).kept (F := fun k => k = w.heap.size + 1 ∨ w7.heap.size <= k))
          have hrx := HR1.out.drew.call hbx
          have hlx := Lies.below (w := W1.drew) HL1.out hbx
          rename_i K9 hK9
          have kvx := hrx.cell (i := 0) (v := .slice A2 pl c2) rfl
          refine hK9 _ _ ?_
          clear kvx
          refine wpAnyIn_one (i := 5) (by kernel_rfl) ?_
          refine wpOpIn_append_text (o := ?_) ?_ ?_ (fun k => w7.heap.size <= k) (.tmp 18) (.tmp 22) 35 9 ?_ 5 Tryz.underlying35 Tryz.underlying9 infoU8 (.slice A2 pl c2) pl (u8s P) ?_ hlx Z ?_ (by rw [HZL.out]; omega) ?_
          rotate_left 1
          · simp only [gA, gB, gC]; with_reducible rfl
          · with_reducible rfl
          · with_reducible rfl
          · rfl
          · rfl
          intro v6 w6 hl6 hk6
          obtain ⟨A6, c6, rfl, _, _⟩ := hl6.form
          have hv6 := hrx.kept hk6 (fun h9 => by have := h9.1; have := HZ7.out; omega)
          have f60 := hv6.free 0
          have v60 := hv6.cell (i := 0) (v := .slice A2 pl c2) rfl
          have hd6 := dig_app (g := w.heap.size + 1) (by have := HZ7.out; omega) hkx hrx hl6 hk6
          have HD6 := hid hd6
          have HOK6 : Hid (KeepsOthers W (w6.setCell ⟨w.heap.size + 1, 0, none⟩ (.slice A6 (pl + Z.length) c6))) := hid (((KeepsOthers.of_below (HB1.out.call (Below.call (Below.refl _ _).drew hbx))).trans (KeepsOthers.of_spare hk6)).trans (KeepsOthers.setCell _ _ _))
          have HWX : Hid (Kept (fun k => k = w.heap.size + 1 ∨ w7.heap.size <= k) W Wx) := hid ((HB1.out.call (Below.call (Below.refl _ _).drew hbx)).kept)
          clear hl6 hk6 hv6 hd6 hkx hrx hlx hbx hK9
          refine wpAnyIn_one (i := 6) (by kernel_rfl) ?_
          refine wpOpIn_skip (w' := w6.setCell ⟨w.heap.size + 1, 0, none⟩ (.slice A6 (pl + Z.length) c6)) rfl (fun c hc => by cases hc) rfl (by rfl) (by go_simp) ?_)
       | (refine ⟨trivial, ?_⟩
          refine (CallsIn.inRound l' (callsIn_wide.2 (HNO.out _))).mono ?_
          rintro e Wx ⟨rfl, hbx⟩
          have hkx := HK1.out.trans' ((Below.call (Below.refl _ _).drew hbx).kept (F := fun k => k = w.heap.size + 1 ∨ w7.heap.size <= k))
          have hrx := HR1.out.drew.call hbx
          have hlx := Lies.below (w := W1.drew) HL1.out hbx
          rename_i K9 hK9
          have kvx := hrx.cell (i := 0) (v := .slice A2 pl c2) rfl
          refine hK9 _ _ ?_
          refine wpAnyIn_one (i := 0) (by kernel_rfl) ?_
          refine wpOpIn_value (x := .slice A2 pl c2) (w' := Wx) rfl (fun c hc => by cases hc) rfl (by rfl) (by go_simp) ?_
          clear kvx
          refine wpAnyIn_one (i := 5) (by kernel_rfl) ?_
          refine wpOpIn_append_text (o := ?_) ?_ ?_ (fun k => w7.heap.size <= k) (.tmp 18) (.tmp 22) 35 9 ?_ 5 Tryz.underlying35 Tryz.underlying9 infoU8 (.slice A2 pl c2) pl (u8s P) ?_ hlx Z ?_ (by rw [HZL.out]; omega) ?_
          rotate_left 1
          · simp only [gA, gB, gC]; with_reducible rfl
          · with_reducible rfl
          · with_reducible rfl
          · kernel_rfl
          · kernel_rfl
          intro v6 w6 hl6 hk6
          obtain ⟨A6, c6, rfl, _, _⟩ := hl6.form
          have hv6 := hrx.kept hk6 (fun h9 => by have := h9.1; have := HZ7.out; omega)
          have f60 := hv6.free 0
          have v60 := hv6.cell (i := 0) (v := .slice A2 pl c2) rfl
          have hd6 := dig_app (g := w.heap.size + 1) (by have := HZ7.out; omega) hkx hrx hl6 hk6
          have HD6 := hid hd6
          have HOK6 : Hid (KeepsOthers W (w6.setCell ⟨w.heap.size + 1, 0, none⟩ (.slice A6 (pl + Z.length) c6))) := hid (((KeepsOthers.of_below (HB1.out.call (Below.call (Below.refl _ _).drew hbx))).trans (KeepsOthers.of_spare hk6)).trans (KeepsOthers.setCell _ _ _))
          have HWX : Hid (Kept (fun k => k = w.heap.size + 1 ∨ w7.heap.size <= k) W Wx) := hid ((HB1.out.call (Below.call (Below.refl _ _).drew hbx)).kept)
          clear hl6 hk6 hv6 hd6 hkx hrx hlx hbx hK9
          refine wpAnyIn_one (i := 6) (by kernel_rfl) ?_
          refine wpOpIn_skip (w' := w6.setCell ⟨w.heap.size + 1, 0, none⟩ (.slice A6 (pl + Z.length) c6)) rfl (fun c hc => by cases hc) rfl (by rfl) (by go_simp) ?_))
      all_goals (refine ⟨A6, c6, ?_, HD6.out.1, HD6.out.2.1, HWX.out.trans' HD6.out.2.2.1, HD6.out.2.2.2, HOK6.out⟩; kernel_rfl)
     case rest =>
      rintro ⟨A6, c6⟩ W6 ⟨hr6, hl6, hk6, hk76, ho6⟩
      simp only [puts, List.foldl, Act.put, sA, sB, sC] at hr6 hl6 ⊢
      obtain ⟨n6, hn6⟩ : ∃ n6, n6 = pl + Z.length := ⟨_, rfl⟩
      rw [<- hn6] at hr6 hl6 ⊢
      have hn69 : n6 <= 18000009 := by have := HZL.out; omega
      have HN6 := hid hn6
      have v60 := hr6.cell (i := 0) (v := .slice A6 n6 c6) rfl
      have f60 := hr6.free 0
      have HR6 := hid hr6
      have HL6 := hid hl6
      have HK6 := hid hk6
      have HK76 := hid hk76
      have HO6 := hid ho6
      clear hn6 hr6 hl6 hk6 hk76 ho6
      gi_wp2_with (first
       | (refine wpListIn_append_text ?_ (fun k => w7.heap.size <= k) (.tmp 24) (.tmp 25) 35 9 ?_ 5 Tryz.underlying35 Tryz.underlying9 infoU8 (.slice A6 n6 c6) n6 (u8s P ++ u8s Z) ?_ HL6.out T ?_ (by rw [<- HTL.out]; omega) ?_
          · with_reducible rfl
          · with_reducible rfl
          · rfl
          · rfl
          intro v8 w8 hl8 hk8
          obtain ⟨A8, c8, rfl, _, _⟩ := hl8.form
          have hv8 := HR6.out.kept hk8 (fun h9 => by have := h9.1; have := HZ7.out; omega)
          have f80 := hv8.free 0
          have v80 := hv8.cell (i := 0) (v := .slice A6 n6 c6) rfl
          have hd8 := dig_app (g := w.heap.size + 1) (by have := HZ7.out; omega) HK76.out HR6.out hl8 hk8
          have HN8 : Hid (KeepsOthers W (w8.setCell ⟨w.heap.size + 1, 0, none⟩ (.slice A8 (n6 + T.length) c8)) /\ Kept (fun k => k = w.heap.size + 1 ∨ w7.heap.size <= k) W (w8.setCell ⟨w.heap.size + 1, 0, none⟩ (.slice A8 (n6 + T.length) c8)) /\ DigI w7 (w.heap.size + 1) a (pre ++ [x]) (w8.setCell ⟨w.heap.size + 1, 0, none⟩ (.slice A8 (n6 + T.length) c8))) := hid
            ⟨(HO6.out.trans (KeepsOthers.of_spare hk8)).trans (KeepsOthers.setCell _ _ _), HK6.out.trans' hd8.2.2.1, HDI.out _ _ hd8.1 (by
              have h9 := hd8.2.1
              rw [HN6.out, Nat.add_assoc, List.append_assoc] at h9
              rw [HOT.out, List.length_append, u8s_append, HN6.out, Nat.add_assoc]
              exact h9) hd8.2.2.2⟩
          clear hd8 hl8 hk8 hv8))
      exact HN8.out
   · have HOT := hid (HO2.out hlast)
     gi_wp2_with (first
       | (refine wpListIn_append_text ?_ (fun k => w7.heap.size <= k) (.tmp 24) (.tmp 25) 35 9 ?_ 5 Tryz.underlying35 Tryz.underlying9 infoU8 (.slice A2 pl c2) pl (u8s P) ?_ HL1.out T ?_ (by rw [<- HTL.out]; omega) ?_
          · with_reducible rfl
          · with_reducible rfl
          · rfl
          · rfl
          intro v6 w6 hl6 hk6
          obtain ⟨A6, c6, rfl, _, _⟩ := hl6.form
          have hv6 := HR1.out.kept hk6 (fun h9 => by have := h9.1; have := HZ7.out; omega)
          have f60 := hv6.free 0
          have v60 := hv6.cell (i := 0) (v := .slice A2 pl c2) rfl
          have hd6 := dig_app (g := w.heap.size + 1) (by have := HZ7.out; omega) HK1.out HR1.out hl6 hk6
          have HN6 : Hid (KeepsOthers W (w6.setCell ⟨w.heap.size + 1, 0, none⟩ (.slice A6 (pl + T.length) c6)) /\ Kept (fun k => k = w.heap.size + 1 ∨ w7.heap.size <= k) W (w6.setCell ⟨w.heap.size + 1, 0, none⟩ (.slice A6 (pl + T.length) c6)) /\ DigI w7 (w.heap.size + 1) a (pre ++ [x]) (w6.setCell ⟨w.heap.size + 1, 0, none⟩ (.slice A6 (pl + T.length) c6))) := hid
            ⟨((KeepsOthers.of_below HB1.out).trans (KeepsOthers.of_spare hk6)).trans (KeepsOthers.setCell _ _ _), (HB1.out.kept (F := fun k => k = w.heap.size + 1 ∨ w7.heap.size <= k)).trans' hd6.2.2.1, HDI.out _ _ hd6.1 (by rw [HOT.out]; exact hd6.2.1) hd6.2.2.2⟩
          clear hd6
          clear hl6 hk6 hv6))
     exact HN6.out
theorem digitsOf_ok (v : Value) (n : Nat) (w : World) (hn : 0 < n) (h : Wds w v (wds n)) (hlen : (wds n).length <= 2000000) (hT : PowTab w) :
   Calls Tryz.prog 183 #[v] w (DigPost w (dig n)) := by
 have h' := h
 obtain ⟨_, A, c, rfl, _⟩ := h'
 exact digits_at A c _ (wds n) w rfl h (wds_words n) hlen hT (dig n) (outL_done n hn)
end Go.Proofs.YtmhbkjjkalnggaaGreatDoor
