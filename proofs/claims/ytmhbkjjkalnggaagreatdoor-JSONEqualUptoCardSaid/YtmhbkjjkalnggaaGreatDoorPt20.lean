import Derived.Test.YtmhbkjjkalnggaaGreatDoorPt19
namespace Go.Proofs.YtmhbkjjkalnggaaGreatDoor
open Go.RowKit
set_option maxRecDepth 1000000
set_option maxHeartbeats 40000000
def whF (w : World) (p : Nat) (h : Nat -> Value) : List Value := [.pointer (some ⟨p, 0, none⟩), h 1, .pointer (some ⟨w.heap.size, 0, none⟩), h 3, h 4, h 5, h 6, h 7, h 8, h 9, h 10, h 11, h 12, h 13, h 14, h 15, h 16, h 17, h 18, h 19, h 20, h 21, h 22, h 23, h 24, h 25, h 26, h 27, h 28, h 29, h 30, h 31, h 32, h 33, h 34, h 35, h 36, h 37, h 38, h 39, h 40, h 41, h 42, h 43, h 44, h 45, h 46, h 47, h 48, h 49, h 50, h 51, h 52, h 53, h 54, h 55, h 56, h 57, h 58]
theorem whF_end {K : Act -> World -> Prop} {a' : Act} {W' : World} (w : World) (p : Nat) (e : a' = ⟨(whF w p (fun k => a'.tmps.getD k undef)).toArray, []⟩) (h : K ⟨(whF w p (fun k => a'.tmps.getD k undef)).toArray, []⟩ W') : K a' W' := by
 rw [<- e] at h
 exact h
def wtK : List Fr -> Nat
 | [] => 0
 | t :: r => 1 + t.list.length + t.names.length + wtK r
theorem wtK_len (K : List Fr) : K.length <= wtK K := by
 induction K with
 | nil => exact Nat.le_refl _
 | cons t r ih => unfold wtK; simp only [List.length_cons]; omega
theorem wtK_put (v : JV) (K : List Fr) : wtK (putK v K) <= wtK K + 1 := by
 cases K with
 | nil => simp [putK, wtK]
 | cons t r =>
   simp only [putK]
   split
   · exact Nat.le_succ _
   · simp only [wtK, List.length_append, List.length_singleton]; omega
theorem wtK_name (l : List UInt8) (K : List Fr) : wtK (nameK l K) <= wtK K + 1 := by
 cases K with
 | nil => simp [nameK, wtK]
 | cons t r =>
   simp only [nameK]
   split
   · exact Nat.le_succ _
   · simp only [wtK, List.length_append, List.length_singleton]; omega
theorem putK_ne {v : JV} {K : List Fr} (h : K ≠ []) : putK v K ≠ [] := by
 cases K with
 | nil => exact absurd rfl h
 | cons t r => simp only [putK]; split <;> simp
structure WhS (w : World) (p : Nat) (X : Txt) (own : Nat -> Nat) (K : List Fr) (E O : Value) (f : Fl) (s : List UInt8) (W : World) : Prop where
 stk : Stk W own w.heap.size K E O
 jat : JAt W p X s E O f
 kept : Kept (TxF w p) w W
 rv3 : own w.heap.size = 3
 row : ∃ cs : Array Value, Row W w.heap.size 28 cs /\ cs.size = 8
section
variable {w W W' : World} {p : Nat} {X : Txt} {own own' : Nat -> Nat} {K K' : List Fr} {E O E' O' : Value} {f f' : Fl} {s s' : List UInt8} {s0 : List UInt8} {E0 O0 : Value} {f0 : Fl}
theorem WhS.lt (h : WhS w p X own K E O f s W) : w.heap.size < W.heap.size := by
 obtain ⟨cs, hr, _⟩ := h.row
 exact hr.lt
theorem WhS.to (hp : p < w.heap.size) (h : WhS w p X own K E O f s W) (hj : JAt W' p X s' E O f') (hk : Kept (· = p) W W') : WhS w p X own K E O f' s' W' := by
 obtain ⟨cs, hr, h8⟩ := h.row
 exact ⟨h.stk.still ⟨hk, fun _ _ => rfl⟩ (fun q e hq => by omega), hj, h.kept.trans' (kept_p hk), h.rv3, cs, hr.kept hk (by show ¬ w.heap.size = p; omega), h8⟩
theorem WhS.stkTo (hp : p < w.heap.size) (h : WhS w p X own K E O f s W) (hs : Stk W' own' w.heap.size K' E' O') (hj : JAt W' p X s' E' O' f') (hk : Kept (StkG own w.heap.size p) W W') (ho : own' w.heap.size = 3) : WhS w p X own' K' E' O' f' s' W' := by
 obtain ⟨cs, hr, h8⟩ := h.row
 have h3 := h.rv3
 refine ⟨hs, hj, h.kept.trans' (kept_mono hk fun q hq => ?_), ho, cs, hr.kept hk (fun hq => ?_), h8⟩
 · rcases hq with hq | hq
   · exact .inl hq
   · exact .inr hq.1
 · rcases hq with hq | hq
   · omega
   · exact hq.2.2 h3
theorem WhS.laid (h0 : JAt w p X s0 E0 O0 f0) (h : WhS w p X own K E O f s W) {cs : Array Value} (h8 : cs.size = 8) : WhS w p X own K E O f s (W.setCells w.heap.size 0 cs.toList) /\ Row (W.setCells w.heap.size 0 cs.toList) w.heap.size 28 cs /\ Still W (W.setCells w.heap.size 0 cs.toList) (· = w.heap.size) own own := by
 obtain ⟨old, hr, ho⟩ := h.row
 have hk : Kept (· = w.heap.size) W (W.setCells w.heap.size 0 cs.toList) := kept_setCells _ _ _ _ _ (Kept.refl _ _)
 have s1 : Still W (W.setCells w.heap.size 0 cs.toList) (· = w.heap.size) own own := ⟨hk, fun _ _ => rfl⟩
 have hrow : Row (W.setCells w.heap.size 0 cs.toList) w.heap.size 28 cs := by
   have h9 := row_laid cs.toList [] old.toList W (by simpa using hr) (by rw [Array.length_toList, Array.length_toList, h8, ho])
   simpa using h9
 exact ⟨⟨h.stk.still s1 (fun q e _ => by rw [e]; exact h.rv3), h0.above h.jat (kept_mono hk fun q e => by show w.heap.size <= q; rw [e]; exact Nat.le_refl _), h.kept.trans' (kept_mono hk fun q e => .inr (by rw [e]; exact Nat.le_refl _)), h.rv3, cs, hrow, h8⟩, hrow, s1⟩
theorem WhS.there (h : WhS w p X own K E O f s W) : W.there w.heap.size 0 8 := by
 obtain ⟨cs, hr, h8⟩ := h.row
 exact row_there hr (by omega)
end
def AtW (w : World) (X : Txt) (R : Option (JV × Fl)) (own : Nat -> Nat) (K : List Fr) (f : Fl) (s : List UInt8) (W : World) (i : Nat) : Prop :=
 match i with
 | 1 => R = runJ .value K f s /\ wtK K + s.length <= X.l.length
 | 2 => R = runJ .name K f s /\ K ≠ [] /\ wtK K + s.length <= X.l.length
 | 0 => R = runJ .leave K f s /\ K ≠ [] /\ wtK K + s.length <= X.l.length
 | 3 => ∃ v cs, Row W w.heap.size 28 cs /\ JIs W (FB own w.heap.size 0) v cs.toList /\ R = runJ (.behind v) K f s /\ wtK K + 1 + s.length <= X.l.length
 | _ => False
def JW (w : World) (p : Nat) (X : Txt) (R : Option (JV × Fl)) (i : Nat) (a : Act) (W : World) : Prop :=
 ∃ h own K E O f s, a = ⟨(whF w p h).toArray, []⟩ /\ WhS w p X own K E O f s W /\ AtW w X R own K f s W i
def measW (p : Nat) (X : Txt) (i : Nat) (W : World) : Nat := 2 * leftOf X p W + if i = 0 then 1 else 0
def JWM (w : World) (p : Nat) (X : Txt) (R : Option (JV × Fl)) (m i : Nat) (a : Act) (W : World) : Prop := JW w p X R i a W /\ measW p X i W < m
theorem JWM.of {w W : World} {p : Nat} {X : Txt} {R : Option (JV × Fl)} {own : Nat -> Nat} {K : List Fr} {E O : Value} {f : Fl} {s : List UInt8} {m i : Nat} {a : Act} (e : a = ⟨(whF w p (fun k => a.tmps.getD k undef)).toArray, []⟩) (hs : WhS w p X own K E O f s W) (x : AtW w X R own K f s W i) (hm : 2 * s.length + (if i = 0 then 1 else 0) < m) : JWM w p X R m i a W :=
 ⟨⟨_, own, K, E, O, f, s, e, hs, x⟩, by unfold measW; rw [hs.jat.left]; exact hm⟩
def WPost (w : World) (p : Nat) (X : Txt) : Option (JV × Fl) -> Ending -> World -> Prop
 | none, e, w' => e = .panicked (panicOf 180) /\ Kept (· = p) w w'
 | some (v, f), e, w' => ∃ cs, e = .returned (.agg cs.toArray) /\ JIs w' (fun q => w.heap.size <= q) v cs /\ (∃ s E O, JAt w' p X s E O f) /\ Kept (· = p) w w'
def QW (w : World) (p : Nat) (X : Txt) (R : Option (JV × Fl)) : Exit -> Act -> World -> Prop := bodyPost Tryz.prog Tryz.f48 (WPost w p X R)
theorem jumpsW (w : World) (p : Nat) (X : Txt) (R : Option (JV × Fl)) (m : Nat) : ∀ (e : Exit) (a : Act) (W : World), jumps (JWM w p X R m) (QW w p X R) e a W -> jumps (JW w p X R) (QW w p X R) e a W := fun e a W h => by
 cases e <;> first | exact h | exact (h : JWM w p X R m _ a W).1
noncomputable def whBody : Code := scopeOf (Tryz.f48.body.getD .skip)
noncomputable def restW (i : Nat) : Code := (findLabel whBody i).getD .skip
theorem WhS.bad {w W W' : World} {p : Nat} {X : Txt} {own : Nat -> Nat} {K : List Fr} {E O : Value} {f : Fl} {s : List UInt8} (h : WhS w p X own K E O f s W) (hk : Kept (StkG own w.heap.size p) W W') : Kept (· = p) w W' :=
 kept_cut (h.kept.trans' (kept_mono hk fun q hq => by
   rcases hq with hq | hq
   · exact .inl hq
   · exact .inr hq.1))
theorem plainL_form {s : List UInt8} {v : JV} {a g : Bool} {r : List UInt8} (h : plainL s = some (v, a, g, r)) : ∃ k b d t, v = .mk k b d t [] [] := by
 unfold plainL at h
 split at h
 · split at h
   · cases h
   · injection h with h; injection h with h _; exact ⟨_, _, _, _, h.symm⟩
 · split at h
   · injection h with h; injection h with h _; exact ⟨_, _, _, _, h.symm⟩
   · split at h
     · injection h with h; injection h with h _; exact ⟨_, _, _, _, h.symm⟩
     · split at h
       · injection h with h; injection h with h _; exact ⟨_, _, _, _, h.symm⟩
       · split at h
         · cases h
         · injection h with h; injection h with h _; exact ⟨_, _, _, _, h.symm⟩
theorem plain_jis (W : World) (F : Nat -> Prop) (k : Int) (b : Bool) (d : Dec) (t : List UInt8) : JIs W F (.mk k b d t [] []) (jvC k b d t (.slice none 0 0) (.slice none 0 0)).toList := by
 unfold JIs
 exact ⟨none, 0, none, 0, rfl, Nat.le_refl _, by unfold maxLen; omega, Nat.le_refl _, by unfold maxLen; omega, fun i hi => by simp at hi, by unfold KidsAt; trivial⟩
theorem FineKids.snoc : ∀ (l : List JV) (v : JV), FineKids l -> FineJ v -> FineKids (l ++ [v])
 | [], v, _, hv => by unfold FineKids; exact ⟨hv, by unfold FineKids; trivial⟩
 | x :: l, v, h, hv => by
   unfold FineKids at h
   show FineKids (x :: (l ++ [v]))
   unfold FineKids
   exact ⟨h.1, FineKids.snoc l v h.2 hv⟩
def okK : Bool -> List Fr -> Prop
 | _, [] => True
 | b, t :: r => FineKids t.list /\ (∀ n ∈ t.names, n.length <= 4611686018427387904) /\ (t.obj = true -> t.names.length = t.list.length + if b && !isDeepK (t :: r) then 1 else 0) /\ okK true r
theorem dec_fine (l : List UInt8) : (parseD l).digits.length <= 1000000 := by
 have h := parseD_may l
 rw [<- mayB_iff] at h
 unfold mayB at h
 split at h
 · rename_i h0; rw [h0]; simp
 · simp only [Bool.and_eq_true, decide_eq_true_eq] at h
   have := h.1.1.1.1.1
   omega
theorem plain_fine {s : List UInt8} (hs : s.length <= 1048576) {v : JV} {a g : Bool} {r : List UInt8} (h : plainL s = some (v, a, g, r)) : FineJ v := by
 have fk : FineKids [] := by unfold FineKids; trivial
 have z0 : Dec.zero.digits.length <= 1000000 := by decide
 unfold plainL at h
 split at h
 · split at h
   · cases h
   · rename_i l a1 r1 h1
     have := letsL_long _ h1
     rw [List.length_drop] at this
     injection h with h; injection h with h _; subst h
     unfold FineJ
     exact ⟨.inr (.inr (.inr (.inl rfl))), z0, by omega, fun e => (by omega), fun n hn => (by cases hn), fk⟩
 · split at h
   · injection h with h; injection h with h _; subst h
     unfold JV.null FineJ
     exact ⟨.inl rfl, z0, by simp, fun e => (by omega), fun n hn => (by cases hn), fk⟩
   · split at h
     · injection h with h; injection h with h _; subst h
       unfold FineJ
       exact ⟨.inr (.inl rfl), z0, by simp, fun e => (by omega), fun n hn => (by cases hn), fk⟩
     · split at h
       · injection h with h; injection h with h _; subst h
         unfold FineJ
         exact ⟨.inr (.inl rfl), z0, by simp, fun e => (by omega), fun n hn => (by cases hn), fk⟩
       · split at h
         · cases h
         · injection h with h; injection h with h _; subst h
           unfold FineJ
           exact ⟨.inr (.inr (.inl rfl)), dec_fine _, by simp, fun e => (by omega), fun n hn => (by cases hn), fk⟩
theorem okK_mono {K : List Fr} (h : okK true K) (hd : isDeepK K = true) : okK false K := by
 cases K with
 | nil => trivial
 | cons t r =>
   obtain ⟨a1, a2, a3, a4⟩ := h
   refine ⟨a1, a2, fun e => ?_, a4⟩
   have := a3 e
   rw [hd] at this
   simpa using this
theorem okK_put {v : JV} {K : List Fr} (h : okK true K) (hv : FineJ v) : okK false (putK v K) := by
 cases K with
 | nil => trivial
 | cons t r =>
   by_cases hd : isDeepK (t :: r) = true
   · have : putK v (t :: r) = t :: r := if_pos hd
     rw [this]
     exact okK_mono h hd
   · have : putK v (t :: r) = { t with list := t.list ++ [v] } :: r := if_neg hd
     rw [this]
     obtain ⟨a1, a2, a3, a4⟩ := h
     refine ⟨FineKids.snoc _ _ a1 hv, a2, fun e => ?_, a4⟩
     have := a3 e
     rw [Bool.not_eq_true] at hd
     rw [hd] at this
     simpa using this
theorem okK_name {l : List UInt8} {K : List Fr} (h : okK false K) (hl : l.length <= 4611686018427387904) : okK true (nameK l K) := by
 cases K with
 | nil => trivial
 | cons t r =>
   obtain ⟨a1, a2, a3, a4⟩ := h
   by_cases hd : isDeepK (t :: r) = true
   · have : nameK l (t :: r) = t :: r := if_pos hd
     rw [this]
     refine ⟨a1, a2, fun e => ?_, a4⟩
     rw [hd]
     simpa using a3 e
   · have e1 : nameK l (t :: r) = { t with names := t.names ++ [l] } :: r := if_neg hd
     rw [e1]
     refine ⟨a1, fun n hn => ?_, fun e => ?_, a4⟩
     · rcases List.mem_append.1 hn with hn | hn
       · exact a2 n hn
       · rw [List.mem_singleton.1 hn]; exact hl
     · have h5 := a3 e
       have h6 : isDeepK ({ t with names := t.names ++ [l] } :: r) = false := by rw [Bool.not_eq_true] at hd; exact hd
       rw [h6]
       simpa using h5
theorem okK_enter {obj : Bool} {K : List Fr} (h : okK true K) : okK false (enterK obj K) :=
 ⟨by unfold FineKids; trivial, fun n hn => (by cases hn), fun _ => by simp, h⟩
theorem okK_list {t : Fr} {r : List Fr} (h : okK false (t :: r)) (ho : t.obj = false) : okK true (t :: r) :=
 ⟨h.1, h.2.1, fun e => (by rw [ho] at e; cases e), h.2.2.2⟩
theorem fr_fine {t : Fr} {r : List Fr} (h : okK false (t :: r)) : FineJ (if isDeepK (t :: r) then JV.null else t.val) := by
 have z0 : Dec.zero.digits.length <= 1000000 := by decide
 split
 · unfold JV.null FineJ
   exact ⟨.inl rfl, z0, by simp, fun e => (by omega), fun n hn => (by cases hn), by unfold FineKids; trivial⟩
 · obtain ⟨a1, a2, a3, a4⟩ := h
   unfold Fr.val FineJ
   refine ⟨?_, z0, by simp, fun e => ?_, a2, a1⟩
   · cases t.obj <;> simp
   · have : t.obj = true := by
       cases h : t.obj with
       | true => rfl
       | false => rw [h] at e; simp at e
     simpa using a3 this
theorem putK_obj {v : JV} {t : Fr} {r : List Fr} : ∃ t' r', putK v (t :: r) = t' :: r' /\ t'.obj = t.obj := by
 simp only [putK]
 split
 · exact ⟨t, r, rfl, rfl⟩
 · exact ⟨_, r, rfl, rfl⟩
theorem runJ_fine : ∀ (n : Nat) (m : Md) (K : List Fr) (f : Fl) (s : List UInt8), 2 * s.length + m.rank <= n -> s.length <= 1048576 -> okK (match m with | .value => true | .behind _ => true | _ => false) K -> (∀ v, m = .behind v -> FineJ v) -> ∀ v f', runJ m K f s = some (v, f') -> FineJ v := by
 intro n
 induction n using Nat.strongRecOn with
 | _ n ih =>
   intro m K f s hn hs hK hv v f' h
   have hb := blk_len s
   cases m with
   | value =>
     rw [runJ_value] at h
     simp only [Md.rank] at hn
     split at h
     · rename_i h1
       have l1 := tkB_some h1
       have hb2 := blk_len ((blk s).drop 1)
       rw [List.length_drop] at hb2
       split at h
       · rename_i h2
         have l2 := tkB_some h2
         exact ih (n - 1) (by omega) .leave _ _ _ (by simp only [Md.rank, List.length_drop]; omega) (by rw [List.length_drop]; omega) (okK_enter hK) (fun v e => by cases e) v f' h
       · exact ih (n - 1) (by omega) .value _ _ _ (by simp only [Md.rank]; omega) (by omega) (okK_list (okK_enter hK) rfl) (fun v e => by cases e) v f' h
     · split at h
       · rename_i h1
         have l1 := tkB_some h1
         have hb2 := blk_len ((blk s).drop 1)
         rw [List.length_drop] at hb2
         split at h
         · rename_i h2
           have l2 := tkB_some h2
           exact ih (n - 1) (by omega) .leave _ _ _ (by simp only [Md.rank, List.length_drop]; omega) (by rw [List.length_drop]; omega) (okK_enter hK) (fun v e => by cases e) v f' h
         · exact ih (n - 1) (by omega) .name _ _ _ (by simp only [Md.rank]; omega) (by omega) (okK_enter hK) (fun v e => by cases e) v f' h
       · split at h
         · cases h
         · rename_i v1 a g r h1
           have l1 := plainL_len h1
           exact ih (n - 1) (by omega) (.behind v1) _ _ _ (by simp only [Md.rank]; omega) (by omega) hK (fun v e => by injection e with e; rw [<- e]; exact plain_fine (by omega) h1) v f' h
   | name =>
     rw [runJ_name] at h
     simp only [Md.rank] at hn
     split at h
     · rename_i h1
       have l1 := tkB_some h1
       split at h
       · cases h
       · rename_i l a r h2
         have l2 := letsL_len _ h2
         have l3 := letsL_long _ h2
         rw [List.length_drop] at l2 l3
         have hb2 := blk_len r
         split at h
         · rename_i h3
           have l4 := tkB_some h3
           exact ih (n - 1) (by omega) .value _ _ _ (by simp only [Md.rank, List.length_drop]; omega) (by rw [List.length_drop]; omega) (okK_name hK (by omega)) (fun v e => by cases e) v f' h
         · cases h
     · cases h
   | leave =>
     cases K with
     | nil => rw [runJ] at h; cases h
     | cons t r =>
       rw [runJ_leave] at h
       simp only [Md.rank] at hn
       exact ih (n - 1) (by omega) (.behind _) _ _ _ (by simp only [Md.rank]; omega) hs hK.2.2.2 (fun v e => by injection e with e; rw [<- e]; exact fr_fine hK) v f' h
   | behind v1 =>
     simp only [Md.rank] at hn
     cases K with
     | nil =>
       rw [runJ_behind0] at h
       split at h
       · injection h with h; injection h with h _; rw [<- h]; exact hv v1 rfl
       · cases h
     | cons t r =>
       rw [runJ_behind] at h
       have hp := okK_put (v := v1) hK (hv v1 rfl)
       split at h
       · rename_i h1
         have l1 := tkB_some h1
         cases ho : t.obj with
         | true =>
           rw [ho, if_pos rfl] at h
           exact ih (n - 1) (by omega) .name _ _ _ (by simp only [Md.rank, List.length_drop]; omega) (by rw [List.length_drop]; omega) hp (fun v e => by cases e) v f' h
         | false =>
           rw [ho, if_neg (by simp)] at h
           obtain ⟨t', r', e1, e2⟩ := putK_obj (v := v1) (t := t) (r := r)
           rw [e1] at hp h
           exact ih (n - 1) (by omega) .value _ _ _ (by simp only [Md.rank, List.length_drop]; omega) (by rw [List.length_drop]; omega) (okK_list hp (by rw [e2, ho])) (fun v e => by cases e) v f' h
       · by_cases h1 : tkB [if t.obj = true then 125 else 93] (blk s) = true
         · rw [if_pos h1] at h
           have l1 := tkB_some h1
           exact ih (n - 1) (by omega) .leave _ _ _ (by simp only [Md.rank, List.length_drop]; omega) (by rw [List.length_drop]; omega) hp (fun v e => by cases e) v f' h
         · rw [if_neg h1] at h; cases h
theorem wh_value (w : World) (p : Nat) (X : Txt) (s0 : List UInt8) (E0 O0 : Value) (f0 : Fl) (h0 : JAt w p X s0 E0 O0 f0) (hX : X.l.length <= 1048576) (hT : ∀ V, Kept (TxF w p) w V -> PowTab V) (R : Option (JV × Fl)) (m : Nat) (h : Nat -> Value) (own : Nat -> Nat) (K : List Fr) (E O : Value) (f : Fl) (s : List UInt8) (W : World)
   (hs : WhS w p X own K E O f s W) (hR : R = runJ .value K f s) (hw : wtK K + s.length <= X.l.length) (hm : 2 * s.length < m + 1) :
   Code.wp Tryz.prog (tailOf (restW 1)) (jumps (JWM w p X R m) (QW w p X R)) ⟨(whF w p h).toArray, []⟩ W := by
 have hp := h0.lt
 have hbW : w.heap.size <= W.heap.size := Nat.le_of_lt hs.lt
 have hsl := blk_len s
 have HS1 := hid (jsign_ok p X [91] s E O f W hs.jat)
 rw [runJ_value] at hR
 have HRR : Hid (R = if tkB [91] (blk s) = true then
     if tkB [93] (blk ((blk s).drop 1)) = true then runJ .leave (enterK false K) (enterF (enterK false K) f) ((blk ((blk s).drop 1)).drop 1)
     else runJ .value (enterK false K) (enterF (enterK false K) f) (blk ((blk s).drop 1))
   else if tkB [123] (blk s) = true then
     if tkB [125] (blk ((blk s).drop 1)) = true then runJ .leave (enterK true K) (enterF (enterK true K) f) ((blk ((blk s).drop 1)).drop 1)
     else runJ .name (enterK true K) (enterF (enterK true K) f) (blk ((blk s).drop 1))
   else match plainL (blk s) with
     | none => none
     | some (v, a, g, r) => runJ (.behind v) K { f with alone := f.alone || a, far := f.far || g } r) := hid hR
 have HSS : Hid (sgB [91] s = tkB [91] (blk s) /\ sgS [91] s = tkS [91] (blk s)) := hid ⟨rfl, rfl⟩
 have HBB : Hid (blk (blk s) = blk s) := hid (blk_blk s)
 rw [HSS.out.1, HSS.out.2] at HS1
 have HS := hid hs
 have H0 := hid h0
 have HT := hid hT
 have HW := hid hw
 have HM := hid hm
 have HSL := hid hsl
 have HBW := hid hbW
 have HKL : Hid (K.length <= 1048576) := hid (by have := wtK_len K; omega)
 clear hs h0 hT hR hw hm hsl hbW HSS
 generalize blk s = t at *
 conv => arg 2; whnf
 dsimp only [whF]
 cases hb : tkB [91] t with
 | true =>
   have hlt := tkB_some hb
   rw [hb] at HS1 HRR
   rw [tkS_yes hb] at HS1
   rw [if_pos rfl] at HRR
   have HLT := hid hlt
   clear hb hlt
   go_wp2_with fail
   refine HS1.out.mono ?_
   rintro e w1 ⟨rfl, hj1, hk1⟩
   have hs1 := HS.out.to hp hj1 hk1
   have he := jenter_ok p X (t.drop 1) s0 E O E0 O0 f f0 w w1 own K false H0.out hj1 hs1.stk (Nat.le_of_lt hs1.lt) HKL.out
   simp only [Bool.false_eq_true, if_false] at he
   have HE := hid he
   have HS2 := hid hs1
   clear hj1 hk1 hs1 he HS1
   go_wp2_with fail
   refine HE.out.mono ?_
   rintro e w2 ⟨rfl, own2, E2, O2, hst2, hj2, hsti2⟩
   have hs2 := HS2.out.stkTo hp hst2 hj2 hsti2.kept ((hsti2.own _ HS2.out.lt).trans HS2.out.rv3)
   have HG := hid (jsign_ok p X [93] (t.drop 1) E2 O2 _ w2 hj2)
   have HG2 : Hid (sgB [93] (t.drop 1) = tkB [93] (blk (t.drop 1)) /\ sgS [93] (t.drop 1) = tkS [93] (blk (t.drop 1))) := hid ⟨rfl, rfl⟩
   rw [HG2.out.1, HG2.out.2] at HG
   have HS3 := hid hs2
   have HL2 := hid (blk_len (t.drop 1))
   clear hst2 hj2 hsti2 hs2 HE HS2 HG2
   generalize blk (t.drop 1) = t2 at *
   cases hb2 : tkB [93] t2 with
   | true =>
     have hlt2 := tkB_some hb2
     rw [hb2] at HG HRR
     rw [tkS_yes hb2] at HG
     rw [if_pos rfl] at HRR
     have HLT2 := hid hlt2
     clear hb2 hlt2
     go_wp2_with fail
     refine HG.out.mono ?_
     rintro e w3 ⟨rfl, hj3, hk3⟩
     have HS4 := hid (HS3.out.to hp hj3 hk3)
     clear hj3 hk3 HG
     go_wp2_with fail
     go_step3
     simp only [Exit.then, Exit.inBlock, jumps]
     refine JWM.of (s := t2.drop 1) ?_ HS4.out ?_ ?_
     · kernel_rfl
     · refine ⟨HRR.out, by unfold enterK; simp, ?_⟩
       have a1 := HW.out; have a2 := HSL.out; have a3 := HL2.out; have a4 := HLT.out; have a5 := HLT2.out
       unfold enterK wtK
       simp only [List.length_drop, List.length_nil] at *
       omega
     · have a1 := HM.out; have a2 := HSL.out; have a3 := HL2.out; have a4 := HLT.out; have a5 := HLT2.out
       simp only [List.length_drop, if_true] at *
       omega
   | false =>
     rw [hb2] at HG HRR
     rw [tkS_no hb2] at HG
     rw [if_neg (by simp)] at HRR
     clear hb2
     go_wp2_with fail
     refine HG.out.mono ?_
     rintro e w3 ⟨rfl, hj3, hk3⟩
     have HS4 := hid (HS3.out.to hp hj3 hk3)
     clear hj3 hk3 HG
     go_wp2_with fail
     go_step3
     simp only [Exit.then, Exit.inBlock, jumps]
     refine JWM.of (s := t2) ?_ HS4.out ?_ ?_
     · kernel_rfl
     · refine ⟨HRR.out, ?_⟩
       have a1 := HW.out; have a2 := HSL.out; have a3 := HL2.out; have a4 := HLT.out
       unfold enterK wtK
       simp only [List.length_drop, List.length_nil] at *
       omega
     · have a1 := HM.out; have a2 := HSL.out; have a3 := HL2.out; have a4 := HLT.out
       simp only [List.length_drop] at *
       rw [if_neg (by omega)]
       omega
 | false =>
   rw [hb] at HS1 HRR
   rw [tkS_no hb, if_neg (by simp)] at *
   clear hb
   go_wp2_with fail
   refine HS1.out.mono ?_
   rintro e w1 ⟨rfl, hj1, hk1⟩
   have hs1 := HS.out.to hp hj1 hk1
   have HQ1 := hid (jsign_ok p X [123] t E O f w1 hj1)
   have HQ2 : Hid (sgB [123] t = tkB [123] (blk t) /\ sgS [123] t = tkS [123] (blk t)) := hid ⟨rfl, rfl⟩
   rw [HQ2.out.1, HQ2.out.2, HBB.out] at HQ1
   have HS0 := hid hs1
   clear hj1 hk1 hs1 HS1 HS HQ2
   have HS := HS0
   clear HS0
   cases hb : tkB [123] t with
   | true =>
     have hlt := tkB_some hb
     rw [hb] at HQ1 HRR
     rw [tkS_yes hb] at HQ1
     rw [if_pos rfl] at HRR
     have HLT := hid hlt
     clear hb hlt
     go_wp2_with fail
     refine HQ1.out.mono ?_
     rintro e w1 ⟨rfl, hj1, hk1⟩
     have hs1 := HS.out.to hp hj1 hk1
     have he := jenter_ok p X (t.drop 1) s0 E O E0 O0 f f0 w w1 own K true H0.out hj1 hs1.stk (Nat.le_of_lt hs1.lt) HKL.out
     simp only [if_true] at he
     have HE := hid he
     have HS2 := hid hs1
     clear hj1 hk1 hs1 he HQ1
     go_wp2_with fail
     refine HE.out.mono ?_
     rintro e w2 ⟨rfl, own2, E2, O2, hst2, hj2, hsti2⟩
     have hs2 := HS2.out.stkTo hp hst2 hj2 hsti2.kept ((hsti2.own _ HS2.out.lt).trans HS2.out.rv3)
     have HG := hid (jsign_ok p X [125] (t.drop 1) E2 O2 _ w2 hj2)
     have HG2 : Hid (sgB [125] (t.drop 1) = tkB [125] (blk (t.drop 1)) /\ sgS [125] (t.drop 1) = tkS [125] (blk (t.drop 1))) := hid ⟨rfl, rfl⟩
     rw [HG2.out.1, HG2.out.2] at HG
     have HS3 := hid hs2
     have HL2 := hid (blk_len (t.drop 1))
     clear hst2 hj2 hsti2 hs2 HE HS2 HG2
     generalize blk (t.drop 1) = t2 at *
     cases hb2 : tkB [125] t2 with
     | true =>
       have hlt2 := tkB_some hb2
       rw [hb2] at HG HRR
       rw [tkS_yes hb2] at HG
       rw [if_pos rfl] at HRR
       have HLT2 := hid hlt2
       clear hb2 hlt2
       go_wp2_with fail
       refine HG.out.mono ?_
       rintro e w3 ⟨rfl, hj3, hk3⟩
       have HS4 := hid (HS3.out.to hp hj3 hk3)
       clear hj3 hk3 HG
       go_wp2_with fail
       go_step3
       simp only [Exit.then, Exit.inBlock, jumps]
       refine JWM.of (s := t2.drop 1) ?_ HS4.out ?_ ?_
       · kernel_rfl
       · refine ⟨HRR.out, by unfold enterK; simp, ?_⟩
         have a1 := HW.out; have a2 := HSL.out; have a3 := HL2.out; have a4 := HLT.out; have a5 := HLT2.out
         unfold enterK wtK
         simp only [List.length_drop, List.length_nil] at *
         omega
       · have a1 := HM.out; have a2 := HSL.out; have a3 := HL2.out; have a4 := HLT.out; have a5 := HLT2.out
         simp only [List.length_drop, if_true] at *
         omega
     | false =>
       rw [hb2] at HG HRR
       rw [tkS_no hb2] at HG
       rw [if_neg (by simp)] at HRR
       clear hb2
       go_wp2_with fail
       refine HG.out.mono ?_
       rintro e w3 ⟨rfl, hj3, hk3⟩
       have HS4 := hid (HS3.out.to hp hj3 hk3)
       clear hj3 hk3 HG
       go_wp2_with fail
       go_step3
       simp only [Exit.then, Exit.inBlock, jumps]
       refine JWM.of (s := t2) ?_ HS4.out ?_ ?_
       · kernel_rfl
       · refine ⟨HRR.out, by unfold enterK; simp, ?_⟩
         have a1 := HW.out; have a2 := HSL.out; have a3 := HL2.out; have a4 := HLT.out
         unfold enterK wtK
         simp only [List.length_drop, List.length_nil] at *
         omega
       · have a1 := HM.out; have a2 := HSL.out; have a3 := HL2.out; have a4 := HLT.out
         simp only [List.length_drop] at *
         rw [if_neg (by omega)]
         omega
   | false =>
     rw [hb] at HQ1 HRR
     rw [tkS_no hb] at HQ1
     rw [if_neg (by simp)] at HRR
     clear hb
     go_wp2_with fail
     refine HQ1.out.mono ?_
     rintro e w1 ⟨rfl, hj1, hk1⟩
     have hs1 := HS.out.to hp hj1 hk1
     have HPL := hid (jplain_ok p X t E O f w1 hj1 hX (fun V hV => HT.out V (hs1.kept.trans' (kept_mono hV fun q e => by
       rcases e with e | e
       · exact .inl e
       · exact .inr (Nat.le_trans (Nat.le_of_lt hs1.lt) e)))))
     have HS2 := hid hs1
     clear hj1 hk1 hs1 HS HQ1
     cases hpl : plainL t with
     | none =>
       rw [hpl] at HPL HRR
       obtain rfl : R = none := HRR.out
       clear hpl HRR
       go_wp2_with fail
       refine HPL.out.mono ?_
       rintro e w2 ⟨rfl, hk2⟩
       have HB2 := hid (HS2.out.bad (kept_mono hk2 fun q e => .inl e))
       clear hk2
       go_wp2_with fail
       exact ⟨rfl, rfl, HB2.out⟩
     | some y =>
       obtain ⟨v, a, g, r⟩ := y
       obtain ⟨vk, vb, vd, vt, rfl⟩ := plainL_form hpl
       have HLP := hid (plainL_len hpl)
       rw [hpl] at HPL HRR
       clear hpl
       have HRR2 : Hid (R = runJ (.behind (.mk vk vb vd vt [] [])) K { f with alone := f.alone || a, far := f.far || g } r) := hid HRR.out
       clear HRR
       have HP2 : Hid (∀ e w', PPost w1 p X E O f (some (.mk vk vb vd vt [] [], a, g, r)) e w' -> e = .returned (.agg (jvC vk vb vd vt (.slice none 0 0) (.slice none 0 0))) /\ JAt w' p X r E O { f with alone := f.alone || a, far := f.far || g } /\ Kept (· = p) w1 w') := hid fun e w' h => h
       obtain ⟨cs, hcs⟩ : ∃ cs, cs = jvC vk vb vd vt (.slice none 0 0) (.slice none 0 0) := ⟨_, rfl⟩
       rw [<- hcs] at HP2
       have h8 : cs.size = 8 := by rw [hcs]; rfl
       have HCS : Hid (∀ (W : World) (F : Nat -> Prop), JIs W F (.mk vk vb vd vt [] []) cs.toList) := hid fun W F => by rw [hcs]; exact plain_jis W F vk vb vd vt
       have HONE : Hid (cs.all (·.oneCell') = true) := hid (by have := all_oneCell_toArray (jv_one (HCS.out w1 (fun _ => False))); simpa using this)
       have HIN : Hid ((Tryz.prog.info? 28).map (·.size) = some cs.size) := hid (by rw [h8]; exact infoJ)
       have H8 := hid h8
       clear hcs h8
       go_wp2_with fail
       refine HPL.out.mono ?_
       intro e w2 hpp
       obtain ⟨rfl, hj2, hk2⟩ := HP2.out e w2 hpp
       have hs3 := HS2.out.to hp hj2 hk2
       have hth := hs3.there
       rw [<- H8.out] at hth
       have HTH := hid hth
       have HL3 := hid (hs3.laid H0.out H8.out)
       clear hpp hj2 hk2 hs3 hth HPL HP2 HS2
       go_wp2_with (
         refine wpList_store_mid ?_ 28 (.tmp 2) (.tmp 18) ?_ w.heap.size 0 cs ?_ ?_ HTH.out HIN.out HONE.out ?_
         · with_reducible rfl
         · with_reducible rfl
         · rfl
         · rfl)
       simp only [Act.put]
       go_step3
       simp only [Exit.then, jumps]
       refine JWM.of (s := r) ?_ HL3.out.1 ?_ ?_
       · kernel_rfl
       · refine ⟨_, cs, HL3.out.2.1, HCS.out _ _, HRR2.out, ?_⟩
         have a1 := HW.out; have a2 := HSL.out; have a3 := HLP.out
         omega
       · have a1 := HM.out; have a2 := HSL.out; have a3 := HLP.out
         rw [if_neg (by omega)]
         omega
theorem wh_name (w : World) (p : Nat) (X : Txt) (s0 : List UInt8) (E0 O0 : Value) (f0 : Fl) (h0 : JAt w p X s0 E0 O0 f0) (hX : X.l.length <= 1048576) (R : Option (JV × Fl)) (m : Nat) (h : Nat -> Value) (own : Nat -> Nat) (K : List Fr) (E O : Value) (f : Fl) (s : List UInt8) (W : World)
   (hs : WhS w p X own K E O f s W) (hR : R = runJ .name K f s) (hK : K ≠ []) (hw : wtK K + s.length <= X.l.length) (hm : 2 * s.length < m + 1) :
   Code.wp Tryz.prog (tailOf (restW 2)) (jumps (JWM w p X R m) (QW w p X R)) ⟨(whF w p h).toArray, []⟩ W := by
 have hp := h0.lt
 obtain ⟨fr, r, rfl⟩ : ∃ fr r, K = fr :: r := by
   cases K with
   | nil => exact absurd rfl hK
   | cons a b => exact ⟨a, b, rfl⟩
 have hN := jname_ok p X s s0 E O E0 O0 f f0 w W own fr r h0 hs.jat hs.stk (Nat.le_of_lt hs.lt) hX (by unfold wtK at hw; omega)
 have HN := hid hN
 have HRR : Hid (R = match nameL s with
     | none => none
     | some (l, a, q) => if tkB [58] (blk q) = true then runJ .value (nameK l (fr :: r)) (nameF l (fr :: r) { f with alone := f.alone || a }) ((blk q).drop 1) else none) := hid (by
   rw [hR, runJ_name]
   unfold nameL
   cases tkB [34] (blk s) <;> rfl)
 have HLN : Hid (∀ l a q, nameL s = some (l, a, q) -> q.length < s.length) := hid (by
   intro l a q e
   unfold nameL at e
   split at e
   · have h1 := letsL_len _ e
     have h2 := blk_len s
     rw [List.length_drop] at h1
     omega
   · cases e)
 have HS := hid hs
 have H0 := hid h0
 have HW := hid hw
 have HM := hid hm
 clear hs h0 hR hw hm hN hK hX
 generalize nameL s = ns at *
 conv => arg 2; whnf
 dsimp only [whF]
 go_wp2_with fail
 refine HN.out.mono ?_
 intro e w1 hp1
 have HP1 := hid hp1
 clear hp1 HN
 cases ns with
 | none =>
   obtain rfl : R = none := HRR.out
   obtain ⟨rfl, hk⟩ := HP1.out
   have HB := hid (HS.out.bad hk)
   clear hk HP1
   go_wp2_with fail
   exact ⟨rfl, rfl, HB.out⟩
 | some y =>
   obtain ⟨l, a, q⟩ := y
   have HR2 : Hid (R = if tkB [58] (blk q) = true then runJ .value (nameK l (fr :: r)) (nameF l (fr :: r) { f with alone := f.alone || a }) ((blk q).drop 1) else none) := hid HRR.out
   obtain ⟨rfl, own2, hst, hj, hsti⟩ := HP1.out
   have hs2 := HS.out.stkTo hp hst hj hsti.kept ((hsti.own _ HS.out.lt).trans HS.out.rv3)
   have HQ := hid (jmust_ok p X [58] q E O _ w1 hj)
   have HML : Hid (mustL [58] q = if tkB [58] (blk q) = true then some ((blk q).drop 1) else none) := hid (by
     unfold mustL sgB sgS tkS
     cases tkB [58] (blk q) <;> rfl)
   have HS2 := hid hs2
   have HLQ := hid (HLN.out l a q rfl)
   have HBQ := hid (blk_len q)
   clear hst hj hsti hs2 HP1 HRR HLN
   generalize mustL [58] q = ms at *
   generalize blk q = bq at *
   go_wp2_with fail
   refine HQ.out.mono ?_
   intro e w2 hp2
   have HP2 := hid hp2
   clear hp2 HQ
   cases hb : tkB [58] bq with
   | false =>
     rw [hb] at HML HR2
     obtain rfl : ms = none := by rw [HML.out]; rfl
     obtain rfl : R = none := by rw [HR2.out]; rfl
     obtain ⟨rfl, hk⟩ := HP2.out
     have HB := hid (HS2.out.bad (kept_mono hk fun q e => .inl e))
     clear hk HP2 hb
     go_wp2_with fail
     exact ⟨rfl, rfl, HB.out⟩
   | true =>
     rw [hb, if_pos rfl] at HML HR2
     obtain rfl : ms = some (bq.drop 1) := HML.out
     obtain ⟨rfl, hj, hk⟩ := HP2.out
     have HS3 := hid (HS2.out.to hp hj hk)
     clear hj hk HP2 hb
     go_wp2_with fail
     go_step3
     simp only [Exit.then, jumps]
     refine JWM.of (s := bq.drop 1) ?_ HS3.out ?_ ?_
     · kernel_rfl
     · refine ⟨HR2.out, ?_⟩
       have a1 := HW.out; have a2 := HLQ.out; have a3 := HBQ.out; have a4 := wtK_name l (fr :: r)
       rw [List.length_drop]
       omega
     · have a1 := HM.out; have a2 := HLQ.out; have a3 := HBQ.out
       rw [if_neg (by omega), List.length_drop]
       omega
end Go.Proofs.YtmhbkjjkalnggaaGreatDoor
