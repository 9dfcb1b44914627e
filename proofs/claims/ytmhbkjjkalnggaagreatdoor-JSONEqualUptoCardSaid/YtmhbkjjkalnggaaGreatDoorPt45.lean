import Derived.Test.YtmhbkjjkalnggaaGreatDoorPt41
set_option maxRecDepth 1000000
set_option maxHeartbeats 8000000
namespace Go.Proofs.YtmhbkjjkalnggaaGreatDoor
open Go.RowKit Go.MapKept Go.Maps
def IsIdx (w : World) (b : Nat) (S : List (List UInt8)) : Prop :=
 ∃ es clock, w.heap[b]? = some (.map es clock) /\ Stamped es clock /\ es.toList.map (·.key) = S.map keyV /\ (∀ (j : Nat) (x : MapEntry), es.toList[j]? = some x -> x.val = .int .i64 (j : Int)) /\ ∀ k ∈ S, k.length <= maxLen
section
variable {F : Nat -> Prop} {w w' : World} {b : Nat} {S : List (List UInt8)}
theorem IsIdx.heap (h : IsIdx w b S) (hk : ∀ o, w.heap[b]? = some o -> w'.heap[b]? = some o) : IsIdx w' b S := by
 obtain ⟨es, clock, hb, r⟩ := h; exact ⟨es, clock, hk _ hb, r⟩
theorem IsIdx.below (h : IsIdx w b S) (hb : Below w.heap.size w w') : IsIdx w' b S := h.heap fun _ ho => (hb.block b (lt_of_heap ho)).trans ho
theorem IsIdx.new (w : World) : IsIdx (w.alloc (.map #[] 0)) w.heap.size [] :=
 ⟨#[], 0, heap_alloc_new w _, stamped_empty 0, by simp, fun j x h => by simp at h, by simp⟩
theorem IsIdx.at {es : Array MapEntry} (h : es.toList.map (·.key) = S.map keyV) {j : Nat} {x : MapEntry} (hx : es.toList[j]? = some x) {l : List UInt8} (hk : x.key = keyV l) : S[j]? = some l := by
 have h1 : (es.toList.map (·.key))[j]? = some (keyV l) := by rw [List.getElem?_map, hx]; exact congrArg some hk
 rw [h, List.getElem?_map] at h1
 cases hs : S[j]? with
 | none => rw [hs] at h1; cases h1
 | some y =>
   rw [hs] at h1
   injection h1 with h1
   rw [keyV_inj h1]
theorem IsIdx.look (h : IsIdx w b S) (hn : S.Nodup) {l : List UInt8} (hl : l.length <= maxLen) : (Instr.lookup 91 (.map (some b)) (.string (bs l)) true).run Tryz.prog w = .ok (.tuple #[.int .i64 (if S.contains l then (S.idxOf l : Int) else 0), .bool (S.contains l)]) w := by
 obtain ⟨es, clock, hb, hst, hks, hvs, hln⟩ := h
 have hkey := keyOfS hl
 have hmk := IsSet.mem_key hks l
 unfold keyV at hkey hmk
 have hz : (zeroValue 3).run Tryz.prog w = .ok (.int .i64 0) w := by kernel_rfl
 rcases keyLawS.find w hkey es.toList (IsSet.keys es hks hln) with ⟨h1, h2⟩ | ⟨j, e0, h1, h2, h3⟩
 · have hn : S.contains l = false := by
     rw [<- Bool.not_eq_true, List.contains_iff_mem]
     rw [<- hmk]
     rintro ⟨x, hx, e⟩
     exact h2 x hx e
   rw [hn]
   simp [Instr.lookup, run_underlying Tryz.underlying91, MapKept.run_getObj_map hb, keyLawS.check w _ hkey, h1, hz, Result.andThen]
 · have hc : S.contains l = true := by
     rw [List.contains_iff_mem, <- hmk]
     exact ⟨e0, List.mem_of_getElem? h2, h3⟩
   have hj := IsIdx.at hks h2 h3
   have hidx : S.idxOf l = j := by
     obtain ⟨hj1, hj2⟩ := List.getElem?_eq_some_iff.1 hj
     have h9 := hn.idxOf_getElem j hj1
     rw [hj2] at h9
     exact h9
   rw [hc, hidx]
   have hv := hvs j e0 h2
   simp [Instr.lookup, run_underlying Tryz.underlying91, MapKept.run_getObj_map hb, keyLawS.check w _ hkey, h1, hv, Result.andThen]
theorem IsIdx.put (h : IsIdx w b S) {l : List UInt8} (hl : l.length <= maxLen) (hn : l ∉ S) :
   ∃ w', (Instr.mapUpdate 91 (.map (some b)) (.string (bs l)) (.int .i64 (S.length : Int))).run Tryz.prog w = .ok () w' /\ IsIdx w' b (S ++ [l]) /\ Kept (· = b) w w' := by
 obtain ⟨es, clock, hb, hst, hks, hvs, hln⟩ := h
 have hkey := keyOfS hl
 have hmk := IsSet.mem_key hks l
 unfold keyV at hkey hmk
 have hkept : ∀ o : Obj, Kept (· = b) w { w with heap := w.heap.setIfInBounds b o } := fun o => ⟨rfl, rfl, rfl, by simp, fun i hi hne => by
   show (w.heap.setIfInBounds b o)[i]? = _
   rw [Array.getElem?_setIfInBounds, if_neg (fun e => hne e.symm)]⟩
 have hnew : ∀ o : Obj, ({ w with heap := w.heap.setIfInBounds b o } : World).heap[b]? = some o := fun o => by
   show (w.heap.setIfInBounds b o)[b]? = _
   rw [Array.getElem?_setIfInBounds, if_pos rfl, if_pos (lt_of_heap hb)]
 have hlen : es.toList.length = S.length := by
   have := congrArg List.length hks
   simpa using this
 rcases keyLawS.find w hkey es.toList (IsSet.keys es hks hln) with ⟨h1, h2⟩ | ⟨j, e0, h1, h2, h3⟩
 · refine ⟨_, by simp [Instr.mapUpdate, run_underlying Tryz.underlying91, MapKept.run_getObj_map hb, keyLawS.check w false hkey, h1, MapKept.run_setObj_map _ hb, Result.andThen]; rfl, ?_, hkept _⟩
   refine ⟨_, _, hnew _, stamped_push hst h2, ?_, ?_, ?_⟩
   · rw [List.map_append]
     simp only [Array.toList_push, List.map_append, hks]
     rfl
   · intro j x hx
     simp only [Array.toList_push] at hx
     rcases Nat.lt_or_ge j es.toList.length with hj | hj
     · rw [List.getElem?_append_left hj] at hx
       exact hvs j x hx
     · rw [List.getElem?_append_right hj] at hx
       have hj0 : j - es.toList.length = 0 := by
         have := (List.getElem?_eq_some_iff.1 hx).1
         simp only [List.length_cons, List.length_nil] at this
         omega
       rw [hj0] at hx
       simp only [gC, Option.some.injEq] at hx
       rw [<- hx]
       have : j = S.length := by omega
       rw [this]
   · intro k hk
     rcases List.mem_append.1 hk with hk | hk
     · exact hln k hk
     · rw [List.mem_singleton.1 hk]; exact hl
 · exact absurd (hmk.1 ⟨e0, List.mem_of_getElem? h2, h3⟩) hn
theorem wpList_putI {ops : Array Oper} {rest : List Oper} {o : Oper} {a : Act} {w : World} {Q : Exit -> Act -> World -> Prop} (hgd : o.guard = none) (m x v : Operand) (hop : o.op = .mapUpdate 91 m x v) (b : Nat) (S : List (List UInt8)) (hown : IsIdx w b S)
   (l : List UInt8) (hm : a.eval m = .map (some b)) (hx : a.eval x = .string (bs l)) (hv : a.eval v = .int .i64 (S.length : Int)) (hl : l.length <= maxLen) (hn : l ∉ S)
   (h : ∀ w', IsIdx w' b (S ++ [l]) -> Kept (· = b) w w' -> wpList Tryz.prog ops Q rest (a.put o.dst undef) w') : wpList Tryz.prog ops Q (o :: rest) a w :=
 wpList_plain hgd fun _ hK => by
   obtain ⟨w', hr, h1, h2⟩ := hown.put hl hn
   unfold Oper.wp
   simp [execOp, hop, hm, hx, hv, hr, Result.andThen]
   exact hK _ _ (h w' h1 h2)
theorem run_makeMapI (n : Int) (W : World) : (Instr.makeMap 91 (some (.int .i64 n))).run Tryz.prog W = .ok (.map (some W.heap.size)) (W.alloc (.map #[] 0)) := by
 simp [Instr.makeMap, run_underlying Tryz.underlying91, asIntOf, go_sem]
end
end Go.Proofs.YtmhbkjjkalnggaaGreatDoor
namespace Go.Proofs.YtmhbkjjkalnggaaGreatDoor
open Go.RowKit
def SamC (g1 o1 g2 o2 : Nat) (k k' : Int) (b b' : Bool) (d d' : Dec) (t t' : List UInt8) (L N L' N' : Value) (V : World) : Prop :=
 (V.cell? ⟨g1, o1, none⟩ = some (.int .i64 k) /\ V.cell? ⟨g1, o1 + 1, none⟩ = some (.bool b) /\ V.cell? ⟨g1, o1 + 2, none⟩ = some (.bool d.neg) /\ V.cell? ⟨g1, o1 + 3, none⟩ = some (.string (bs d.digits)) /\ V.cell? ⟨g1, o1 + 4, none⟩ = some (.int .i64 d.exp) /\ V.cell? ⟨g1, o1 + 5, none⟩ = some (.string (bs t)) /\ V.cell? ⟨g1, o1 + 6, none⟩ = some L /\ V.cell? ⟨g1, o1 + 7, none⟩ = some N) /\
 (V.cell? ⟨g2, o2, none⟩ = some (.int .i64 k') /\ V.cell? ⟨g2, o2 + 1, none⟩ = some (.bool b') /\ V.cell? ⟨g2, o2 + 2, none⟩ = some (.bool d'.neg) /\ V.cell? ⟨g2, o2 + 3, none⟩ = some (.string (bs d'.digits)) /\ V.cell? ⟨g2, o2 + 4, none⟩ = some (.int .i64 d'.exp) /\ V.cell? ⟨g2, o2 + 5, none⟩ = some (.string (bs t')) /\ V.cell? ⟨g2, o2 + 6, none⟩ = some L' /\ V.cell? ⟨g2, o2 + 7, none⟩ = some N')
theorem bs_ne {a b : List UInt8} (h : a ≠ b) : ((bs a).toList == (bs b).toList) = false := by
 rw [bs_toList, bs_toList, beq_eq_false_iff_ne]
 exact h
theorem same_head (g1 o1 g2 o2 : Nat) (k k' : Int) (b b' : Bool) (d d' : Dec) (t t' : List UInt8) (A B A' B' : Option Addr) (n c m c1 n' c2 m' c3 : Nat) (w : World)
   (h : SamC g1 o1 g2 o2 k k' b b' d d' t t' (.slice A n c) (.slice B m c1) (.slice A' n' c2) (.slice B' m' c3) w)
   (hne : k ≠ k' ∨ b ≠ b' ∨ d ≠ d' ∨ t ≠ t' ∨ n ≠ n') :
   Calls Tryz.prog 45 #[.pointer (some ⟨g1, o1, none⟩), .pointer (some ⟨g2, o2, none⟩)] w fun e w' => e = .returned (.bool false) /\ Below w.heap.size w w' := by
 obtain ⟨⟨a0, a1, a2, a3, a4, a5, a6, a7⟩, b0, b1, b2, b3, b4, b5, b6, b7⟩ := h
 obtain ⟨dn, dl, dx⟩ := d
 obtain ⟨dn', dl', dx'⟩ := d'
 simp only at a2 a3 a4 b2 b3 b4
 have sk : ∀ k : Int, (k != k) = false := fun k => by simp
 by_cases ek : k = k'
 · subst ek
   have g0 := sk k
   by_cases eb : b = b'
   · subst eb
     have g1 : (b != b) = false := by simp
     by_cases e1 : dn = dn'
     · subst e1
       by_cases e2 : dl = dl'
       · subst e2
         by_cases e3 : dx = dx'
         · subst e3
           by_cases et : t = t'
           · subst et
             have en : ((n : Int) != (n' : Int)) = true := by
               rw [bne_iff_ne]
               intro e
               rcases hne with h | h | h | h | h
               · exact h rfl
               · exact h rfl
               · exact h rfl
               · exact h rfl
               · omega
             clear hne
             go_enter Tryz.func45, Tryz.ntmps45
             go_upto_region 1 with fail
             go_quiet (fail)
             go_wp2
             go_ret
             exact ⟨rfl, below_drewN (Below.refl _ _) _⟩
           · have e9 := bs_ne et
             clear hne et
             go_enter Tryz.func45, Tryz.ntmps45
             go_upto_region 1 with fail
             go_quiet (fail)
             go_wp2
             go_ret
             exact ⟨rfl, below_drewN (Below.refl _ _) _⟩
         · have e9 : (dx == dx') = false := by rw [beq_eq_false_iff_ne]; exact e3
           clear hne e3
           go_enter Tryz.func45, Tryz.ntmps45
           go_upto_region 1 with fail
           go_quiet (fail)
           go_wp2
           go_ret
           exact ⟨rfl, below_drewN (Below.refl _ _) _⟩
       · have e9 := bs_ne e2
         clear hne e2
         go_enter Tryz.func45, Tryz.ntmps45
         go_upto_region 1 with fail
         go_quiet (fail)
         go_wp2
         go_ret
         exact ⟨rfl, below_drewN (Below.refl _ _) _⟩
     · clear hne
       cases dn <;> cases dn' <;> first
         | exact absurd rfl e1
         | (clear e1
            go_enter Tryz.func45, Tryz.ntmps45
            go_upto_region 1 with fail
            go_quiet (fail)
            go_wp2
            go_ret
            exact ⟨rfl, below_drewN (Below.refl _ _) _⟩)
   · clear hne
     cases b <;> cases b' <;> first
       | exact absurd rfl eb
       | (clear eb
          go_enter Tryz.func45, Tryz.ntmps45
          go_upto_region 1 with fail
          go_quiet (fail)
          go_wp2
          go_ret
          exact ⟨rfl, below_drewN (Below.refl _ _) _⟩)
 · have e9 : (k != k') = true := by rw [bne_iff_ne]; exact ek
   clear hne ek
   go_enter Tryz.func45, Tryz.ntmps45
   go_upto_region 1 with fail
   go_quiet (fail)
   go_wp2
   go_ret
   exact ⟨rfl, below_drewN (Below.refl _ _) _⟩
end Go.Proofs.YtmhbkjjkalnggaaGreatDoor
