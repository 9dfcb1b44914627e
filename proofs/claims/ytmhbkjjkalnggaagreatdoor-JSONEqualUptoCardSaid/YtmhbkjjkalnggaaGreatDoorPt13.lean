import Derived.Test.YtmhbkjjkalnggaaGreatDoorPt12
namespace Go.Proofs.YtmhbkjjkalnggaaGreatDoor
open Go.RowKit
set_option maxRecDepth 100000
set_option maxHeartbeats 2000000
theorem jroom_ok (g : Nat) (l : List UInt8) (r : Int) (t : TypeId) (w : World) (h : Row w g t #[.int .i64 r]) (hr : 0 <= r) (hr2 : r <= 1048576) (hl : l.length <= 4611686018427387904) :
   Calls Tryz.prog 62 #[.string (bs l), .pointer (some ⟨g, 0, none⟩)] w fun e w' =>
     (((l.length : Int) <= r /\ e = .returned (.tuple #[])) ∨ (r < (l.length : Int) /\ e = .panicked (panicOf 3))) /\ Row w' g t #[.int .i64 (r - l.length)] /\ Kept (· = g) w w' := by
 have c0 := h.cell (i := 0) (v := .int .i64 r) rfl
 have f0 := h.free 0
 have hs := bs_size l
 have hr1 : Row (w.setCell ⟨g, 0, none⟩ (.int .i64 (r - l.length))) g t #[.int .i64 (r - l.length)] := by simpa using h.set_ 0 (.int .i64 (r - l.length))
 have HR := hid hr1
 have HK : Hid (Kept (· = g) w (w.setCell ⟨g, 0, none⟩ (.int .i64 (r - l.length)))) := hid (Kept.cell _ _ _ _)
 have c1 := hr1.cell (i := 0) (v := .int .i64 (r - l.length)) rfl
 clear hr1 h
 generalize l.length = n at *
 by_cases hle : (n : Int) <= r
 · have hd : decide (r - (n : Int) < 0) = false := by simp; omega
   go_enter Tryz.func62, Tryz.ntmps62
   go_wp2
   go_end0
   exact ⟨.inl ⟨hle, rfl⟩, HR.out, HK.out⟩
 · have hd : decide (r - (n : Int) < 0) = true := by simp; omega
   go_enter Tryz.func62, Tryz.ntmps62
   go_wp2
   refine ⟨rfl, ?_⟩
   exact ⟨.inr rfl, HR.out, HK.out⟩
def Laid (I : (Nat -> Prop) -> List UInt8 -> World -> Prop) (own : Nat -> Prop) (w : World) (t : List UInt8) (w' : World) : Prop :=
 ∃ own', I own' t w' /\ Kept own w w' /\ ∀ q, own' q -> own q ∨ w.heap.size <= q
def LayPost (I : (Nat -> Prop) -> List UInt8 -> World -> Prop) (Bad : List PanicEntry -> List UInt8 -> Prop) (own : Nat -> Prop) (w : World) (t : List UInt8) (e : Ending) (w' : World) : Prop :=
 (e = .returned (.tuple #[]) /\ Laid I own w t w') ∨ ∃ π, e = .panicked π /\ Bad π t /\ Kept own w w'
structure LayC (F : Nat) (caps : Array Value) (I : (Nat -> Prop) -> List UInt8 -> World -> Prop) (Bad : List PanicEntry -> List UInt8 -> Prop) (Ok : List UInt8 -> Prop) : Prop where
 call : ∀ own t p W, I own t W -> p.length <= 4611686018427387904 -> Ok (t ++ p) -> Calls Tryz.prog F (#[.string (bs p)] ++ caps) W (LayPost I Bad own W (t ++ p))
 stay : ∀ own t W W', I own t W -> Kept (fun q => ¬ own q) W W' -> I own t W'
 lt : ∀ own t W q, I own t W -> own q -> q < W.heap.size
 mono : ∀ π a b, Bad π a -> Bad π (a ++ b)
 ok : ∀ a b, Ok (a ++ b) -> Ok a
section
variable {I : (Nat -> Prop) -> List UInt8 -> World -> Prop} {Bad : List PanicEntry -> List UInt8 -> Prop} {own own' : Nat -> Prop} {w w' w'' : World} {t u : List UInt8}
end
theorem dec_high (s : ByteArray) (i : Nat) (h : i < s.size) (ha : 128 <= (s.get! i).toNat) : ∀ j, j < (Utf8.decode s i).2 -> i + j < s.size /\ 128 <= (s.get! (i + j)).toNat := by
 intro j hj
 have hn : ¬ (s.get! (i + 0)).toNat < 128 := by rw [Nat.add_zero]; omega
 have h0 : j = 0 -> i + j < s.size /\ 128 <= (s.get! (i + j)).toNat := fun e => by subst e; exact ⟨h, ha⟩
 have hc : ∀ k, (decide (i + k < s.size) && (s.get! (i + k)).toNat / 64 == 2) = true -> i + k < s.size /\ 128 <= (s.get! (i + k)).toNat := fun k hk => by
   simp only [Bool.and_eq_true, decide_eq_true_eq, beq_iff_eq] at hk
   exact ⟨hk.1, by omega⟩
 unfold Utf8.decode at hj
 simp only [hn, if_false] at hj
 split at hj
 · rename_i h2
   have h2 := (Bool.and_eq_true_iff.1 h2).2
   have c1 := hc 1 h2
   split at hj
   · simp only at hj
     rcases (show j = 0 ∨ j = 1 by omega) with e | e
     · exact h0 e
     · subst e; exact c1
   · simp only at hj; exact h0 (by omega)
 · split at hj
   · rename_i h2
     have h3 := (Bool.and_eq_true_iff.1 h2).2
     have c2 := hc 2 h3
     have c1 := hc 1 (Bool.and_eq_true_iff.1 (Bool.and_eq_true_iff.1 h2).1).2
     split at hj
     · simp only at hj
       rcases (show j = 0 ∨ j = 1 ∨ j = 2 by omega) with e | e | e
       · exact h0 e
       · subst e; exact c1
       · subst e; exact c2
     · simp only at hj; exact h0 (by omega)
   · split at hj
     · rename_i h2
       have c3 := hc 3 (Bool.and_eq_true_iff.1 h2).2
       have h2 := (Bool.and_eq_true_iff.1 h2).1
       have c2 := hc 2 (Bool.and_eq_true_iff.1 h2).2
       have c1 := hc 1 (Bool.and_eq_true_iff.1 (Bool.and_eq_true_iff.1 h2).1).2
       split at hj
       · simp only at hj
         rcases (show j = 0 ∨ j = 1 ∨ j = 2 ∨ j = 3 by omega) with e | e | e | e
         · exact h0 e
         · subst e; exact c1
         · subst e; exact c2
         · subst e; exact c3
       · simp only at hj; exact h0 (by omega)
     · simp only at hj; exact h0 (by omega)
theorem bs_get (l : List UInt8) (i : Nat) (h : i < l.length) : (bs l).get! i = l.getD i 0 := by
 simp [bs, ByteArray.get!, getElem!_pos, h, List.getD]
theorem dec_bs (l : List UInt8) (i : Nat) (h : i < l.length) :
   ((l.getD i 0).toNat < 128 /\ Utf8.decode (bs l) i = ((l.getD i 0).toNat, 1)) ∨
   (128 <= (l.getD i 0).toNat /\ 128 <= (Utf8.decode (bs l) i).1 /\ (Utf8.decode (bs l) i).1 <= 2147483647 /\ 1 <= (Utf8.decode (bs l) i).2 /\ ∀ j, j < (Utf8.decode (bs l) i).2 -> i + j < l.length /\ 128 <= (l.getD (i + j) 0).toNat) := by
 have hs : i < (bs l).size := by rw [bs_size]; exact h
 have hg := bs_get l i h
 have e0 : (bs l)[i]'hs = l.getD i 0 := by rw [<- hg]; simp [ByteArray.get!, getElem!_pos, hs]; rfl
 by_cases ha : (l.getD i 0).toNat < 128
 · left
   refine ⟨ha, ?_⟩
   rw [decode_ascii (bs l) i hs (by rw [e0]; exact ha), e0]
 · right
   have hh := decode_high (bs l) i hs (by rw [e0]; omega)
   refine ⟨by omega, hh.1, decode_le _ _, hh.2, fun j hj => ?_⟩
   have := dec_high (bs l) i hs (by rw [hg]; omega) j hj
   rw [bs_size] at this
   refine ⟨this.1, ?_⟩
   rw [<- bs_get l (i + j) this.1]
   exact this.2
theorem take_succ_getDj (l : List UInt8) (k : Nat) (h : k < l.length) : l.take (k + 1) = l.take k ++ [l.getD k 0] := by
 rw [List.take_add_one, List.getElem?_eq_getElem h]
 simp [List.getD, List.getElem?_eq_getElem h]
def plainB (b : UInt8) : Prop := ¬ b.toNat < 32 /\ b ≠ 34 /\ b ≠ 92
theorem escL_plain {b : UInt8} (h : plainB b) : escL b = [b] := by
 obtain ⟨h1, h2, h3⟩ := h
 unfold escL
 have e8 : b ≠ 8 := fun e => h1 (by subst e; decide)
 have e12 : b ≠ 12 := fun e => h1 (by subst e; decide)
 have e10 : b ≠ 10 := fun e => h1 (by subst e; decide)
 have e13 : b ≠ 13 := fun e => h1 (by subst e; decide)
 have e9 : b ≠ 9 := fun e => h1 (by subst e; decide)
 rw [if_neg h2, if_neg h3, if_neg e8, if_neg e12, if_neg e10, if_neg e13, if_neg e9, if_neg h1]
theorem esc_plain (l : List UInt8) (a : Nat) : ∀ b, a <= b -> b <= l.length -> (∀ j, a <= j -> j < b -> plainB (l.getD j 0)) -> (l.take b).flatMap escL = (l.take a).flatMap escL ++ (l.take b).drop a := by
 intro b
 induction b with
 | zero => intro h1 _ _; obtain rfl : a = 0 := by omega
           simp
 | succ b ih =>
   intro h1 h2 h3
   by_cases h4 : a = b + 1
   · subst h4
     rw [List.drop_of_length_le (by rw [List.length_take]; omega), List.append_nil]
   · have hb : b < l.length := by omega
     rw [take_succ_getDj l b hb, List.flatMap_append, ih (by omega) (by omega) (fun j h5 h6 => h3 j h5 (by omega)), List.drop_append_of_le_length (by rw [List.length_take]; omega), List.append_assoc]
     congr 1
     simp only [List.flatMap_cons, List.flatMap_nil, List.append_nil]
     rw [escL_plain (h3 b (by omega) (by omega))]
open Go.RowKit Go.MapKept Go.Maps
theorem keyLawS : Keyed Tryz.prog 9 := string_keyed Tryz.underlying9
def keyV (k : List UInt8) : Value := .string (bs k)
theorem keyV_inj {a b : List UInt8} (h : keyV a = keyV b) : a = b := by
 unfold keyV at h
 injection h with h
 have h2 : (bs a).data = (bs b).data := congrArg ByteArray.data h
 simpa [bs] using h2
theorem keyOfS {k : List UInt8} (h : k.length <= maxLen) : keyOf Tryz.prog 9 (keyV k) = some (.string k) := by
 have := WideMaps.keyOf_string_mk (P := Tryz.prog) (k := 9) Tryz.underlying9 (s := bs k) (by rw [bs_size]; exact h)
 simpa [bs, keyV] using this
def IsSet (w : World) (b : Nat) (S : List (List UInt8)) : Prop :=
 ∃ es clock, w.heap[b]? = some (.map es clock) /\ Stamped es clock /\ es.toList.map (·.key) = S.map keyV /\ (∀ x ∈ es.toList, x.val = .agg #[]) /\ ∀ k ∈ S, k.length <= maxLen
def addS (S : List (List UInt8)) (l : List UInt8) : List (List UInt8) := if S.contains l then S else S ++ [l]
section
variable {F : Nat -> Prop} {w w' : World} {b : Nat} {S : List (List UInt8)}
theorem IsSet.lt (h : IsSet w b S) : b < w.heap.size := by obtain ⟨es, clock, hb, _⟩ := h; exact lt_of_heap hb
theorem IsSet.heap (h : IsSet w b S) (hk : ∀ o, w.heap[b]? = some o -> w'.heap[b]? = some o) : IsSet w' b S := by
 obtain ⟨es, clock, hb, r⟩ := h; exact ⟨es, clock, hk _ hb, r⟩
theorem IsSet.kept (h : IsSet w b S) (hk : Kept F w w') (hb : ¬ F b) : IsSet w' b S := h.heap fun _ ho => hk.heap ho hb
theorem IsSet.below (h : IsSet w b S) (hb : Below w.heap.size w w') : IsSet w' b S := h.heap fun _ ho => (hb.block b (lt_of_heap ho)).trans ho
theorem IsSet.new (w : World) : IsSet (w.alloc (.map #[] 0)) w.heap.size [] :=
 ⟨#[], 0, heap_alloc_new w _, stamped_empty 0, by simp, by simp, by simp⟩
theorem IsSet.keys (es : Array MapEntry) (h : es.toList.map (·.key) = S.map keyV) (h2 : ∀ k ∈ S, k.length <= maxLen) : ∀ x ∈ es.toList, ∃ l, keyOf Tryz.prog 9 x.key = some l := fun x hx => by
 have hm : x.key ∈ S.map keyV := h ▸ List.mem_map_of_mem hx
 obtain ⟨k, hk, e⟩ := List.mem_map.1 hm
 exact ⟨_, by rw [<- e]; exact keyOfS (h2 k hk)⟩
theorem IsSet.mem_key {es : Array MapEntry} (h : es.toList.map (·.key) = S.map keyV) (l : List UInt8) : (∃ x ∈ es.toList, x.key = keyV l) ↔ l ∈ S := by
 constructor
 · rintro ⟨x, hx, e⟩
   have hm : x.key ∈ S.map keyV := h ▸ List.mem_map_of_mem hx
   obtain ⟨k, hk, e2⟩ := List.mem_map.1 hm
   rwa [keyV_inj (e.symm.trans e2.symm)]
 · intro hl
   have hm : keyV l ∈ es.toList.map (·.key) := by rw [h]; exact List.mem_map_of_mem hl
   obtain ⟨x, hx, e⟩ := List.mem_map.1 hm
   exact ⟨x, hx, e⟩
theorem IsSet.look (h : IsSet w b S) {l : List UInt8} (hl : l.length <= maxLen) : (Instr.lookup 109 (.map (some b)) (.string (bs l)) true).run Tryz.prog w = .ok (.tuple #[.agg #[], .bool (S.contains l)]) w := by
 obtain ⟨es, clock, hb, hst, hks, hvs, hln⟩ := h
 have hkey := keyOfS hl
 have hmk := IsSet.mem_key hks l
 unfold keyV at hkey hmk
 rcases keyLawS.find w hkey es.toList (IsSet.keys es hks hln) with ⟨h1, h2⟩ | ⟨j, e0, h1, h2, h3⟩
 · have hn : S.contains l = false := by
     rw [<- Bool.not_eq_true, List.contains_iff_mem]
     rw [<- hmk]
     rintro ⟨x, hx, e⟩
     exact h2 x hx e
   rw [hn]
   simp [Instr.lookup, run_underlying Tryz.underlying109, MapKept.run_getObj_map hb, keyLawS.check w _ hkey, h1, Result.andThen]
 · have hn : S.contains l = true := by
     rw [List.contains_iff_mem, <- hmk]
     exact ⟨e0, List.mem_of_getElem? h2, h3⟩
   rw [hn]
   have hv := hvs e0 (List.mem_of_getElem? h2)
   simp [Instr.lookup, run_underlying Tryz.underlying109, MapKept.run_getObj_map hb, keyLawS.check w _ hkey, h1, hv, Result.andThen]
theorem IsSet.put (h : IsSet w b S) {l : List UInt8} (hl : l.length <= maxLen) :
   ∃ w', (Instr.mapUpdate 109 (.map (some b)) (.string (bs l)) (.agg #[])).run Tryz.prog w = .ok () w' /\ IsSet w' b (addS S l) /\ Kept (· = b) w w' := by
 obtain ⟨es, clock, hb, hst, hks, hvs, hln⟩ := h
 have hkey := keyOfS hl
 have hmk := IsSet.mem_key hks l
 unfold keyV at hkey hmk
 have hkept : ∀ o : Obj, Kept (· = b) w { w with heap := w.heap.setIfInBounds b o } := fun o => ⟨rfl, rfl, rfl, by simp, fun i hi hne => by
   show (w.heap.setIfInBounds b o)[i]? = _
   rw [Array.getElem?_setIfInBounds, if_neg (fun e => hne e.symm)]⟩
 have hnew : ∀ o : Obj, ({ w with heap := w.heap.setIfInBounds b o } : World).heap[b]? = some o := fun o => by
   show (w.heap.setIfInBounds b o)[b]? = _
   rw [Array.getElem?_setIfInBounds, if_pos rfl, if_pos (lt_of_heap hb)]
 rcases keyLawS.find w hkey es.toList (IsSet.keys es hks hln) with ⟨h1, h2⟩ | ⟨j, e0, h1, h2, h3⟩
 · have hn : S.contains l = false := by
     rw [<- Bool.not_eq_true, List.contains_iff_mem]
     rw [<- hmk]
     rintro ⟨x, hx, e⟩
     exact h2 x hx e
   refine ⟨_, by simp [Instr.mapUpdate, run_underlying Tryz.underlying109, MapKept.run_getObj_map hb, keyLawS.check w false hkey, h1, MapKept.run_setObj_map _ hb, Result.andThen]; rfl, ?_, hkept _⟩
   refine ⟨_, _, hnew _, stamped_push hst h2, ?_, ?_, ?_⟩
   · unfold addS
     rw [hn, if_neg (by simp), List.map_append]
     simp only [Array.toList_push, List.map_append, hks]
     rfl
   · intro x hx
     simp only [Array.toList_push, List.mem_append, List.mem_singleton] at hx
     rcases hx with hx | rfl
     · exact hvs x hx
     · rfl
   · intro k hk
     unfold addS at hk
     rw [hn, if_neg (by simp)] at hk
     rcases List.mem_append.1 hk with hk | hk
     · exact hln k hk
     · rw [List.mem_singleton.1 hk]; exact hl
 · have hn : S.contains l = true := by
     rw [List.contains_iff_mem, <- hmk]
     exact ⟨e0, List.mem_of_getElem? h2, h3⟩
   have hj : es[j]? = some e0 := by simpa using h2
   refine ⟨_, by simp [Instr.mapUpdate, run_underlying Tryz.underlying109, MapKept.run_getObj_map hb, keyLawS.check w false hkey, h1, hj, h3, keyLawS.stays w hkey, MapKept.run_setObj_map _ hb, Result.andThen]; rfl, ?_, hkept _⟩
   have hk2 : addS S l = S := by unfold addS; rw [hn, if_pos rfl]
   rw [hk2]
   refine ⟨_, _, hnew _, stamped_modify hst _ _ (fun _ _ => rfl) (fun e' _ he' => by rw [hj] at he'; cases he'; exact h3.symm), ?_, ?_, hln⟩
   · rw [modify_keys j _ (fun e' he' => by rw [hj] at he'; cases he'; exact h3.symm)]
     exact hks
   · intro x hx
     have hlist : (es.modify j (fun e' => { e' with key := .string (bs l), val := .agg #[] })).toList = es.toList.set j { e0 with key := .string (bs l), val := .agg #[] } := by
       rw [Array.toList_modify, ChangeMaps.modify_eq_set _ _ _ _ h2]
     rw [hlist] at hx
     rcases List.mem_or_eq_of_mem_set hx with hx | rfl
     · exact hvs x hx
     · rfl
end
def setL (ns : List (List UInt8)) : List (List UInt8) := ns.foldl addS []
theorem setL_snoc (ns : List (List UInt8)) (l : List UInt8) : setL (ns ++ [l]) = addS (setL ns) l := by unfold setL; rw [List.foldl_append]; rfl
theorem mem_addS (S : List (List UInt8)) (l k : List UInt8) : k ∈ addS S l ↔ k ∈ S ∨ k = l := by
 unfold addS
 split
 · rename_i h
   rw [List.contains_iff_mem] at h
   constructor
   · exact .inl
   · rintro (h1 | h1)
     · exact h1
     · rw [h1]; exact h
 · simp
theorem mem_foldl_addS (ns : List (List UInt8)) : ∀ (S : List (List UInt8)) (k : List UInt8), k ∈ ns.foldl addS S ↔ k ∈ S ∨ k ∈ ns := by
 induction ns with
 | nil => intro S k; simp
 | cons l ns ih =>
   intro S k
   rw [List.foldl_cons, ih, mem_addS]
   simp only [List.mem_cons]
   constructor
   · rintro ((h | h) | h)
     · exact .inl h
     · exact .inr (.inl h)
     · exact .inr (.inr h)
   · rintro (h | h | h)
     · exact .inl (.inl h)
     · exact .inl (.inr h)
     · exact .inr h
theorem setL_contains (ns : List (List UInt8)) (l : List UInt8) : (setL ns).contains l = ns.contains l := by
 rw [Bool.eq_iff_iff, List.contains_iff_mem, List.contains_iff_mem]
 unfold setL
 rw [mem_foldl_addS]
 simp
def FB (own : Nat -> Nat) (base i k : Nat) : Prop := own k = i /\ base <= k
def lvC (obj : Bool) (L N M : Value) : List Value := [.int .i64 (if obj then 5 else 4), .bool false, .bool false, .string ⟨#[]⟩, .int .i64 0, .string ⟨#[]⟩, L, N, M]
def JsAt (W : World) (F : Nat -> Prop) : List JV -> List (List Value) -> Prop
 | [], [] => True
 | x :: l, c :: cs => JIs W F x c /\ JsAt W F l cs
 | _, _ => False
def LvAt (W : World) (own : Nat -> Nat) (base i : Nat) (t : Fr) (cs : List Value) : Prop :=
 ∃ L N M css, cs = lvC t.obj L N M /\ JsAt W (FB own base 0) t.list css /\ Lies W (FB own base (4 + 3 * i)) 28 8 L t.list.length css.flatten /\
   Lies W (FB own base (5 + 3 * i)) 9 1 N t.names.length (t.names.map keyV) /\ ((M = .map none /\ t.names = []) ∨ ∃ b, M = .map (some b) /\ FB own base (6 + 3 * i) b /\ IsSet W b (setL t.names))
def LvsAt (W : World) (own : Nat -> Nat) (base : Nat) : Nat -> List Fr -> List (List Value) -> Prop
 | _, [], [] => True
 | i, t :: r, c :: cs => LvAt W own base i t c /\ LvsAt W own base (i + 1) r cs
 | _, _, _ => False
def endB (t : Fr) : UInt8 := if t.obj then 125 else 93
def keptK (K : List Fr) : List Fr := K.reverse.take 64
structure Stk (W : World) (own : Nat -> Nat) (base : Nat) (K : List Fr) (E O : Value) : Prop where
 ends : Lies W (FB own base 1) 5 1 E K.length (u8s (K.reverse.map endB))
 open_ : ∃ css, Lies W (FB own base 2) 120 9 O (keptK K).length css.flatten /\ LvsAt W own base 0 (keptK K) css
mutual
theorem JIs.mono {W : World} {F G : Nat -> Prop} (hf : ∀ k, F k -> k < W.heap.size -> G k) : ∀ (v : JV) (cs : List Value), JIs W F v cs -> JIs W G v cs
 | .mk k b d t l ns, cs, h => by
   unfold JIs at h ⊢
   obtain ⟨A, c, A', c', h1, h2, h3, h4, h5, h6, h7⟩ := h
   exact ⟨A, c, A', c', h1, h2, h3, h4, h5, fun i hi => by
     obtain ⟨g, off, e, e2, e3, e4⟩ := h6 i hi
     exact ⟨g, off, e, hf g e2 e3, e3, e4⟩, KidsAt.mono hf l A 0 h7⟩
theorem KidsAt.mono {W : World} {F G : Nat -> Prop} (hf : ∀ k, F k -> k < W.heap.size -> G k) : ∀ (l : List JV) (A : Option Addr) (i : Nat), KidsAt W F A i l -> KidsAt W G A i l
 | [], _, _, _ => by unfold KidsAt; trivial
 | x :: l, A, i, h => by
   unfold KidsAt at h ⊢
   obtain ⟨⟨g, off, cs, h1, h2, h3, h4, h5⟩, h6⟩ := h
   exact ⟨⟨g, off, cs, h1, hf g h2 h3, h3, h4, JIs.mono hf x cs h5⟩, KidsAt.mono hf l A (i + 1) h6⟩
end
theorem JIs.len {W : World} {F : Nat -> Prop} {v : JV} {cs : List Value} (h : JIs W F v cs) : cs.length = 8 := by
 obtain ⟨k, b, d, t, l, ns⟩ := v
 unfold JIs at h
 obtain ⟨A, c, A', c', rfl, _⟩ := h
 rfl
theorem JsAt.kept {W W' : World} {F G : Nat -> Prop} (hk : Kept G W W') (hd : ∀ q, F q -> ¬ G q) : ∀ (l : List JV) (css : List (List Value)), JsAt W F l css -> JsAt W' F l css
 | [], [], _ => trivial
 | x :: l, c :: cs, h => ⟨JIs.kept hk hd x c h.1, JsAt.kept hk hd l cs h.2⟩
 | [], _ :: _, h => h.elim
 | _ :: _, [], h => h.elim
theorem JsAt.mono {W : World} {F G : Nat -> Prop} (hf : ∀ k, F k -> k < W.heap.size -> G k) : ∀ (l : List JV) (css : List (List Value)), JsAt W F l css -> JsAt W G l css
 | [], [], _ => trivial
 | x :: l, c :: cs, h => ⟨JIs.mono hf x c h.1, JsAt.mono hf l cs h.2⟩
 | [], _ :: _, h => h.elim
 | _ :: _, [], h => h.elim
theorem JsAt.snoc {W : World} {F : Nat -> Prop} {v : JV} {c : List Value} (hv : JIs W F v c) : ∀ (l : List JV) (css : List (List Value)), JsAt W F l css -> JsAt W F (l ++ [v]) (css ++ [c])
 | [], [], _ => ⟨hv, trivial⟩
 | _ :: l, _ :: cs, h => ⟨h.1, JsAt.snoc hv l cs h.2⟩
 | [], _ :: _, h => h.elim
 | _ :: _, [], h => h.elim
theorem JsAt.one : ∀ {W : World} {F : Nat -> Prop} (l : List JV) (css : List (List Value)), JsAt W F l css -> css.flatten.length = l.length * 8
 | _, _, [], [], _ => rfl
 | _, _, x :: l, c :: cs, h => by
   rw [List.flatten_cons, List.length_append, h.1.len, JsAt.one l cs h.2, List.length_cons]; omega
 | _, _, [], _ :: _, h => h.elim
 | _, _, _ :: _, [], h => h.elim
theorem JsAt.kids {W : World} {F G : Nat -> Prop} {g off : Nat} (hg : G g) (hlt : g < W.heap.size) (hfg : ∀ k, F k -> k < W.heap.size -> G k) : ∀ (l : List JV) (css : List (List Value)) (i : Nat), JsAt W F l css -> W.rangeAt g (off + i * 8) css.flatten -> KidsAt W G (some ⟨g, off, none⟩) i l
 | [], _, _, _, _ => by unfold KidsAt; trivial
 | x :: l, c :: cs, i, h, hr => by
   unfold KidsAt
   have hl := h.1.len
   refine ⟨⟨g, off, c, rfl, hg, hlt, fun j v hv => ?_, JIs.mono hfg x c h.1⟩, JsAt.kids hg hlt hfg l cs (i + 1) h.2 fun j v hv => ?_⟩
   · have hj : j < c.length := (List.getElem?_eq_some_iff.1 hv).1
     have := hr j v (by rw [List.flatten_cons, List.getElem?_append_left hj]; exact hv)
     rwa [Nat.add_assoc] at this
   · have := hr (8 + j) v (by rw [List.flatten_cons, List.getElem?_append_right (by omega), hl, Nat.add_sub_cancel_left]; exact hv)
     rwa [show off + i * 8 + (8 + j) = off + (i + 1) * 8 + j by omega] at this
 | _ :: _, [], _, h, _ => h.elim
theorem LvAt.len {W : World} {own : Nat -> Nat} {base i : Nat} {t : Fr} {cs : List Value} (h : LvAt W own base i t cs) : cs.length = 9 := by
 obtain ⟨L, N, M, css, rfl, _⟩ := h
 rfl
theorem LvsAt.snoc {W : World} {own : Nat -> Nat} {base : Nat} {t : Fr} {c : List Value} : ∀ (i : Nat) (l : List Fr) (css : List (List Value)), LvsAt W own base i l css -> LvAt W own base (i + l.length) t c -> LvsAt W own base i (l ++ [t]) (css ++ [c])
 | i, [], [], _, h => ⟨h, trivial⟩
 | i, _ :: l, _ :: cs, h, h2 => ⟨h.1, LvsAt.snoc (i + 1) l cs h.2 (by rwa [show i + 1 + l.length = i + (l.length + 1) by omega])⟩
 | _, [], _ :: _, h, _ => h.elim
 | _, _ :: _, [], h, _ => h.elim
theorem LvsAt.split {W : World} {own : Nat -> Nat} {base : Nat} {t : Fr} : ∀ (i : Nat) (l : List Fr) (css : List (List Value)), LvsAt W own base i (l ++ [t]) css -> ∃ cs0 c, css = cs0 ++ [c] /\ LvsAt W own base i l cs0 /\ LvAt W own base (i + l.length) t c
 | i, [], [d], h => ⟨[], d, rfl, trivial, h.1⟩
 | i, [], d :: e :: cs, h => h.2.elim
 | i, x :: l, d :: cs, h => by
   obtain ⟨cs0, c, e, h1, h2⟩ := LvsAt.split (i + 1) l cs h.2
   exact ⟨d :: cs0, c, by rw [e]; rfl, ⟨h.1, h1⟩, by rwa [show i + (x :: l).length = i + 1 + l.length by simp only [List.length_cons]; omega]⟩
 | _, [], [], h => h.elim
 | _, _ :: _, [], h => h.elim
theorem LvsAt.one : ∀ {W : World} {own : Nat -> Nat} {base : Nat} (i : Nat) (l : List Fr) (css : List (List Value)), LvsAt W own base i l css -> css.flatten.length = l.length * 9
 | _, _, _, _, [], [], _ => rfl
 | _, _, _, i, x :: l, c :: cs, h => by
   rw [List.flatten_cons, List.length_append, h.1.len, LvsAt.one (i + 1) l cs h.2, List.length_cons]; omega
 | _, _, _, _, [], _ :: _, h => h.elim
 | _, _, _, _, _ :: _, [], h => h.elim
structure Still (W W' : World) (G : Nat -> Prop) (own own' : Nat -> Nat) : Prop where
 kept : Kept G W W'
 own : ∀ k, k < W.heap.size -> own' k = own k
section
variable {W W' : World} {G : Nat -> Prop} {own own' : Nat -> Nat} {base : Nat}
theorem FB.to {i k : Nat} (s : Still W W' G own own') (h : FB own base i k) (hk : k < W.heap.size) : FB own' base i k := ⟨(s.own k hk).trans h.1, h.2⟩
theorem Lies.still {i : Nat} {e : TypeId} {size n : Nat} {v : Value} {xs : List Value} (h : Lies W (FB own base i) e size v n xs) (s : Still W W' G own own') (hd : ∀ q, G q -> base <= q -> own q ≠ i) : Lies W' (FB own' base i) e size v n xs :=
 (h.there.kept s.kept fun k hk hg => hd k hg hk.1.2 hk.1.1).mono fun _ hk => FB.to s hk.1 hk.2
theorem JIs.still {i : Nat} {v : JV} {cs : List Value} (h : JIs W (FB own base i) v cs) (s : Still W W' G own own') (hd : ∀ q, G q -> base <= q -> own q ≠ i) : JIs W' (FB own' base i) v cs :=
 JIs.mono (fun _ hk _ => FB.to s hk.1 hk.2) v cs (JIs.kept (F := fun k => FB own base i k /\ k < W.heap.size) s.kept (fun k hk hg => hd k hg hk.1.2 hk.1.1) v cs (JIs.mono (fun _ h1 h2 => ⟨h1, h2⟩) v cs h))
theorem JsAt.still {i : Nat} {l : List JV} {css : List (List Value)} (h : JsAt W (FB own base i) l css) (s : Still W W' G own own') (hd : ∀ q, G q -> base <= q -> own q ≠ i) : JsAt W' (FB own' base i) l css :=
 JsAt.mono (fun _ hk _ => FB.to s hk.1 hk.2) l css (JsAt.kept (F := fun k => FB own base i k /\ k < W.heap.size) s.kept (fun k hk hg => hd k hg hk.1.2 hk.1.1) l css (JsAt.mono (fun _ h1 h2 => ⟨h1, h2⟩) l css h))
def SetAt (W : World) (own : Nat -> Nat) (base i : Nat) (M : Value) (ns : List (List UInt8)) : Prop := (M = .map none /\ ns = []) ∨ ∃ b, M = .map (some b) /\ FB own base i b /\ IsSet W b (setL ns)
theorem SetAt.still {i : Nat} {M : Value} {ns : List (List UInt8)} (h : SetAt W own base i M ns) (s : Still W W' G own own') (hd : ∀ q, G q -> base <= q -> own q ≠ i) : SetAt W' own' base i M ns :=
 h.imp id fun ⟨b, e, hf, hs⟩ => ⟨b, e, FB.to s hf hs.lt, hs.kept s.kept fun hg => hd b hg hf.2 hf.1⟩
theorem LvAt.still {i : Nat} {t : Fr} {cs : List Value} (h : LvAt W own base i t cs) (s : Still W W' G own own') (hd : ∀ q, G q -> base <= q -> own q ≠ 0 /\ (own q < 4 + 3 * i ∨ 7 + 3 * i <= own q)) : LvAt W' own' base i t cs := by
 obtain ⟨L, N, M, css, e, h1, h2, h3, h4⟩ := h
 exact ⟨L, N, M, css, e, h1.still s fun q hg hb => (hd q hg hb).1, h2.still s fun q hg hb => by have := (hd q hg hb).2; omega, h3.still s fun q hg hb => by have := (hd q hg hb).2; omega, SetAt.still h4 s fun q hg hb => by have := (hd q hg hb).2; omega⟩
theorem LvsAt.still (s : Still W W' G own own') : ∀ (i : Nat) (l : List Fr) (css : List (List Value)), LvsAt W own base i l css -> (∀ q, G q -> base <= q -> own q ≠ 0 /\ (own q < 4 + 3 * i ∨ 4 + 3 * (i + l.length) <= own q)) -> LvsAt W' own' base i l css
 | _, [], [], _, _ => trivial
 | i, t :: r, c :: cs, h, hd => ⟨h.1.still s fun q hg hb => by
     have := hd q hg hb
     simp only [List.length_cons] at this
     omega, LvsAt.still s (i + 1) r cs h.2 fun q hg hb => by
     have := hd q hg hb
     simp only [List.length_cons] at this
     omega⟩
 | _, [], _ :: _, h, _ => h.elim
 | _, _ :: _, [], h, _ => h.elim
theorem Stk.still {K : List Fr} {E O : Value} (h : Stk W own base K E O) (s : Still W W' G own own') (hd : ∀ q, G q -> base <= q -> own q = 3) : Stk W' own' base K E O := by
 obtain ⟨h1, css, h2, h3⟩ := h
 exact ⟨h1.still s fun q hg hb => by have := hd q hg hb; omega, css, h2.still s fun q hg hb => by have := hd q hg hb; omega, LvsAt.still s 0 _ css h3 fun q hg hb => by have := hd q hg hb; omega⟩
end
theorem Lies.set {W : World} {F : Nat -> Prop} {e : TypeId} {size g off cap n : Nat} {xs : List Value} (h : Lies W F e size (.slice (some ⟨g, off, none⟩) n cap) n xs) {j : Nat} (hj : j < n * size) (u : Value) :
   Lies (W.setCell ⟨g, off + j, none⟩ u) F e size (.slice (some ⟨g, off, none⟩) n cap) n (xs.set j u) := by
 refine ⟨by rw [List.length_set]; exact h.1, ?_⟩
 rcases h.2 with ⟨A, hv, rfl⟩ | ⟨g', off', cap', cur, hv, hF, hg, h1, h2, h3, h4⟩
 · omega
 · injection hv with e1 _ e3
   injection e1 with e1
   injection e1 with e1 e2
   subst e1 e2 e3
   refine .inr ⟨g, off, cap, cur.setIfInBounds (off + j) u, rfl, hF, heap_setCell_same W g (off + j) cur e u hg, h1, h2, by simpa using h3, ?_⟩
   rw [<- h4]
   refine List.ext_getElem? fun i => ?_
   simp only [Array.toList_setIfInBounds, List.getElem?_take, List.getElem?_drop, List.getElem?_set, List.length_take, List.length_drop, Array.length_toList]
   by_cases hi : i < n * size
   · by_cases hij : j = i
     · subst hij
       have : off + j < cur.size := by
         have : n * size <= cap * size := Nat.mul_le_mul_right _ h1
         omega
       rw [if_pos hi, if_pos rfl, if_pos this, if_pos rfl, if_pos (by rw [Nat.lt_min]; omega)]
     · rw [if_pos hi, if_neg (by omega), if_neg hij, if_pos hi]
   · rw [if_neg hi, if_neg (by omega), if_neg hi]
theorem Lies.take {W : World} {F : Nat -> Prop} {e : TypeId} {size n c : Nat} {A : Option Addr} {xs : List Value} (h : Lies W F e size (.slice A n c) n xs) {k : Nat} (hk : k <= n) : Lies W F e size (.slice A k c) k (xs.take (k * size)) := by
 have hm : k * size <= n * size := Nat.mul_le_mul_right _ hk
 refine ⟨by rw [List.length_take, h.1]; omega, ?_⟩
 rcases h.2 with ⟨A', hv, rfl⟩ | ⟨g, off, cap, cur, hv, hF, hg, h1, h2, h3, h4⟩
 · injection hv with e1 _ e3
   subst e1 e3
   obtain rfl : k = 0 := by omega
   exact .inl ⟨A, rfl, rfl⟩
 · injection hv with e1 _ e3
   subst e1 e3
   refine .inr ⟨g, off, c, cur, rfl, hF, hg, by omega, h2, h3, ?_⟩
   rw [<- h4, List.take_take]
   congr 1
   omega
structure TopW (W : World) (own : Nat -> Nat) (base : Nat) (t : Fr) (r : List Fr) (g off cap : Nat) (cs0 : List (List Value)) (L N M : Value) (css : List (List Value)) : Prop where
 all : Lies W (FB own base 2) 120 9 (.slice (some ⟨g, off, none⟩) (r.length + 1) cap) (r.length + 1) (cs0.flatten ++ lvC t.obj L N M)
 rest : LvsAt W own base 0 r.reverse cs0
 vals : JsAt W (FB own base 0) t.list css
 list : Lies W (FB own base (4 + 3 * r.length)) 28 8 L t.list.length css.flatten
 names : Lies W (FB own base (5 + 3 * r.length)) 9 1 N t.names.length (t.names.map keyV)
structure Top (W : World) (own : Nat -> Nat) (base : Nat) (t : Fr) (r : List Fr) (g off cap : Nat) (cs0 : List (List Value)) (L N M : Value) (css : List (List Value)) : Prop extends TopW W own base t r g off cap cs0 L N M css where
 set_ : SetAt W own base (6 + 3 * r.length) M t.names
theorem keptK_cons {t : Fr} {r : List Fr} (h : r.length < 64) : keptK (t :: r) = r.reverse ++ [t] := by
 unfold keptK
 rw [List.reverse_cons, List.take_of_length_le (by simp; omega)]
theorem keptK_deep {t : Fr} {r : List Fr} (h : 64 <= r.length) : keptK (t :: r) = keptK r := by
 unfold keptK
 rw [List.reverse_cons, List.take_append_of_le_length (by simp; omega)]
theorem keptK_all {K : List Fr} (h : K.length <= 64) : keptK K = K.reverse := by
 unfold keptK
 rw [List.take_of_length_le (by simp; omega)]
theorem Stk.top {W : World} {own : Nat -> Nat} {base : Nat} {t : Fr} {r : List Fr} {E O : Value} (h : Stk W own base (t :: r) E O) (hr : r.length < 64) : ∃ g off cap cs0 L N M css, O = .slice (some ⟨g, off, none⟩) (r.length + 1) cap /\ Top W own base t r g off cap cs0 L N M css := by
 obtain ⟨_, css, h2, h3⟩ := h
 rw [keptK_cons hr] at h2 h3
 obtain ⟨cs0, c, rfl, h4, h5⟩ := LvsAt.split 0 r.reverse css h3
 obtain ⟨L, N, M, vs, rfl, h6, h7, h8, h9⟩ := h5
 have hn : (r.reverse ++ [t]).length = r.length + 1 := by simp
 rw [hn] at h2
 obtain ⟨g, off, cap, rfl, _⟩ := h2.cells (by omega)
 rw [Nat.zero_add, List.length_reverse] at h7 h8 h9
 exact ⟨g, off, cap, cs0, L, N, M, vs, rfl, ⟨⟨by simpa using h2, h4, h6, h7, h8⟩, h9⟩⟩
theorem Top.stk {W : World} {own : Nat -> Nat} {base : Nat} {t : Fr} {r : List Fr} {E : Value} {g off cap : Nat} {cs0 : List (List Value)} {L N M : Value} {css : List (List Value)} (h : Top W own base t r g off cap cs0 L N M css) (hr : r.length < 64)
   (hE : Lies W (FB own base 1) 5 1 E (r.length + 1) (u8s ((t :: r).reverse.map endB))) : Stk W own base (t :: r) E (.slice (some ⟨g, off, none⟩) (r.length + 1) cap) := by
 refine ⟨hE, cs0 ++ [lvC t.obj L N M], ?_, ?_⟩
 · rw [keptK_cons hr]
   have hn : (r.reverse ++ [t]).length = r.length + 1 := by simp
   rw [hn]
   simpa using h.all
 · rw [keptK_cons hr]
   refine LvsAt.snoc 0 r.reverse cs0 h.rest ⟨L, N, M, css, rfl, h.vals, ?_, ?_, ?_⟩ <;> rw [Nat.zero_add, List.length_reverse]
   · exact h.list
   · exact h.names
   · exact h.set_
section
variable {W : World} {own : Nat -> Nat} {base : Nat} {t : Fr} {r : List Fr} {g off cap : Nat} {cs0 : List (List Value)} {L N M : Value} {css : List (List Value)}
theorem TopW.len (h : TopW W own base t r g off cap cs0 L N M css) : cs0.flatten.length = r.length * 9 := by
 have := LvsAt.one 0 _ _ h.rest
 rwa [List.length_reverse] at this
theorem TopW.block (h : TopW W own base t r g off cap cs0 L N M css) : FB own base 2 g /\ g < W.heap.size := by
 obtain ⟨g', off', cap', hv, hf, _, _, hl, _⟩ := h.all.cells (by omega)
 injection hv with e1 _ _
 injection e1 with e1
 injection e1 with e1 _ _
 subst e1
 exact ⟨hf, hl⟩
theorem TopW.cell (h : TopW W own base t r g off cap cs0 L N M css) (j : Nat) (u : Value) (hu : (lvC t.obj L N M)[j]? = some u) : W.cell? ⟨g, off + r.length * 9 + j, none⟩ = some u := by
 obtain ⟨g', off', cap', hv, _, _, _, _, hr⟩ := h.all.cells (by omega)
 injection hv with e1 _ _
 injection e1 with e1
 injection e1 with e1 e2 _
 subst e1 e2
 have := hr (r.length * 9 + j) u (by rw [List.getElem?_append_right (by rw [h.len]; omega), h.len, Nat.add_sub_cancel_left]; exact hu)
 rwa [<- Nat.add_assoc] at this
end
end Go.Proofs.YtmhbkjjkalnggaaGreatDoor
