import Derived.Test.YtmhbkjjkalnggaaGreatDoorPt28
import Derived.ShutString
import Derived.Deep.Fields
namespace Go.Proofs.YtmhbkjjkalnggaaGreatDoor
open Go.RowKit
set_option maxRecDepth 1000000
set_option maxHeartbeats 8000000
mutual
def SmallJ : JV -> Prop
 | .mk _ _ d t l ns => d.digits.length <= 9223372036854775806 /\ t.length <= maxLen /\ ns.length <= 1000000000000 /\ (∀ x ∈ ns, x.length <= maxLen) /\ SmallKids l
def SmallKids : List JV -> Prop
 | [] => True
 | x :: l => SmallJ x /\ SmallKids l
end
theorem SmallKids.get : ∀ {l : List JV}, SmallKids l -> ∀ x ∈ l, SmallJ x
 | [], _, x, hx => by simp at hx
 | y :: l, h, x, hx => by
   unfold SmallKids at h
   rcases List.mem_cons.1 hx with rfl | hx
   · exact h.1
   · exact SmallKids.get h.2 x hx
theorem jask_ok : ∀ (n : Nat) (v : JV), SizeOf.sizeOf v <= n -> SmallJ v -> ∀ (F : Nat -> Prop) (g off : Nat) (w : World), JAtP w F g off v -> Lib.Utf8Tabs 0 1 w ->
   Calls Tryz.prog 32 #[.pointer (some ⟨g, off, none⟩)] w (AskPost w (askJ v)) := by
 intro n
 induction n with
 | zero => intro v hv; cases v; simp at hv
 | succ n ih =>
   intro v hv hs F g off w h hU
   obtain ⟨k, b, d, t, l, ns⟩ := v
   unfold SmallJ at hs
   obtain ⟨s1, s2, s3, s4, s5⟩ := hs
   have hih : ∀ i, i < l.length -> ∀ g2 off2 V, Below w.heap.size w V -> JAtP V F g2 off2 (l.getD i JV.null) -> Calls Tryz.prog 32 #[.pointer (some ⟨g2, off2, none⟩)] V (AskPost V (askJ (l.getD i JV.null))) := fun i hi g2 off2 V hb hj => by
     have hm : l.getD i JV.null ∈ l := by rw [List.getD_eq_getElem?_getD, List.getElem?_eq_getElem hi]; exact List.getElem_mem _
     have := List.sizeOf_lt_of_mem hm
     simp only [JV.mk.sizeOf_spec] at hv
     exact ih _ (by omega) (s5.get _ hm) F g2 off2 V hj (Utf8Tabs_below hU hb)
   by_cases h0 : k = 0
   · subst h0; rw [askJ, if_pos rfl]; exact ask0 F g off w b d t l ns h
   by_cases h1 : k = 1
   · subst h1; rw [askJ, if_neg (by decide), if_pos rfl]; exact ask1 F g off w b d t l ns h
   by_cases h2 : k = 2
   · subst h2; rw [askJ, if_neg (by decide), if_neg (by decide), if_pos rfl]; exact ask2 F g off w b d t l ns s1 h
   by_cases h3 : k = 3
   · subst h3; rw [askJ, if_neg (by decide), if_neg (by decide), if_neg (by decide), if_pos rfl]; exact ask3 F g off w b d t l ns s2 hU h
   by_cases h4 : k = 4
   · subst h4; rw [askJ, if_neg (by decide), if_neg (by decide), if_neg (by decide), if_neg (by decide), if_pos rfl]; exact ask4 F g off w b d t l ns hih h
   by_cases h5 : k = 5
   · subst h5; rw [askJ, if_neg (by decide), if_neg (by decide), if_neg (by decide), if_neg (by decide), if_neg (by decide), if_pos rfl]; exact ask5 F g off w b d t l ns s3 s4 hU hih h
   · rw [askJ, if_neg h0, if_neg h1, if_neg h2, if_neg h3, if_neg h4, if_neg h5]; exact askD F g off w b d t l ns k h0 h1 h2 h3 h4 h5 h
open Go.RowKit Go.ChangeShapes Go.WideShapes Go.Deep
theorem list_of_each {α : Type} (n : Nat) (Q : Nat -> α -> Prop) (z : α) (h : ∀ i, i < n -> ∃ x, Q i x) : ∃ l : List α, l.length = n /\ ∀ i, i < n -> Q i (l.getD i z) := by
 induction n with
 | zero => exact ⟨[], rfl, fun i hi => by omega⟩
 | succ n ih =>
   obtain ⟨l, hl, hq⟩ := ih fun i hi => h i (by omega)
   obtain ⟨x, hx⟩ := h n (by omega)
   refine ⟨l ++ [x], by simp [hl], fun i hi => ?_⟩
   rcases Nat.lt_or_ge i n with h1 | h1
   · rw [List.getD_eq_getElem?_getD, List.getElem?_append_left (by omega), <- List.getD_eq_getElem?_getD]
     exact hq i h1
   · obtain rfl : i = n := by omega
     rw [List.getD_eq_getElem?_getD, List.getElem?_append_right (by omega), hl, Nat.sub_self]
     exact hx
section
variable {H : Type} {enc : TypeId × Value -> H} {w : World}
end
open Go.RowKit Go.ChangeShapes Go.WideShapes Go.Deep
mutual
def wJ : JV -> Nat
 | .mk _ _ d t l ns => 2 + t.length + d.digits.length + wNames ns + wKids l
def wKids : List JV -> Nat
 | [] => 0
 | x :: l => wJ x + wKids l
def wNames : List (List UInt8) -> Nat
 | [] => 0
 | x :: l => 1 + x.length + wNames l
end
theorem list3 {α : Type} {l : List α} (h : l.length = 3) : ∃ a0 a1 a2, l = [a0, a1, a2] := by
 rcases l with _ | ⟨a0, _ | ⟨a1, _ | ⟨a2, _ | ⟨a3, l⟩⟩⟩⟩ <;> simp at h
 exact ⟨_, _, _, rfl⟩
theorem list6 {α : Type} {l : List α} (h : l.length = 6) : ∃ a0 a1 a2 a3 a4 a5, l = [a0, a1, a2, a3, a4, a5] := by
 rcases l with _ | ⟨a0, _ | ⟨a1, _ | ⟨a2, _ | ⟨a3, _ | ⟨a4, _ | ⟨a5, _ | ⟨a6, l⟩⟩⟩⟩⟩⟩⟩ <;> simp at h
 exact ⟨_, _, _, _, _, _, rfl⟩
theorem list8 {α : Type} {l : List α} (h : l.length = 8) : ∃ a0 a1 a2 a3 a4 a5 a6 a7, l = [a0, a1, a2, a3, a4, a5, a6, a7] := by
 rcases l with _ | ⟨a0, _ | ⟨a1, _ | ⟨a2, _ | ⟨a3, _ | ⟨a4, _ | ⟨a5, _ | ⟨a6, _ | ⟨a7, _ | ⟨a8, l⟩⟩⟩⟩⟩⟩⟩⟩⟩ <;> simp at h
 exact ⟨_, _, _, _, _, _, _, _, rfl⟩
theorem bulk_part {H : Type} {d : DataW H} {l : List (DataW H)} (h : d ∈ l) : Rows.uptoBulk d <= Rows.uptoBulkAll l := by
 induction l with
 | nil => cases h
 | cons x r ih =>
   simp only [Rows.uptoBulkAll]
   cases List.mem_cons.1 h with
   | inl e => subst e; omega
   | inr e => have := ih e; omega
theorem wNames_len : ∀ ns : List (List UInt8), ns.length <= wNames ns
 | [] => by simp
 | x :: l => by rw [wNames]; have := wNames_len l; simp only [List.length_cons]; omega
theorem smallKids_of : ∀ {l : List JV}, (∀ x ∈ l, SmallJ x) -> SmallKids l
 | [], _ => by unfold SmallKids; trivial
 | y :: l, h => by unfold SmallKids; exact ⟨h y List.mem_cons_self, smallKids_of fun x hx => h x (List.mem_cons_of_mem _ hx)⟩
theorem wKids_le {H : Type} (D : List (DataW H)) : ∀ (l : List JV), l.length = D.length -> (∀ i, i < l.length -> wJ (l.getD i JV.null) <= Rows.uptoBulk (D.getD i .nil)) -> wKids l <= Rows.uptoBulkAll D := by
 induction D with
 | nil => intro l hl _; rw [List.eq_nil_of_length_eq_zero hl]; simp [wKids]
 | cons d D ih =>
   intro l hl h
   cases l with
   | nil => simp at hl
   | cons x l =>
     rw [wKids, Rows.uptoBulkAll]
     have h0 := h 0 (by simp)
     simp only [List.getD_cons_zero] at h0
     have := ih l (by simpa using hl) (fun i hi => by
       have := h (i + 1) (by simpa using hi)
       simpa only [List.getD_cons_succ] using this)
     omega
theorem wNames_le {H : Type} (D : List (DataW H)) : ∀ (l : List (List UInt8)), l.length = D.length -> (∀ i, i < l.length -> 1 + (l.getD i []).length <= Rows.uptoBulk (D.getD i .nil)) -> wNames l <= Rows.uptoBulkAll D := by
 induction D with
 | nil => intro l hl _; rw [List.eq_nil_of_length_eq_zero hl]; simp [wNames]
 | cons d D ih =>
   intro l hl h
   cases l with
   | nil => simp at hl
   | cons x l =>
     rw [wNames, Rows.uptoBulkAll]
     have h0 := h 0 (by simp)
     simp only [List.getD_cons_zero] at h0
     have := ih l (by simpa using hl) (fun i hi => by
       have := h (i + 1) (by simpa using hi)
       simpa only [List.getD_cons_succ] using this)
     omega
theorem kidsAt_of {W : World} {F : Nat -> Prop} {A : Option Addr} : ∀ (l : List JV) (i : Nat), (∀ j, j < l.length -> ∃ g off cs, A = some ⟨g, off, none⟩ /\ F g /\ g < W.heap.size /\ (∀ (q : Nat) (v : Value), cs[q]? = some v -> W.cell? ⟨g, off + ((i + j) * 8 + q), none⟩ = some v) /\ JIs W F (l.getD j JV.null) cs) -> KidsAt W F A i l
 | [], _, _ => by unfold KidsAt; trivial
 | x :: l, i, h => by
   unfold KidsAt
   refine ⟨h 0 (by simp), kidsAt_of l (i + 1) fun j hj => ?_⟩
   obtain ⟨g, off, cs, h1, h2, h3, h4, h5⟩ := h (j + 1) (by simpa using hj)
   exact ⟨g, off, cs, h1, h2, h3, fun q v hv => by
     have := h4 q v hv
     rwa [show i + (j + 1) = i + 1 + j by omega] at this, by simpa only [List.getD_cons_succ] using h5⟩
section
variable {H : Type} {enc : TypeId × Value -> H} {w : World}
theorem open_names {fuel : Nat} {cs : List Value} {x : DataW H × List MemPlace} (h : DataW.trod enc Tryz.prog w 0 (fun _ => true) true fuel 26 cs = some x) :
   ∃ A c ns, cs = [.slice A ns.length c] /\ ns.length <= c /\ c <= maxLen /\ NamesAt w (fun _ => True) A ns /\ (∀ y ∈ ns, y.length <= maxLen) /\ wNames ns + 1 <= Rows.uptoBulk x.1 := by
 rcases open_slice1 Tryz.underlying26 (by kernel_rfl) h with ⟨rfl, rfl⟩ | ⟨a, len, cap, m, n, V, D, Pl, rfl, _, hl, hm, hmm, rfl, hi⟩
 · exact ⟨none, 0, [], rfl, Nat.le_refl _, by unfold maxLen; omega, fun i hi => by simp at hi, fun y hy => by simp at hy, by simp [wNames, Rows.uptoBulk]⟩
 · have hlm : len <= m := by rw [hmm]; split <;> omega
   obtain ⟨ns, hns, hq⟩ := list_of_each (α := List UInt8) len (fun i y => w.cell? (a.add i) = some (.string (bs y)) /\ y.length <= maxLen /\ D i = .lit (.string y)) [] fun i hil => by
     obtain ⟨h1, h2⟩ := hi i (by omega)
     obtain ⟨s, hs, hd, hsz⟩ := DataW.trod_string Tryz.underlying9 h2
     injection hs with hs
     injection hd with hd _
     refine ⟨s.data.toList, ?_, by have : s.data.toList.length = s.size := Array.length_toList; omega, hd⟩
     rw [h1, hs, <- bs_of]
   subst hns
   refine ⟨some a, cap, ns, rfl, hl, hm, fun i hi2 => ?_, fun y hy => ?_, ?_⟩
   · obtain ⟨h1, _, _⟩ := hq i hi2
     obtain ⟨h10, _, _⟩ := hq 0 (by omega)
     obtain ⟨b, off, spot⟩ := a
     have hspot : spot = none := by simpa [Addr.add] using World.cell?_spot h10
     subst hspot
     refine ⟨b, off, rfl, trivial, ?_, by rwa [addr_add] at h1⟩
     have := block_lt_of_cell h1
     rwa [addr_add] at this
   · obtain ⟨i, hi3, rfl⟩ := List.mem_iff_getElem.1 hy
     have := (hq i hi3).2.1
     rwa [List.getD_eq_getElem?_getD, List.getElem?_eq_getElem hi3] at this
   · simp only [Rows.uptoBulk]
     have := wNames_le ((List.range ns.length).map D) ns (by simp) (fun i hi3 => by
       have e := (hq i hi3).2.2
       have e2 : ((List.range ns.length).map D).getD i .nil = D i := by
         rw [List.getD_eq_getElem?_getD]; simp [hi3]
       rw [e2, e]
       simp only [Rows.uptoBulk]
       omega)
     omega
theorem open_json : ∀ (fuel : Nat) (cs : List Value) (x : DataW H × List MemPlace), DataW.trod enc Tryz.prog w 0 (fun _ => true) true fuel 28 cs = some x -> Rows.uptoBulk x.1 <= 1000000000000 ->
   ∃ v : JV, JIs w (fun _ => True) v cs /\ SmallJ v /\ wJ v <= Rows.uptoBulk x.1 := by
 intro fuel
 induction fuel using Nat.strongRecOn with
 | _ fuel ih =>
   intro cs x h hx
   obtain ⟨xs, n, hn, rfl, hlen, hxl, hf⟩ := DataW.trod_struct Tryz.underlying28 h
   have h8 : Tryz.prog.cellsOf 28 = 8 := by kernel_rfl
   rw [h8] at hlen
   obtain ⟨a0, a1, a2, a3, a4, a5, a6, a7, rfl⟩ : ∃ a0 a1 a2 a3 a4 a5 a6 a7, cs = [a0, a1, a2, a3, a4, a5, a6, a7] := by
     exact list8 hlen
   obtain ⟨y0, y1, y2, y3, y4, y5, rfl⟩ : ∃ y0 y1 y2 y3 y4 y5, xs = [y0, y1, y2, y3, y4, y5] := by
     have : xs.length = 6 := hxl
     exact list6 this
   have f0 := hf 0 _ rfl
   have f1 := hf 1 _ rfl
   have f2 := hf 2 _ rfl
   have f3 := hf 3 _ rfl
   have f4 := hf 4 _ rfl
   have f5 := hf 5 _ rfl
   clear hf
   replace f0 : DataW.trod enc Tryz.prog w 0 (fun _ => true) true n 22 [a0] = some y0 := f0
   replace f1 : DataW.trod enc Tryz.prog w 0 (fun _ => true) true n 4 [a1] = some y1 := f1
   replace f2 : DataW.trod enc Tryz.prog w 0 (fun _ => true) true n 24 [a2, a3, a4] = some y2 := f2
   replace f3 : DataW.trod enc Tryz.prog w 0 (fun _ => true) true n 9 [a5] = some y3 := f3
   replace f4 : DataW.trod enc Tryz.prog w 0 (fun _ => true) true n 25 [a6] = some y4 := f4
   replace f5 : DataW.trod enc Tryz.prog w 0 (fun _ => true) true n 26 [a7] = some y5 := f5
   obtain ⟨k, hk, rfl, _⟩ := DataW.trod_int Tryz.underlying22 f0
   obtain ⟨b, hb, rfl⟩ := DataW.trod_bool Tryz.underlying4 f1
   obtain ⟨zs, n2, hn2, rfl, hl2, hz2, hg⟩ := DataW.trod_struct Tryz.underlying24 f2
   obtain ⟨z0, z1, z2, rfl⟩ : ∃ z0 z1 z2, zs = [z0, z1, z2] := by
     have : zs.length = 3 := hz2
     exact list3 this
   have g0 := hg 0 _ rfl
   have g1 := hg 1 _ rfl
   have g2 := hg 2 _ rfl
   clear hg
   replace g0 : DataW.trod enc Tryz.prog w 0 (fun _ => true) true n2 4 [a2] = some z0 := g0
   replace g1 : DataW.trod enc Tryz.prog w 0 (fun _ => true) true n2 9 [a3] = some z1 := g1
   replace g2 : DataW.trod enc Tryz.prog w 0 (fun _ => true) true n2 3 [a4] = some z2 := g2
   obtain ⟨dn, hdn, rfl⟩ := DataW.trod_bool Tryz.underlying4 g0
   obtain ⟨dg, hdg, rfl, sdg⟩ := DataW.trod_string Tryz.underlying9 g1
   obtain ⟨dx, hdx, rfl, _⟩ := DataW.trod_int Tryz.underlying3 g2
   obtain ⟨tx, htx, rfl, stx⟩ := DataW.trod_string Tryz.underlying9 f3
   obtain ⟨A', c', ns, hns, q1, q2, q3, q4, q5⟩ := open_names f5
   injection hk with hk; injection hb with hb; injection hdn with hdn; injection hdg with hdg; injection hdx with hdx; injection htx with htx; injection hns with hns
   subst hk hb hdn hdg hdx htx hns
   have ldg : dg.data.toList.length = dg.size := Array.length_toList
   have ltx : tx.data.toList.length = tx.size := Array.length_toList
   have hnl : wNames ns + 1 <= Rows.uptoBulk y5.1 := q5
   simp only [Rows.uptoBulk, Rows.uptoBulkAll, List.map_cons, List.map_nil] at hx ⊢
   have hnn := wNames_len ns
   have fin : ∀ (A : Option Addr) (c : Nat) (l : List JV), a6 = .slice A l.length c -> l.length <= c -> c <= maxLen -> KidsAt w (fun _ => True) A 0 l -> SmallKids l -> wKids l + 1 <= Rows.uptoBulk y4.1 ->
       ∃ v : JV, JIs w (fun _ => True) v [.int .i64 k, .bool b, .bool dn, .string dg, .int .i64 dx, .string tx, a6, .slice A' ns.length c'] /\ SmallJ v /\ wJ v <= 1 + (1 + (1 + (dg.data.toList.length + 1 + (1 + 0)) + 1 + (tx.data.toList.length + 1 + (Rows.uptoBulk y4.1 + (Rows.uptoBulk y5.1 + 0))))) + 1 := by
     intro A c l e6 k1 k2 k3 k4 k5
     subst e6
     refine ⟨.mk k b ⟨dn, dg.data.toList, dx⟩ tx.data.toList l ns, ?_, ?_, ?_⟩
     · unfold JIs
       refine ⟨A, c, A', c', ?_, k1, k2, q1, q2, q3, k3⟩
       unfold jvC
       simp only [<- bs_of]
     · unfold SmallJ
       unfold maxLen at sdg
       exact ⟨by simp only; omega, by omega, by omega, q4, k4⟩
     · rw [wJ]
       simp only
       omega
   rcases DataW.trod_slice Tryz.underlying25 f4 with ⟨e, e2⟩ | ⟨a, len, cap, elems, rest, n3, hn3, e, e2, _, hl, hm, hel, hi, _, _⟩
   · injection e with e _
     exact fin none 0 [] e (by simp) (by unfold maxLen; omega) (by unfold KidsAt; trivial) (by unfold SmallKids; trivial) (by rw [e2]; simp [wKids, Rows.uptoBulk])
   · injection e with e _
     rw [h8] at hi
     have hb4 : Rows.uptoBulkAll (elems.map (·.1)) + 1 <= Rows.uptoBulk y4.1 := by rw [e2]; simp only [Rows.uptoBulk]; omega
     obtain ⟨l, hll, hq⟩ := list_of_each (α := JV) len (fun i v => ∃ cs' : List Value, (∀ (q : Nat) (u : Value), cs'[q]? = some u -> w.cell? (a.add (i * 8 + q)) = some u) /\ cs'.length = 8 /\ JIs w (fun _ => True) v cs' /\ SmallJ v /\ wJ v <= Rows.uptoBulk ((elems.map (·.1)).getD i .nil)) JV.null fun i hil => by
       have h1 := hi i hil
       rw [List.getElem?_eq_getElem (by omega : i < elems.length)] at h1
       obtain ⟨cs', hc, ht⟩ := Option.bind_eq_some_iff.1 h1
       obtain ⟨_, hcl, hat⟩ := World.cells?_some hc
       have hge : (elems.map (·.1)).getD i .nil = (elems[i]'(by omega)).1 := by
         rw [List.getD_eq_getElem?_getD, List.getElem?_map, List.getElem?_eq_getElem (by omega : i < elems.length)]; rfl
       have hp : Rows.uptoBulk (elems[i]'(by omega)).1 <= Rows.uptoBulkAll (elems.map (·.1)) := bulk_part (List.mem_map_of_mem (List.getElem_mem _))
       obtain ⟨v, v1, v2, v3⟩ := ih n3 (by omega) cs' _ ht (by omega)
       refine ⟨v, cs', fun q u hu => ?_, hcl, v1, v2, by rw [hge]; exact v3⟩
       have hq8 : q < 8 := by have := (List.getElem?_eq_some_iff.1 hu).1; omega
       have h9 := hat q hq8
       rw [add_add] at h9
       rw [h9, hu]
     subst hll
     refine fin (some a) cap l e hl hm (kidsAt_of l 0 fun j hj => ?_) (smallKids_of fun x hx => ?_) ?_
     · obtain ⟨cs', p1, p2, p3, _, _⟩ := hq j hj
       obtain ⟨cs0, z1, z2, _, _, _⟩ := hq 0 (by omega)
       obtain ⟨g, off, spot⟩ := a
       have p0 := p1 0 _ (List.getElem?_eq_getElem (by omega))
       have z0 := z1 0 _ (List.getElem?_eq_getElem (by omega))
       have hspot : spot = none := by simpa [Addr.add] using World.cell?_spot z0
       subst hspot
       refine ⟨g, off, cs', rfl, trivial, ?_, fun q v hv => ?_, p3⟩
       · have := block_lt_of_cell p0
         rwa [addr_add] at this
       · have := p1 q v hv
         rw [addr_add] at this
         rwa [Nat.zero_add]
     · obtain ⟨i, hi3, rfl⟩ := List.mem_iff_getElem.1 hx
       obtain ⟨_, _, _, _, p4, _⟩ := hq i hi3
       rwa [List.getD_eq_getElem?_getD, List.getElem?_eq_getElem hi3] at p4
     · have := wKids_le (elems.map (·.1)) l (by simp [hel]) (fun i hi3 => by
         obtain ⟨_, _, _, _, _, p5⟩ := hq i hi3
         exact p5)
       omega
end
open Go.RowKit
def checkJ (v : JV) : Int := if askJ v = false then 2 else if 64 < depthJ v then 182 else if 1048576 < (tellJ v).length then 3 else 0
def Ck1Post (w : World) (r : Int) (e : Ending) (w' : World) : Prop := e = (if r = 0 then .returned (.tuple #[]) else .panicked (panicOf r)) /\ Below w.heap.size w w'
theorem jcheck1_ok (F : Nat -> Prop) (g off : Nat) (v : JV) (w : World) (h : JAtP w F g off v) (hs : SmallJ v) (hf : askJ v = true -> FineJ v) (hd : depthJ v <= 1000000) (hTb : ∀ V, Below w.heap.size w V -> PowTab V) (hU : Lib.Utf8Tabs 0 1 w) :
   Calls Tryz.prog 31 #[.pointer (some ⟨g, off, none⟩)] w (Ck1Post w (checkJ v)) := by
 have HA := hid (jask_ok _ v (Nat.le_refl _) hs F g off w h hU)
 have HD : Hid (∀ V, Below w.heap.size w V -> Calls Tryz.prog 33 #[.pointer (some ⟨g, off, none⟩)] V fun e w' => e = .returned (.int .i64 (depthJ v : Nat)) /\ Below V.heap.size V w') := hid fun V hb => jdepth_ok _ v (Nat.le_refl _) hd F g off V (h.below hb)
 have HM : Hid (askJ v = true -> ∀ V, Below w.heap.size w V -> Calls Tryz.prog 34 #[.pointer (some ⟨g, off, none⟩)] V fun e w' => (((tellJ v).length <= 1048576 /\ e = .returned (.tuple #[])) ∨ (1048576 < (tellJ v).length /\ e = .panicked (panicOf 3))) /\ Below V.heap.size V w') := hid fun ha V hb => jmeasure_ok F g off v V (h.below hb) (hf ha) (hTb V hb)
 have HR : Hid (checkJ v = if askJ v = false then 2 else if 64 < depthJ v then 182 else if 1048576 < (tellJ v).length then 3 else 0) := hid rfl
 clear h hs hf hTb hU
 generalize checkJ v = r at *
 generalize (tellJ v).length = tl at *
 generalize askJ v = a at *
 generalize depthJ v = dd at *
 go_enter Tryz.func31, Tryz.ntmps31
 go_wp2_with fail
 refine HA.out.mono ?_
 rintro e w1 ⟨he, hb⟩
 have HB := hid hb
 clear hb
 cases a with
 | false =>
   obtain rfl : e = .panicked (panicOf 2) := he
   have HR2 : Hid (r = 2) := hid HR.out
   exact ⟨rfl, by rw [HR2.out]; rfl, HB.out⟩
 | true =>
   obtain rfl : e = .returned (.tuple #[]) := he
   go_wp2_with fail
   refine (HD.out w1 HB.out).mono ?_
   rintro e w2 ⟨rfl, hb⟩
   have HB2 := hid (HB.out.call hb)
   clear hb
   by_cases h6 : 64 < dd
   · have h6z : (64 : Int) < (dd : Int) := by omega
     have HR2 : Hid (r = 182) := hid (HR.out.trans (by rw [if_neg (by decide), if_pos h6]))
     go_wp2_with fail
     exact ⟨rfl, by rw [HR2.out]; rfl, HB2.out⟩
   · have h6z : ¬ (64 : Int) < (dd : Int) := by omega
     have HR2 : Hid (r = if 1048576 < tl then 3 else 0) := hid (HR.out.trans (by rw [if_neg (by decide), if_neg h6]))
     go_wp2_with fail
     refine (HM.out (by trivial) w2 HB2.out).mono ?_
     rintro e w3 ⟨he, hb⟩
     have HB3 := hid (HB2.out.call hb)
     clear hb
     rcases he with ⟨h1, rfl⟩ | ⟨h1, rfl⟩
     · have HR3 : Hid (r = 0) := hid (HR2.out.trans (by rw [if_neg (by omega)]))
       go_wp2_with fail
       go_end0
       exact ⟨by rw [HR3.out]; rfl, HB3.out⟩
     · have HR3 : Hid (r = 3) := hid (HR2.out.trans (by rw [if_pos h1]))
       exact ⟨rfl, by rw [HR3.out]; rfl, HB3.out⟩
theorem jcheck_ok (F : Nat -> Prop) (cs : Array Value) (v : JV) (w : World) (h : JIs w F v cs.toList) (hs : SmallJ v) (hf : askJ v = true -> FineJ v) (hd : depthJ v <= 1000000) (hT : PowTab w) (hU : Lib.Utf8Tabs 0 1 w) :
   Calls Tryz.prog 10 #[.agg cs] w fun e w' => e = .returned (.int .i64 (checkJ v)) /\ Below w.heap.size w w' := by
 obtain ⟨w1, hw1⟩ : ∃ w1, w1 = w.alloc (.cells cs 28) := ⟨_, rfl⟩
 obtain ⟨w2, hw2⟩ : ∃ w2, w2 = w1.alloc (.cells #[.int .i64 0] 33) := ⟨_, rfl⟩
 have b1 : Below w.heap.size w w1 := by rw [hw1]; exact (Below.refl _ _).alloc (Nat.le_refl _) _
 have b2 : Below w1.heap.size w1 w2 := by rw [hw2]; exact (Below.refl _ _).alloc (Nat.le_refl _) _
 have r1 : Row w1 w.heap.size 28 cs := by rw [hw1]; exact Row.new _ _ _
 have r2 : Row w2 w1.heap.size 33 #[.int .i64 0] := by rw [hw2]; exact Row.new _ _ _
 have b12 := b1.call b2
 have r12 := r1.call b2
 have hj : JAtP w2 F w.heap.size 0 v := ⟨r12.lt, cs.toList, fun q u hu => by rw [Nat.zero_add]; exact r12.cell (by simpa using hu), h.below b12⟩
 have hdoes : Does 31 #[.pointer (some ⟨w.heap.size, 0, none⟩)] w2 (fun w' => checkJ v = 0 /\ Below w2.heap.size w2 w') (fun k w' => k = checkJ v /\ Below w2.heap.size w2 w') := by
   unfold Does
   refine (jcheck1_ok F w.heap.size 0 v w2 hj hs hf hd (fun V hb => (hT.below b12).below hb) (Utf8Tabs_below hU b12)).mono ?_
   rintro e w' ⟨he, hb⟩
   by_cases h0 : checkJ v = 0
   · rw [if_pos h0] at he; exact .inl ⟨he, h0, hb⟩
   · rw [if_neg h0] at he; exact .inr ⟨_, he, rfl, hb⟩
 have hkeep : ∀ w', Below w2.heap.size w2 w' -> w'.cell? ⟨w1.heap.size, 0, none⟩ = some (.int .i64 0) /\ w'.frozen? ⟨w1.heap.size, 0, none⟩ = false := fun w' hb => ⟨(r2.call hb).cell rfl, (r2.call hb).free 0⟩
 have HCA := hid (caught_ok 31 #[.pointer (some ⟨w.heap.size, 0, none⟩)] w1 w2 hw2 _ _ hdoes (fun _ => rfl) (fun w' h => hkeep w' h.2) (fun k w' h => hkeep w' h.2))
 have hmf : ∀ (fn : Fn) (first cap : Array Value) (W : World), (Instr.makeFunc fn first cap).run Tryz.prog W = .ok (.func fn first cap) W := fun _ _ _ _ => rfl
 have HB : Hid (∀ V k, Below w2.heap.size w2 V -> Below w.heap.size w (V.setCell ⟨w1.heap.size, 0, none⟩ k)) := hid fun V k hb => (b12.call hb).setCell (p := ⟨w1.heap.size, 0, none⟩) b1.size _
 clear h hs hf hd hT hU b1 b2 r1 r2 b12 r12 hj hdoes hkeep
 generalize checkJ v = r at *
 go_enter Tryz.func10, Tryz.ntmps10
 go_upto_region 1 with fail
 rw [<- hw1]
 clear hw1 hw2
 go_wp2_with fail
 refine HCA.out.mono ?_
 rintro e w6 (⟨v6, rfl, ⟨h0, hb⟩, rfl⟩ | ⟨k, v6, rfl, ⟨rfl, hb⟩, rfl⟩)
 · have HR : Hid (r = 0) := hid h0
   have HB6 := hid (HB.out v6 (.int .i64 0) hb)
   clear hb h0
   generalize v6.setCell ⟨w1.heap.size, 0, none⟩ (.int .i64 0) = w7 at *
   go_wp2_with fail
   go_ret
   exact ⟨by rw [HR.out]; rfl, HB6.out⟩
 · have HB6 := hid (HB.out v6 (.int .i64 k) hb)
   clear hb
   generalize v6.setCell ⟨w1.heap.size, 0, none⟩ (.int .i64 k) = w7 at *
   go_wp2_with fail
   go_ret
   exact ⟨rfl, HB6.out⟩
end Go.Proofs.YtmhbkjjkalnggaaGreatDoor
