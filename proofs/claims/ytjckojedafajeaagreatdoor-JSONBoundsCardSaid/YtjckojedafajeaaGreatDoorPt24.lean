/- Layer 8: the lists and objects that are open, in memory. A block's owner is told by a function, so that no two own one. -/
import Derived.Test.YtjckojedafajeaaGreatDoorPt23
import Derived.Test.YtjckojedafajeaaGreatDoorPt22
import Derived.OrdersHeld
import Derived.RegionTactic
namespace Go.Proofs.YtjckojedafajeaaGreatDoor
open Go.RowKit

/-- Blocks of an owner: 0: values that are done; 1: the signs that end; 2: the levels; 3: others; 4 + 3 i, 5 + 3 i, 6 + 3 i: level i's list, names, set. -/
def FB (own : Nat → Nat) (base i k : Nat) : Prop := own k = i ∧ base ≤ k
def lvC (obj : Bool) (L N M : Value) : List Value := [.int .i64 (if obj then 5 else 4), .bool false, .bool false, .string ⟨#[]⟩, .int .i64 0, .string ⟨#[]⟩, L, N, M]
/-- Values, each by its cells. -/
def JsAt (W : World) (F : Nat → Prop) : List JV → List (List Value) → Prop
  | [], [] => True
  | x :: l, c :: cs => JIs W F x c ∧ JsAt W F l cs
  | _, _ => False
/-- A level by its cells. -/
def LvAt (W : World) (own : Nat → Nat) (base i : Nat) (t : Fr) (cs : List Value) : Prop :=
  ∃ L N M css, cs = lvC t.obj L N M ∧ JsAt W (FB own base 0) t.list css ∧ Lies W (FB own base (4 + 3 * i)) 30 8 L t.list.length css.flatten ∧
    Lies W (FB own base (5 + 3 * i)) 9 1 N t.names.length (t.names.map keyV) ∧ ((M = .map none ∧ t.names = []) ∨ ∃ b, M = .map (some b) ∧ FB own base (6 + 3 * i) b ∧ IsSet W b (setL t.names))
def LvsAt (W : World) (own : Nat → Nat) (base : Nat) : Nat → List Fr → List (List Value) → Prop
  | _, [], [] => True
  | i, t :: r, c :: cs => LvAt W own base i t c ∧ LvsAt W own base (i + 1) r cs
  | _, _, _ => False
def endB (t : Fr) : UInt8 := if t.obj then 125 else 93
/-- Those that are kept, the outermost one first. -/
def keptK (K : List Fr) : List Fr := K.reverse.take 64
/-- All that is open. -/
structure Stk (W : World) (own : Nat → Nat) (base : Nat) (K : List Fr) (E O : Value) : Prop where
  ends : Lies W (FB own base 1) 5 1 E K.length (u8s (K.reverse.map endB))
  open_ : ∃ css, Lies W (FB own base 2) 118 9 O (keptK K).length css.flatten ∧ LvsAt W own base 0 (keptK K) css

mutual
theorem JIs.mono {W : World} {F G : Nat → Prop} (hf : ∀ k, F k → k < W.heap.size → G k) : ∀ (v : JV) (cs : List Value), JIs W F v cs → JIs W G v cs
  | .mk k b d t l ns, cs, h => by
    unfold JIs at h ⊢
    obtain ⟨A, c, A', c', h1, h2, h3, h4, h5, h6, h7⟩ := h
    exact ⟨A, c, A', c', h1, h2, h3, h4, h5, fun i hi => by
      obtain ⟨g, off, e, e2, e3, e4⟩ := h6 i hi
      exact ⟨g, off, e, hf g e2 e3, e3, e4⟩, KidsAt.mono hf l A 0 h7⟩
theorem KidsAt.mono {W : World} {F G : Nat → Prop} (hf : ∀ k, F k → k < W.heap.size → G k) : ∀ (l : List JV) (A : Option Addr) (i : Nat), KidsAt W F A i l → KidsAt W G A i l
  | [], _, _, _ => by unfold KidsAt; trivial
  | x :: l, A, i, h => by
    unfold KidsAt at h ⊢
    obtain ⟨⟨g, off, cs, h1, h2, h3, h4, h5⟩, h6⟩ := h
    exact ⟨⟨g, off, cs, h1, hf g h2 h3, h3, h4, JIs.mono hf x cs h5⟩, KidsAt.mono hf l A (i + 1) h6⟩
end
theorem JIs.len {W : World} {F : Nat → Prop} {v : JV} {cs : List Value} (h : JIs W F v cs) : cs.length = 8 := by
  obtain ⟨k, b, d, t, l, ns⟩ := v
  unfold JIs at h
  obtain ⟨A, c, A', c', rfl, _⟩ := h
  rfl
theorem JsAt.kept {W W' : World} {F G : Nat → Prop} (hk : Kept G W W') (hd : ∀ q, F q → ¬ G q) : ∀ (l : List JV) (css : List (List Value)), JsAt W F l css → JsAt W' F l css
  | [], [], _ => trivial
  | x :: l, c :: cs, h => ⟨JIs.kept hk hd x c h.1, JsAt.kept hk hd l cs h.2⟩
  | [], _ :: _, h => h.elim
  | _ :: _, [], h => h.elim
theorem JsAt.mono {W : World} {F G : Nat → Prop} (hf : ∀ k, F k → k < W.heap.size → G k) : ∀ (l : List JV) (css : List (List Value)), JsAt W F l css → JsAt W G l css
  | [], [], _ => trivial
  | x :: l, c :: cs, h => ⟨JIs.mono hf x c h.1, JsAt.mono hf l cs h.2⟩
  | [], _ :: _, h => h.elim
  | _ :: _, [], h => h.elim
theorem JsAt.snoc {W : World} {F : Nat → Prop} {v : JV} {c : List Value} (hv : JIs W F v c) : ∀ (l : List JV) (css : List (List Value)), JsAt W F l css → JsAt W F (l ++ [v]) (css ++ [c])
  | [], [], _ => ⟨hv, trivial⟩
  | _ :: l, _ :: cs, h => ⟨h.1, JsAt.snoc hv l cs h.2⟩
  | [], _ :: _, h => h.elim
  | _ :: _, [], h => h.elim
theorem JsAt.one : ∀ {W : World} {F : Nat → Prop} (l : List JV) (css : List (List Value)), JsAt W F l css → css.flatten.length = l.length * 8
  | _, _, [], [], _ => rfl
  | _, _, x :: l, c :: cs, h => by
    rw [List.flatten_cons, List.length_append, h.1.len, JsAt.one l cs h.2, List.length_cons]; omega
  | _, _, [], _ :: _, h => h.elim
  | _, _, _ :: _, [], h => h.elim
/-- Values that lie behind one another are a list's. -/
theorem JsAt.kids {W : World} {F G : Nat → Prop} {g off : Nat} (hg : G g) (hlt : g < W.heap.size) (hfg : ∀ k, F k → k < W.heap.size → G k) : ∀ (l : List JV) (css : List (List Value)) (i : Nat), JsAt W F l css → W.rangeAt g (off + i * 8) css.flatten → KidsAt W G (some ⟨g, off, none⟩) i l
  | [], _, _, _, _ => by unfold KidsAt; trivial
  | x :: l, c :: cs, i, h, hr => by
    unfold KidsAt
    have hl := h.1.len
    refine ⟨⟨g, off, c, rfl, hg, hlt, fun j v hv => ?_, JIs.mono hfg x c h.1⟩, JsAt.kids hg hlt hfg l cs (i + 1) h.2 fun j v hv => ?_⟩
    · have hj : j < c.length := (List.getElem?_eq_some_iff.1 hv).1
      have := hr j v (by rw [List.flatten_cons, List.getElem?_append_left hj]; exact hv)
      rwa [Nat.add_assoc] at this
    · have := hr (8 + j) v (by rw [List.flatten_cons, List.getElem?_append_right (by omega), hl, Nat.add_sub_cancel_left]; exact hv)
      rwa [show off + i * 8 + (8 + j) = off + (i + 1) * 8 + j by omega] at this
  | _ :: _, [], _, h, _ => h.elim
theorem LvAt.len {W : World} {own : Nat → Nat} {base i : Nat} {t : Fr} {cs : List Value} (h : LvAt W own base i t cs) : cs.length = 9 := by
  obtain ⟨L, N, M, css, rfl, _⟩ := h
  rfl
theorem LvsAt.snoc {W : World} {own : Nat → Nat} {base : Nat} {t : Fr} {c : List Value} : ∀ (i : Nat) (l : List Fr) (css : List (List Value)), LvsAt W own base i l css → LvAt W own base (i + l.length) t c → LvsAt W own base i (l ++ [t]) (css ++ [c])
  | i, [], [], _, h => ⟨h, trivial⟩
  | i, _ :: l, _ :: cs, h, h2 => ⟨h.1, LvsAt.snoc (i + 1) l cs h.2 (by rwa [show i + 1 + l.length = i + (l.length + 1) by omega])⟩
  | _, [], _ :: _, h, _ => h.elim
  | _, _ :: _, [], h, _ => h.elim
theorem LvsAt.split {W : World} {own : Nat → Nat} {base : Nat} {t : Fr} : ∀ (i : Nat) (l : List Fr) (css : List (List Value)), LvsAt W own base i (l ++ [t]) css → ∃ cs0 c, css = cs0 ++ [c] ∧ LvsAt W own base i l cs0 ∧ LvAt W own base (i + l.length) t c
  | i, [], [d], h => ⟨[], d, rfl, trivial, h.1⟩
  | i, [], d :: e :: cs, h => h.2.elim
  | i, x :: l, d :: cs, h => by
    obtain ⟨cs0, c, e, h1, h2⟩ := LvsAt.split (i + 1) l cs h.2
    exact ⟨d :: cs0, c, by rw [e]; rfl, ⟨h.1, h1⟩, by rwa [show i + (x :: l).length = i + 1 + l.length by simp only [List.length_cons]; omega]⟩
  | _, [], [], h => h.elim
  | _, _ :: _, [], h => h.elim
theorem LvsAt.one : ∀ {W : World} {own : Nat → Nat} {base : Nat} (i : Nat) (l : List Fr) (css : List (List Value)), LvsAt W own base i l css → css.flatten.length = l.length * 9
  | _, _, _, _, [], [], _ => rfl
  | _, _, _, i, x :: l, c :: cs, h => by
    rw [List.flatten_cons, List.length_append, h.1.len, LvsAt.one (i + 1) l cs h.2, List.length_cons]; omega
  | _, _, _, _, [], _ :: _, h => h.elim
  | _, _, _, _, _ :: _, [], h => h.elim
/-- Owners at two times: whoever owned a block that was there owns it; what G has may turn. -/
structure Still (W W' : World) (G : Nat → Prop) (own own' : Nat → Nat) : Prop where
  kept : Kept G W W'
  own : ∀ k, k < W.heap.size → own' k = own k
section
variable {W W' : World} {G : Nat → Prop} {own own' : Nat → Nat} {base : Nat}
theorem FB.to {i k : Nat} (s : Still W W' G own own') (h : FB own base i k) (hk : k < W.heap.size) : FB own' base i k := ⟨(s.own k hk).trans h.1, h.2⟩
theorem Lies.still {i : Nat} {e : TypeId} {size n : Nat} {v : Value} {xs : List Value} (h : Lies W (FB own base i) e size v n xs) (s : Still W W' G own own') (hd : ∀ q, G q → base ≤ q → own q ≠ i) : Lies W' (FB own' base i) e size v n xs :=
  (h.there.kept s.kept fun k hk hg => hd k hg hk.1.2 hk.1.1).mono fun _ hk => FB.to s hk.1 hk.2
theorem JIs.still {i : Nat} {v : JV} {cs : List Value} (h : JIs W (FB own base i) v cs) (s : Still W W' G own own') (hd : ∀ q, G q → base ≤ q → own q ≠ i) : JIs W' (FB own' base i) v cs :=
  JIs.mono (fun _ hk _ => FB.to s hk.1 hk.2) v cs (JIs.kept (F := fun k => FB own base i k ∧ k < W.heap.size) s.kept (fun k hk hg => hd k hg hk.1.2 hk.1.1) v cs (JIs.mono (fun _ h1 h2 => ⟨h1, h2⟩) v cs h))
theorem JsAt.still {i : Nat} {l : List JV} {css : List (List Value)} (h : JsAt W (FB own base i) l css) (s : Still W W' G own own') (hd : ∀ q, G q → base ≤ q → own q ≠ i) : JsAt W' (FB own' base i) l css :=
  JsAt.mono (fun _ hk _ => FB.to s hk.1 hk.2) l css (JsAt.kept (F := fun k => FB own base i k ∧ k < W.heap.size) s.kept (fun k hk hg => hd k hg hk.1.2 hk.1.1) l css (JsAt.mono (fun _ h1 h2 => ⟨h1, h2⟩) l css h))
/-- A set that some level has, or none. -/
def SetAt (W : World) (own : Nat → Nat) (base i : Nat) (M : Value) (ns : List (List UInt8)) : Prop := (M = .map none ∧ ns = []) ∨ ∃ b, M = .map (some b) ∧ FB own base i b ∧ IsSet W b (setL ns)
theorem SetAt.still {i : Nat} {M : Value} {ns : List (List UInt8)} (h : SetAt W own base i M ns) (s : Still W W' G own own') (hd : ∀ q, G q → base ≤ q → own q ≠ i) : SetAt W' own' base i M ns :=
  h.imp id fun ⟨b, e, hf, hs⟩ => ⟨b, e, FB.to s hf hs.lt, hs.kept s.kept fun hg => hd b hg hf.2 hf.1⟩
theorem LvAt.still {i : Nat} {t : Fr} {cs : List Value} (h : LvAt W own base i t cs) (s : Still W W' G own own') (hd : ∀ q, G q → base ≤ q → own q ≠ 0 ∧ (own q < 4 + 3 * i ∨ 7 + 3 * i ≤ own q)) : LvAt W' own' base i t cs := by
  obtain ⟨L, N, M, css, e, h1, h2, h3, h4⟩ := h
  exact ⟨L, N, M, css, e, h1.still s fun q hg hb => (hd q hg hb).1, h2.still s fun q hg hb => by have := (hd q hg hb).2; omega, h3.still s fun q hg hb => by have := (hd q hg hb).2; omega, SetAt.still h4 s fun q hg hb => by have := (hd q hg hb).2; omega⟩
theorem LvsAt.still (s : Still W W' G own own') : ∀ (i : Nat) (l : List Fr) (css : List (List Value)), LvsAt W own base i l css → (∀ q, G q → base ≤ q → own q ≠ 0 ∧ (own q < 4 + 3 * i ∨ 4 + 3 * (i + l.length) ≤ own q)) → LvsAt W' own' base i l css
  | _, [], [], _, _ => trivial
  | i, t :: r, c :: cs, h, hd => ⟨h.1.still s fun q hg hb => by
      have := hd q hg hb
      simp only [List.length_cons] at this
      omega, LvsAt.still s (i + 1) r cs h.2 fun q hg hb => by
      have := hd q hg hb
      simp only [List.length_cons] at this
      omega⟩
  | _, [], _ :: _, h, _ => h.elim
  | _, _ :: _, [], h, _ => h.elim
/-- What goes on elsewhere. -/
theorem Stk.still {K : List Fr} {E O : Value} (h : Stk W own base K E O) (s : Still W W' G own own') (hd : ∀ q, G q → base ≤ q → own q = 3) : Stk W' own' base K E O := by
  obtain ⟨h1, css, h2, h3⟩ := h
  exact ⟨h1.still s fun q hg hb => by have := hd q hg hb; omega, css, h2.still s fun q hg hb => by have := hd q hg hb; omega, LvsAt.still s 0 _ css h3 fun q hg hb => by have := hd q hg hb; omega⟩
end
theorem Lies.set {W : World} {F : Nat → Prop} {e : TypeId} {size g off cap n : Nat} {xs : List Value} (h : Lies W F e size (.slice (some ⟨g, off, none⟩) n cap) n xs) {j : Nat} (hj : j < n * size) (u : Value) :
    Lies (W.setCell ⟨g, off + j, none⟩ u) F e size (.slice (some ⟨g, off, none⟩) n cap) n (xs.set j u) := by
  refine ⟨by rw [List.length_set]; exact h.1, ?_⟩
  rcases h.2 with ⟨A, hv, rfl⟩ | ⟨g', off', cap', cur, hv, hF, hg, h1, h2, h3, h4⟩
  · omega
  · injection hv with e1 _ e3
    injection e1 with e1
    injection e1 with e1 e2
    subst e1 e2 e3
    refine .inr ⟨g, off, cap, cur.setIfInBounds (off + j) u, rfl, hF, heap_setCell_same W g (off + j) cur e u hg, h1, h2, by simpa using h3, ?_⟩
    rw [← h4]
    refine List.ext_getElem? fun i => ?_
    simp only [Array.toList_setIfInBounds, List.getElem?_take, List.getElem?_drop, List.getElem?_set, List.length_take, List.length_drop, Array.length_toList]
    by_cases hi : i < n * size
    · by_cases hij : j = i
      · subst hij
        have : off + j < cur.size := by
          have : n * size ≤ cap * size := Nat.mul_le_mul_right _ h1
          omega
        rw [if_pos hi, if_pos rfl, if_pos this, if_pos rfl, if_pos (by rw [Nat.lt_min]; omega)]
      · rw [if_pos hi, if_neg (by omega), if_neg hij, if_pos hi]
    · rw [if_neg hi, if_neg (by omega), if_neg hi]
theorem Lies.take {W : World} {F : Nat → Prop} {e : TypeId} {size n c : Nat} {A : Option Addr} {xs : List Value} (h : Lies W F e size (.slice A n c) n xs) {k : Nat} (hk : k ≤ n) : Lies W F e size (.slice A k c) k (xs.take (k * size)) := by
  have hm : k * size ≤ n * size := Nat.mul_le_mul_right _ hk
  refine ⟨by rw [List.length_take, h.1]; omega, ?_⟩
  rcases h.2 with ⟨A', hv, rfl⟩ | ⟨g, off, cap, cur, hv, hF, hg, h1, h2, h3, h4⟩
  · injection hv with e1 _ e3
    subst e1 e3
    obtain rfl : k = 0 := by omega
    exact .inl ⟨A, rfl, rfl⟩
  · injection hv with e1 _ e3
    subst e1 e3
    refine .inr ⟨g, off, c, cur, rfl, hF, hg, by omega, h2, h3, ?_⟩
    rw [← h4, List.take_take]
    congr 1
    omega
/-- The innermost one that is kept, but for its set. -/
structure TopW (W : World) (own : Nat → Nat) (base : Nat) (t : Fr) (r : List Fr) (g off cap : Nat) (cs0 : List (List Value)) (L N M : Value) (css : List (List Value)) : Prop where
  all : Lies W (FB own base 2) 118 9 (.slice (some ⟨g, off, none⟩) (r.length + 1) cap) (r.length + 1) (cs0.flatten ++ lvC t.obj L N M)
  rest : LvsAt W own base 0 r.reverse cs0
  vals : JsAt W (FB own base 0) t.list css
  list : Lies W (FB own base (4 + 3 * r.length)) 30 8 L t.list.length css.flatten
  names : Lies W (FB own base (5 + 3 * r.length)) 9 1 N t.names.length (t.names.map keyV)
structure Top (W : World) (own : Nat → Nat) (base : Nat) (t : Fr) (r : List Fr) (g off cap : Nat) (cs0 : List (List Value)) (L N M : Value) (css : List (List Value)) : Prop extends TopW W own base t r g off cap cs0 L N M css where
  set_ : SetAt W own base (6 + 3 * r.length) M t.names
theorem keptK_cons {t : Fr} {r : List Fr} (h : r.length < 64) : keptK (t :: r) = r.reverse ++ [t] := by
  unfold keptK
  rw [List.reverse_cons, List.take_of_length_le (by simp; omega)]
theorem keptK_deep {t : Fr} {r : List Fr} (h : 64 ≤ r.length) : keptK (t :: r) = keptK r := by
  unfold keptK
  rw [List.reverse_cons, List.take_append_of_le_length (by simp; omega)]
theorem keptK_all {K : List Fr} (h : K.length ≤ 64) : keptK K = K.reverse := by
  unfold keptK
  rw [List.take_of_length_le (by simp; omega)]
theorem Stk.top {W : World} {own : Nat → Nat} {base : Nat} {t : Fr} {r : List Fr} {E O : Value} (h : Stk W own base (t :: r) E O) (hr : r.length < 64) : ∃ g off cap cs0 L N M css, O = .slice (some ⟨g, off, none⟩) (r.length + 1) cap ∧ Top W own base t r g off cap cs0 L N M css := by
  obtain ⟨_, css, h2, h3⟩ := h
  rw [keptK_cons hr] at h2 h3
  obtain ⟨cs0, c, rfl, h4, h5⟩ := LvsAt.split 0 r.reverse css h3
  obtain ⟨L, N, M, vs, rfl, h6, h7, h8, h9⟩ := h5
  have hn : (r.reverse ++ [t]).length = r.length + 1 := by simp
  rw [hn] at h2
  obtain ⟨g, off, cap, rfl, _⟩ := h2.cells (by omega)
  rw [Nat.zero_add, List.length_reverse] at h7 h8 h9
  exact ⟨g, off, cap, cs0, L, N, M, vs, rfl, ⟨⟨by simpa using h2, h4, h6, h7, h8⟩, h9⟩⟩
theorem Top.stk {W : World} {own : Nat → Nat} {base : Nat} {t : Fr} {r : List Fr} {E : Value} {g off cap : Nat} {cs0 : List (List Value)} {L N M : Value} {css : List (List Value)} (h : Top W own base t r g off cap cs0 L N M css) (hr : r.length < 64)
    (hE : Lies W (FB own base 1) 5 1 E (r.length + 1) (u8s ((t :: r).reverse.map endB))) : Stk W own base (t :: r) E (.slice (some ⟨g, off, none⟩) (r.length + 1) cap) := by
  refine ⟨hE, cs0 ++ [lvC t.obj L N M], ?_, ?_⟩
  · rw [keptK_cons hr]
    have hn : (r.reverse ++ [t]).length = r.length + 1 := by simp
    rw [hn]
    simpa using h.all
  · rw [keptK_cons hr]
    refine LvsAt.snoc 0 r.reverse cs0 h.rest ⟨L, N, M, css, rfl, h.vals, ?_, ?_, ?_⟩ <;> rw [Nat.zero_add, List.length_reverse]
    · exact h.list
    · exact h.names
    · exact h.set_
section
variable {W : World} {own : Nat → Nat} {base : Nat} {t : Fr} {r : List Fr} {g off cap : Nat} {cs0 : List (List Value)} {L N M : Value} {css : List (List Value)}
theorem TopW.len (h : TopW W own base t r g off cap cs0 L N M css) : cs0.flatten.length = r.length * 9 := by
  have := LvsAt.one 0 _ _ h.rest
  rwa [List.length_reverse] at this
theorem TopW.block (h : TopW W own base t r g off cap cs0 L N M css) : FB own base 2 g ∧ g < W.heap.size := by
  obtain ⟨g', off', cap', hv, hf, _, _, hl, _⟩ := h.all.cells (by omega)
  injection hv with e1 _ _
  injection e1 with e1
  injection e1 with e1 _ _
  subst e1
  exact ⟨hf, hl⟩
theorem TopW.cell (h : TopW W own base t r g off cap cs0 L N M css) (j : Nat) (u : Value) (hu : (lvC t.obj L N M)[j]? = some u) : W.cell? ⟨g, off + r.length * 9 + j, none⟩ = some u := by
  obtain ⟨g', off', cap', hv, _, _, _, _, hr⟩ := h.all.cells (by omega)
  injection hv with e1 _ _
  injection e1 with e1
  injection e1 with e1 e2 _
  subst e1 e2
  have := hr (r.length * 9 + j) u (by rw [List.getElem?_append_right (by rw [h.len]; omega), h.len, Nat.add_sub_cancel_left]; exact hu)
  rwa [← Nat.add_assoc] at this
/-- One cell of the level turns. -/
theorem TopW.setAll (h : TopW W own base t r g off cap cs0 L N M css) (j : Nat) (hj : j < 9) (u : Value) {c' : List Value} (hc : (lvC t.obj L N M).set j u = c') :
    Lies (W.setCell ⟨g, off + r.length * 9 + j, none⟩ u) (FB own base 2) 118 9 (.slice (some ⟨g, off, none⟩) (r.length + 1) cap) (r.length + 1) (cs0.flatten ++ c') := by
  have h1 := h.all.set (j := r.length * 9 + j) (by omega) u
  rw [List.set_append_right _ _ (by rw [h.len]; omega), h.len, Nat.add_sub_cancel_left, hc, ← Nat.add_assoc] at h1
  exact h1
end
end Go.Proofs.YtjckojedafajeaaGreatDoor
/- Of no program: a region whose operations come in an order that is drawn; a condition on the world holds till one operation has come up. -/
namespace Go.Proofs.YtjckojedafajeaaGreatDoor
open Go Go.RowKit
section
variable {P : Program} {md : Region.Mode} {ops : Array Oper} {Q : Exit → Act → World → Prop} {S : World → Prop} {z : Nat}

/-- Whatever order is drawn; S holds behind each operation till operation z has come up. -/
def wpTill (P : Program) (md : Region.Mode) (ops : Array Oper) (Q : Exit → Act → World → Prop) (z : Nat) (S : World → Prop) : Nat → Array Bool → Act → World → Prop
  | 0, listed, a, w => Region.ready md ops listed = [] ∧ Q .normal a w
  | fuel + 1, listed, a, w => (Region.ready md ops listed = [] → Q .normal a w) ∧
    ∀ i ∈ Region.ready md ops listed, wpOp P ops Q i (fun a' w' => ((listed.setIfInBounds i true).getD z true = false → S w') ∧ wpTill P md ops Q z S fuel (listed.setIfInBounds i true) a' w') a w
theorem wpAny_of_till : ∀ (fuel : Nat) (listed : Array Bool) (a : Act) (w : World), wpTill P md ops Q z S fuel listed a w → wpAny P md ops Q fuel listed a w
  | 0, _, _, _, h => h
  | fuel + 1, _, _, _, h => ⟨h.1, fun i hi => wpOp_mono (fun a' w' h' => wpAny_of_till fuel _ a' w' h'.2) (h.2 i hi)⟩
theorem getD_still {l : Array Bool} {i z : Nat} (h : l.getD z true = true) : (l.setIfInBounds i true).getD z true = true := by
  by_cases e : i = z
  · subst e
    by_cases hb : i < l.size
    · simp [Array.getD, hb]
    · simp [Array.getD, hb]
  · rw [getD_set_ne true e]; exact h
/-- Behind operation z nothing more is asked. -/
theorem wpTill_past : ∀ (fuel : Nat) (listed : Array Bool) (a : Act) (w : World), listed.getD z true = true → wpAny P md ops Q fuel listed a w → wpTill P md ops Q z S fuel listed a w
  | 0, _, _, _, _, h => h
  | fuel + 1, listed, a, w, hz, h => ⟨h.1, fun i hi => wpOp_mono (fun a' w' h' => ⟨fun h9 => (by rw [getD_still hz] at h9; cases h9), wpTill_past fuel _ a' w' (getD_still hz) h'⟩) (h.2 i hi)⟩
/-- Operation z waits for operation i. -/
def waitsB (md : Region.Mode) (ops : Array Oper) (z i : Nat) : Bool := ((ops[z]?).map fun o => o.after.any fun e => Region.binds md e && e.on == i).getD false
theorem waits_not {listed : Array Bool} {i : Nat} (hw : waitsB md ops z i = true) (hi : listed.getD i false = false) : z ∉ Region.ready md ops listed := fun hz => by
  obtain ⟨_, oz, hoz, hall⟩ := mem_ready.1 hz
  unfold waitsB at hw
  rw [hoz] at hw
  simp only [Option.map_some, Option.getD_some] at hw
  obtain ⟨e, he, hb⟩ := Array.any_eq_true'.1 hw
  rw [Bool.and_eq_true, beq_iff_eq] at hb
  have := hall e he hb.1
  rw [hb.2, hi] at this
  cases this
theorem wpTill_first {i : Nat} {oi : Oper} {v : Value} (hi : ops[i]? = some oi) (hsel : ∀ (j : Nat) (o : Oper) cs b, ops[j]? = some o → o.op ≠ .select cs b)
    (hQ : ∀ c a w, Q (.panic c) (a.put oi.dst v) w → Q (.panic c) a w) (hzi : waitsB md ops z i = true) :
    ∀ (fuel : Nat) (listed : Array Bool) (a : Act) (w : World),
      (∀ j oj, ops[j]? = some oj → j ≠ i → listed.getD j true = false → (∀ e ∈ oj.after, Region.binds md e = true → e.on ≠ i) → oi.apart ops oj = true) →
      i ∈ Region.ready md ops listed → listed.getD z true = false → YieldsIf P ops S oi v a → S w →
      wpTill P md ops Q z S fuel (listed.setIfInBounds i true) (a.put oi.dst v) w → wpTill P md ops Q z S (fuel + 1) listed a w := by
  intro fuel
  induction fuel with
  | zero =>
    intro listed a w _ hr _ hy hS H
    refine ⟨fun h => (by rw [h] at hr; cases hr), fun j hj => ?_⟩
    by_cases hji : j = i
    · subst hji; exact hy.wpOp hi hS ⟨fun _ => hS, H⟩
    · have h0 := ready_mono hj hji
      rw [H.1] at h0
      cases h0
  | succ fuel ih =>
    intro listed a w hfree hr hz hy hS H
    refine ⟨fun h => (by rw [h] at hr; cases hr), fun j hj => ?_⟩
    by_cases hji : j = i
    · subst hji; exact hy.wpOp hi hS ⟨fun _ => hS, H⟩
    · have hlj := (mem_ready.1 hr).1
      have hli : listed.getD i false = false := by
        rcases Nat.lt_or_ge i listed.size with h9 | h9
        · simp [Array.getD, h9] at hlj ⊢; exact hlj
        · simp [Array.getD, Nat.not_lt.2 h9]
      have hjz : j ≠ z := fun e => by subst e; exact waits_not hzi hli hj
      have hz2 : (listed.setIfInBounds j true).getD z true = false := by rw [getD_set_ne true hjz]; exact hz
      have hz3 : ((listed.setIfInBounds i true).setIfInBounds j true).getD z true = false → True := fun _ => trivial
      obtain ⟨hjun, oj, hoj, hall⟩ := mem_ready.1 hj
      have hnot : ∀ e ∈ oj.after, Region.binds md e = true → e.on ≠ i := fun e he hb heq => by
        have := hall e he hb
        rw [heq, hli] at this
        cases this
      have h1 := H.2 j (ready_mono hj hji)
      have h2 := wpOp_putIf hoj (hfree j oj hoj hji hjun hnot) (fun cs b => hsel i oi cs b hi) (fun cs b => hsel j oj cs b hoj) hQ hy h1
      have hfree' : ∀ k ok, ops[k]? = some ok → k ≠ i → (listed.setIfInBounds j true).getD k true = false →
          (∀ e ∈ ok.after, Region.binds md e = true → e.on ≠ i) → oi.apart ops ok = true := fun k ok hk hki hun hno => by
        refine hfree k ok hk hki ?_ hno
        by_cases hjk : j = k
        · subst hjk; exact hjun
        · rw [getD_set_ne true hjk] at hun; exact hun
      have hiz : i ≠ z := fun e => by
        subst e
        exact waits_not hzi hli hr
      refine wpOp_mono (fun a' w' h3 => ?_) h2
      have hSw : S w' := h3.2.1 (by rw [getD_set_ne true hjz, getD_set_ne true hiz]; exact hz)
      refine ⟨fun _ => hSw, ih (listed.setIfInBounds j true) a' w' hfree' (ready_mono hr (Ne.symm hji)) hz2 h3.1 hSw ?_⟩
      rw [Array.setIfInBounds_comm _ _ hji]
      exact h3.2.2
/-- An operation that z waits for, and that yields the same in all that S lets be, comes first. -/
theorem wpTill_take {i : Nat} {oi : Oper} {v : Value} {fuel : Nat} {listed : Array Bool} {a : Act} {w : World} (hi : ops[i]? = some oi)
    (hs : Region.noSelect ops = true) (hf : Region.free md ops listed i = true) (hr : (Region.ready md ops listed).contains i = true) (hw : waitsB md ops z i = true) (hz : listed.getD z true = false)
    (hQ : ∀ c a w, Q (.panic c) (a.put oi.dst v) w → Q (.panic c) a w) (hy : YieldsIf P ops S oi v a) (hS : S w)
    (h : wpTill P md ops Q z S fuel (listed.setIfInBounds i true) (a.put oi.dst v) w) : wpTill P md ops Q z S (fuel + 1) listed a w :=
  wpTill_first hi (Region.noSelect_spec hs) hQ hw fuel listed a w (Region.free_spec hi hf) (by simpa using hr) hz hy hS h
/-- Just one may come up. -/
theorem wpTill_one {i : Nat} {o : Oper} {fuel : Nat} {listed : Array Bool} {a : Act} {w : World} (hr : Region.ready md ops listed = [i]) (ho : ops[i]? = some o) (hg : o.guard = none)
    (h : ∀ K : Act → World → Prop, (∀ a' w', ((listed.setIfInBounds i true).getD z true = false → S w') → wpTill P md ops Q z S fuel (listed.setIfInBounds i true) a' w' → K a' w') → Oper.wp P o a w K Q) : wpTill P md ops Q z S (fuel + 1) listed a w :=
  ⟨fun h0 => (by rw [hr] at h0; cases h0), fun j hj => by
    rw [hr] at hj
    obtain rfl : j = i := by simpa using hj
    refine wpOp_step ho fun K hK => ?_
    rw [if_pos (by simp [Region.wanted, hg])]
    exact h K fun a' w' h1 h2 => hK a' w' ⟨h1, h2⟩⟩
theorem wp_region_till {id : Nat} {a : Act} {w : World} (z : Nat) (S : World → Prop) (hm : P.follows .mixedOrders = true)
    (h : wpTill P .any ops Q z S ops.size (Array.replicate ops.size false) a w.drew) : (Code.region id ops true).wp P Q a w :=
  wp_region_any hm (wpAny_of_till _ _ _ _ h)
end
end Go.Proofs.YtjckojedafajeaaGreatDoor
