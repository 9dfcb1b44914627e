/- The law CrcAll: its walk. -/
import Derived.Test.YtmiaaihejapomaaCrcIter
import Derived.Test.YtmiaaihejapomaaCrcKnown
import Derived.RangeFuncFrom
import Derived.ControlIn
namespace Go.Proofs.Ytmiaaihejapomaa
open Go.RowKit Go.Shelf
open Crc
attribute [local go_sem] Oper.semAt_some

/-- The three boxes that the law lays first: its bytes, where to leave, its answer. -/
def boxes (w : World) (A : Option Addr) (n c : Nat) (leave : Int) : World :=
  ((w.alloc (.cells #[.slice A n c] 22)).alloc (.cells #[.int .i64 leave] 3)).alloc (.cells #[.bool false] 4)
structure Boxed3 (w : World) (B : Nat) (A : Option Addr) (n c : Nat) (leave : Int) (W : World) : Prop where
  b : Row W B 22 #[.slice A n c]
  l : Row W (B + 1) 3 #[.int .i64 leave]
  r : Row W (B + 1 + 1) 4 #[.bool false]
  below : Below w.heap.size w W
theorem boxes_are (w : World) (A : Option Addr) (n c : Nat) (leave : Int) : Boxed3 w w.heap.size A n c leave (boxes w A n c leave) := by
  have h1 := Row.new w 22 #[.slice A n c]
  have h2 := Row.new (w.alloc (.cells #[.slice A n c] 22)) 3 #[.int .i64 leave]
  have h3 := Row.new ((w.alloc (.cells #[.slice A n c] 22)).alloc (.cells #[.int .i64 leave] 3)) 4 #[.bool false]
  simp only [World.size_alloc] at h2 h3
  exact ⟨(h1.alloc _).alloc _, h2.alloc _, h3, (((Below.refl _ _).alloc (Nat.le_refl _) _).alloc (by simp) _).alloc (by simp; omega) _⟩
theorem Boxed3.call {w W W' : World} {B n c : Nat} {A : Option Addr} {leave : Int} (h : Boxed3 w B A n c leave W) (hb : Below W.heap.size W W') : Boxed3 w B A n c leave W' :=
  ⟨h.b.call hb, h.l.call hb, h.r.call hb, h.below.call hb⟩

set_option maxRecDepth 100000 in
set_option maxHeartbeats 1000000 in
theorem all_law_long (A : Option Addr) (n c : Nat) (leave : Int) (w : World) (hn : 500 < n) :
    Calls Try.prog 5 #[.slice A n c, .int .i64 leave] w fun e w' => e = .returned (.bool true) ∧ Below w.heap.size w w' := by
  have hbx := boxes_are w A n c leave
  refine (callsIn_wide (n := 3)).1 ?_
  refine callsIn_of_wp_marks Try.func5 rfl trivial ?_ rfl
  simp only [Try.ntmps5, List.size_toArray, List.length_cons, List.length_nil, Nat.reduceAdd, Nat.reduceSub, Array.replicate_succ, Array.replicate_zero, List.push_toArray, List.append_toArray, List.nil_append, List.cons_append]
  refine wpIn_wide.2 ?_
  go_wp2_with fail
  refine (known_calls _).mono ?_
  rintro e w1 ⟨rfl, hb1⟩
  have h1 := hbx.call hb1
  have hc1 := h1.r.cell (i := 0) rfl
  have hf1 := h1.r.free 0
  have hs1 := h1.r.set_ 0 (.bool true)
  have hc2 := hs1.cell (i := 0) rfl
  have hbe := h1.below.setCell (p := ⟨w.heap.size + 1 + 1, 0, none⟩) (by simp; omega) (.bool true)
  clear hbx hb1 h1 hs1
  go_wp2
  refine ⟨.bool true, ?_, rfl, hbe⟩
  simp [results, Try.f5, go_sem, hc2]

/-- Nothing but one block has turned; a row of bytes, whichever. -/
def Only1 (g : Nat) (a b : World) : Prop := a.heap.size ≤ b.heap.size ∧ ∀ k, k < a.heap.size → k ≠ g → b.heap[k]? = a.heap[k]?
theorem Only1.refl (g : Nat) (a : World) : Only1 g a a := ⟨Nat.le_refl _, fun _ _ _ => rfl⟩
theorem Only1.setCell {g : Nat} {a b : World} (h : Only1 g a b) (i : Nat) (v : Value) : Only1 g a (b.setCell ⟨g, i, none⟩ v) :=
  ⟨by simpa using h.1, fun k hk hg => (heap_setCell_other b ⟨g, i, none⟩ k v hg).trans (h.2 k hk hg)⟩
theorem Row.only1 {a b : World} {g k : Nat} {t : TypeId} {cs : Array Value} (h : Row a k t cs) (ho : Only1 g a b) (hne : k ≠ g) : Row b k t cs := (ho.2 k h.lt hne).trans h
def Some1 (w : World) (g n : Nat) : Prop := ∃ cs : Array Value, Row w g 5 cs ∧ ∀ i, i < n → ∃ v : Nat, cs[i]? = some (.int .u8 (v : Int))
theorem Some1.call {w w' : World} {g n : Nat} (h : Some1 w g n) (hb : Below w.heap.size w w') : Some1 w' g n := by
  obtain ⟨cs, h1, h2⟩ := h
  exact ⟨cs, h1.call hb, h2⟩
theorem own_any {w : World} {base e k : Nat} {v : Value} {l : List Nat} (h : w.ownsRow base e 1 v k (cellsOf l)) :
    ∃ M cap, v = .slice M k cap ∧ (0 < k → ∃ g, M = some ⟨g, 0, none⟩ ∧ base ≤ g ∧ g < w.heap.size) := by
  rcases h.2 with ⟨h1, h2⟩ | ⟨g, cap, cur, hv, hg, hh, _⟩
  · subst h2; exact ⟨none, 0, h1, fun h => by omega⟩
  · exact ⟨some ⟨g, 0, none⟩, cap, hv, fun _ => ⟨g, rfl, hg, Row.lt (t := e) (cs := cur) hh⟩⟩
theorem Bytes.of_own_any {w : World} {base e k cap : Nat} {M : Option Addr} {l : List Nat} (h : w.ownsRow base e 1 (.slice M k cap) k (cellsOf l)) (hs : Small l) : Bytes w M k l := Bytes.of_own h hs

theorem some_of_own {w : World} {base n g cap : Nat} {l : List Nat} (h : w.ownsRow base 5 1 (.slice (some ⟨g, 0, none⟩) n cap) n (cellsOf l)) : Some1 w g n := by
  have hl : l.length = n := by have := h.1; rw [cellsOf_length] at this; omega
  rcases h.2 with ⟨h1, _⟩ | ⟨g', cap', cur, h1, _, h2, _, _, _, h3⟩
  · cases h1
  · cases h1
    refine ⟨cur, h2, fun i hi => ⟨l.getD i 0, ?_⟩⟩
    have h4 : (cellsOf l)[i]? = cur.toList[i]? := by rw [← h3]; simp [hi]
    rw [cellsOf_get l (by omega)] at h4
    rw [← Array.getElem?_toList]
    exact h4.symm

/-- All that the two turns go on with. -/
structure Ready (w : World) (B : Nat) (A : Option Addr) (n c : Nat) (leave : Int) (l : List Nat) (B1 g2 gc : Nat) (W : World) : Prop where
  boxed : Boxed3 w B A n c leave W
  box1 : Row W B1 22 #[.slice (some ⟨gc, 0, none⟩) n n]
  row : Row W gc 5 (cellsOf l).toArray
  tab : Row W g2 44 (tabDone .u32 3988292384)
theorem Ready.call {w W W' : World} {B n c B1 g2 gc : Nat} {A : Option Addr} {leave : Int} {l : List Nat} (h : Ready w B A n c leave l B1 g2 gc W) (hb : Below W.heap.size W W') : Ready w B A n c leave l B1 g2 gc W' :=
  ⟨h.boxed.call hb, h.box1.call hb, h.row.call hb, h.tab.call hb⟩

theorem Ready.from_ {w W W' : World} {B n c B1 g2 gc n₀ : Nat} {A : Option Addr} {leave : Int} {l : List Nat} (h : Ready w B A n c leave l B1 g2 gc W) (hb : Below n₀ W W')
    (h0 : B + 1 + 1 < n₀) (h1 : B1 < n₀) (h2 : g2 < n₀) (h3 : gc < n₀) (h4 : w.heap.size ≤ n₀) : Ready w B A n c leave l B1 g2 gc W' :=
  ⟨⟨h.boxed.b.below hb (by omega), h.boxed.l.below hb (by omega), h.boxed.r.below hb h0, h.boxed.below.trans (hb.mono h4)⟩, h.box1.below hb h1, h.row.below hb h3, h.tab.below hb h2⟩
/-- The world in which a turn goes over the iterator: the turn's number and the count in boxes of their own. -/
def AtTurn (w : World) (B : Nat) (A : Option Addr) (n c : Nat) (leave : Int) (l : List Nat) (B1 g2 gc Bt n₀ : Nat) (tv : Int) (W : World) : Prop :=
  Ready w B A n c leave l B1 g2 gc W ∧ Row W Bt 3 #[.int .i64 tv] ∧ Row W n₀ 3 #[.int .i64 0] ∧ ((B1 < n₀ ∧ g2 < n₀ ∧ gc < n₀ ∧ B + 1 + 1 < n₀ ∧ Bt < n₀) ∧ W.heap.size = n₀ + 1)
theorem turn_boxes {w wr : World} {B n c B1 g2 gc : Nat} {A : Option Addr} {leave : Int} {l : List Nat} (h : Ready w B A n c leave l B1 g2 gc wr) (tv : Int) :
    AtTurn w B A n c leave l B1 g2 gc wr.heap.size (wr.heap.size + 1) tv ((wr.alloc (.cells #[.int .i64 tv] 3)).alloc (.cells #[.int .i64 0] 3)) := by
  have hb : Below wr.heap.size wr ((wr.alloc (.cells #[.int .i64 tv] 3)).alloc (.cells #[.int .i64 0] 3)) := ((Below.refl _ _).alloc (Nat.le_refl _) _).alloc (by simp) _
  have h2 := Row.new (wr.alloc (.cells #[.int .i64 tv] 3)) 3 #[.int .i64 0]
  rw [World.size_alloc] at h2
  have e1 := h.box1.lt
  have e2 := h.tab.lt
  have e3 := h.row.lt
  have e4 := h.boxed.r.lt
  exact ⟨h.call hb, (Row.new wr 3 #[.int .i64 tv]).alloc _, h2, ⟨by omega, by omega, by omega, by omega, by omega⟩, by simp⟩
theorem all_stops {w W : World} {B n c B1 g2 gc Bt n₀ : Nat} {A : Option Addr} {leave : Int} {l : List Nat}
    (hs : (B1 < n₀ ∧ g2 < n₀ ∧ gc < n₀ ∧ B + 1 + 1 < n₀ ∧ Bt < n₀) ∧ W.heap.size = n₀ + 1) (h : Ready w B A n c leave l B1 g2 gc W) (hA : Bytes w A n l) (hn : n ≤ 500) :
    SeqStopsK Fence.wide 3 Try.prog 23 #[.pointer (some ⟨B1, 0, none⟩), .pointer (some ⟨g2, 0, none⟩)] (pairOf l) (Below n₀) (fun xs => xs = List.range (n + 1)) (fun pre => ∃ k, k ≤ n + 1 ∧ pre = List.range k) (n + 1) W := by
  intro l₁ J Jx W' hW _ _ hY h0
  have h' := h.call hW
  exact all1 l₁ B1 g2 n₀ gc n l (by omega) hs.1.2.2.1 hs.1.2.1 hs.1.1 hA.lt hA.len J Jx hY W' (h'.box1.cell rfl) h'.row h'.tab h0

set_option maxRecDepth 100000 in
set_option maxHeartbeats 2000000 in
theorem all_law_short (A : Option Addr) (n c : Nat) (leave : Int) (l : List Nat) (w : World) (hA : Bytes w A n l) (hnil : A = none → n = 0 ∧ c = 0) (hcap : n ≤ c) (hn : n ≤ 500) :
    Calls Try.prog 5 #[.slice A n c, .int .i64 leave] w fun e w' => e = .returned (.bool true) ∧ Below w.heap.size w w' := by
  have hbx := boxes_are w A n c leave
  have HA := Lib.hid hA
  have HN := Lib.hid hnil
  have hB := hbx.below.size
  have hcb := hbx.b.cell (i := 0) rfl
  clear hA hnil
  refine (callsIn_wide (n := 3)).1 ?_
  refine callsIn_of_wp_marks Try.func5 rfl trivial ?_ rfl
  simp only [Try.ntmps5, List.size_toArray, List.length_cons, List.length_nil, Nat.reduceAdd, Nat.reduceSub, Array.replicate_succ, Array.replicate_zero, List.push_toArray, List.append_toArray, List.nil_append, List.cons_append]
  refine wpIn_wide.2 ?_
  go_wp2_with
    (refine wpList_append_bytes ?_ (.const (.slice none 0 0)) (.tmp 16) 22 5 ?_ Try.underlying22 infoU8 (boxes w A n c leave).heap.size (.slice none 0 0) 0 [] ?_ ?_ A n c l ?_ (HA.out.below hbx.below) HN.out (by omega) (Nat.le_refl _) ?_
     · with_reducible rfl
     · with_reducible rfl
     · rfl
     · exact ⟨rfl, .inl ⟨rfl, rfl⟩⟩
     · rfl
     intro v1 w1 hown1 hgr1 hat1 _
     have hb1 : Below (boxes w A n c leave).heap.size (boxes w A n c leave) w1 := (Below.refl _ _).grown hgr1 (Nat.le_refl _) (by simp [Value.ownBlock])
     rw [Nat.zero_add, List.nil_append] at hown1
     obtain ⟨M, capm, rfl, hM⟩ := own_any hown1
     have HM := Lib.hid hM
     have HBm := Lib.hid (Bytes.of_own_any hown1 HA.out.lt)
     have h1 := hbx.call hb1
     have HS1 := Lib.hid (fun g (h : M = some ⟨g, 0, none⟩) => some_of_own (g := g) (h ▸ hown1))
     clear hown1 hgr1 hat1 hb1 hM)
  refine (all_ M n capm l _ HBm.out (by omega)).mono ?_
  rintro e w2 ⟨B1, g2, gc, rfl, ⟨hd1, hd2, hd3, _⟩, hx2, hr2, ht2, hb2⟩
  have h2 : Ready w w.heap.size A n c leave l B1 g2 gc w2 := ⟨h1.call hb2, hx2, hr2, ht2⟩
  have hb12 := h1.r.lt
  have hfn : ∀ W, (binOp BinOp.eql 37 (.func (.func 23) #[] #[.pointer (some ⟨B1, 0, none⟩), .pointer (some ⟨g2, 0, none⟩)]) .nilFunc).run Try.prog W = .ok (.bool false) W := fun _ => rfl
  obtain ⟨gm, hgm, hgB, hg1, hgs, hm8⟩ : ∃ gm, (0 < n → M = some ⟨gm, 0, none⟩) ∧ w.heap.size + 1 + 1 < gm ∧ gm ≠ B1 ∧ (gm ≠ g2 ∧ gm ≠ gc) ∧ (0 < n → Some1 w2 gm n) := by
    have hbl : w.heap.size + 1 + 1 < (boxes w A n c leave).heap.size := hbx.r.lt
    rcases Nat.eq_zero_or_pos n with h0 | h0
    · have e1 := hx2.lt
      have e2 := hr2.lt
      have e3 := ht2.lt
      have e4 := hb2.size
      exact ⟨w2.heap.size, fun h => by omega, by omega, by omega, ⟨by omega, by omega⟩, fun h => by omega⟩
    · obtain ⟨g, hg, hge, hgl⟩ := HM.out h0
      exact ⟨g, fun _ => hg, by omega, by omega, ⟨by omega, by omega⟩, fun _ => (HS1.out g hg).call hb2⟩
  clear h1 hcb hx2 hr2 ht2 hbx
  have hM := Lib.hid hgm
  clear hgm
  go_wp2_with fail
  go_loopw [7] (fun v7 wr => ∃ i : Nat, i ≤ n ∧ v7 = .int .i64 i ∧ (0 < n → Some1 wr gm n) ∧ Only1 gm w2 wr ∧ Below w.heap.size w wr) (fun v7 _ => n - (intOf v7).toNat)
  case atStart => exact ⟨0, Nat.zero_le _, rfl, hm8, Only1.refl _ _, h2.boxed.below⟩
  case round =>
    obtain ⟨i, hi, rfl, h8, honly, hbr⟩ := hrel
    by_cases hlt : i < n
    · obtain rfl := hM.out (by omega)
      obtain ⟨cs, hr8, hcs⟩ := h8 (by omega)
      obtain ⟨v, hv⟩ := hcs i hlt
      have hck : wr.cell? ⟨gm, i, none⟩ = some (.int .u8 (v : Nat)) := hr8.cell hv
      have hfk : wr.frozen? ⟨gm, i, none⟩ = false := hr8.free _
      have hnew : Some1 (wr.setCell ⟨gm, i, none⟩ (.int .u8 ((((v : Nat) : Int) + 1) % 256))) gm n := by
        refine ⟨_, hr8.set_ i _, fun j hj => ?_⟩
        by_cases e : i = j
        · subst e
          obtain ⟨hb, _⟩ := Array.getElem?_eq_some_iff.1 hv
          exact ⟨(v + 1) % 256, by rw [Array.getElem?_setIfInBounds_self_of_lt hb]; congr 2⟩
        · obtain ⟨u, hu⟩ := hcs j hj
          exact ⟨u, by rw [Array.getElem?_setIfInBounds_ne e]; exact hu⟩
      clear hr8 h8 hm8
      go_wp2
      exact ⟨⟨i + 1, by omega, by go_num, fun _ => hnew, honly.setCell _ _, hbr.setCell (p := ⟨gm, i, none⟩) (by simp; omega) _⟩, by simp [intOf]; omega⟩
    · have h3 : Ready w w.heap.size A n c leave l B1 g2 gc wr :=
        ⟨⟨h2.boxed.b.only1 honly (by omega), h2.boxed.l.only1 honly (by omega), h2.boxed.r.only1 honly (by omega), hbr⟩, h2.box1.only1 honly (by omega), h2.row.only1 honly (by omega), h2.tab.only1 honly (by omega)⟩
      clear h2 honly hbr h8 hm8
      go_wp2_with fail
      refine wp_loop_rounds 3 ?_
      rw [rounds_succ]
      go_wp2_with fail
      have hnew := turn_boxes h3 0
      obtain ⟨n₀, hn₀⟩ : ∃ n₀, n₀ = wr.heap.size + 1 := ⟨_, rfl⟩
      rw [← hn₀] at hnew ⊢
      generalize (wr.alloc (.cells #[.int .i64 0] 3)).alloc (.cells #[.int .i64 0] 3) = Wl at *
      obtain ⟨Bt, hBt⟩ : ∃ Bt, Bt = wr.heap.size := ⟨_, rfl⟩
      rw [← hBt] at hnew ⊢
      obtain ⟨h4, ht4, hc4, hs4⟩ := hnew
      clear hn₀ hBt h3 HM HBm HS1 hd1 hd2 hd3 hb2 hb12 hgB hg1 hgs hM hi hlt
      refine (wpIn_wide (n := 4)).1 ?_
      refine wpIn_rangeFunc_ownF rfl (by omega) (gf := 23) (lb := #[.pointer (some ⟨B1, 0, none⟩), .pointer (some ⟨g2, 0, none⟩)]) rfl trivial (enters_of Try.func23 (by kernel_rfl) rfl)
        (all_stops hs4 h4 HA.out hn) belowK_t (belowK_b (by rw [hs4.2]; omega)) (Below.refl _ _) (fun _ => rfl)
        (fun pre W => (W.cell? ⟨n₀, 0, none⟩ = some (.int .i64 (pre.length : Nat)) ∧ W.frozen? ⟨n₀, 0, none⟩ = false) ∧ Below n₀ Wl W)
        (fun ex pre W => (ex = .ret ∧ ¬ ∃ k, pre = List.range k) ∨ ((ex = .exit 4 ∧ ((pre.length : Nat) : Int) = leave ∧ W.cell? ⟨n₀, 0, none⟩ = some (.int .i64 (pre.length : Nat)) ∧ W.frozen? ⟨n₀, 0, none⟩ = false) ∧ Below n₀ Wl W))
        ?hI ?hIx ?h0 ?a1 ?assign ?body ?done ?stop
      case assign =>
        intro l' x W K hK
        simp only [pairOf]
        gi_wp2
        exact hK
      case hI => exact OwnFrom.and (Own.from (fun s X Y row hs hg hr => ⟨cell_kept hs.1 hg hr, (frozen_kept hs.1 hg hr).trans hs.2⟩) _) (ownFrom_below (by rw [hs4.2]; omega) (by rw [hs4.2]; omega))
      case hIx =>
        intro ex s X Y row hs hg hr
        rcases hs with hs | ⟨⟨e1, e2, e3, e4⟩, e5⟩
        · exact .inl hs
        · exact .inr ⟨⟨e1, e2, cell_kept e3 hg (fun r e => (hr r e).2), (frozen_kept e3 hg (fun r e => (hr r e).2)).trans e4⟩, ownFrom_below (by rw [hs4.2]; omega) (by rw [hs4.2]; omega) s X Y row e5 hg hr⟩
      case h0 => exact ⟨⟨hc4.cell rfl, hc4.free 0⟩, Below.refl _ _⟩
      case body =>
        rintro l' pre x W ⟨⟨hc, hf⟩, hBW⟩ hlen
        have hR := h4.boxed.r.below hBW (by omega)
        have hcr := hR.cell (i := 0) (v := .bool false) rfl
        have hfr := hR.free 0
        by_cases hx : x = pre.length
        · subst hx
          have hkn : pre.length ≤ n := by omega
          have hk0 : (0 : Int) ≤ (pre.length : Int) := by omega
          have hk1 : (pre.length : Int) ≤ (c : Int) := by omega
          have hcb := (h4.boxed.b.below hBW (by omega)).cell (i := 0) (v := .slice A n c) rfl
          have hcl := (h4.boxed.l.below hBW (by omega)).cell (i := 0) (v := .int .i64 leave) rfl
          have hct := (ht4.below hBW (by omega)).cell (i := 0) (v := .int .i64 0) rfl
          have hBk := Lib.hid ((HA.out.below (h4.boxed.below.trans (hBW.mono (by omega)))).take hkn)
          have hlen2 := Lib.hid (show (pre ++ [pre.length]).length = pre.length + 1 by simp)
          have hnc : (W.setCell ⟨n₀, 0, none⟩ (.int .i64 ((pre.length : Int) + 1))).cell? ⟨n₀, 0, none⟩ = some (.int .i64 ((pre.length : Int) + 1)) := World.cell?_setCell_same' _ _ _ (by rw [hc]; rfl)
          have hnf : (W.setCell ⟨n₀, 0, none⟩ (.int .i64 ((pre.length : Int) + 1))).frozen? ⟨n₀, 0, none⟩ = false := by rw [World.frozen?_setCell]; exact hf
          have hnb : Below n₀ Wl (W.setCell ⟨n₀, 0, none⟩ (.int .i64 ((pre.length : Int) + 1))) := hBW.setCell (p := ⟨n₀, 0, none⟩) (Nat.le_refl _) _
          have hnk : Below n₀ W (W.setCell ⟨n₀, 0, none⟩ (.int .i64 ((pre.length : Int) + 1))) := (Below.refl _ _).setCell (p := ⟨n₀, 0, none⟩) (Nat.le_refl _) _
          have HNC := Lib.hid hnc
          have HNF := Lib.hid hnf
          clear hnc hnf hR hcr hfr
          generalize pre ++ [pre.length] = pre2 at *
          generalize pre.length = k at *
          gi_wp2_with (refine ⟨trivial, ?_⟩; gi_at_call 11; refine (CallsIn.inRound l' (callsIn_wide.2 (refSum A k c (l.take k) _ hBk.out (by omega)))).mono ?_; rintro e w' ⟨rfl, rfl⟩)
          · have he := eq_of_beq (show ((k : Int) + 1 == leave) = true by assumption)
            exact ⟨KeepsOthers.setCell _ _ _, .inr ⟨⟨rfl, by rw [hlen2.out]; omega, by rw [hlen2.out, show ((k + 1 : Nat) : Int) = (k : Int) + 1 by omega]; exact HNC.out, HNF.out⟩, hnb⟩⟩
          · exact ⟨KeepsOthers.setCell _ _ _, hnk, ⟨by rw [hlen2.out, show ((k + 1 : Nat) : Int) = (k : Int) + 1 by omega]; exact HNC.out, HNF.out⟩, hnb⟩
        · have hne : ((x : Int) != ((pre.length : Nat) : Int)) = true := by simp; omega
          have Hx := Lib.hid (show ¬ ∃ k, pre ++ [x] = List.range k from fun ⟨k, hk⟩ => hx (by
            have h1 : k = pre.length + 1 := by have := congrArg List.length hk; simp at this; omega
            subst h1
            rw [List.range_succ] at hk
            have := (List.append_inj' hk rfl).2
            simpa using this))
          clear hx hR
          generalize pre.length = k at *
          gi_wp2
          refine ⟨trivial, ?_⟩
          gi_wp2
          exact ⟨KeepsOthers.setCell _ _ _, .inl ⟨rfl, Hx.out⟩⟩
      case' done =>
        rintro D ys W hD rfl ⟨⟨hc, hf⟩, hBW⟩ hK
        rw [List.length_range, show ((n + 1 : Nat) : Int) = (n : Int) + 1 by omega] at hc
        have h5 := h4.from_ hBW hs4.1.2.2.2.1 hs4.1.1 hs4.1.2.1 hs4.1.2.2.1 (by omega)
        have hcb := h5.boxed.b.cell (i := 0) (v := .slice A n c) rfl
        have hct := (ht4.below hBW (by omega)).cell (i := 0) (v := .int .i64 0) rfl
        have hDw : w.heap.size ≤ D := Nat.le_trans h4.boxed.below.size hD
        clear hBW hD h4 ht4 hc4 hs4
        go_wp2_with fail
      case' stop =>
        rintro D ex pre W hD ⟨k, hk, rfl⟩ hix hK
        obtain ⟨rfl, hlv, hc, hf, hBW⟩ : ex = .exit 4 ∧ (((List.range k).length : Nat) : Int) = leave ∧ W.cell? ⟨n₀, 0, none⟩ = some (.int .i64 ((List.range k).length : Nat)) ∧ W.frozen? ⟨n₀, 0, none⟩ = false ∧ Below n₀ Wl W := by
          rcases hix with ⟨_, h⟩ | ⟨⟨a1, a2, a3, a4⟩, a5⟩
          · exact absurd ⟨k, rfl⟩ h
          · exact ⟨a1, a2, a3, a4, a5⟩
        rw [List.length_range] at hc hlv
        have h5 := h4.from_ hBW hs4.1.2.2.2.1 hs4.1.1 hs4.1.2.1 hs4.1.2.2.1 (by omega)
        have hcb := h5.boxed.b.cell (i := 0) (v := .slice A n c) rfl
        have hcl := h5.boxed.l.cell (i := 0) (v := .int .i64 leave) rfl
        have hct := (ht4.below hBW (by omega)).cell (i := 0) (v := .int .i64 0) rfl
        rw [← hlv] at hcl
        have hDw : w.heap.size ≤ D := Nat.le_trans h4.boxed.below.size hD
        clear hBW hD h4 ht4 hc4 hs4 hix hlv
        refine wpIn_wide.2 ?_
        rcases Bool.eq_false_or_eq_true ((k : Int) != ((n : Int) + 1)) with hne2 | hne2
        all_goals clear hk
        all_goals go_wp2_with fail
      all_goals
        try clear hcl
        try clear hne2
        clear hc hf hcb hct
        have hKl : D < W.heap.size := (Array.getElem?_eq_some_iff.1 hK).1
        rw [rounds_succ]
        go_wp2_with fail
        have hnew := turn_boxes h5 1
        obtain ⟨n₁, hn₁⟩ : ∃ n₁, n₁ = W.heap.size + 1 := ⟨_, rfl⟩
        have hK1 : ((W.alloc (.cells #[.int .i64 1] 3)).alloc (.cells #[.int .i64 0] 3)).heap[D]? = some (.deferred (some [])) :=
          (Below.heap_alloc _ _ D (by simp; omega)).trans ((Below.heap_alloc _ _ D hKl).trans hK)
        have hDn : D < n₁ := by omega
        rw [← hn₁] at hnew ⊢
        generalize (W.alloc (.cells #[.int .i64 1] 3)).alloc (.cells #[.int .i64 0] 3) = Wm at *
        obtain ⟨Bu, hBu⟩ : ∃ Bu, Bu = W.heap.size := ⟨_, rfl⟩
        rw [← hBu] at hnew ⊢
        obtain ⟨h6, ht6, hc6, hs6⟩ := hnew
        clear hn₁ hBu h5 hK hKl
        refine (wpIn_wide (n := 4)).1 ?_
        refine wpIn_rangeFunc_ownF rfl (by omega) (gf := 23) (lb := #[.pointer (some ⟨B1, 0, none⟩), .pointer (some ⟨g2, 0, none⟩)]) rfl trivial (enters_of Try.func23 (by kernel_rfl) rfl)
          (all_stops hs6 h6 HA.out hn) belowK_t (belowK_b (by rw [hs6.2]; omega)) (Below.refl _ _) (fun _ => rfl)
          (fun pre W => (W.cell? ⟨n₁, 0, none⟩ = some (.int .i64 (pre.length : Nat)) ∧ W.frozen? ⟨n₁, 0, none⟩ = false) ∧ Below n₁ Wm W)
          (fun ex pre W => ex = .ret ∧ ¬ ∃ k, pre = List.range k)
          ?_ (fun _ _ _ _ _ hs _ _ => hs) ⟨⟨hc6.cell rfl, hc6.free 0⟩, Below.refl _ _⟩ ?_ ?_ ?_ ?_ ?_
        rotate_left 2
        · intro l' x W K hK
          simp only [pairOf]
          gi_wp2
          exact hK
        · rintro l' pre x V ⟨⟨hc, hf⟩, hBW⟩ hlen
          have hR := h6.boxed.r.below hBW (by omega)
          have hcr := hR.cell (i := 0) (v := .bool false) rfl
          have hfr := hR.free 0
          by_cases hx : x = pre.length
          · subst hx
            have hkn : pre.length ≤ n := by omega
            have hk0 : (0 : Int) ≤ (pre.length : Int) := by omega
            have hk1 : (pre.length : Int) ≤ (c : Int) := by omega
            have hcb := (h6.boxed.b.below hBW (by omega)).cell (i := 0) (v := .slice A n c) rfl
            have hct := (ht6.below hBW (by omega)).cell (i := 0) (v := .int .i64 1) rfl
            have hBk := Lib.hid ((HA.out.below (h6.boxed.below.trans (hBW.mono (by omega)))).take hkn)
            have hlen2 := Lib.hid (show (pre ++ [pre.length]).length = pre.length + 1 by simp)
            have HNC := Lib.hid (show (V.setCell ⟨n₁, 0, none⟩ (.int .i64 ((pre.length : Int) + 1))).cell? ⟨n₁, 0, none⟩ = some (.int .i64 ((pre.length : Int) + 1)) from World.cell?_setCell_same' _ _ _ (by rw [hc]; rfl))
            have HNF := Lib.hid (show (V.setCell ⟨n₁, 0, none⟩ (.int .i64 ((pre.length : Int) + 1))).frozen? ⟨n₁, 0, none⟩ = false by rw [World.frozen?_setCell]; exact hf)
            have hnb : Below n₁ Wm (V.setCell ⟨n₁, 0, none⟩ (.int .i64 ((pre.length : Int) + 1))) := hBW.setCell (p := ⟨n₁, 0, none⟩) (Nat.le_refl _) _
            have hnk : Below n₁ V (V.setCell ⟨n₁, 0, none⟩ (.int .i64 ((pre.length : Int) + 1))) := (Below.refl _ _).setCell (p := ⟨n₁, 0, none⟩) (Nat.le_refl _) _
            clear hR hcr hfr
            generalize pre ++ [pre.length] = pre2 at *
            generalize pre.length = k at *
            gi_wp2_with (refine ⟨trivial, ?_⟩; gi_at_call 11; refine (CallsIn.inRound l' (callsIn_wide.2 (refSum A k c (l.take k) _ hBk.out (by omega)))).mono ?_; rintro e w' ⟨rfl, rfl⟩)
            exact ⟨KeepsOthers.setCell _ _ _, hnk, ⟨by rw [hlen2.out, show ((k + 1 : Nat) : Int) = (k : Int) + 1 by omega]; exact HNC.out, HNF.out⟩, hnb⟩
          · have hne : ((x : Int) != ((pre.length : Nat) : Int)) = true := by simp; omega
            have Hx := Lib.hid (show ¬ ∃ k, pre ++ [x] = List.range k from fun ⟨k, hk⟩ => hx (by
              have h1 : k = pre.length + 1 := by have := congrArg List.length hk; simp at this; omega
              subst h1
              rw [List.range_succ] at hk
              have := (List.append_inj' hk rfl).2
              simpa using this))
            clear hx hR
            generalize pre.length = k at *
            gi_wp2
            refine ⟨trivial, ?_⟩
            gi_wp2
            exact ⟨KeepsOthers.setCell _ _ _, ⟨rfl, Hx.out⟩⟩
        · rintro E ys V hE rfl ⟨⟨hc, hf⟩, hBW⟩ hK2
          rw [List.length_range, show ((n + 1 : Nat) : Int) = (n : Int) + 1 by omega] at hc
          have h7 := h6.from_ hBW hs6.1.2.2.2.1 hs6.1.1 hs6.1.2.1 hs6.1.2.2.1 (by omega)
          have hcb := h7.boxed.b.cell (i := 0) (v := .slice A n c) rfl
          have hct := (ht6.below hBW (by omega)).cell (i := 0) (v := .int .i64 1) rfl
          have hK1' := (hBW.block D hDn).trans hK1
          have hED : D ≠ E := by have := hs6.2; omega
          clear hBW h6 ht6 hc6 hK1
          go_wp2_with fail
          rw [rounds_succ]
          go_wp2_with fail
          refine (known_calls _).mono ?_
          rintro e V2 ⟨rfl, hbk⟩
          have hB8 : Below V.heap.size V V2 := (Below.refl V.heap.size V).lit hbk
          have h8 := h7.call hB8
          have hEl : E < V.heap.size := (Array.getElem?_eq_some_iff.1 hK2).1
          have hDl : D < V.heap.size := (Array.getElem?_eq_some_iff.1 hK1').1
          have hE1 := (hB8.block E hEl).trans hK2
          have hD1 := (hB8.block D hDl).trans hK1'
          have hc8 := h8.boxed.r.cell (i := 0) (v := .bool false) rfl
          have hf8 := h8.boxed.r.free 0
          have hs8 := h8.boxed.r.set_ 0 (.bool true)
          have hc9 := hs8.cell (i := 0) (v := .bool true) rfl
          have hEr : E ≠ w.heap.size + 1 + 1 := by have := hs6.2; omega
          have hDr : D ≠ w.heap.size + 1 + 1 := by
            intro e
            have h0 := h8.boxed.r
            rw [← e] at h0
            have h1 : some _ = some _ := hD1.symm.trans h0
            cases h1
          have hE2 : (V2.setCell ⟨w.heap.size + 1 + 1, 0, none⟩ (.bool true)).heap[E]? = some (.deferred (some [])) := (heap_setCell_other V2 ⟨w.heap.size + 1 + 1, 0, none⟩ E (.bool true) hEr).trans hE1
          have hD2 : (V2.setCell ⟨w.heap.size + 1 + 1, 0, none⟩ (.bool true)).heap[D]? = some (.deferred (some [])) := (heap_setCell_other V2 ⟨w.heap.size + 1 + 1, 0, none⟩ D (.bool true) hDr).trans hD1
          have hbe : Below w.heap.size w (V2.setCell ⟨w.heap.size + 1 + 1, 0, none⟩ (.bool true)) := h8.boxed.below.setCell (p := ⟨w.heap.size + 1 + 1, 0, none⟩) (by simp; omega) (.bool true)
          clear hbk hB8 h7 h8 hs8 hK2 hK1' hE1 hD1 hEl hDl
          go_wp2
          generalize V2.setCell ⟨w.heap.size + 1 + 1, 0, none⟩ (.bool true) = V3 at *
          have hD3 : (V3.putObj E (.deferred none)).heap[D]? = some (.deferred (some [])) := (World.putObj_heap_other hED).trans hD2
          have hr1 := cell_kept hc9 (grownBy_putObj' V3 E (.deferred none)) (fun r e => by cases e; exact ⟨_, hE2, rfl⟩)
          have hr2 := cell_kept hr1 (grownBy_putObj' (V3.putObj E (.deferred none)) D (.deferred none)) (fun r e => by cases e; exact ⟨_, hD3, rfl⟩)
          have hEw : w.heap.size ≤ E := by have := hs6.2; omega
          have hbe2 := (hbe.trans (belowK_b (w := w) (Nat.le_refl _) V3 E _ (.deferred none) hEw hE2 rfl rfl)).trans (belowK_b (w := w) (Nat.le_refl _) _ D _ (.deferred none) hDw hD3 rfl rfl)
          refine ⟨by simp, .inl ⟨_, _, rfl, run_takeDeferred hE2, ⟨by simp, .inl ⟨_, _, rfl, run_takeDeferred hD3, ?_⟩⟩⟩⟩
          refine ⟨.bool true, ?_, rfl, hbe2⟩
          simp [results, Try.f5, go_sem, hr2]
        · rintro E ex pre V _ ⟨k, _, rfl⟩ ⟨rfl, hno⟩ _
          exact absurd ⟨k, rfl⟩ hno
        · exact OwnFrom.and (Own.from (fun s X Y row hs hg hr => ⟨cell_kept hs.1 hg hr, (frozen_kept hs.1 hg hr).trans hs.2⟩) _) (ownFrom_below (by rw [hs6.2]; omega) (by rw [hs6.2]; omega))
end Go.Proofs.Ytmiaaihejapomaa
