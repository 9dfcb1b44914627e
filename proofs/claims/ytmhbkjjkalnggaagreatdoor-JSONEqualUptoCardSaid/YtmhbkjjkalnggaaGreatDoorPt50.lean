import Derived.Test.YtmhbkjjkalnggaaGreatDoorPt49
import Derived.Test.YtmhbkjjkalnggaaGreatDoorPt47
set_option maxRecDepth 1000000
set_option maxHeartbeats 8000000
namespace Go.Proofs.YtmhbkjjkalnggaaGreatDoor
open Go.RowKit
structure BoxS (w W : World) (c1 c2 : Array Value) : Prop where
 row1 : Row W w.heap.size 28 c1
 row2 : Row W (w.heap.size + 1) 28 c2
 below : Below w.heap.size w W
theorem BoxS.call {w W W' : World} {c1 c2 : Array Value} (h : BoxS w W c1 c2) (hb : Below W.heap.size W W') : BoxS w W' c1 c2 := ⟨h.row1.call hb, h.row2.call hb, h.below.call hb⟩
theorem kid_form {w : World} {F : Nat -> Prop} {A : Option Addr} {l : List JV} (h : KidsAt w F A 0 l) : ∀ j, j < l.length -> ∃ g off, ∃ k b d t L N, A = some ⟨g, off, none⟩ /\ JIs w F (l.getD j JV.null) (jvC k b d t L N).toList /\ ∀ V, Below w.heap.size w V -> ∀ q u, (jvC k b d t L N).toList[q]? = some u -> V.cell? ⟨g, off + j * 8 + q, none⟩ = some u := fun j hj => by
 obtain ⟨g, off, cs, h1, h2, h3, h4, h5⟩ := KidsAt.get l 0 h j hj
 cases hx : l.getD j JV.null with
 | mk k b d t l' ns' =>
   rw [hx] at h5
   have h6 := h5
   unfold JIs at h6
   obtain ⟨A2, c, A', c', e, _⟩ := h6
   subst e
   refine ⟨g, off, k, b, d, t, _, _, h1, h5, fun V hb q u hu => ?_⟩
   have := h4 q u hu
   rw [Nat.zero_add, <- Nat.add_assoc] at this
   exact (hb.cell (p := ⟨g, off + j * 8 + q, none⟩) h3).trans this
def equalJ (a b : JV) : Bool := checkJ a == 0 && (checkJ b == 0 && eqJ a b)
theorem jEqual_ok (F G : Nat -> Prop) (c1 c2 : Array Value) (a b : JV) (w : World) (hA : JIs w F a c1.toList) (hB : JIs w G b c2.toList) (h1 : c1.size = 8) (h2 : c2.size = 8) (hsa : SmallJ a) (hsb : SmallJ b) (hfa : askJ a = true -> FineJ a) (hfb : askJ b = true -> FineJ b)
   (hda : depthJ a <= 1000000) (hdb : depthJ b <= 1000000) (hT : PowTab w) (hU : Lib.Utf8Tabs 0 1 w) :
   Calls Tryz.prog 23 #[.agg c1, .agg c2] w fun e w' => e = .returned (.bool (equalJ a b)) /\ Below w.heap.size w w' := by
 obtain ⟨w1, hw1⟩ : ∃ w1, w1 = w.alloc (.cells c1 28) := ⟨_, rfl⟩
 obtain ⟨w2, hw2⟩ : ∃ w2, w2 = w1.alloc (.cells c2 28) := ⟨_, rfl⟩
 have s1 : w1.heap.size = w.heap.size + 1 := by rw [hw1]; simp
 have b1 : Below w.heap.size w w1 := by rw [hw1]; exact (Below.refl _ _).alloc (Nat.le_refl _) _
 have b2 : Below w1.heap.size w1 w2 := by rw [hw2]; exact (Below.refl _ _).alloc (Nat.le_refl _) _
 have r1 : Row w1 w.heap.size 28 c1 := by rw [hw1]; exact Row.new _ _ _
 have r2 : Row w2 (w.heap.size + 1) 28 c2 := by rw [<- s1, hw2]; exact Row.new _ _ _
 have hbx : BoxS w w2 c1 c2 := ⟨r1.call b2, r2, b1.call b2⟩
 have b12 := b1.call b2
 have HRA : Hid (∀ V, BoxS w V c1 c2 -> V.rangeAt w.heap.size 0 c1.toList /\ V.rangeAt (w.heap.size + 1) 0 c2.toList) := hid fun V hV => ⟨fun j u hu => by rw [Nat.zero_add]; exact hV.row1.cell (by simpa using hu), fun j u hu => by rw [Nat.zero_add]; exact hV.row2.cell (by simpa using hu)⟩
 have HIN : Hid ((Tryz.prog.info? 28).map (·.size) = some c1.size /\ (Tryz.prog.info? 28).map (·.size) = some c2.size) := hid ⟨by rw [h1]; exact infoJ, by rw [h2]; exact infoJ⟩
 have HM1 : Hid (∀ V, Below w.heap.size w V -> Calls Tryz.prog 35 #[.agg c1] V fun e w' => e = .returned (.bool (checkJ a == 0)) /\ Below V.heap.size V w') := hid fun V hb => jmayBe_ok F c1 a V (hA.below hb) h1 hsa hfa hda (hT.below hb) (Utf8Tabs_below hU hb)
 have HM2 : Hid (∀ V, Below w.heap.size w V -> Calls Tryz.prog 35 #[.agg c2] V fun e w' => e = .returned (.bool (checkJ b == 0)) /\ Below V.heap.size V w') := hid fun V hb => jmayBe_ok G c2 b V (hB.below hb) h2 hsb hfb hdb (hT.below hb) (Utf8Tabs_below hU hb)
 have HS : Hid (checkJ a = 0 -> checkJ b = 0 -> ∀ V, BoxS w V c1 c2 -> Calls Tryz.prog 45 #[.pointer (some ⟨w.heap.size, 0, none⟩), .pointer (some ⟨w.heap.size + 1, 0, none⟩)] V fun e w' => e = .returned (.bool (eqJ a b)) /\ Below V.heap.size V w') := hid fun q1 q2 V hV =>
   jsameP_ok _ a (Nat.le_refl _) b (check_parts q1).1 (check_parts q2).1 hsa hsb F G _ _ _ _ V
     ⟨hV.row1.lt, c1.toList, fun q u hu => by rw [Nat.zero_add]; exact hV.row1.cell (by simpa using hu), hA.below hV.below⟩
     ⟨hV.row2.lt, c2.toList, fun q u hu => by rw [Nat.zero_add]; exact hV.row2.cell (by simpa using hu), hB.below hV.below⟩
 have HBX := hid hbx
 have HQ : Hid (equalJ a b = (checkJ a == 0 && (checkJ b == 0 && eqJ a b))) := hid rfl
 clear hA hB h1 h2 hsa hsb hfa hfb hda hdb hT hU b1 b2 r1 r2 hbx b12
 generalize equalJ a b = R at *
 have arm : True := trivial
 go_enter Tryz.func23, Tryz.ntmps23
 go_upto_region 1 with fail
 rw [<- hw1, <- hw2]
 clear hw1 hw2 s1
 obtain ⟨ra, _⟩ := HRA.out w2 HBX.out
 have HR1 := hid ra
 clear ra
 go_wp2_with (first
   | (refine ldJ (.tmp 2) w.heap.size 0 c1 HR1.out HIN.out.1 ?_))
 refine (HM1.out w2 HBX.out.below).mono ?_
 rintro e w3 ⟨rfl, hb⟩
 have HB3 := hid (HBX.out.call hb)
 clear hb HR1
 by_cases h1 : checkJ a = 0
 · have e1 : (checkJ a == 0) = true := by rw [h1]; rfl
   rw [e1]
   have HQ2 : Hid (R = (checkJ b == 0 && eqJ a b)) := hid (by rw [HQ.out, e1, Bool.true_and])
   have HS2 := hid (HS.out h1)
   clear HQ HS h1 e1
   obtain ⟨_, rb⟩ := HRA.out w3 HB3.out
   have HR2 := hid rb
   clear rb
   go_wp2_with (first
     | (refine wpList_load_midG ?_ 28 (.tmp 3) ?_ (w.heap.size + 1) 0 ?_ c2.toList _ HR2.out Tryz.underlying28 rfl (by rw [Array.length_toList]; exact HIN.out.2) ?_
        · kernel_rfl
        · with_reducible rfl
        · rfl))
   refine (HM2.out w3 HB3.out.below).mono ?_
   rintro e w4 ⟨rfl, hb⟩
   have HB4 := hid (HB3.out.call hb)
   clear hb HR2
   by_cases h2 : checkJ b = 0
   · have e2 : (checkJ b == 0) = true := by rw [h2]; rfl
     rw [e2]
     have HQ3 : Hid (R = eqJ a b) := hid (by rw [HQ2.out, e2, Bool.true_and])
     have HS3 := hid (HS2.out h2 w4 HB4.out)
     clear HQ2 HS2 h2 e2
     go_wp2_with fail
     refine HS3.out.mono ?_
     rintro e w5 ⟨rfl, hb⟩
     have HB5 := hid (HB4.out.call hb).below
     clear hb
     go_wp2_with fail
     go_ret
     exact ⟨by rw [HQ3.out]; rfl, HB5.out⟩
   · have e2 : (checkJ b == 0) = false := by rw [beq_eq_false_iff_ne]; exact h2
     rw [e2]
     have HQ3 : Hid (R = false) := hid (by rw [HQ2.out, e2, Bool.false_and])
     clear HQ2 HS2 h2 e2
     go_wp2_with fail
     go_ret
     exact ⟨by rw [HQ3.out]; rfl, HB4.out.below⟩
 · have e1 : (checkJ a == 0) = false := by rw [beq_eq_false_iff_ne]; exact h1
   rw [e1]
   have HQ3 : Hid (R = false) := hid (by rw [HQ.out, e1, Bool.false_and])
   clear HQ HS h1 e1
   go_wp2_with fail
   go_ret
   exact ⟨by rw [HQ3.out]; rfl, HB3.out.below⟩
structure RsmS (w W : World) (k k' : Int) (b b' : Bool) (dn : Bool) (dl : List UInt8) (dx : Int) (dn' : Bool) (dl' : List UInt8) (dx' : Int) (t t' : List UInt8) (A A' B B' : Option Addr) (nl c nn c' nl' e nn' e' : Nat) : Prop where
 row1 : Row W w.heap.size 28 (jvC k b ⟨dn, dl, dx⟩ t (.slice A nl c) (.slice A' nn c'))
 row2 : Row W (w.heap.size + 1) 28 (jvC k' b' ⟨dn', dl', dx'⟩ t' (.slice B nl' e) (.slice B' nn' e'))
 below : Below w.heap.size w W
section
variable {w W W' : World} {k k' : Int} {b b' : Bool} {dn : Bool} {dl : List UInt8} {dx : Int} {dn' : Bool} {dl' : List UInt8} {dx' : Int} {t t' : List UInt8} {A A' B B' : Option Addr} {nl c nn c' nl' e nn' e' : Nat}
theorem RsmS.call (h : RsmS w W k k' b b' dn dl dx dn' dl' dx' t t' A A' B B' nl c nn c' nl' e nn' e') (hb : Below W.heap.size W W') : RsmS w W' k k' b b' dn dl dx dn' dl' dx' t t' A A' B B' nl c nn c' nl' e nn' e' := ⟨h.row1.call hb, h.row2.call hb, h.below.call hb⟩
theorem RsmS.cells {V : World} (h : RsmS w V k k' b b' dn dl dx dn' dl' dx' t t' A A' B B' nl c nn c' nl' e nn' e') :
   (V.cell? ⟨w.heap.size, 0, none⟩ = some (.int .i64 k) /\ V.cell? ⟨w.heap.size, 1, none⟩ = some (.bool b) /\ V.cell? ⟨w.heap.size, 2, none⟩ = some (.bool dn) /\ V.cell? ⟨w.heap.size, 3, none⟩ = some (.string (bs dl)) /\ V.cell? ⟨w.heap.size, 4, none⟩ = some (.int .i64 dx) /\ V.cell? ⟨w.heap.size, 5, none⟩ = some (.string (bs t)) /\ V.cell? ⟨w.heap.size, 6, none⟩ = some (.slice A nl c) /\ V.cell? ⟨w.heap.size, 7, none⟩ = some (.slice A' nn c')) /\
   (V.cell? ⟨w.heap.size + 1, 0, none⟩ = some (.int .i64 k') /\ V.cell? ⟨w.heap.size + 1, 1, none⟩ = some (.bool b') /\ V.cell? ⟨w.heap.size + 1, 2, none⟩ = some (.bool dn') /\ V.cell? ⟨w.heap.size + 1, 3, none⟩ = some (.string (bs dl')) /\ V.cell? ⟨w.heap.size + 1, 4, none⟩ = some (.int .i64 dx') /\ V.cell? ⟨w.heap.size + 1, 5, none⟩ = some (.string (bs t')) /\ V.cell? ⟨w.heap.size + 1, 6, none⟩ = some (.slice B nl' e) /\ V.cell? ⟨w.heap.size + 1, 7, none⟩ = some (.slice B' nn' e')) :=
 ⟨⟨h.row1.cell (i := 0) rfl, h.row1.cell (i := 1) rfl, h.row1.cell (i := 2) rfl, h.row1.cell (i := 3) rfl, h.row1.cell (i := 4) rfl, h.row1.cell (i := 5) rfl, h.row1.cell (i := 6) rfl, h.row1.cell (i := 7) rfl⟩, h.row2.cell (i := 0) rfl, h.row2.cell (i := 1) rfl, h.row2.cell (i := 2) rfl, h.row2.cell (i := 3) rfl, h.row2.cell (i := 4) rfl, h.row2.cell (i := 5) rfl, h.row2.cell (i := 6) rfl, h.row2.cell (i := 7) rfl⟩
theorem RsmS.start (w : World) : RsmS w ((w.alloc (.cells (jvC k b ⟨dn, dl, dx⟩ t (.slice A nl c) (.slice A' nn c')) 28)).alloc (.cells (jvC k' b' ⟨dn', dl', dx'⟩ t' (.slice B nl' e) (.slice B' nn' e')) 28)) k k' b b' dn dl dx dn' dl' dx' t t' A A' B B' nl c nn c' nl' e nn' e' := by
 obtain ⟨w1, hw1⟩ : ∃ w1, w1 = w.alloc (.cells (jvC k b ⟨dn, dl, dx⟩ t (.slice A nl c) (.slice A' nn c')) 28) := ⟨_, rfl⟩
 rw [<- hw1]
 obtain ⟨w2, hw2⟩ : ∃ w2, w2 = w1.alloc (.cells (jvC k' b' ⟨dn', dl', dx'⟩ t' (.slice B nl' e) (.slice B' nn' e')) 28) := ⟨_, rfl⟩
 rw [<- hw2]
 have s1 : w1.heap.size = w.heap.size + 1 := by rw [hw1]; simp
 have b1 : Below w.heap.size w w1 := by rw [hw1]; exact (Below.refl _ _).alloc (Nat.le_refl _) _
 have b2 : Below w1.heap.size w1 w2 := by rw [hw2]; exact (Below.refl _ _).alloc (Nat.le_refl _) _
 have r1 : Row w1 w.heap.size 28 (jvC k b ⟨dn, dl, dx⟩ t (.slice A nl c) (.slice A' nn c')) := by rw [hw1]; exact Row.new _ _ _
 have r2 : Row w2 (w.heap.size + 1) 28 (jvC k' b' ⟨dn', dl', dx'⟩ t' (.slice B nl' e) (.slice B' nn' e')) := by rw [<- s1, hw2]; exact Row.new _ _ _
 exact ⟨r1.call b2, r2, b1.call b2⟩
end
theorem rsm_head (w : World) (k k' : Int) (b b' : Bool) (dn : Bool) (dl : List UInt8) (dx : Int) (dn' : Bool) (dl' : List UInt8) (dx' : Int) (t t' : List UInt8) (A A' B B' : Option Addr) (nl c nn c' nl' e nn' e' : Nat)
   (hne : k ≠ k' ∨ b ≠ b' ∨ dn ≠ dn' ∨ dl ≠ dl' ∨ dx ≠ dx' ∨ t ≠ t' ∨ nl ≠ nl' ∨ nn ≠ nn') :
   Calls Tryz.prog 17 #[.agg (jvC k b ⟨dn, dl, dx⟩ t (.slice A nl c) (.slice A' nn c')), .agg (jvC k' b' ⟨dn', dl', dx'⟩ t' (.slice B nl' e) (.slice B' nn' e'))] w fun e w' => e = .returned (.bool false) /\ Below w.heap.size w w' := by
 have HS : Hid (RsmS w _ k k' b b' dn dl dx dn' dl' dx' t t' A A' B B' nl c nn c' nl' e nn' e') := hid (RsmS.start w)
 obtain ⟨w2, hw2⟩ : ∃ w2, w2 = ((w.alloc (.cells (jvC k b ⟨dn, dl, dx⟩ t (.slice A nl c) (.slice A' nn c')) 28)).alloc (.cells (jvC k' b' ⟨dn', dl', dx'⟩ t' (.slice B nl' e) (.slice B' nn' e')) 28)) := ⟨_, rfl⟩
 rw [<- hw2] at HS
 obtain ⟨⟨a0, a1, a2, a3, a4, a5, a6, a7⟩, b0, b1, b2, b3, b4, b5, b6, b7⟩ := HS.out.cells
 have HB := hid HS.out.below
 clear HS
 have sk : ∀ k : Int, (k != k) = false := fun k => by simp
 by_cases ek : k = k'
 · subst ek
   have g0 := sk k
   by_cases eb : b = b'
   · subst eb
     have g1 : (b != b) = false := by simp
     by_cases e1 : dn = dn'
     · subst e1
       by_cases e2 : dl = dl'
       · subst e2
         by_cases e3 : dx = dx'
         · subst e3
           by_cases et : t = t'
           · subst et
             by_cases en : nl = nl'
             · subst en
               have em : ((nn : Int) != (nn' : Int)) = true := by
                 rw [bne_iff_ne]
                 intro e
                 rcases hne with h | h | h | h | h | h | h | h <;> first | exact h rfl | omega
               have g7 := sk (nl : Int)
               clear hne sk
               go_enter Tryz.func17, Tryz.ntmps17
               go_upto_region 1 with fail
               rw [<- hw2]
               clear hw2
               go_wp2
               go_ret
               exact ⟨rfl, HB.out⟩
             · have em : ((nl : Int) != (nl' : Int)) = true := by rw [bne_iff_ne]; omega
               clear hne en sk
               go_enter Tryz.func17, Tryz.ntmps17
               go_upto_region 1 with fail
               rw [<- hw2]
               clear hw2
               go_wp2
               go_ret
               exact ⟨rfl, HB.out⟩
           · have e9 := bs_ne et
             clear hne et sk
             go_enter Tryz.func17, Tryz.ntmps17
             go_upto_region 1 with fail
             rw [<- hw2]
             clear hw2
             go_wp2
             go_ret
             exact ⟨rfl, HB.out⟩
         · have e9 : (dx == dx') = false := by rw [beq_eq_false_iff_ne]; exact e3
           clear hne e3 sk
           go_enter Tryz.func17, Tryz.ntmps17
           go_upto_region 1 with fail
           rw [<- hw2]
           clear hw2
           go_wp2
           go_ret
           exact ⟨rfl, HB.out⟩
       · have e9 := bs_ne e2
         clear hne e2 sk
         go_enter Tryz.func17, Tryz.ntmps17
         go_upto_region 1 with fail
         rw [<- hw2]
         clear hw2
         go_wp2
         go_ret
         exact ⟨rfl, HB.out⟩
     · clear hne sk
       cases dn <;> cases dn' <;> first
         | exact absurd rfl e1
         | (clear e1
            go_enter Tryz.func17, Tryz.ntmps17
            go_upto_region 1 with fail
            rw [<- hw2]
            clear hw2
            go_wp2
            go_ret
            exact ⟨rfl, HB.out⟩)
   · clear hne sk
     cases b <;> cases b' <;> first
       | exact absurd rfl eb
       | (clear eb
          go_enter Tryz.func17, Tryz.ntmps17
          go_upto_region 1 with fail
          rw [<- hw2]
          clear hw2
          go_wp2
          go_ret
          exact ⟨rfl, HB.out⟩)
 · have e9 : (k != k') = true := by rw [bne_iff_ne]; exact ek
   clear hne ek sk
   go_enter Tryz.func17, Tryz.ntmps17
   go_upto_region 1 with fail
   rw [<- hw2]
   clear hw2
   go_wp2
   go_ret
   exact ⟨rfl, HB.out⟩
end Go.Proofs.YtmhbkjjkalnggaaGreatDoor
