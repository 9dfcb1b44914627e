import Derived.Test.YtmhbkjjkalnggaaGreatDoorPt13
namespace Go.Proofs.YtmhbkjjkalnggaaGreatDoor
open Go.RowKit
set_option maxRecDepth 1000000
set_option maxHeartbeats 40000000
theorem kept_iter {w : World} {k : Nat} (s : ByteArray) (pos : Nat) : Kept (· = k) w (w.iterAt k s pos) :=
 ⟨rfl, rfl, rfl, by rw [Lib.iterAt_size]; exact Nat.le_refl _, fun i _ hi => Lib.iterAt_other w k i s pos hi⟩
structure QtS (I : (Nat -> Prop) -> List UInt8 -> World -> Prop) (own : Nat -> Prop) (W : World) (ib : Nat) (s : List UInt8) (t : List UInt8) (a i k : Nat) (own1 : Nat -> Prop) (wr : World) : Prop where
 inv : I own1 (t ++ [34] ++ (s.take a).flatMap escL) wr
 it : wr.heap[ib]? = some (.stringIter (bs s) k)
 ai : a <= i
 il : i <= s.length
 plain : ∀ j, a <= j -> j < i -> plainB (s.getD j 0)
 kept : Kept own W wr
 own_ : ∀ q, own1 q -> own q ∨ W.heap.size <= q
 not_ : ¬ own1 ib
 ge : W.heap.size <= ib
section
variable {F : Nat} {caps : Array Value} {I : (Nat -> Prop) -> List UInt8 -> World -> Prop} {Bad : List PanicEntry -> List UInt8 -> Prop} {Ok : List UInt8 -> Prop} {own own1 : Nat -> Prop} {W wr w2 : World} {ib : Nat} {s t u : List UInt8} {a i k : Nat}
theorem QtS.next (hL : LayC F caps I Bad Ok) (h : QtS I own W ib s t a i k own1 wr) (k' : Nat) : QtS I own W ib s t a i k' own1 (wr.iterAt ib (bs s) k') :=
 ⟨hL.stay own1 _ _ _ h.inv (kept_mono (kept_iter _ _) fun q e => by rw [e]; exact h.not_), Lib.iterAt_heap _ _ _ _ _ h.it, h.ai, h.il, h.plain, h.kept.trans (kept_mono (kept_iter _ _) fun q e => .inr (by rw [e]; exact h.ge)), h.own_, h.not_, h.ge⟩
theorem QtS.more (h : QtS I own W ib s t a i k own1 wr) {i' : Nat} (h1 : i <= i') (h2 : i' <= s.length) (h3 : ∀ j, i <= j -> j < i' -> plainB (s.getD j 0)) : QtS I own W ib s t a i' k own1 wr :=
 ⟨h.inv, h.it, Nat.le_trans h.ai h1, h2, fun j h4 h5 => by
   by_cases h6 : j < i
   · exact h.plain j h4 h6
   · exact h3 j (by omega) h5, h.kept, h.own_, h.not_, h.ge⟩
theorem QtS.below (hL : LayC F caps I Bad Ok) (h : QtS I own W ib s t a i k own1 wr) (hb : Below wr.heap.size wr w2) : QtS I own W ib s t a i k own1 w2 :=
 ⟨hL.stay own1 _ _ _ h.inv (keptOf_below hb), (hb.block ib (Array.getElem?_eq_some_iff.1 h.it).1).trans h.it, h.ai, h.il, h.plain, h.kept.trans (keptOf_below hb), h.own_, h.not_, h.ge⟩
theorem QtS.laid (h : QtS I own W ib s t a i k own1 wr) (hl : Laid I own1 wr u w2) {a' : Nat} (hu : u = t ++ [34] ++ (s.take a').flatMap escL) (ha : a' <= s.length) : ∃ own2, QtS I own W ib s t a' a' k own2 w2 := by
 obtain ⟨own2, h1, h2, h3⟩ := hl
 have hlt : ib < wr.heap.size := (Array.getElem?_eq_some_iff.1 h.it).1
 refine ⟨own2, by rw [<- hu]; exact h1, (h2.block ib hlt h.not_).trans h.it, Nat.le_refl _, ha, fun j h4 h5 => by omega, h.kept.trans (kept_mono h2 h.own_), fun q hq => ?_, fun hq => ?_, h.ge⟩
 · rcases h3 q hq with h9 | h9
   · exact h.own_ q h9
   · exact .inr (Nat.le_trans h.kept.size h9)
 · rcases h3 ib hq with h9 | h9
   · exact h.not_ h9
   · omega
theorem QtS.kept2 (h : QtS I own W ib s t a i k own1 wr) (hk : Kept own1 wr w2) : Kept own W w2 := h.kept.trans (kept_mono hk h.own_)
end
theorem escL_len (b : UInt8) : (escL b).length <= 6 := by
 unfold escL
 repeat (split; · simp)
 simp
theorem esc_next (s : List UInt8) (i : Nat) (h : i < s.length) : (s.take (i + 1)).flatMap escL = (s.take i).flatMap escL ++ escL (s.getD i 0) := by
 rw [take_succ_getDj s i h, List.flatMap_append]
 simp
theorem jquote_ok (F : Nat) (caps : Array Value) (I : (Nat -> Prop) -> List UInt8 -> World -> Prop) (Bad : List PanicEntry -> List UInt8 -> Prop) (Ok : List UInt8 -> Prop) (hL : LayC F caps I Bad Ok) (hcf : ∀ (args : Array Value) (W : World), (callFunc F args).run Tryz.prog W = .ok (.enter F args) W)
   (s t : List UInt8) (hs : s.length <= 4611686018427387904) (own : Nat -> Prop) (W : World) (hI : I own t W) (hok : Ok (t ++ quoteL s)) :
   Calls Tryz.prog 65 #[.string (bs s), .func (.func F) #[] caps] W (LayPost I Bad own W (t ++ quoteL s)) := by
 have FO : Hid (∀ u v, t ++ quoteL s = u ++ v -> Ok u) := hid fun u v he => hL.ok u v (by rw [<- he]; exact hok)
 have H34 : Hid (∀ t own W, I own t W -> Ok (t ++ [34]) -> Calls Tryz.prog F (#[.string ⟨#[34]⟩] ++ caps) W (LayPost I Bad own W (t ++ [34]))) := hid fun t own W h ho => hL.call own t [34] W h (by decide) ho
 have HL := hid hL
 have HI := hid hI
 have HS := hid hs
 have HA := hid (H34.out t own W hI (FO.out _ ((s.flatMap escL) ++ [34]) (by unfold quoteL; simp)))
 have hsz := bs_size s
 have FP : Hid (∀ (π : List PanicEntry) (u v : List UInt8) (w' : World), Bad π u -> Kept own W w' -> t ++ quoteL s = u ++ v -> LayPost I Bad own W (t ++ quoteL s) (.panicked π) w') := hid fun π u v w' hb hk he => .inr ⟨π, rfl, by rw [he]; exact hL.mono π u v hb, hk⟩
 have FE : Hid (∀ a, quoteL s = [34] ++ ((s.take a).flatMap escL ++ (s.drop a).flatMap escL) ++ [34]) := hid fun a => by
   unfold quoteL
   rw [<- List.flatMap_append, List.take_append_drop]
 have hsub := fun (V : World) (a i : Nat) (h1 : a <= i) (h2 : i <= s.length) => run_sub_bsJ (P := Tryz.prog) V 9 Tryz.underlying9 s a i h1 h2
 have hfrom := fun (V : World) (a : Nat) (h1 : a <= s.length) => run_from_bs (P := Tryz.prog) V 9 Tryz.underlying9 s a h1
 have HSUB := hid hsub
 have HFROM := hid hfrom
 clear hL hI hs hsub hfrom hok
 go_enter Tryz.func65, Tryz.ntmps65
 go_wp2_with fail
 refine HA.out.mono ?_
 rintro e w1 (⟨rfl, hl1⟩ | ⟨π, rfl, hb, hk⟩)
 rotate_left 1
 · have HP := hid (FP.out π (t ++ [34]) ((s.flatMap escL) ++ [34]) w1 hb hk (by unfold quoteL; simp))
   clear hb hk
   go_wp2_with fail
   exact ⟨rfl, HP.out⟩
 · obtain ⟨own1, hi1, hk1, ho1⟩ := hl1
   have HI1 := hid hi1
   have HK1 := hid hk1
   have HO1 := hid ho1
   clear hi1 hk1 ho1 HA
   go_upto_region 3 with fail
   have hst : QtS I own W w1.heap.size s t 0 0 0 own1 (w1.iter (bs s) 0) := by
     have hka : Kept (fun q => ¬ own1 q) w1 (w1.iter (bs s) 0) := (Kept.refl _ _).alloc _
     exact ⟨HL.out.stay own1 _ _ _ (by simpa using HI1.out) hka, World.iter_heap _ _ _, Nat.le_refl _, Nat.zero_le _, fun j h1 h2 => by omega, HK1.out.alloc _, HO1.out, fun hq => by have := HL.out.lt _ _ _ _ HI1.out hq; omega, HK1.out.size⟩
   have HST := hid hst
   clear hst HI1 HK1 HO1
   generalize w1.iter (bs s) 0 = w2 at *
   generalize w1.heap.size = ib at *
   go_loopw [4] (fun v4 wr => ∃ (a i : Nat) (o1 : Nat -> Prop), v4 = .int .i64 (a : Int) /\ Hid (QtS I own W ib s t a i i o1 wr)) (fun _ wr => s.length - wr.iterPos ib)
   case atStart => exact ⟨0, 0, own1, rfl, HST⟩
   case round =>
     obtain ⟨a, i, o1, rfl, HQ⟩ := hrel
     have hit := HQ.out.it
     have hal := HQ.out.ai
     have hil := HQ.out.il
     have hsl := HS.out
     by_cases hp : i < s.length
     · have hp2 : i < (bs s).size := by rw [hsz]; exact hp
       have hnx := fun ty => Lib.run_next_any_at (P := Tryz.prog) wr ib (bs s) i ty hit hp2
       obtain ⟨cn, hcn⟩ : ∃ cn, cn = (Utf8.decode (bs s) i).1 := ⟨_, rfl⟩
       obtain ⟨wd, hwd⟩ : ∃ wd, wd = (Utf8.decode (bs s) i).2 := ⟨_, rfl⟩
       have hdec := dec_bs s i hp
       rw [<- hcn, <- hwd] at hnx
       obtain ⟨y, hy⟩ : ∃ y, y = s.getD i 0 := ⟨_, rfl⟩
       have hform : (y.toNat < 128 /\ cn = y.toNat /\ wd = 1) ∨ (128 <= y.toNat /\ 128 <= cn /\ cn <= 2147483647 /\ 1 <= wd /\ ∀ j, j < wd -> i + j < s.length /\ 128 <= (s.getD (i + j) 0).toNat) := by
         rw [hcn, hwd, hy]
         rcases hdec with ⟨h1, h2⟩ | h1
         · exact .inl ⟨h1, by rw [h2], by rw [h2]⟩
         · exact .inr h1
       have hwd1 : i + wd <= s.length := by
         rcases hform with ⟨_, _, h3⟩ | ⟨_, _, _, h4, h5⟩
         · omega
         · have := (h5 (wd - 1) (by omega)).1; omega
       have hwd0 : 1 <= wd := by rcases hform with ⟨_, _, h3⟩ | ⟨_, _, _, h4, _⟩ <;> omega
       have hcb : cn <= 2147483647 := by
         rcases hform with ⟨h1, h2, _⟩ | ⟨_, _, h3, _⟩ <;> omega
       have HF := hid hform
       have HY := hid hy
       have HMI : Hid (∀ u v o V, QtS I own W ib s t u v (i + wd) o V -> s.length - V.iterPos ib < s.length - wr.iterPos ib) := hid (by
         intro u v o V hV
         have e1 : V.iterPos ib = i + wd := by unfold World.iterPos; rw [hV.it]
         have e2 : wr.iterPos ib = i := by unfold World.iterPos; rw [hit]
         rw [e1, e2]; omega)
       clear hdec hform hcn hwd hy hit hp2
       by_cases hpl : plainB y
       ·
         have HN : Hid (QtS I own W ib s t a (i + wd) (i + wd) o1 (wr.iterAt ib (bs s) (i + wd))) := hid ((HQ.out.next HL.out (i + wd)).more (by omega) hwd1 (fun j h1 h2 => by
           rcases HF.out with ⟨h3, h4, h5⟩ | ⟨h3, h4, h5, h6, h7⟩
           · obtain rfl : j = i := by omega
             rw [<- HY.out]; exact hpl
           · have h8 := (h7 (j - i) (by omega)).2
             rw [show i + (j - i) = j by omega] at h8
             exact ⟨by omega, fun e => by rw [e] at h8; revert h8; decide, fun e => by rw [e] at h8; revert h8; decide⟩))
         have g1 : decide ((32 : Int) <= (cn : Int)) = true := by
           have := hpl.1
           rcases HF.out with ⟨h3, h4, _⟩ | ⟨_, h4, _⟩ <;> (simp; omega)
         have g2 : ((cn : Int) != 34) = true := by
           rw [bne_iff_ne]
           rcases HF.out with ⟨h3, h4, _⟩ | ⟨_, h4, _⟩
           · intro e; exact hpl.2.1 (UInt8.toNat.inj (by show y.toNat = 34; omega))
           · omega
         have g3 : ((cn : Int) != 92) = true := by
           rw [bne_iff_ne]
           rcases HF.out with ⟨h3, h4, _⟩ | ⟨_, h4, _⟩
           · intro e; exact hpl.2.2 (UInt8.toNat.inj (by show y.toNat = 92; omega))
           · omega
         clear hpl
         go_wp2_with fail
         exact ⟨⟨a, i + wd, o1, rfl, HN⟩, HMI.out _ _ _ _ HN.out⟩
       ·
         have hbq : y.toNat < 32 ∨ y = 34 ∨ y = 92 := by
           by_cases b1 : y.toNat < 32
           · exact .inl b1
           · by_cases b2 : y = 34
             · exact .inr (.inl b2)
             · by_cases b3 : y = 92
               · exact .inr (.inr b3)
               · exact absurd ⟨b1, b2, b3⟩ hpl
         have hsm : y.toNat < 128 := by
           rcases hbq with h | h | h
           · omega
           · rw [h]; decide
           · rw [h]; decide
         obtain ⟨rfl, rfl⟩ : cn = y.toNat /\ wd = 1 := by
           rcases HF.out with ⟨_, h1, h2⟩ | ⟨h1, _⟩
           · exact ⟨h1, h2⟩
           · omega
         have HEN : Hid ((s.take (i + 1)).flatMap escL = (s.take i).flatMap escL ++ escL y) := hid (by rw [esc_next s i hp, HY.out])
         have hq1 := HQ.out.next HL.out (i + 1)
         have hxe : (bs s).extract a i = bs ((s.take i).drop a) := bs_extract s a i
         have hepl := esc_plain s a i hal hil HQ.out.plain
         have hc1 := HL.out.call o1 _ ((s.take i).drop a) _ hq1.inv (by rw [List.length_drop, List.length_take]; have := HS.out; omega) (FO.out _ (escL y ++ ((s.drop (i + 1)).flatMap escL ++ [34])) (by rw [List.append_assoc (t ++ [34]), <- hepl, FE.out (i + 1), HEN.out]; simp only [List.append_assoc]))
         rw [List.append_assoc (t ++ [34]), <- hepl] at hc1
         have HC1 := hid hc1
         have HQ1 := hid hq1
         have HBQ := hid hbq
         clear hpl hsm hq1 hc1 hepl hbq HF HY hcb
         rcases HBQ.out with h32 | h34 | h92
         rotate_left 1
         · replace h34 : (y.toNat : Int) = 34 := by rw [h34]; rfl
           have g1 : decide ((32 : Int) <= (y.toNat : Int)) = true := by rw [h34]; rfl
           have g2 : ((y.toNat : Int) != 34) = false := by rw [h34]; rfl
           clear h34
           go_wp2_with fail
           refine HC1.out.mono ?_
           rintro e w3 (⟨rfl, hl3⟩ | ⟨π, rfl, hb, hk⟩)
           rotate_left 1
           · have HP := hid (FP.out π _ (escL y ++ ((s.drop (i + 1)).flatMap escL ++ [34])) w3 hb (HQ1.out.kept2 hk) (by rw [FE.out (i + 1), HEN.out]; simp only [List.append_assoc]))
             clear hb hk
             go_wp2_with fail
             exact ⟨rfl, HP.out⟩
           obtain ⟨o3, hq3⟩ := HQ1.out.laid hl3 (a' := i) rfl (by omega)
           have HQ3 := hid hq3
           have HESC := hid (jescape_ok y HBQ.out w3)
           clear hl3 hq3 HC1
           go_wp2_with fail
           refine HESC.out.mono ?_
           rintro e w4 ⟨rfl, hb4⟩
           have hq4 := HQ3.out.below HL.out hb4
           have HC4 := hid (HL.out.call o3 _ (escL y) w4 hq4.inv (by have := escL_len y; omega) (FO.out _ ((s.drop (i + 1)).flatMap escL ++ [34]) (by rw [FE.out (i + 1), HEN.out]; simp only [List.append_assoc])))
           have HQ4 := hid hq4
           clear hb4 hq4 HESC HQ3
           go_wp2_with fail
           refine HC4.out.mono ?_
           rintro e w5 (⟨rfl, hl5⟩ | ⟨π, rfl, hb, hk⟩)
           rotate_left 1
           · have HP := hid (FP.out π _ ((s.drop (i + 1)).flatMap escL ++ [34]) w5 hb (HQ4.out.kept2 hk) (by rw [FE.out (i + 1), HEN.out]; simp only [List.append_assoc]))
             clear hb hk
             go_wp2_with fail
             exact ⟨rfl, HP.out⟩
           obtain ⟨o5, hq5⟩ := HQ4.out.laid hl5 (a' := i + 1) (by rw [HEN.out, List.append_assoc]) (by omega)
           have HQ5 := hid hq5
           clear hl5 hq5 HC4
           go_wp2_with fail
           exact ⟨⟨i + 1, i + 1, o5, by go_num, HQ5⟩, HMI.out _ _ _ _ HQ5.out⟩
         · replace h92 : (y.toNat : Int) = 92 := by rw [h92]; rfl
           have g1 : decide ((32 : Int) <= (y.toNat : Int)) = true := by rw [h92]; rfl
           have g2 : ((y.toNat : Int) != 34) = true := by rw [h92]; rfl
           have g3 : ((y.toNat : Int) != 92) = false := by rw [h92]; rfl
           clear h92
           go_wp2_with fail
           refine HC1.out.mono ?_
           rintro e w3 (⟨rfl, hl3⟩ | ⟨π, rfl, hb, hk⟩)
           rotate_left 1
           · have HP := hid (FP.out π _ (escL y ++ ((s.drop (i + 1)).flatMap escL ++ [34])) w3 hb (HQ1.out.kept2 hk) (by rw [FE.out (i + 1), HEN.out]; simp only [List.append_assoc]))
             clear hb hk
             go_wp2_with fail
             exact ⟨rfl, HP.out⟩
           obtain ⟨o3, hq3⟩ := HQ1.out.laid hl3 (a' := i) rfl (by omega)
           have HQ3 := hid hq3
           have HESC := hid (jescape_ok y HBQ.out w3)
           clear hl3 hq3 HC1
           go_wp2_with fail
           refine HESC.out.mono ?_
           rintro e w4 ⟨rfl, hb4⟩
           have hq4 := HQ3.out.below HL.out hb4
           have HC4 := hid (HL.out.call o3 _ (escL y) w4 hq4.inv (by have := escL_len y; omega) (FO.out _ ((s.drop (i + 1)).flatMap escL ++ [34]) (by rw [FE.out (i + 1), HEN.out]; simp only [List.append_assoc])))
           have HQ4 := hid hq4
           clear hb4 hq4 HESC HQ3
           go_wp2_with fail
           refine HC4.out.mono ?_
           rintro e w5 (⟨rfl, hl5⟩ | ⟨π, rfl, hb, hk⟩)
           rotate_left 1
           · have HP := hid (FP.out π _ ((s.drop (i + 1)).flatMap escL ++ [34]) w5 hb (HQ4.out.kept2 hk) (by rw [FE.out (i + 1), HEN.out]; simp only [List.append_assoc]))
             clear hb hk
             go_wp2_with fail
             exact ⟨rfl, HP.out⟩
           obtain ⟨o5, hq5⟩ := HQ4.out.laid hl5 (a' := i + 1) (by rw [HEN.out, List.append_assoc]) (by omega)
           have HQ5 := hid hq5
           clear hl5 hq5 HC4
           go_wp2_with fail
           exact ⟨⟨i + 1, i + 1, o5, by go_num, HQ5⟩, HMI.out _ _ _ _ HQ5.out⟩
         · have g1 : decide ((32 : Int) <= (y.toNat : Int)) = false := by simp; omega
           go_wp2_with fail
           refine HC1.out.mono ?_
           rintro e w3 (⟨rfl, hl3⟩ | ⟨π, rfl, hb, hk⟩)
           rotate_left 1
           · have HP := hid (FP.out π _ (escL y ++ ((s.drop (i + 1)).flatMap escL ++ [34])) w3 hb (HQ1.out.kept2 hk) (by rw [FE.out (i + 1), HEN.out]; simp only [List.append_assoc]))
             clear hb hk
             go_wp2_with fail
             exact ⟨rfl, HP.out⟩
           obtain ⟨o3, hq3⟩ := HQ1.out.laid hl3 (a' := i) rfl (by omega)
           have HQ3 := hid hq3
           have HESC := hid (jescape_ok y HBQ.out w3)
           clear hl3 hq3 HC1
           go_wp2_with fail
           refine HESC.out.mono ?_
           rintro e w4 ⟨rfl, hb4⟩
           have hq4 := HQ3.out.below HL.out hb4
           have HC4 := hid (HL.out.call o3 _ (escL y) w4 hq4.inv (by have := escL_len y; omega) (FO.out _ ((s.drop (i + 1)).flatMap escL ++ [34]) (by rw [FE.out (i + 1), HEN.out]; simp only [List.append_assoc])))
           have HQ4 := hid hq4
           clear hb4 hq4 HESC HQ3
           go_wp2_with fail
           refine HC4.out.mono ?_
           rintro e w5 (⟨rfl, hl5⟩ | ⟨π, rfl, hb, hk⟩)
           rotate_left 1
           · have HP := hid (FP.out π _ ((s.drop (i + 1)).flatMap escL ++ [34]) w5 hb (HQ4.out.kept2 hk) (by rw [FE.out (i + 1), HEN.out]; simp only [List.append_assoc]))
             clear hb hk
             go_wp2_with fail
             exact ⟨rfl, HP.out⟩
           obtain ⟨o5, hq5⟩ := HQ4.out.laid hl5 (a' := i + 1) (by rw [HEN.out, List.append_assoc]) (by omega)
           have HQ5 := hid hq5
           clear hl5 hq5 HC4
           go_wp2_with fail
           exact ⟨⟨i + 1, i + 1, o5, by go_num, HQ5⟩, HMI.out _ _ _ _ HQ5.out⟩
     · obtain rfl : i = s.length := by omega
       have hnx := fun ty => Lib.run_next_end_at (P := Tryz.prog) wr ib (bs s) s.length ty hit (by rw [hsz]; omega)
       have hfr := HFROM.out
       have hepl := esc_plain s a s.length hal (Nat.le_refl _) HQ.out.plain
       rw [List.take_length] at hepl
       have hc1 := HL.out.call o1 _ (s.drop a) wr HQ.out.inv (by rw [List.length_drop]; omega) (FO.out _ [34] (by rw [List.append_assoc (t ++ [34]), <- hepl]; unfold quoteL; simp only [List.append_assoc]))
       rw [List.append_assoc (t ++ [34]), <- hepl] at hc1
       have HC1 := hid hc1
       have hxe : (bs s).extract a s.length = bs (s.drop a) := by rw [bs_extract, List.take_length]
       clear hit hepl hc1 hfr
       go_wp2_with fail
       refine HC1.out.mono ?_
       rintro e w3 (⟨rfl, hl3⟩ | ⟨π, rfl, hb, hk⟩)
       rotate_left 1
       · have HP := hid (FP.out π _ [34] w3 hb (HQ.out.kept2 hk) (by unfold quoteL; simp only [List.append_assoc]))
         clear hb hk
         go_wp2_with fail
         exact ⟨rfl, HP.out⟩
       obtain ⟨o3, hq3⟩ := HQ.out.laid hl3 (a' := s.length) (by rw [List.take_length]) (Nat.le_refl _)
       have hi3 := hq3.inv
       rw [List.take_length] at hi3
       have HA3 := hid (H34.out _ o3 w3 hi3 (FO.out _ [] (by unfold quoteL; simp only [List.append_assoc, List.append_nil])))
       have HQ3 := hid hq3
       clear hl3 hq3 hi3 HC1
       go_wp2_with fail
       refine HA3.out.mono ?_
       rintro e w4 (⟨rfl, hl4⟩ | ⟨π, rfl, hb, hk⟩)
       rotate_left 1
       · have HP := hid (FP.out π _ [] w4 hb (HQ3.out.kept2 hk) (by unfold quoteL; simp only [List.append_assoc, List.append_nil]))
         clear hb hk
         go_wp2_with fail
         exact ⟨rfl, HP.out⟩
       obtain ⟨o4, hi4, hk4, ho4⟩ := hl4
       have hQ := HQ3.out
       have hfin : LayPost I Bad own W (t ++ quoteL s) (.returned (.tuple #[])) w4 := by
         refine .inl ⟨rfl, o4, ?_, hQ.kept2 hk4, fun q hq => ?_⟩
         · have e9 : t ++ quoteL s = t ++ [34] ++ s.flatMap escL ++ [34] := by unfold quoteL; simp only [List.append_assoc]
           rw [e9]; exact hi4
         · rcases ho4 q hq with h9 | h9
           · exact hQ.own_ q h9
           · exact .inr (Nat.le_trans hQ.kept.size h9)
       have HFIN := hid hfin
       clear hi4 hk4 ho4 hQ hfin HA3
       go_wp2_with fail
       go_end0
       exact HFIN.out
end Go.Proofs.YtmhbkjjkalnggaaGreatDoor
