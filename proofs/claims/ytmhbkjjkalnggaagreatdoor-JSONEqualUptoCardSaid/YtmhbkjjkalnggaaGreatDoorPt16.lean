import Derived.Test.YtmhbkjjkalnggaaGreatDoorPt14
import Derived.Test.YtmhbkjjkalnggaaGreatDoorPt15
namespace Go.Proofs.YtmhbkjjkalnggaaGreatDoor
open Go.RowKit
set_option maxRecDepth 1000000
set_option maxHeartbeats 40000000
theorem tellKids_take (k : Int) (l : List JV) : ∀ (j i : Nat) (ns : List (List UInt8)), i < l.length -> tellKids k j (l.take (i + 1)) ns = tellKids k j (l.take i) ns ++ ((if j + i = 0 then [] else [44]) ++ (if k = 5 then quoteL (ns.getD i []) ++ [58] else []) ++ tellJ (l.getD i JV.null)) := by
 induction l with
 | nil => intro j i ns hi; simp at hi
 | cons x l ih =>
   intro j i ns hi
   cases i with
   | zero =>
     simp only [List.take_succ_cons, List.take_zero, List.getD_cons_zero, Nat.add_zero]
     rw [tellKids, tellKids, tellKids]
     have : ns.headD [] = ns.getD 0 [] := by cases ns <;> rfl
     rw [this]
     simp
   | succ i =>
     rw [List.take_succ_cons, List.take_succ_cons, tellKids, tellKids, ih (j + 1) i ns.tail (by simpa using hi)]
     have h1 : ns.tail.getD i [] = ns.getD (i + 1) [] := by cases ns <;> simp
     rw [h1, List.getD_cons_succ, show j + 1 + i = j + (i + 1) by omega]
     simp only [List.append_assoc]
theorem tellKids_pre (k : Int) (l : List JV) (j : Nat) (ns : List (List UInt8)) : ∀ i, ∃ r, tellKids k j l ns = tellKids k j (l.take i) ns ++ r := by
 suffices h : ∀ n i, l.length <= i + n -> ∃ r, tellKids k j l ns = tellKids k j (l.take i) ns ++ r from fun i => h l.length i (by omega)
 intro n
 induction n with
 | zero => intro i hi; exact ⟨[], by rw [List.take_of_length_le (by omega), List.append_nil]⟩
 | succ n ih =>
   intro i hi
   by_cases hl : i < l.length
   · obtain ⟨r, hr⟩ := ih (i + 1) (by omega)
     rw [tellKids_take k l j i ns hl, List.append_assoc] at hr
     exact ⟨_, hr⟩
   · exact ⟨[], by rw [List.take_of_length_le (by omega), List.append_nil]⟩
mutual
def FineJ : JV -> Prop
 | .mk k _ d t l ns => (k = 0 ∨ k = 1 ∨ k = 2 ∨ k = 3 ∨ k = 4 ∨ k = 5) /\ d.digits.length <= 1000000 /\ t.length <= 4611686018427387904 /\ (k = 5 -> ns.length = l.length) /\ (∀ n ∈ ns, n.length <= 4611686018427387904) /\ FineKids l
def FineKids : List JV -> Prop
 | [] => True
 | x :: l => FineJ x /\ FineKids l
end
theorem FineKids.get : ∀ (l : List JV), FineKids l -> ∀ x ∈ l, FineJ x
 | [], _, x, hx => by cases hx
 | y :: l, h, x, hx => by
   unfold FineKids at h
   rcases List.mem_cons.1 hx with rfl | hx
   · exact h.1
   · exact FineKids.get l h.2 x hx
theorem txL_len {d : Dec} (h : d.digits.length <= 1000000) : (txL d).length <= 4611686018427387904 := by
 unfold txL
 split
 · rename_i hm
   unfold mayB at hm
   unfold textL
   split
   · simp
   · rename_i hd0
     rw [if_neg hd0] at hm
     simp only [Bool.and_eq_true, decide_eq_true_eq] at hm
     obtain ⟨⟨⟨⟨⟨h1, h2⟩, h3⟩, _⟩, _⟩, _⟩ := hm
     have hb : (bodyL d.digits d.exp).length <= 5000 := by
       unfold bodyL
       simp only
       split
       · rw [List.length_append]; unfold zeros; rw [List.length_replicate]; omega
       · split
         · simp only [List.length_append, List.length_cons, List.length_take, List.length_drop]; omega
         · split
           · simp only [List.length_append, List.length_cons]; unfold zeros; rw [List.length_replicate]; omega
           · have := Lib.itoa_length_le (d.digits.length + d.exp - 1) (by omega) (by omega)
             simp only [List.length_append, List.length_cons, List.length_take]
             split <;> simp only [List.length_cons, List.length_drop, List.length_nil] <;> omega
     rw [List.length_append]
     split <;> simp <;> omega
 · simp
section
variable {F : Nat} {caps : Array Value} {I : (Nat -> Prop) -> List UInt8 -> World -> Prop} {Bad : List PanicEntry -> List UInt8 -> Prop} {Ok : List UInt8 -> Prop} {own own1 : Nat -> Prop} {W W1 W2 : World} {t u : List UInt8}
structure Apart (W : World) (F0 : Nat -> Prop) (own : Nat -> Prop) : Prop where
 lt : ∀ q, F0 q -> q < W.heap.size
 not_ : ∀ q, F0 q -> ¬ own q
theorem Apart.step {F0 : Nat -> Prop} (h : Apart W F0 own) (hk : Kept own W W1) (ho : ∀ q, own1 q -> own q ∨ W.heap.size <= q) : Apart W1 F0 own1 :=
 ⟨fun q hq => Nat.lt_of_lt_of_le (h.lt q hq) hk.size, fun q hq h1 => by
   rcases ho q h1 with h2 | h2
   · exact h.not_ q hq h2
   · have := h.lt q hq; omega⟩
theorem JAtP.kept {F0 : Nat -> Prop} {g off : Nat} {v : JV} (h : JAtP W F0 g off v) (hg : F0 g) (ha : Apart W F0 own) (hk : Kept own W W1) : JAtP W1 F0 g off v := by
 obtain ⟨h1, cs, h2, h3⟩ := h
 exact ⟨Nat.lt_of_lt_of_le h1 hk.size, cs, fun q u hu => (World.cell?_of_block (a := ⟨g, off + q, none⟩) (hk.block g h1 (ha.not_ g hg))).trans (h2 q u hu), JIs.kept hk ha.not_ _ _ h3⟩
theorem JAtP.kid {F0 : Nat -> Prop} {g off : Nat} {k : Int} {b : Bool} {d : Dec} {t : List UInt8} {l : List JV} {ns : List (List UInt8)} (h : JAtP W F0 g off (.mk k b d t l ns)) {A : Option Addr} {n c : Nat} (hA : W.cell? ⟨g, off + 6, none⟩ = some (.slice A n c)) :
   ∀ j, j < l.length -> ∃ g2 off2, A = some ⟨g2, off2, none⟩ /\ F0 g2 /\ JAtP W F0 g2 (off2 + j * 8) (l.getD j JV.null) := by
 obtain ⟨hg, cs, h1, h2⟩ := h
 unfold JIs at h2
 obtain ⟨A9, c9, A', c', rfl, h3, h4, h5, h6, h7, h8⟩ := h2
 have e1 := h1 6 _ rfl
 rw [hA] at e1
 injection e1 with e1
 injection e1 with e1 _ _
 subst e1
 intro j hj
 obtain ⟨g2, off2, cs, e1, e2, e3, e4, e5⟩ := KidsAt.get l 0 h8 j hj
 refine ⟨g2, off2, e1, e2, e3, cs, fun q u hu => ?_, e5⟩
 have := e4 q u hu
 rwa [Nat.zero_add, <- Nat.add_assoc] at this
theorem NamesAt.cell {F0 : Nat -> Prop} {A : Option Addr} {ns : List (List UInt8)} (h : NamesAt W F0 A ns) {i : Nat} (hi : i < ns.length) : ∃ g off, A = some ⟨g, off, none⟩ /\ W.cell? ⟨g, off + i, none⟩ = some (.string (bs (ns.getD i []))) := by
 obtain ⟨g, off, e, _, _, hc⟩ := h i hi
 exact ⟨g, off, e, hc⟩
end
structure TlS (I : (Nat -> Prop) -> List UInt8 -> World -> Prop) (own : Nat -> Prop) (W : World) (u : List UInt8) (o : Nat -> Prop) (V : World) : Prop where
 inv : I o u V
 kept : Kept own W V
 own_ : ∀ q, o q -> own q ∨ W.heap.size <= q
section
variable {F : Nat} {caps : Array Value} {I : (Nat -> Prop) -> List UInt8 -> World -> Prop} {Bad : List PanicEntry -> List UInt8 -> Prop} {Ok : List UInt8 -> Prop} {own o : Nat -> Prop} {W V V2 : World} {u u2 : List UInt8}
theorem TlS.laid (h : TlS I own W u o V) (hl : Laid I o V u2 V2) : ∃ o2, TlS I own W u2 o2 V2 := by
 obtain ⟨o2, h1, h2, h3⟩ := hl
 refine ⟨o2, h1, h.kept.trans (kept_mono h2 h.own_), fun q hq => ?_⟩
 rcases h3 q hq with h9 | h9
 · exact h.own_ q h9
 · exact .inr (Nat.le_trans h.kept.size h9)
theorem TlS.bad (h : TlS I own W u o V) (hk : Kept o V V2) : Kept own W V2 := h.kept.trans (kept_mono hk h.own_)
theorem TlS.below (hL : LayC F caps I Bad Ok) (h : TlS I own W u o V) (hb : Below V.heap.size V V2) : TlS I own W u o V2 := ⟨hL.stay o _ _ _ h.inv (keptOf_below hb), h.kept.trans (keptOf_below hb), h.own_⟩
theorem TlS.fin (h : TlS I own W u o V) : LayPost I Bad own W u (.returned (.tuple #[])) V := .inl ⟨rfl, o, h.inv, h.kept, h.own_⟩
end
theorem jtell_ok (F : Nat) (caps : Array Value) (I : (Nat -> Prop) -> List UInt8 -> World -> Prop) (Bad : List PanicEntry -> List UInt8 -> Prop) (Ok : List UInt8 -> Prop) (hL : LayC F caps I Bad Ok) (hcf : ∀ (args : Array Value) (W : World), (callFunc F args).run Tryz.prog W = .ok (.enter F args) W) :
   ∀ (n : Nat) (v : JV), SizeOf.sizeOf v <= n -> FineJ v -> ∀ (F0 : Nat -> Prop) (g off : Nat) (own : Nat -> Prop) (t : List UInt8) (W : World), I own t W -> Ok (t ++ tellJ v) -> JAtP W F0 g off v -> F0 g -> Apart W F0 own -> (∀ V, Kept own W V -> PowTab V) ->
   Calls Tryz.prog 36 #[.pointer (some ⟨g, off, none⟩), .func (.func F) #[] caps] W (LayPost I Bad own W (t ++ tellJ v)) := by
 intro n
 induction n with
 | zero => intro v hv; cases v; simp at hv
 | succ n ih =>
   intro v hv hf F0 g off own t W hI hok h hg0 hap hT
   obtain ⟨k, b, d, tx, l, ns⟩ := v
   have hsz : ∀ x ∈ l, SizeOf.sizeOf x <= n := fun x hx => by
     have := List.sizeOf_lt_of_mem hx
     simp only [JV.mk.sizeOf_spec] at hv
     omega
   unfold FineJ at hf
   obtain ⟨hk, hd, htx, hkn, hns, hfk⟩ := hf
   have hfk2 := FineKids.get l hfk
   obtain ⟨A, c, A', c', q0, q1, q2, q3, q4, q5, q6, q7, h1, h2, h3, h4, h5, _⟩ := h.open_
   have FP : Hid (∀ (π : List PanicEntry) (u : List UInt8) (w' : World), Bad π u -> Kept own W w' -> (∃ r, t ++ tellJ (.mk k b d tx l ns) = u ++ r) -> LayPost I Bad own W (t ++ tellJ (.mk k b d tx l ns)) (.panicked π) w') := hid fun π u w' hb hk ⟨r, he⟩ => .inr ⟨π, rfl, by rw [he]; exact hL.mono π u r hb, hk⟩
   have FO : Hid (∀ u, (∃ r, t ++ tellJ (.mk k b d tx l ns) = u ++ r) -> Ok u) := hid fun u ⟨r, he⟩ => hL.ok u r (by rw [<- he]; exact hok)
   clear hok
   have HLC := hid hL
   have HI := hid hI
   have HT := hid hT
   rcases hk with rfl | rfl | rfl | rfl | hk45
   ·
     have e9 : tellJ (.mk 0 b d tx l ns) = wNull := by rw [tellJ, if_pos rfl]
     rw [e9] at FP FO ⊢
     have HC := hid (hL.call own t wNull W hI (by decide) (FO.out _ ⟨[], (List.append_nil _).symm⟩))
     have hbs : bs wNull = ⟨#[110, 117, 108, 108]⟩ := rfl
     rw [hbs] at HC
     clear hsz hfk hfk2 h h5 ih hv hL hI hT hap e9 hbs hns hkn
     go_enter Tryz.func36, Tryz.ntmps36
     go_wp2_with fail
     refine HC.out.mono ?_
     rintro e w1 (⟨rfl, hl⟩ | ⟨π, rfl, hb, hk⟩)
     · have HLD := hid hl
       clear hl
       go_wp2_with fail
       go_end0
       exact .inl ⟨rfl, HLD.out⟩
     · have HP := hid (FP.out π _ w1 hb hk ⟨[], (List.append_nil _).symm⟩)
       clear hb hk
       go_wp2_with fail
       exact ⟨rfl, HP.out⟩
   ·
     have HS0 : Hid (TlS I own W t own W) := hid ⟨hI, Kept.refl _ _, fun _ => .inl⟩
     have e9 : tellJ (.mk 1 b d tx l ns) = if b then wTrue else wFalse := by rw [tellJ, if_neg (by decide), if_pos rfl]
     rw [e9] at FP FO ⊢
     have HFB := hid (Tryz.strconv_FormatBool b W)
     have HC := hid (hL.call own t (if b then wTrue else wFalse) W hI (by cases b <;> decide) (FO.out _ ⟨[], (List.append_nil _).symm⟩))
     have hbs : (⟨(Lib.formatBool b).toArray⟩ : ByteArray) = bs (if b then wTrue else wFalse) := by cases b <;> rfl
     rw [hbs] at HFB
     clear hsz hfk hfk2 h h5 ih hv hL hI hT hap e9 hbs hns hkn
     generalize (if b then wTrue else wFalse) = ww at *
     go_enter Tryz.func36, Tryz.ntmps36
     go_wp2_with fail
     refine HFB.out.mono ?_
     rintro e w0 ⟨rfl, rfl⟩
     go_wp2_with fail
     refine HC.out.mono ?_
     rintro e w1 (⟨rfl, hl⟩ | ⟨π, rfl, hb, hk⟩)
     rotate_left 1
     · have HP := hid (FP.out π _ w1 hb (HS0.out.bad hk) ⟨[], (List.append_nil _).symm⟩)
       clear hb hk
       go_wp2_with fail
       exact ⟨rfl, HP.out⟩
     obtain ⟨o1, hq⟩ := HS0.out.laid hl
     have HS1 := hid hq
     clear hl hq HC
     go_wp2_with fail
     go_end0
     exact HS1.out.fin
   ·
     have HS0 : Hid (TlS I own W t own W) := hid ⟨hI, Kept.refl _ _, fun _ => .inl⟩
     have e9 : tellJ (.mk 2 b d tx l ns) = txL d := by rw [tellJ, if_neg (by decide), if_neg (by decide), if_pos rfl]
     rw [e9] at FP FO ⊢
     have htxt := text_ok d W (hT W (Kept.refl _ _)) hd
     unfold decV at htxt
     have HTX := hid htxt
     have HLN := hid (txL_len hd)
     clear hsz hfk hfk2 h h5 ih hv hL hI hT hap e9 htxt hns hkn
     go_enter Tryz.func36, Tryz.ntmps36
     go_wp2_with fail
     refine HTX.out.mono ?_
     rintro e w0 ⟨rfl, hb0⟩
     have HS01 := hid (HS0.out.below HLC.out hb0)
     have HC := hid (HLC.out.call own t (txL d) w0 HS01.out.inv HLN.out (FO.out _ ⟨[], (List.append_nil _).symm⟩))
     clear hb0 HTX
     go_wp2_with fail
     refine HC.out.mono ?_
     rintro e w1 (⟨rfl, hl⟩ | ⟨π, rfl, hb, hk⟩)
     rotate_left 1
     · have HP := hid (FP.out π _ w1 hb (HS01.out.bad hk) ⟨[], (List.append_nil _).symm⟩)
       clear hb hk
       go_wp2_with fail
       exact ⟨rfl, HP.out⟩
     obtain ⟨o1, hq⟩ := HS01.out.laid hl
     have HS1 := hid hq
     clear hl hq HC
     go_wp2_with fail
     go_end0
     exact HS1.out.fin
   ·
     have HS0 : Hid (TlS I own W t own W) := hid ⟨hI, Kept.refl _ _, fun _ => .inl⟩
     have e9 : tellJ (.mk 3 b d tx l ns) = quoteL tx := by rw [tellJ, if_neg (by decide), if_neg (by decide), if_neg (by decide), if_pos rfl]
     rw [e9] at FP FO ⊢
     have HC := hid (jquote_ok F caps I Bad Ok hL hcf tx t htx own W hI (FO.out _ ⟨[], (List.append_nil _).symm⟩))
     clear hsz hfk hfk2 h h5 ih hv hL hI hT hap e9 hns hkn
     go_enter Tryz.func36, Tryz.ntmps36
     go_wp2_with fail
     refine HC.out.mono ?_
     rintro e w1 (⟨rfl, hl⟩ | ⟨π, rfl, hb, hk⟩)
     rotate_left 1
     · have HP := hid (FP.out π _ w1 hb (HS0.out.bad hk) ⟨[], (List.append_nil _).symm⟩)
       clear hb hk
       go_wp2_with fail
       exact ⟨rfl, HP.out⟩
     obtain ⟨o1, hq⟩ := HS0.out.laid hl
     have HS1 := hid hq
     clear hl hq HC
     go_wp2_with fail
     go_end0
     exact HS1.out.fin
   · rcases hk45 with rfl | rfl
     · have HS0 : Hid (TlS I own W t own W) := hid ⟨hI, Kept.refl _ _, fun _ => .inl⟩
       have e9 : tellJ (.mk 4 b d tx l ns) = [91] ++ tellKids 4 0 l [] ++ [93] := by
         rw [tellJ]
         simp
       rw [e9] at FP FO ⊢
       obtain ⟨T, hT0⟩ : ∃ T : Nat -> List UInt8, ∀ i, T i = t ++ [91] ++ tellKids 4 0 (l.take i) [] := ⟨_, fun _ => rfl⟩
       have HT0 : Hid (T 0 = t ++ [91]) := hid (by rw [hT0, List.take_zero, tellKids, List.append_nil])
       have HTE : Hid (T l.length ++ [93] = t ++ ([91] ++ tellKids 4 0 l [] ++ [93])) := hid (by rw [hT0, List.take_length]; simp only [List.append_assoc])
       have HTS : Hid (∀ i, i < l.length -> T (i + 1) = T i ++ (if i = 0 then [] else [44]) ++ (tellJ (l.getD i JV.null))) := hid fun i hi => by
         rw [hT0, hT0, tellKids_take 4 l 0 i [] hi, Nat.zero_add]
         simp [List.append_assoc]
       have HTF : Hid (∀ i, ∃ r, t ++ ([91] ++ tellKids 4 0 l [] ++ [93]) = T i ++ r) := hid fun i => by
         obtain ⟨r, hr⟩ := tellKids_pre 4 l 0 [] i
         refine ⟨r ++ [93], ?_⟩
         rw [hT0, hr]
         simp only [List.append_assoc]
       have hap2 : ∀ V o, Kept own W V -> (∀ q, o q -> own q ∨ W.heap.size <= q) -> JAtP V F0 g off (.mk 4 b d tx l ns) /\ Apart V F0 o := fun V o hk ho => ⟨h.kept hg0 hap hk, hap.step hk ho⟩
       have HAT : Hid (∀ V o u, TlS I own W u o V -> V.cell? ⟨g, off, none⟩ = some (.int .i64 4) /\ V.cell? ⟨g, off + 6, none⟩ = some (.slice A l.length c) /\ V.cell? ⟨g, off + 7, none⟩ = some (.slice A' ns.length c')) := hid fun V o u hs => by
         have e : ∀ j x, W.cell? ⟨g, off + j, none⟩ = some x -> V.cell? ⟨g, off + j, none⟩ = some x := fun j x hx => (World.cell?_of_block (a := ⟨g, off + j, none⟩) (hs.kept.block g h.1 (hap.not_ g hg0))).trans hx
         exact ⟨by have := e 0 _ q0; rwa [Nat.add_zero] at this, e 6 _ q6, e 7 _ q7⟩
       have HKI : Hid (∀ V o u i, TlS I own W u o V -> i < l.length -> (∃ r, t ++ ([91] ++ tellKids 4 0 l [] ++ [93]) = (u ++ tellJ (l.getD i JV.null)) ++ r) -> ∃ g2 off2, A = some ⟨g2, off2, none⟩ /\ Calls Tryz.prog 36 #[.pointer (some ⟨g2, off2 + i * 8, none⟩), .func (.func F) #[] caps] V (LayPost I Bad o V (u ++ tellJ (l.getD i JV.null)))) := hid fun V o u i hs hi hx => by
         have hj := hap2 V o hs.kept hs.own_
         have e6 : V.cell? ⟨g, off + 6, none⟩ = some (.slice A l.length c) := (World.cell?_of_block (a := ⟨g, off + 6, none⟩) (hs.kept.block g h.1 (hap.not_ g hg0))).trans q6
         obtain ⟨g2, off2, hA, hf2, hj2⟩ := hj.1.kid e6 i hi
         have hm : l.getD i JV.null ∈ l := by rw [List.getD_eq_getElem?_getD, List.getElem?_eq_getElem hi]; exact List.getElem_mem _
         exact ⟨g2, off2, hA, ih _ (hsz _ hm) (hfk2 _ hm) F0 g2 _ o u V hs.inv (FO.out _ hx) hj2 hf2 hj.2 (fun U hU => hT U (hs.bad hU))⟩
       have HNA : Hid (∀ V o u i, TlS I own W u o V -> i < ns.length -> ∃ g2 off2, A' = some ⟨g2, off2, none⟩ /\ V.cell? ⟨g2, off2 + i, none⟩ = some (.string (bs (ns.getD i [])))) := hid fun V o u i hs hi => by
         obtain ⟨_, cs, a1, a2⟩ := (hap2 V o hs.kept hs.own_).1
         unfold JIs at a2
         obtain ⟨A9, c9, A8, c8, rfl, _, _, _, _, a7, _⟩ := a2
         have e7 : V.cell? ⟨g, off + 7, none⟩ = some (.slice A' ns.length c') := (World.cell?_of_block (a := ⟨g, off + 7, none⟩) (hs.kept.block g h.1 (hap.not_ g hg0))).trans q7
         have e8 := a1 7 _ rfl
         rw [e7] at e8
         injection e8 with e8
         injection e8 with e8 _ _
         subst e8
         exact a7.cell hi
       have HQN : Hid (∀ V o u i, TlS I own W u o V -> i < ns.length -> (∃ r, t ++ ([91] ++ tellKids 4 0 l [] ++ [93]) = (u ++ quoteL (ns.getD i [])) ++ r) -> Calls Tryz.prog 65 #[.string (bs (ns.getD i [])), .func (.func F) #[] caps] V (LayPost I Bad o V (u ++ quoteL (ns.getD i [])))) := hid fun V o u i hs hi hx => jquote_ok F caps I Bad Ok hL hcf _ u (hns _ (by rw [List.getD_eq_getElem?_getD, List.getElem?_eq_getElem hi]; exact List.getElem_mem _)) o V hs.inv (FO.out _ hx)
       have HLAY : Hid (∀ V o u p, TlS I own W u o V -> p.length <= 100 -> (∃ r, t ++ ([91] ++ tellKids 4 0 l [] ++ [93]) = (u ++ p) ++ r) -> Calls Tryz.prog F (#[.string (bs p)] ++ caps) V (LayPost I Bad o V (u ++ p))) := hid fun V o u p hs hp hx => hL.call o u p V hs.inv (by omega) (FO.out _ hx)
       have hc0 := HLAY.out W own t [91] HS0.out (by decide) (by obtain ⟨r, hr⟩ := HTF.out 0; rw [HT0.out] at hr; exact ⟨r, hr⟩)
       rw [<- HT0.out] at hc0
       have HC := hid hc0
       have hlm : l.length <= 9223372036854775807 := by unfold maxLen at h2; omega
       clear hsz hfk hfk2 h h5 ih hv hL hI hT hap e9 hns hkn hap2 hT0 hc0 h1 h2 h3 h4 q6 q7 hg0
       generalize hm : l.length = m at *
       have HM := hid hm
       clear hm
       go_enter Tryz.func36, Tryz.ntmps36
       go_wp2_with fail
       refine HC.out.mono ?_
       rintro e w1 (⟨rfl, hl⟩ | ⟨π, rfl, hb, hk⟩)
       rotate_left 1
       · have HP := hid (FP.out π _ w1 hb (HS0.out.bad hk) (by obtain ⟨r, hr⟩ := HTF.out 0; exact ⟨r, hr⟩))
         clear hb hk
         go_wp2_with fail
         exact ⟨rfl, HP.out⟩
       obtain ⟨o1, hq⟩ := HS0.out.laid hl
       have HS1 := hid hq
       clear hl hq HC q0
       obtain ⟨r0, r6, r7⟩ := HAT.out w1 o1 _ HS1.out
       go_wp2_with fail
       clear r0 r6 r7
       go_loopw [57] (fun v57 wr => ∃ (i : Nat) (o : Nat -> Prop), i <= m /\ v57 = .int .i64 (i : Int) /\ Hid (TlS I own W (T i) o wr)) (fun v57 _ => m - (intOf v57).toNat)
       case atStart => exact ⟨0, o1, Nat.zero_le _, rfl, HS1⟩
       case round =>
         obtain ⟨i, o, hi, rfl, HQ⟩ := hrel
         by_cases hlt : i < m
         · have hti := HTS.out i hlt
           obtain ⟨r1, hr1⟩ := HTF.out (i + 1)
           have HFUL := hid hr1
           have HKI2 := hid (fun V o u (hs : TlS I own W u o V) => HKI.out V o u i hs hlt)
           clear hr1
           generalize hkd : tellJ (l.getD i JV.null) = kd at *
           clear hkd
           rcases Nat.eq_zero_or_pos i with h0 | h0
           · rw [if_pos h0] at hti
             have HTI := hid hti
             clear hti
             subst h0
             obtain ⟨r0, r6, r7⟩ := HAT.out _ _ _ HQ.out
             have HQ0 := HQ
             clear HQ
             obtain ⟨g2, off2, rfl, hck⟩ := HKI2.out _ _ _ HQ0.out ⟨r1, by rw [HFUL.out, HTI.out] <;> simp only [List.append_assoc, List.nil_append]⟩
             have HC := hid hck
             clear hck
             go_wp2_with fail
             refine HC.out.mono ?_
             rintro e v3 (⟨rfl, hl⟩ | ⟨π, rfl, hb, hk⟩)
             rotate_left 1
             · have HP := hid (FP.out π _ v3 hb (HQ0.out.bad hk) ⟨r1, by rw [HFUL.out, HTI.out] <;> simp only [List.append_assoc, List.nil_append]⟩)
               clear hb hk
               go_wp2_with fail
               exact ⟨rfl, HP.out⟩
             obtain ⟨o4, hq⟩ := HQ0.out.laid hl
             have HQ3 := hid hq
             clear hl hq HC r0 r6 r7
             have HQ4 : Hid (TlS I own W (T (0 + 1)) o4 v3) := hid (by have e9 := HQ3.out; rw [HTI.out]; simpa only [List.append_assoc, List.append_nil, List.nil_append] using e9)
             go_wp2_with fail
             exact ⟨⟨0 + 1, o4, by omega, by go_num, HQ4⟩, by simp [intOf]; omega⟩
           · rw [if_neg (by omega)] at hti
             have HTI := hid hti
             clear hti
             obtain ⟨r0, r6, r7⟩ := HAT.out _ _ _ HQ.out
             have HC := hid (HLAY.out _ o (T i) [44] HQ.out (by decide) ⟨kd ++ r1, by rw [HFUL.out, HTI.out]; simp only [List.append_assoc]⟩)
             clear r0 r6 r7
             go_wp2_with fail
             refine HC.out.mono ?_
             rintro e v0 (⟨rfl, hl⟩ | ⟨π, rfl, hb, hk⟩)
             rotate_left 1
             · have HP := hid (FP.out π _ v0 hb (HQ.out.bad hk) ⟨kd ++ r1, by rw [HFUL.out, HTI.out]; simp only [List.append_assoc]⟩)
               clear hb hk
               go_wp2_with fail
               exact ⟨rfl, HP.out⟩
             obtain ⟨o9, hq⟩ := HQ.out.laid hl
             have HQ0 := hid hq
             clear hl hq HC
             clear HQ
             obtain ⟨r0, r6, r7⟩ := HAT.out _ _ _ HQ0.out
             obtain ⟨g2, off2, rfl, hck⟩ := HKI2.out _ _ _ HQ0.out ⟨r1, by rw [HFUL.out, HTI.out] <;> simp only [List.append_assoc]⟩
             have HC := hid hck
             clear hck
             go_wp2_with fail
             refine HC.out.mono ?_
             rintro e v3 (⟨rfl, hl⟩ | ⟨π, rfl, hb, hk⟩)
             rotate_left 1
             · have HP := hid (FP.out π _ v3 hb (HQ0.out.bad hk) ⟨r1, by rw [HFUL.out, HTI.out] <;> simp only [List.append_assoc]⟩)
               clear hb hk
               go_wp2_with fail
               exact ⟨rfl, HP.out⟩
             obtain ⟨o4, hq⟩ := HQ0.out.laid hl
             have HQ3 := hid hq
             clear hl hq HC r0 r6 r7
             have HQ4 : Hid (TlS I own W (T (i + 1)) o4 v3) := hid (by have e9 := HQ3.out; rw [HTI.out]; simpa only [List.append_assoc, List.append_nil, List.nil_append] using e9)
             go_wp2_with fail
             exact ⟨⟨i + 1, o4, by omega, by go_num, HQ4⟩, by simp [intOf]; omega⟩
         · obtain rfl : i = m := by omega
           have HTE2 := HTE.out
           have HC := hid (HLAY.out wr o (T i) [93] HQ.out (by decide) ⟨[], by rw [List.append_nil]; exact HTE2.symm⟩)
           go_wp2_with fail
           refine HC.out.mono ?_
           rintro e w9 (⟨rfl, hl⟩ | ⟨π, rfl, hb, hk⟩)
           rotate_left 1
           · have HP := hid (FP.out π _ w9 hb (HQ.out.bad hk) ⟨[], by rw [List.append_nil]; exact HTE2.symm⟩)
             clear hb hk
             go_wp2_with fail
             exact ⟨rfl, HP.out⟩
           obtain ⟨o9, hq⟩ := HQ.out.laid hl
           have HQ9 := hid hq
           clear hl hq HC
           go_wp2_with fail
           go_end0
           have e7 := HQ9.out
           rw [HTE2] at e7
           exact e7.fin
     · have HS0 : Hid (TlS I own W t own W) := hid ⟨hI, Kept.refl _ _, fun _ => .inl⟩
       have e9 : tellJ (.mk 5 b d tx l ns) = [123] ++ tellKids 5 0 l ns ++ [125] := by
         rw [tellJ]
         simp
       rw [e9] at FP FO ⊢
       obtain ⟨T, hT0⟩ : ∃ T : Nat -> List UInt8, ∀ i, T i = t ++ [123] ++ tellKids 5 0 (l.take i) ns := ⟨_, fun _ => rfl⟩
       have HT0 : Hid (T 0 = t ++ [123]) := hid (by rw [hT0, List.take_zero, tellKids, List.append_nil])
       have HTE : Hid (T l.length ++ [125] = t ++ ([123] ++ tellKids 5 0 l ns ++ [125])) := hid (by rw [hT0, List.take_length]; simp only [List.append_assoc])
       have HTS : Hid (∀ i, i < l.length -> T (i + 1) = T i ++ (if i = 0 then [] else [44]) ++ ((quoteL (ns.getD i []) ++ [58]) ++ tellJ (l.getD i JV.null))) := hid fun i hi => by
         rw [hT0, hT0, tellKids_take 5 l 0 i ns hi, Nat.zero_add]
         simp [List.append_assoc]
       have HTF : Hid (∀ i, ∃ r, t ++ ([123] ++ tellKids 5 0 l ns ++ [125]) = T i ++ r) := hid fun i => by
         obtain ⟨r, hr⟩ := tellKids_pre 5 l 0 ns i
         refine ⟨r ++ [125], ?_⟩
         rw [hT0, hr]
         simp only [List.append_assoc]
       have hap2 : ∀ V o, Kept own W V -> (∀ q, o q -> own q ∨ W.heap.size <= q) -> JAtP V F0 g off (.mk 5 b d tx l ns) /\ Apart V F0 o := fun V o hk ho => ⟨h.kept hg0 hap hk, hap.step hk ho⟩
       have HAT : Hid (∀ V o u, TlS I own W u o V -> V.cell? ⟨g, off, none⟩ = some (.int .i64 5) /\ V.cell? ⟨g, off + 6, none⟩ = some (.slice A l.length c) /\ V.cell? ⟨g, off + 7, none⟩ = some (.slice A' ns.length c')) := hid fun V o u hs => by
         have e : ∀ j x, W.cell? ⟨g, off + j, none⟩ = some x -> V.cell? ⟨g, off + j, none⟩ = some x := fun j x hx => (World.cell?_of_block (a := ⟨g, off + j, none⟩) (hs.kept.block g h.1 (hap.not_ g hg0))).trans hx
         exact ⟨by have := e 0 _ q0; rwa [Nat.add_zero] at this, e 6 _ q6, e 7 _ q7⟩
       have HKI : Hid (∀ V o u i, TlS I own W u o V -> i < l.length -> (∃ r, t ++ ([123] ++ tellKids 5 0 l ns ++ [125]) = (u ++ tellJ (l.getD i JV.null)) ++ r) -> ∃ g2 off2, A = some ⟨g2, off2, none⟩ /\ Calls Tryz.prog 36 #[.pointer (some ⟨g2, off2 + i * 8, none⟩), .func (.func F) #[] caps] V (LayPost I Bad o V (u ++ tellJ (l.getD i JV.null)))) := hid fun V o u i hs hi hx => by
         have hj := hap2 V o hs.kept hs.own_
         have e6 : V.cell? ⟨g, off + 6, none⟩ = some (.slice A l.length c) := (World.cell?_of_block (a := ⟨g, off + 6, none⟩) (hs.kept.block g h.1 (hap.not_ g hg0))).trans q6
         obtain ⟨g2, off2, hA, hf2, hj2⟩ := hj.1.kid e6 i hi
         have hm : l.getD i JV.null ∈ l := by rw [List.getD_eq_getElem?_getD, List.getElem?_eq_getElem hi]; exact List.getElem_mem _
         exact ⟨g2, off2, hA, ih _ (hsz _ hm) (hfk2 _ hm) F0 g2 _ o u V hs.inv (FO.out _ hx) hj2 hf2 hj.2 (fun U hU => hT U (hs.bad hU))⟩
       have HNA : Hid (∀ V o u i, TlS I own W u o V -> i < ns.length -> ∃ g2 off2, A' = some ⟨g2, off2, none⟩ /\ V.cell? ⟨g2, off2 + i, none⟩ = some (.string (bs (ns.getD i [])))) := hid fun V o u i hs hi => by
         obtain ⟨_, cs, a1, a2⟩ := (hap2 V o hs.kept hs.own_).1
         unfold JIs at a2
         obtain ⟨A9, c9, A8, c8, rfl, _, _, _, _, a7, _⟩ := a2
         have e7 : V.cell? ⟨g, off + 7, none⟩ = some (.slice A' ns.length c') := (World.cell?_of_block (a := ⟨g, off + 7, none⟩) (hs.kept.block g h.1 (hap.not_ g hg0))).trans q7
         have e8 := a1 7 _ rfl
         rw [e7] at e8
         injection e8 with e8
         injection e8 with e8 _ _
         subst e8
         exact a7.cell hi
       have HQN : Hid (∀ V o u i, TlS I own W u o V -> i < ns.length -> (∃ r, t ++ ([123] ++ tellKids 5 0 l ns ++ [125]) = (u ++ quoteL (ns.getD i [])) ++ r) -> Calls Tryz.prog 65 #[.string (bs (ns.getD i [])), .func (.func F) #[] caps] V (LayPost I Bad o V (u ++ quoteL (ns.getD i [])))) := hid fun V o u i hs hi hx => jquote_ok F caps I Bad Ok hL hcf _ u (hns _ (by rw [List.getD_eq_getElem?_getD, List.getElem?_eq_getElem hi]; exact List.getElem_mem _)) o V hs.inv (FO.out _ hx)
       have HLAY : Hid (∀ V o u p, TlS I own W u o V -> p.length <= 100 -> (∃ r, t ++ ([123] ++ tellKids 5 0 l ns ++ [125]) = (u ++ p) ++ r) -> Calls Tryz.prog F (#[.string (bs p)] ++ caps) V (LayPost I Bad o V (u ++ p))) := hid fun V o u p hs hp hx => hL.call o u p V hs.inv (by omega) (FO.out _ hx)
       have hc0 := HLAY.out W own t [123] HS0.out (by decide) (by obtain ⟨r, hr⟩ := HTF.out 0; rw [HT0.out] at hr; exact ⟨r, hr⟩)
       rw [<- HT0.out] at hc0
       have HC := hid hc0
       have hlm : l.length <= 9223372036854775807 := by unfold maxLen at h2; omega
       have HNL : Hid (ns.length = l.length) := hid (hkn rfl)
       clear hsz hfk hfk2 h h5 ih hv hL hI hT hap e9 hns hkn hap2 hT0 hc0 h1 h2 h3 h4 q6 q7 hg0
       generalize hnn : ns.length = nn at *
       have HNN := hid hnn
       clear hnn
       generalize hm : l.length = m at *
       have HM := hid hm
       clear hm
       go_enter Tryz.func36, Tryz.ntmps36
       go_wp2_with fail
       refine HC.out.mono ?_
       rintro e w1 (⟨rfl, hl⟩ | ⟨π, rfl, hb, hk⟩)
       rotate_left 1
       · have HP := hid (FP.out π _ w1 hb (HS0.out.bad hk) (by obtain ⟨r, hr⟩ := HTF.out 0; exact ⟨r, hr⟩))
         clear hb hk
         go_wp2_with fail
         exact ⟨rfl, HP.out⟩
       obtain ⟨o1, hq⟩ := HS0.out.laid hl
       have HS1 := hid hq
       clear hl hq HC q0
       obtain ⟨r0, r6, r7⟩ := HAT.out w1 o1 _ HS1.out
       obtain rfl : m = nn := HNL.out.symm
       go_wp2_with fail
       clear r0 r6 r7
       go_loopw [57] (fun v57 wr => ∃ (i : Nat) (o : Nat -> Prop), i <= m /\ v57 = .int .i64 (i : Int) /\ Hid (TlS I own W (T i) o wr)) (fun v57 _ => m - (intOf v57).toNat)
       case atStart => exact ⟨0, o1, Nat.zero_le _, rfl, HS1⟩
       case round =>
         obtain ⟨i, o, hi, rfl, HQ⟩ := hrel
         by_cases hlt : i < m
         · have hti := HTS.out i hlt
           obtain ⟨r1, hr1⟩ := HTF.out (i + 1)
           have HFUL := hid hr1
           have HKI2 := hid (fun V o u (hs : TlS I own W u o V) => HKI.out V o u i hs hlt)
           have HNA2 := hid (fun V o u (hs : TlS I own W u o V) => HNA.out V o u i hs (by omega))
           have HQN2 := hid (fun V o u (hs : TlS I own W u o V) => HQN.out V o u i hs (by omega))
           clear hr1
           generalize hkd : tellJ (l.getD i JV.null) = kd at *
           generalize hnq : quoteL (ns.getD i []) = nq at *
           generalize hnm : ns.getD i [] = nm at *
           clear hnq hnm
           clear hkd
           rcases Nat.eq_zero_or_pos i with h0 | h0
           · rw [if_pos h0] at hti
             have HTI := hid hti
             clear hti
             subst h0
             obtain ⟨r0, r6, r7⟩ := HAT.out _ _ _ HQ.out
             have HQ0 := HQ
             clear HQ
             obtain ⟨g3, off3, rfl, hcn⟩ := HNA2.out _ _ _ HQ0.out
             rw [Nat.add_zero] at hcn
             have HC := hid (HQN2.out _ _ _ HQ0.out ⟨[58] ++ kd ++ r1, by rw [HFUL.out, HTI.out] <;> simp only [List.append_assoc, List.nil_append]⟩)
             go_wp2_with fail
             refine HC.out.mono ?_
             rintro e v1 (⟨rfl, hl⟩ | ⟨π, rfl, hb, hk⟩)
             rotate_left 1
             · have HP := hid (FP.out π _ v1 hb (HQ0.out.bad hk) ⟨[58] ++ kd ++ r1, by rw [HFUL.out, HTI.out] <;> simp only [List.append_assoc, List.nil_append]⟩)
               clear hb hk
               go_wp2_with fail
               exact ⟨rfl, HP.out⟩
             obtain ⟨o2, hq⟩ := HQ0.out.laid hl
             have HQ1 := hid hq
             clear hl hq HC hcn r0 r7 r6
             have HC := hid (HLAY.out _ _ _ [58] HQ1.out (by decide) ⟨kd ++ r1, by rw [HFUL.out, HTI.out] <;> simp only [List.append_assoc, List.nil_append]⟩)
             go_wp2_with fail
             refine HC.out.mono ?_
             rintro e v2 (⟨rfl, hl⟩ | ⟨π, rfl, hb, hk⟩)
             rotate_left 1
             · have HP := hid (FP.out π _ v2 hb (HQ1.out.bad hk) ⟨kd ++ r1, by rw [HFUL.out, HTI.out] <;> simp only [List.append_assoc, List.nil_append]⟩)
               clear hb hk
               go_wp2_with fail
               exact ⟨rfl, HP.out⟩
             obtain ⟨o3, hq⟩ := HQ1.out.laid hl
             have HQ2 := hid hq
             clear hl hq HC
             obtain ⟨r0, r6, r7⟩ := HAT.out _ _ _ HQ2.out
             obtain ⟨g2, off2, rfl, hck⟩ := HKI2.out _ _ _ HQ2.out ⟨r1, by rw [HFUL.out, HTI.out] <;> simp only [List.append_assoc, List.nil_append]⟩
             have HC := hid hck
             clear hck
             go_wp2_with fail
             refine HC.out.mono ?_
             rintro e v3 (⟨rfl, hl⟩ | ⟨π, rfl, hb, hk⟩)
             rotate_left 1
             · have HP := hid (FP.out π _ v3 hb (HQ2.out.bad hk) ⟨r1, by rw [HFUL.out, HTI.out] <;> simp only [List.append_assoc, List.nil_append]⟩)
               clear hb hk
               go_wp2_with fail
               exact ⟨rfl, HP.out⟩
             obtain ⟨o4, hq⟩ := HQ2.out.laid hl
             have HQ3 := hid hq
             clear hl hq HC r0 r6 r7
             have HQ4 : Hid (TlS I own W (T (0 + 1)) o4 v3) := hid (by have e9 := HQ3.out; rw [HTI.out]; simpa only [List.append_assoc, List.append_nil, List.nil_append] using e9)
             go_wp2_with fail
             exact ⟨⟨0 + 1, o4, by omega, by go_num, HQ4⟩, by simp [intOf]; omega⟩
           · rw [if_neg (by omega)] at hti
             have HTI := hid hti
             clear hti
             obtain ⟨r0, r6, r7⟩ := HAT.out _ _ _ HQ.out
             have HC := hid (HLAY.out _ o (T i) [44] HQ.out (by decide) ⟨nq ++ [58] ++ kd ++ r1, by rw [HFUL.out, HTI.out]; simp only [List.append_assoc]⟩)
             clear r0 r6 r7
             go_wp2_with fail
             refine HC.out.mono ?_
             rintro e v0 (⟨rfl, hl⟩ | ⟨π, rfl, hb, hk⟩)
             rotate_left 1
             · have HP := hid (FP.out π _ v0 hb (HQ.out.bad hk) ⟨nq ++ [58] ++ kd ++ r1, by rw [HFUL.out, HTI.out]; simp only [List.append_assoc]⟩)
               clear hb hk
               go_wp2_with fail
               exact ⟨rfl, HP.out⟩
             obtain ⟨o9, hq⟩ := HQ.out.laid hl
             have HQ0 := hid hq
             clear hl hq HC
             clear HQ
             obtain ⟨r0, r6, r7⟩ := HAT.out _ _ _ HQ0.out
             obtain ⟨g3, off3, rfl, hcn⟩ := HNA2.out _ _ _ HQ0.out
             have HC := hid (HQN2.out _ _ _ HQ0.out ⟨[58] ++ kd ++ r1, by rw [HFUL.out, HTI.out] <;> simp only [List.append_assoc]⟩)
             go_wp2_with fail
             refine HC.out.mono ?_
             rintro e v1 (⟨rfl, hl⟩ | ⟨π, rfl, hb, hk⟩)
             rotate_left 1
             · have HP := hid (FP.out π _ v1 hb (HQ0.out.bad hk) ⟨[58] ++ kd ++ r1, by rw [HFUL.out, HTI.out] <;> simp only [List.append_assoc]⟩)
               clear hb hk
               go_wp2_with fail
               exact ⟨rfl, HP.out⟩
             obtain ⟨o2, hq⟩ := HQ0.out.laid hl
             have HQ1 := hid hq
             clear hl hq HC hcn r0 r7 r6
             have HC := hid (HLAY.out _ _ _ [58] HQ1.out (by decide) ⟨kd ++ r1, by rw [HFUL.out, HTI.out] <;> simp only [List.append_assoc]⟩)
             go_wp2_with fail
             refine HC.out.mono ?_
             rintro e v2 (⟨rfl, hl⟩ | ⟨π, rfl, hb, hk⟩)
             rotate_left 1
             · have HP := hid (FP.out π _ v2 hb (HQ1.out.bad hk) ⟨kd ++ r1, by rw [HFUL.out, HTI.out] <;> simp only [List.append_assoc]⟩)
               clear hb hk
               go_wp2_with fail
               exact ⟨rfl, HP.out⟩
             obtain ⟨o3, hq⟩ := HQ1.out.laid hl
             have HQ2 := hid hq
             clear hl hq HC
             obtain ⟨r0, r6, r7⟩ := HAT.out _ _ _ HQ2.out
             obtain ⟨g2, off2, rfl, hck⟩ := HKI2.out _ _ _ HQ2.out ⟨r1, by rw [HFUL.out, HTI.out] <;> simp only [List.append_assoc]⟩
             have HC := hid hck
             clear hck
             go_wp2_with fail
             refine HC.out.mono ?_
             rintro e v3 (⟨rfl, hl⟩ | ⟨π, rfl, hb, hk⟩)
             rotate_left 1
             · have HP := hid (FP.out π _ v3 hb (HQ2.out.bad hk) ⟨r1, by rw [HFUL.out, HTI.out] <;> simp only [List.append_assoc]⟩)
               clear hb hk
               go_wp2_with fail
               exact ⟨rfl, HP.out⟩
             obtain ⟨o4, hq⟩ := HQ2.out.laid hl
             have HQ3 := hid hq
             clear hl hq HC r0 r6 r7
             have HQ4 : Hid (TlS I own W (T (i + 1)) o4 v3) := hid (by have e9 := HQ3.out; rw [HTI.out]; simpa only [List.append_assoc, List.append_nil, List.nil_append] using e9)
             go_wp2_with fail
             exact ⟨⟨i + 1, o4, by omega, by go_num, HQ4⟩, by simp [intOf]; omega⟩
         · obtain rfl : i = m := by omega
           have HTE2 := HTE.out
           have HC := hid (HLAY.out wr o (T i) [125] HQ.out (by decide) ⟨[], by rw [List.append_nil]; exact HTE2.symm⟩)
           go_wp2_with fail
           refine HC.out.mono ?_
           rintro e w9 (⟨rfl, hl⟩ | ⟨π, rfl, hb, hk⟩)
           rotate_left 1
           · have HP := hid (FP.out π _ w9 hb (HQ.out.bad hk) ⟨[], by rw [List.append_nil]; exact HTE2.symm⟩)
             clear hb hk
             go_wp2_with fail
             exact ⟨rfl, HP.out⟩
           obtain ⟨o9, hq⟩ := HQ.out.laid hl
           have HQ9 := hid hq
           clear hl hq HC
           go_wp2_with fail
           go_end0
           have e7 := HQ9.out
           rw [HTE2] at e7
           exact e7.fin
end Go.Proofs.YtmhbkjjkalnggaaGreatDoor
