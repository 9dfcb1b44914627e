/- Layer 8: letters: a text behind its first quote. -/
import Derived.Test.YtfdodndagakmmaaGreatDoorPt11
import Derived.Test.YtfdodndagakmmaaGreatDoorPt07
import Derived.WalkMore
import Derived.Scope
namespace Go.Proofs.YtfdodndagakmmaaGreatDoor
open Go.RowKit

def letsR (f : Fl) (s : List UInt8) : Option (Value × Fl × List UInt8) := (letsL s).map fun q => (.string (bs q.1), { f with alone := f.alone || q.2.1 }, q.2.2)
/-- What is still to come, behind what is read. -/
def letsQ (done : List UInt8) (f : Fl) (r : List UInt8) : Option (Value × Fl × List UInt8) := (letsL r).map fun q => (.string (bs (done ++ q.1)), { f with alone := f.alone || q.2.1 }, q.2.2)
theorem letsQ_nil (done : List UInt8) (f : Fl) : letsQ done f [] = none := by unfold letsQ; rw [letsL]; rfl
theorem letsQ_end (done : List UInt8) (f : Fl) (t : List UInt8) : letsQ done f (34 :: t) = some (.string (bs done), f, t) := by unfold letsQ; rw [letsL, if_pos rfl]; simp
theorem letsQ_bad {b : UInt8} (h1 : b ≠ 34) (h2 : b ≠ 92) (h3 : b.toNat < 32) (done : List UInt8) (f : Fl) (t : List UInt8) : letsQ done f (b :: t) = none := by unfold letsQ; rw [letsL, if_neg h1, if_neg h2, if_pos h3]; rfl
theorem letsQ_one {b : UInt8} (h1 : b ≠ 34) (h2 : b ≠ 92) (h3 : ¬ b.toNat < 32) (done : List UInt8) (f : Fl) (t : List UInt8) : letsQ done f (b :: t) = letsQ (done ++ [b]) f t := by
  unfold letsQ
  rw [letsL_plain h1 h2 h3]
  cases letsL t with
  | none => rfl
  | some q => simp
theorem letsQ_none {t : List UInt8} (h : letterL t = none) (done : List UInt8) (f : Fl) : letsQ done f (92 :: t) = none := by
  unfold letsQ
  rw [letsL, if_neg (by decide), if_pos rfl]
  split
  · rfl
  · rename_i h2; rw [h] at h2; cases h2
theorem letsQ_esc {t r : List UInt8} {x : Nat} {a : Bool} (h : letterL t = some (x, a, r)) (done : List UInt8) (f : Fl) : letsQ done f (92 :: t) = letsQ (done ++ runeL x) { f with alone := f.alone || a } r := by
  unfold letsQ
  rw [letsL_esc92 h]
  cases letsL r with
  | none => rfl
  | some q => simp [Bool.or_assoc]
theorem runeL_len (x : Nat) : (runeL x).length ≤ 4 := by
  unfold runeL
  split
  · simp
  · split
    · simp
    · split <;> simp
theorem infoByte : (Tryz.prog.info? 5).map (fun i => (i.zero, i.size, i.bytes)) = some (some (.int .u8 0), 1, 1) := by kernel_rfl
theorem kept_mono {F G : Nat → Prop} {a b : World} (h : Kept F a b) (hf : ∀ k, F k → G k) : Kept G a b := ⟨h.os, h.tape, h.output, h.size, fun k hk hn => h.block k hk fun hF => hn (hf k hF)⟩
def TxF (w : World) (p q : Nat) : Prop := q = p ∨ w.heap.size ≤ q
theorem kept_cut {w w' : World} {p : Nat} (h : Kept (TxF w p) w w') : Kept (· = p) w w' := ⟨h.os, h.tape, h.output, h.size, fun k hk hn => h.block k hk fun hF => by
  rcases hF with h1 | h1
  · exact hn h1
  · omega⟩
theorem kept_p {w a b : World} {p : Nat} (h : Kept (· = p) a b) : Kept (TxF w p) a b := kept_mono h fun _ e => .inl e
theorem kept_new {w a b : World} {p : Nat} (h : Kept (fun q => w.heap.size ≤ q) a b) : Kept (TxF w p) a b := kept_mono h fun _ e => .inr e
theorem kept_rune {w a b : World} {e : TypeId} {v : Value} {n : Nat} {xs : List Value} (ho : a.ownsRowF w.heap.size e 1 v n xs) {o : Obj} (hg : (a.alloc o).grownBy b v.ownBlock) : Kept (fun q => w.heap.size ≤ q) a b :=
  ((Kept.refl _ _).alloc o).trans' (kept_own hg fun r hr => (ho.lt r hr).1)
theorem rune_own {w : World} {B : Nat} {v : Value} {done : List UInt8} {x : Nat} (h1 : x < 1114112) (h2 : ¬ (55296 ≤ x ∧ x ≤ 57343)) (h : w.ownsRowF B 5 1 v (done.length + (Lib.runeCells (x : Int)).length) (u8s done ++ Lib.runeCells (x : Int))) :
    w.ownsRowF B 5 1 v (done ++ runeL x).length (u8s (done ++ runeL x)) := by
  rw [runeL_cells h1 h2, u8s_length] at h
  have e : u8s (done ++ runeL x) = u8s done ++ u8s (runeL x) := by unfold u8s; rw [List.map_append]
  rw [e, List.length_append]
  exact h
theorem byte_own {w : World} {B : Nat} {v : Value} {done : List UInt8} {b : UInt8} (h : w.ownsRowF B 5 1 v (done.length + 1) (u8s done ++ [.int .u8 (b.toNat : Int)])) :
    w.ownsRowF B 5 1 v (done ++ [b]).length (u8s (done ++ [b])) := by
  have e : u8s (done ++ [b]) = u8s done ++ [.int .u8 (b.toNat : Int)] := by unfold u8s; rw [List.map_append]; rfl
  rw [e, List.length_append]
  exact h
set_option maxRecDepth 100000 in
set_option maxHeartbeats 4000000 in
theorem jletters_ok (p : Nat) (X : Txt) (s : List UInt8) (E O : Value) (f : Fl) (w : World) (h : JAt w p X s E O f) (hX : X.l.length ≤ 1048576) :
    Calls Tryz.prog 116 #[.pointer (some ⟨p, 0, none⟩)] w (JRes p X E O w (letsR f s)) := by
  have H := Lib.hid h
  have HS := Lib.hid h.len
  have HP := Lib.hid h.lt
  have HR : Hid (letsR f s = letsQ [] f s) := Lib.hid (by unfold letsR letsQ; simp)
  clear h
  generalize letsR f s = R at *
  obtain ⟨i, hi, hz, hsz, hby⟩ : ∃ i, Tryz.prog.info? 5 = some i ∧ i.zero = some (.int .u8 0) ∧ i.size = 1 ∧ i.bytes = 1 := by
    have h9 := infoByte
    cases hq : Tryz.prog.info? 5 with
    | none => rw [hq] at h9; cases h9
    | some i =>
      rw [hq] at h9
      injection h9 with h9
      injection h9 with e1 h9
      injection h9 with e2 e3
      exact ⟨i, rfl, e1, e2, e3⟩
  have HI := Lib.hid (And.intro hi (And.intro hz (And.intro hsz hby)))
  clear hi hz hsz hby
  go_enter Tryz.func116, Tryz.ntmps116
  go_wp2_with fail
  go_loopw [3] (fun v3 wr => ∃ (r done : List UInt8) (fl : Fl), Hid (wr.ownsRowF w.heap.size 5 1 v3 done.length (u8s done)) ∧ Hid (JAt wr p X r E O fl) ∧ Hid (Kept (TxF w p) w wr) ∧ Hid (R = letsQ done fl r) ∧ Hid (done.length + 4 * r.length ≤ 4 * s.length)) (fun _ wr => leftOf X p wr)
  case atStart => exact ⟨s, [], f, Lib.hid (World.ownsRowF_nil w w.heap.size 5 1), H, Lib.hid (Kept.refl _ _), HR, Lib.hid (by simp)⟩
  case round =>
    obtain ⟨r, done, fl, HO, HJ, HK, HQ, HN⟩ := hrel
    obtain ⟨A, c, rfl, hho⟩ := own_holds HO.out
    have HX := Lib.hid (jnext_ok p X r E O fl _ HJ.out)
    have HLF := Lib.hid HJ.out.left
    clear hho
    cases r with
    | nil =>
      obtain rfl : R = none := by rw [HQ.out, letsQ_nil]
      go_wp2_with fail
      refine HX.out.mono ?_
      rintro e w2 ⟨rfl, hk⟩
      have HK2 := Lib.hid (kept_cut (HK.out.trans' (kept_p hk)))
      clear hk
      go_wp2_with fail
      exact ⟨rfl, rfl, HK2.out⟩
    | cons b t =>
      by_cases h34 : b = 34
      · subst h34
        obtain rfl : R = some (.string (bs done), fl, t) := by rw [HQ.out, letsQ_end]
        go_wp2_with fail
        refine HX.out.mono ?_
        rintro e w2 ⟨rfl, hj, hk⟩
        have HJ2 := Lib.hid hj
        have HK2 := Lib.hid (kept_cut (HK.out.trans' (kept_p hk)))
        obtain ⟨A2, c2, hv2, hho⟩ := own_holds (own_kept HO.out hk HP.out)
        injection hv2 with e1 _ e3
        subst e1 e3
        have hcv := run_text_bs (P := Tryz.prog) hho 22 9 5 c Tryz.underlying22 Tryz.underlying5 Tryz.underlying9
        clear hj hk hho
        go_wp2_with fail
        go_ret
        exact ⟨rfl, HJ2.out, HK2.out⟩
      by_cases h92 : b = 92
      · subst h92
        have HLQ0 := Lib.hid (fun h => letsQ_none (t := t) h done fl)
        have HLQ1 := Lib.hid (fun x a q h => letsQ_esc (t := t) (x := x) (a := a) (r := q) h done fl)
        go_wp2_with fail
        refine HX.out.mono ?_
        rintro e w2 ⟨rfl, hj, hk⟩
        have HK2 := Lib.hid (HK.out.trans' (kept_p hk))
        have HO2 := Lib.hid (own_kept HO.out hk HP.out)
        have HLT := Lib.hid (jletter_ok p X t E O fl w2 hj)
        have HR2 : Hid (letterR fl t = (letterL t).map fun q => (.int .i32 (q.1 : Int), { fl with alone := fl.alone || q.2.1 }, q.2.2)) := Lib.hid rfl
        clear hj hk h34
        generalize letterR fl t = R2 at *
        cases hl : letterL t with
        | none =>
          rw [hl] at HR2
          obtain rfl : R2 = none := HR2.out
          obtain rfl : R = none := by rw [HQ.out, HLQ0.out hl]
          clear hl HLQ0 HLQ1
          go_wp2_with fail
          refine HLT.out.mono ?_
          rintro e w3 ⟨rfl, hk⟩
          have HK3 := Lib.hid (kept_cut (HK2.out.trans' (kept_p hk)))
          clear hk
          go_wp2_with fail
          exact ⟨rfl, rfl, HK3.out⟩
        | some q =>
          obtain ⟨x, a, t2⟩ := q
          rw [hl] at HR2
          obtain rfl : R2 = some (.int .i32 (x : Int), { fl with alone := fl.alone || a }, t2) := HR2.out
          have HQ2 : Hid (R = letsQ (done ++ runeL x) { fl with alone := fl.alone || a } t2) := Lib.hid (by rw [HQ.out, HLQ1.out _ _ _ hl])
          have HXO := Lib.hid (letterL_ok hl)
          have HLL := Lib.hid (letterL_len hl)
          clear hl HLQ0 HLQ1 HQ
          go_wp2_with fail
          refine HLT.out.mono ?_
          rintro e w3 ⟨rfl, hj, hk⟩
          have HK3 := Lib.hid (HK2.out.trans' (kept_p hk))
          have HO3 := Lib.hid (own_kept HO2.out hk HP.out)
          have HJ3 := Lib.hid hj
          have hd1 := HN.out
          have hd2 := HS.out
          simp only [List.length_cons] at hd1
          have HAR := Lib.hid (Tryz.utf8_AppendRune_row w.heap.size (.slice A done.length c) done.length (u8s done) (x : Int) (by omega) (by have := HXO.out.1; omega) w3 HO3.out (by omega) HK3.out.size)
          clear hj hk hd1 hd2
          go_wp2_with fail
          refine HAR.out.mono ?_
          rintro e w4 ⟨v', rfl, ho4, o, hg4⟩
          have hk4 := kept_rune (w := w) HO3.out hg4
          have HJ4 := Lib.hid (H.out.above HJ3.out hk4)
          have HK4 := Lib.hid (HK3.out.trans' (kept_new hk4))
          have HO4 := Lib.hid (rune_own HXO.out.1 HXO.out.2 ho4)
          have HN4 : Hid ((done ++ runeL x).length + 4 * t2.length ≤ 4 * s.length) := Lib.hid (by
            have h1 := HN.out
            have h2 := HLL.out
            have h3 := runeL_len x
            simp only [List.length_cons] at h1
            rw [List.length_append]; omega)
          have HLN : Hid (t2.length < (92 :: t).length) := Lib.hid (by have := HLL.out; simp only [List.length_cons]; omega)
          clear ho4 hg4 hk4
          go_wp2_with fail
          exact ⟨⟨t2, done ++ runeL x, _, HO4, HJ4, HK4, HQ2, HN4⟩, by rw [HJ4.out.left, HLF.out]; exact HLN.out⟩
      have e34 : ((b.toNat : Int) == 34) = false := by
        rw [beq_eq_false_iff_ne]
        intro h9
        exact h34 (by rw [← UInt8.toNat_inj]; show b.toNat = 34; omega)
      have e92 : ((b.toNat : Int) == 92) = false := by
        rw [beq_eq_false_iff_ne]
        intro h9
        exact h92 (by rw [← UInt8.toNat_inj]; show b.toNat = 92; omega)
      by_cases h32 : b.toNat < 32
      · obtain rfl : R = none := by rw [HQ.out, letsQ_bad h34 h92 h32]
        have e32 : decide ((b.toNat : Int) < 32) = true := by simp; omega
        clear h34 h92
        generalize hy : b.toNat = y at *
        go_wp2_with fail
        refine HX.out.mono ?_
        rintro e w2 ⟨rfl, hj, hk⟩
        have HK2 := Lib.hid (kept_cut (HK.out.trans' (kept_p hk)))
        rw [hy]
        clear hj hk hy
        go_wp2_with fail
        exact ⟨rfl, rfl, HK2.out⟩
      · have HQ2 : Hid (R = letsQ (done ++ [b]) fl t) := Lib.hid (by rw [HQ.out, letsQ_one h34 h92 h32])
        have e32 : decide ((b.toNat : Int) < 32) = false := by simp; omega
        have HYB : Hid (∀ v' w', World.ownsRowF w' w.heap.size 5 1 v' (done.length + 1) (u8s done ++ [.int .u8 (b.toNat : Int)]) → World.ownsRowF w' w.heap.size 5 1 v' (done ++ [b]).length (u8s (done ++ [b]))) := Lib.hid fun v' w' h => byte_own h
        clear h34 h92 h32
        have HN2 : Hid ((done ++ [b]).length + 4 * t.length ≤ 4 * s.length) := Lib.hid (by
          have h1 := HN.out
          simp only [List.length_cons] at h1
          rw [List.length_append, List.length_singleton]; omega)
        have hd3 : done.length ≤ 4194304 := by
          have hd1 := HN.out
          have hd2 := HS.out
          simp only [List.length_cons] at hd1
          omega
        have HLN : Hid (t.length < (b :: t).length) := Lib.hid (by simp)
        generalize hy : b.toNat = y at *
        go_wp2_with fail
        refine HX.out.mono ?_
        rintro e w2 ⟨rfl, hj, hk⟩
        have HJ2 := Lib.hid hj
        have HK2 := Lib.hid (HK.out.trans' (kept_p hk))
        have HO2 := Lib.hid (World.ownsRowF.alloc (own_kept HO.out hk HP.out) (.cells #[.int .u8 (y : Int)] 5))
        have HS2 : Hid (w.heap.size ≤ (w2.alloc (.cells #[.int .u8 (y : Int)] 5)).heap.size) := Lib.hid (Nat.le_trans HK2.out.size ((Below.refl w2.heap.size w2).alloc (Nat.le_refl _) _).size)
        rw [hy]
        clear hj hk hy
        go_wp2_with (
          at_builtin
          refine wpList_append_ownF _ ?_ (.tmp 7) (.tmp 9) 22 ?_ w.heap.size 5 i (.int .u8 0) 1 1 Tryz.underlying22 HI.out.1 HI.out.2.1 HI.out.2.2.1 HI.out.2.2.2 rfl (by decide) (.slice A done.length c) done.length (u8s done) ?_ HO2.out ⟨w2.heap.size, 0, none⟩ 1 1 [.int .u8 (y : Int)] ?_ rfl ?_ ?_ (by unfold maxLen; omega) (by omega) HS2.out ?_
          · with_reducible rfl
          · with_reducible rfl
          · rfl
          · rfl
          · exact World.news_of_block (w := w2.alloc (.cells #[.int .u8 (y : Int)] 5)) (heap_alloc_new w2 _)
          · intro u hu; simp at hu; subst hu; rfl
          intro v' w4 ho4 hg4 _
          have hk4 := ((Kept.refl (F := fun q => w.heap.size ≤ q) w2).alloc (.cells #[.int .u8 (y : Int)] 5)).trans' (kept_own hg4 fun r hr => (HO2.out.lt r hr).1)
          have HJ4 := Lib.hid (H.out.above HJ2.out hk4)
          have HK4 := Lib.hid (HK2.out.trans' (kept_new hk4))
          have HO4 := Lib.hid (HYB.out _ _ ho4)
          clear ho4 hg4 hk4)
        exact ⟨⟨t, done ++ [b], fl, HO4, HJ4, HK4, HQ2, HN2⟩, by rw [HJ4.out.left, HLF.out]; exact HLN.out⟩
end Go.Proofs.YtfdodndagakmmaaGreatDoor
/- Of no program: a scope whose labels lead to one another. And layer 7's text, state by state. -/
namespace Go.Proofs.YtfdodndagakmmaaGreatDoor
open Go.RowKit

/-- As Q; by a goto: J. -/
def jumps (J : Nat → Act → World → Prop) (Q : Exit → Act → World → Prop) : Exit → Act → World → Prop
  | .goto l, a, w => J l a w
  | e, a, w => Q e a w
theorem wp_code {P : Program} {c : Code} {Q : Exit → Act → World → Prop} {a : Act} {w : World} (c' : Code) (e : c = c') (h : c'.wp P Q a w) : c.wp P Q a w := e ▸ h
section
variable {P : Program} {a : Act} {w : World} {Q : Exit → Act → World → Prop}
theorem wp_scope_labels {c : Code} (rest : Nat → Code) (J : Nat → Act → World → Prop) (μ : Nat → Act → World → Nat) (hf : ∀ l a w, J l a w → findLabel c l = some (rest l))
    (first : c.wp P (jumps J Q) a w)
    (pass : ∀ l a w, J l a w → (rest l).wp P (jumps (fun l' a' w' => J l' a' w' ∧ μ l' a' w' < μ l a w) Q) a w) : (Code.scope c).wp P Q a w := by
  intro b k cs
  have hg : ∀ l a w, J l a w → gotoIn l (.inScope c :: k) = some (.code (rest l) :: .inScope c :: k) := fun l a w h => by simp [gotoIn, hf l a w h]
  have key : ∀ n l a w, μ l a w = n → J l a w → ∃ e a' w', Q e a' w' ∧ Arrives P (lone (b.at a (.code (rest l) :: .inScope c :: k)) cs w) b k cs e a' w' := by
    intro n
    induction n using Nat.strongRecOn with
    | _ n ih =>
      intro l a w hn hJ
      obtain ⟨e, a₁, w₁, hq, harr⟩ := pass l a w hJ b (.inScope c :: k) cs
      cases e with
      | normal => exact ⟨.normal, a₁, w₁, hq, Steps.trans harr (.one step_inScope)⟩
      | exit id => exact ⟨.exit id, a₁, w₁, hq, fun k' hk => harr k' (by simp [exitTo, hk])⟩
      | goto l' =>
        obtain ⟨hJ', hlt⟩ := hq
        obtain ⟨e₂, a₂, w₂, hq₂, harr₂⟩ := ih _ (by omega) l' a₁ w₁ rfl hJ'
        exact ⟨e₂, a₂, w₂, hq₂, .of_steps (harr _ (hg l' a₁ w₁ hJ')) harr₂⟩
      | ret => exact ⟨_, a₁, w₁, hq, harr⟩
      | panic ch => exact ⟨_, a₁, w₁, hq, harr⟩
      | outgrown => exact ⟨_, a₁, w₁, hq, harr⟩
  obtain ⟨e, a₁, w₁, hq, harr⟩ := first b (.inScope c :: k) cs
  cases e with
  | normal => exact ⟨.normal, a₁, w₁, hq, .head step_scope (Steps.trans harr (.one step_inScope))⟩
  | exit id => exact ⟨.exit id, a₁, w₁, hq, fun k' hk => .head step_scope (harr k' (by simp [exitTo, hk]))⟩
  | goto l' =>
    obtain ⟨e₂, a₂, w₂, hq₂, harr₂⟩ := key _ l' a₁ w₁ rfl hq
    exact ⟨e₂, a₂, w₂, hq₂, .of_steps (.head step_scope (harr _ (hg l' a₁ w₁ hq))) harr₂⟩
  | ret => exact ⟨_, a₁, w₁, hq, .of_steps (.one step_scope) harr⟩
  | panic ch => exact ⟨_, a₁, w₁, hq, .of_steps (.one step_scope) harr⟩
  | outgrown => exact ⟨_, a₁, w₁, hq, .of_steps (.one step_scope) harr⟩
end

/-! ### A number's text, from each state on -/
def gEnd (neg : Bool) (a b : List UInt8) (sg : Bool) (pw r : List UInt8) : Option Parts := if r = [] then some ⟨neg, a, b, sg, pw⟩ else none
def gRaise (neg : Bool) (a b : List UInt8) (sg : Bool) (pw r : List UInt8) : Option Parts := gEnd neg a b sg (pw ++ spanT r) (spanD r)
def gRaised (neg : Bool) (a b r : List UInt8) : Option Parts := match power r with | none => none | some (sg, p, r) => gEnd neg a b sg p r
def gBehind (neg : Bool) (a b r : List UInt8) : Option Parts := gRaised neg a (b ++ spanT r) (spanD r)
def gPoint (neg : Bool) (a r : List UInt8) : Option Parts := match behind r with | none => none | some (b, r) => gRaised neg a b r
def gAhead (neg : Bool) (a r : List UInt8) : Option Parts := gPoint neg (a ++ spanT r) (spanD r)
theorem parts_eq (l : List UInt8) : parts l = match ahead (signed l).2 with | none => none | some (a, r) => gPoint (signed l).1 a r := by
  unfold parts gPoint gRaised gEnd
  cases ahead (signed l).2 with
  | none => rfl
  | some q =>
    obtain ⟨a, r⟩ := q
    simp only
    cases behind r with
    | none => rfl
    | some q =>
      obtain ⟨b, r⟩ := q
      simp only
      cases power r with
      | none => rfl
      | some q => rfl
theorem drop_cons {l : List UInt8} {k : Nat} (h : k < l.length) : l.drop k = l.getD k 0 :: l.drop (k + 1) := by
  rw [List.drop_eq_getElem_cons h]
  simp [List.getD, List.getElem?_eq_getElem h]
theorem digAt_lt {l : List UInt8} {k : Nat} (h : digAt l k = true) : k < l.length ∧ isDig (l.getD k 0) = true := by
  unfold digAt at h
  simpa using h
theorem span_dig {l : List UInt8} {k : Nat} (h : digAt l k = true) : spanT (l.drop k) = l.getD k 0 :: spanT (l.drop (k + 1)) ∧ spanD (l.drop k) = spanD (l.drop (k + 1)) := by
  obtain ⟨h1, h2⟩ := digAt_lt h
  rw [drop_cons h1]
  unfold spanT spanD
  rw [List.takeWhile_cons, List.dropWhile_cons, if_pos h2, if_pos h2]
  exact ⟨rfl, rfl⟩
theorem span_none {l : List UInt8} {k : Nat} (h : digAt l k = false) : spanT (l.drop k) = [] ∧ spanD (l.drop k) = l.drop k := by
  by_cases hk : k < l.length
  · rw [drop_cons hk]
    have h2 : isDig (l.getD k 0) = false := by unfold digAt at h; simpa [hk] using h
    unfold spanT spanD
    rw [List.takeWhile_cons, List.dropWhile_cons, h2]
    exact ⟨rfl, rfl⟩
  · rw [List.drop_of_length_le (by omega)]; exact ⟨rfl, rfl⟩
theorem span_some {l : List UInt8} {k : Nat} (h : digAt l k = true) : spanT (l.drop k) ≠ [] := by rw [(span_dig h).1]; simp
theorem gAhead_more {neg : Bool} {a l : List UInt8} {k : Nat} (h : digAt l k = true) : gAhead neg a (l.drop k) = gAhead neg (a ++ [l.getD k 0]) (l.drop (k + 1)) := by
  unfold gAhead; rw [(span_dig h).1, (span_dig h).2, List.append_assoc]; rfl
theorem gAhead_stop {neg : Bool} {a l : List UInt8} {k : Nat} (h : digAt l k = false) : gAhead neg a (l.drop k) = gPoint neg a (l.drop k) := by
  unfold gAhead; rw [(span_none h).1, (span_none h).2, List.append_nil]
theorem gBehind_more {neg : Bool} {a b l : List UInt8} {k : Nat} (h : digAt l k = true) : gBehind neg a b (l.drop k) = gBehind neg a (b ++ [l.getD k 0]) (l.drop (k + 1)) := by
  unfold gBehind; rw [(span_dig h).1, (span_dig h).2, List.append_assoc]; rfl
theorem gBehind_stop {neg : Bool} {a b l : List UInt8} {k : Nat} (h : digAt l k = false) : gBehind neg a b (l.drop k) = gRaised neg a b (l.drop k) := by
  unfold gBehind; rw [(span_none h).1, (span_none h).2, List.append_nil]
theorem gRaise_more {neg : Bool} {a b : List UInt8} {sg : Bool} {pw l : List UInt8} {k : Nat} (h : digAt l k = true) : gRaise neg a b sg pw (l.drop k) = gRaise neg a b sg (pw ++ [l.getD k 0]) (l.drop (k + 1)) := by
  unfold gRaise; rw [(span_dig h).1, (span_dig h).2, List.append_assoc]; rfl
theorem gRaise_stop {neg : Bool} {a b : List UInt8} {sg : Bool} {pw l : List UInt8} {k : Nat} (h : digAt l k = false) : gRaise neg a b sg pw (l.drop k) = gEnd neg a b sg pw (l.drop k) := by
  unfold gRaise; rw [(span_none h).1, (span_none h).2, List.append_nil]
theorem takeAt_lt {t l : List UInt8} {k : Nat} (h : takeAt t l k = true) : k < l.length ∧ t.contains (l.getD k 0) = true := by
  unfold takeAt at h
  simpa using h
theorem head_drop (l : List UInt8) (k : Nat) : (l.drop k).head? = if k < l.length then some (l.getD k 0) else none := by
  by_cases h : k < l.length
  · rw [drop_cons h, if_pos h]; rfl
  · rw [List.drop_of_length_le (by omega), if_neg h]; rfl
theorem take_one (c : UInt8) (l : List UInt8) (k : Nat) : takeAt [c] l k = true ↔ (l.drop k).head? = some c := by
  rw [head_drop]
  unfold takeAt
  by_cases h : k < l.length
  · simp [h]
  · simp [h]
theorem take_two (c d : UInt8) (l : List UInt8) (k : Nat) : takeAt [c, d] l k = true ↔ ((l.drop k).head? = some c ∨ (l.drop k).head? = some d) := by
  rw [head_drop]
  unfold takeAt
  by_cases h : k < l.length
  · simp [h]
  · simp [h]
theorem drop_one (l : List UInt8) (k : Nat) : (l.drop k).drop 1 = l.drop (k + 1) := by rw [List.drop_drop]
/-- At the point. -/
theorem gPoint_no {neg : Bool} {a l : List UInt8} {k : Nat} (h : takeAt [46] l k = false) : gPoint neg a (l.drop k) = gRaised neg a [] (l.drop k) := by
  unfold gPoint behind
  rw [if_neg (fun e => by rw [(take_one 46 l k).2 e] at h; cases h)]
theorem gPoint_bad {neg : Bool} {a l : List UInt8} {k : Nat} (h : takeAt [46] l k = true) (hd : digAt l (k + 1) = false) : gPoint neg a (l.drop k) = none := by
  unfold gPoint behind
  rw [if_pos ((take_one 46 l k).1 h), drop_one, (span_none hd).1, if_pos rfl]
theorem gPoint_yes {neg : Bool} {a l : List UInt8} {k : Nat} (h : takeAt [46] l k = true) (hd : digAt l (k + 1) = true) : gPoint neg a (l.drop k) = gBehind neg a [] (l.drop (k + 1)) := by
  unfold gPoint behind gBehind
  rw [if_pos ((take_one 46 l k).1 h), drop_one, if_neg (span_some hd)]
  rfl
/-- At the e. -/
theorem gRaised_no {neg : Bool} {a b l : List UInt8} {k : Nat} (h : takeAt [101, 69] l k = false) : gRaised neg a b (l.drop k) = gEnd neg a b false [] (l.drop k) := by
  unfold gRaised power
  rw [if_neg (fun e => by rw [(take_two 101 69 l k).2 e] at h; cases h)]
theorem gRaised_e {neg : Bool} {a b l : List UInt8} {k k' : Nat} {sg : Bool} (h : takeAt [101, 69] l k = true)
    (hs : (takeAt [45] l (k + 1) = true ∧ sg = true ∧ k' = k + 2) ∨ (takeAt [45] l (k + 1) = false ∧ sg = false ∧ k' = if takeAt [43] l (k + 1) then k + 2 else k + 1)) :
    gRaised neg a b (l.drop k) = if digAt l k' = true then gRaise neg a b sg [] (l.drop k') else none := by
  unfold gRaised power
  rw [if_pos ((take_two 101 69 l k).1 h), drop_one]
  have e1 : (if (l.drop (k + 1)).head? = some 45 ∨ (l.drop (k + 1)).head? = some 43 then (l.drop (k + 1)).drop 1 else l.drop (k + 1)) = l.drop k' ∧ ((l.drop (k + 1)).head? == some 45) = sg := by
    rcases hs with ⟨h1, h2, h3⟩ | ⟨h1, h2, h3⟩
    · have := (take_one 45 l (k + 1)).1 h1
      rw [if_pos (.inl this), drop_one, h2, h3]
      exact ⟨rfl, by rw [this]; rfl⟩
    · have hn : (l.drop (k + 1)).head? ≠ some 45 := fun e => by rw [(take_one 45 l (k + 1)).2 e] at h1; cases h1
      refine ⟨?_, by rw [h2]; simpa using hn⟩
      rw [h3]
      cases hp : takeAt [43] l (k + 1) with
      | true => rw [if_pos (.inr ((take_one 43 l (k + 1)).1 hp)), drop_one]; rfl
      | false => rw [if_neg (fun e => by
          rcases e with e | e
          · exact hn e
          · rw [(take_one 43 l (k + 1)).2 e] at hp; cases hp)]; rfl
  simp only [e1.1, e1.2]
  cases hd : digAt l k' with
  | true =>
    rw [if_neg (span_some hd), if_pos rfl]
    rfl
  | false =>
    rw [(span_none hd).1, if_pos rfl]
    rfl
/-- At the beginning. -/
theorem parts_from (l : List UInt8) (k : Nat) (neg : Bool) (h : (takeAt [45] l 0 = true ∧ neg = true ∧ k = 1) ∨ (takeAt [45] l 0 = false ∧ neg = false ∧ k = 0)) :
    parts l = if takeAt [48] l k = true then gPoint neg [] (l.drop (k + 1)) else if digAt l k = true then gAhead neg [] (l.drop k) else none := by
  have e1 : signed l = (neg, l.drop k) := by
    unfold signed
    rcases h with ⟨h1, h2, h3⟩ | ⟨h1, h2, h3⟩
    · have := (take_one 45 l 0).1 h1
      rw [List.drop_zero] at this
      rw [if_pos this, h2, h3]
    · have hn : l.head? ≠ some 45 := fun e => by rw [(take_one 45 l 0).2 (by rw [List.drop_zero]; exact e)] at h1; cases h1
      rw [if_neg hn, h2, h3, List.drop_zero]
  rw [parts_eq, e1]
  unfold ahead
  simp only
  cases h0 : takeAt [48] l k with
  | true =>
    rw [if_pos ((take_one 48 l k).1 h0), if_pos rfl, drop_one]
  | false =>
    rw [if_neg (fun e => by rw [(take_one 48 l k).2 e] at h0; cases h0)]
    cases hd : digAt l k with
    | true =>
      rw [if_neg (span_some hd)]
      simp only [Bool.false_eq_true, if_false, if_true]
      rfl
    | false =>
      rw [(span_none hd).1, if_pos rfl]
      simp only [Bool.false_eq_true, if_false]
theorem min_step (p : Nat) (c : UInt8) (h : isDig c = true) : min (10 * min p 3000 + dval c) 3000 = min (10 * p + dval c) 3000 := by
  have := dval_lt h
  omega
end Go.Proofs.YtfdodndagakmmaaGreatDoor
