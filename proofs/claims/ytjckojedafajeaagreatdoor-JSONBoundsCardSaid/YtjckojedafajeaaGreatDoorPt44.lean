/- Layer 8: ask, at every value. -/
import Derived.Test.YtjckojedafajeaaGreatDoorPt43
import Derived.Test.YtjckojedafajeaaGreatDoorPt33
namespace Go.Proofs.YtjckojedafajeaaGreatDoor
open Go.RowKit
mutual
/-- What memory bounds. -/
def SmallJ : JV → Prop
  | .mk _ _ d t l ns => d.digits.length ≤ 9223372036854775806 ∧ t.length ≤ maxLen ∧ ns.length ≤ 1000000000000 ∧ (∀ x ∈ ns, x.length ≤ maxLen) ∧ SmallKids l
def SmallKids : List JV → Prop
  | [] => True
  | x :: l => SmallJ x ∧ SmallKids l
end
theorem SmallKids.get : ∀ {l : List JV}, SmallKids l → ∀ x ∈ l, SmallJ x
  | [], _, x, hx => by simp at hx
  | y :: l, h, x, hx => by
    unfold SmallKids at h
    rcases List.mem_cons.1 hx with rfl | hx
    · exact h.1
    · exact SmallKids.get h.2 x hx
theorem jask_ok : ∀ (n : Nat) (v : JV), SizeOf.sizeOf v ≤ n → SmallJ v → ∀ (F : Nat → Prop) (g off : Nat) (w : World), JAtP w F g off v → Lib.Utf8Tabs 0 1 w →
    Calls Tryz.prog 39 #[.pointer (some ⟨g, off, none⟩)] w (AskPost w (askJ v)) := by
  intro n
  induction n with
  | zero => intro v hv; cases v; simp at hv
  | succ n ih =>
    intro v hv hs F g off w h hU
    obtain ⟨k, b, d, t, l, ns⟩ := v
    unfold SmallJ at hs
    obtain ⟨s1, s2, s3, s4, s5⟩ := hs
    have hih : ∀ i, i < l.length → ∀ g2 off2 V, Below w.heap.size w V → JAtP V F g2 off2 (l.getD i JV.null) → Calls Tryz.prog 39 #[.pointer (some ⟨g2, off2, none⟩)] V (AskPost V (askJ (l.getD i JV.null))) := fun i hi g2 off2 V hb hj => by
      have hm : l.getD i JV.null ∈ l := by rw [List.getD_eq_getElem?_getD, List.getElem?_eq_getElem hi]; exact List.getElem_mem _
      have := List.sizeOf_lt_of_mem hm
      simp only [JV.mk.sizeOf_spec] at hv
      exact ih _ (by omega) (s5.get _ hm) F g2 off2 V hj (Utf8Tabs_below hU hb)
    by_cases h0 : k = 0
    · subst h0; rw [askJ, if_pos rfl]; exact ask0 F g off w b d t l ns h
    by_cases h1 : k = 1
    · subst h1; rw [askJ, if_neg (by decide), if_pos rfl]; exact ask1 F g off w b d t l ns h
    by_cases h2 : k = 2
    · subst h2; rw [askJ, if_neg (by decide), if_neg (by decide), if_pos rfl]; exact ask2 F g off w b d t l ns s1 h
    by_cases h3 : k = 3
    · subst h3; rw [askJ, if_neg (by decide), if_neg (by decide), if_neg (by decide), if_pos rfl]; exact ask3 F g off w b d t l ns s2 hU h
    by_cases h4 : k = 4
    · subst h4; rw [askJ, if_neg (by decide), if_neg (by decide), if_neg (by decide), if_neg (by decide), if_pos rfl]; exact ask4 F g off w b d t l ns hih h
    by_cases h5 : k = 5
    · subst h5; rw [askJ, if_neg (by decide), if_neg (by decide), if_neg (by decide), if_neg (by decide), if_neg (by decide), if_pos rfl]; exact ask5 F g off w b d t l ns s3 s4 hU hih h
    · rw [askJ, if_neg h0, if_neg h1, if_neg h2, if_neg h3, if_neg h4, if_neg h5]; exact askD F g off w b d t l ns k h0 h1 h2 h3 h4 h5 h
end Go.Proofs.YtjckojedafajeaaGreatDoor
/- Layer 8: what Check hands to caught. -/
namespace Go.Proofs.YtjckojedafajeaaGreatDoor
open Go.RowKit
/-- Check's number. -/
def checkJ (v : JV) : Int := if askJ v = false then 2 else if 64 < depthJ v then 182 else if 1048576 < (tellJ v).length then 3 else 0
def Ck1Post (w : World) (r : Int) (e : Ending) (w' : World) : Prop := e = (if r = 0 then .returned (.tuple #[]) else .panicked (panicOf r)) ∧ Below w.heap.size w w'
set_option maxRecDepth 100000 in
set_option maxHeartbeats 4000000 in
theorem jcheck1_ok (F : Nat → Prop) (g off : Nat) (v : JV) (w : World) (h : JAtP w F g off v) (hs : SmallJ v) (hf : askJ v = true → FineJ v) (hd : depthJ v ≤ 1000000) (hTb : ∀ V, Below w.heap.size w V → PowTab V) (hU : Lib.Utf8Tabs 0 1 w) :
    Calls Tryz.prog 38 #[.pointer (some ⟨g, off, none⟩)] w (Ck1Post w (checkJ v)) := by
  have HA := Lib.hid (jask_ok _ v (Nat.le_refl _) hs F g off w h hU)
  have HD : Hid (∀ V, Below w.heap.size w V → Calls Tryz.prog 40 #[.pointer (some ⟨g, off, none⟩)] V fun e w' => e = .returned (.int .i64 (depthJ v : Nat)) ∧ Below V.heap.size V w') := Lib.hid fun V hb => jdepth_ok _ v (Nat.le_refl _) hd F g off V (h.below hb)
  have HM : Hid (askJ v = true → ∀ V, Below w.heap.size w V → Calls Tryz.prog 29 #[.pointer (some ⟨g, off, none⟩)] V fun e w' => (((tellJ v).length ≤ 1048576 ∧ e = .returned (.tuple #[])) ∨ (1048576 < (tellJ v).length ∧ e = .panicked (panicOf 3))) ∧ Below V.heap.size V w') := Lib.hid fun ha V hb => jmeasure_ok F g off v V (h.below hb) (hf ha) (hTb V hb)
  have HR : Hid (checkJ v = if askJ v = false then 2 else if 64 < depthJ v then 182 else if 1048576 < (tellJ v).length then 3 else 0) := Lib.hid rfl
  clear h hs hf hTb hU
  generalize checkJ v = r at *
  generalize (tellJ v).length = tl at *
  generalize askJ v = a at *
  generalize depthJ v = dd at *
  go_enter Tryz.func38, Tryz.ntmps38
  go_wp2_with fail
  refine HA.out.mono ?_
  rintro e w1 ⟨he, hb⟩
  have HB := Lib.hid hb
  clear hb
  cases a with
  | false =>
    obtain rfl : e = .panicked (panicOf 2) := he
    have HR2 : Hid (r = 2) := Lib.hid HR.out
    exact ⟨rfl, by rw [HR2.out]; rfl, HB.out⟩
  | true =>
    obtain rfl : e = .returned (.tuple #[]) := he
    go_wp2_with fail
    refine (HD.out w1 HB.out).mono ?_
    rintro e w2 ⟨rfl, hb⟩
    have HB2 := Lib.hid (HB.out.call hb)
    clear hb
    by_cases h6 : 64 < dd
    · have h6z : (64 : Int) < (dd : Int) := by omega
      have HR2 : Hid (r = 182) := Lib.hid (HR.out.trans (by rw [if_neg (by decide), if_pos h6]))
      go_wp2_with fail
      exact ⟨rfl, by rw [HR2.out]; rfl, HB2.out⟩
    · have h6z : ¬ (64 : Int) < (dd : Int) := by omega
      have HR2 : Hid (r = if 1048576 < tl then 3 else 0) := Lib.hid (HR.out.trans (by rw [if_neg (by decide), if_neg h6]))
      go_wp2_with fail
      refine (HM.out (by trivial) w2 HB2.out).mono ?_
      rintro e w3 ⟨he, hb⟩
      have HB3 := Lib.hid (HB2.out.call hb)
      clear hb
      rcases he with ⟨h1, rfl⟩ | ⟨h1, rfl⟩
      · have HR3 : Hid (r = 0) := Lib.hid (HR2.out.trans (by rw [if_neg (by omega)]))
        go_wp2_with fail
        go_end0
        exact ⟨by rw [HR3.out]; rfl, HB3.out⟩
      · have HR3 : Hid (r = 3) := Lib.hid (HR2.out.trans (by rw [if_pos h1]))
        exact ⟨rfl, by rw [HR3.out]; rfl, HB3.out⟩
end Go.Proofs.YtjckojedafajeaaGreatDoor
