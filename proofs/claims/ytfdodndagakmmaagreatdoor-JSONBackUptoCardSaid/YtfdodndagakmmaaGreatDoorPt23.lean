/- Layer 8: measure: a text that is too long is given up. -/
import Derived.Test.YtfdodndagakmmaaGreatDoorPt22
import Derived.Test.YtfdodndagakmmaaGreatDoorPt19
import Derived.OrdersHeld
import Derived.RegionTactic
namespace Go.Proofs.YtfdodndagakmmaaGreatDoor
open Go.RowKit

/-- What measure hands on: what has been laid is counted off. -/
def MeaI (gr : Nat) (own : Nat → Prop) (t : List UInt8) (W : World) : Prop := (∀ q, own q ↔ q = gr) ∧ Row W gr 3 #[.int .i64 (1048576 - (t.length : Int))] ∧ t.length ≤ 1048576
def MeaBad (π : List PanicEntry) (t : List UInt8) : Prop := π = panicOf 3 ∧ 1048576 < t.length
theorem mea_lay (gr : Nat) : LayC 86 #[.pointer (some ⟨gr, 0, none⟩)] (MeaI gr) MeaBad (fun _ => True) where
  call own t p W h hp _ := by
    obtain ⟨h1, h2, h3⟩ := h
    refine (jroom_ok gr p (1048576 - (t.length : Int)) 3 W h2 (by omega) (by omega) hp).mono ?_
    rintro e w' ⟨hc, hr, hk⟩
    have hko : Kept own W w' := kept_mono hk fun q e => (h1 q).2 e
    rcases hc with ⟨hle, rfl⟩ | ⟨hlt, rfl⟩
    · refine .inl ⟨rfl, own, ⟨h1, ?_, ?_⟩, hko, fun q => .inl⟩
      · have e9 : (1048576 - (t.length : Int)) - (p.length : Int) = 1048576 - ((t ++ p).length : Int) := by rw [List.length_append]; omega
        rwa [e9] at hr
      · rw [List.length_append]; omega
    · exact .inr ⟨_, rfl, ⟨rfl, by rw [List.length_append]; omega⟩, hko⟩
  stay own t W W' h hk := by
    obtain ⟨h1, h2, h3⟩ := h
    exact ⟨h1, h2.kept hk (fun hn => hn ((h1 gr).2 rfl)), h3⟩
  lt own t W q h hq := by
    obtain ⟨h1, h2, _⟩ := h
    rw [(h1 q).1 hq]
    exact h2.lt
  ok _ _ _ := trivial
  mono π a b h := ⟨h.1, by rw [List.length_append]; have := h.2; omega⟩
set_option maxRecDepth 1000000 in
set_option maxHeartbeats 40000000 in
theorem jmeasure_ok (F0 : Nat → Prop) (g off : Nat) (v : JV) (w : World) (h : JAtP w F0 g off v) (hf : FineJ v) (hT : PowTab w) :
    Calls Tryz.prog 44 #[.pointer (some ⟨g, off, none⟩)] w fun e w' => (((tellJ v).length ≤ 1048576 ∧ e = .returned (.tuple #[])) ∨ (1048576 < (tellJ v).length ∧ e = .panicked (panicOf 3))) ∧ Below w.heap.size w w' := by
  obtain ⟨w1, hw1⟩ : ∃ w1, w1 = w.alloc (.cells #[.int .i64 1048576] 3) := ⟨_, rfl⟩
  have hrow : Row w1 w.heap.size 3 #[.int .i64 1048576] := by
    rw [hw1]; exact Row.new _ _ _
  have hb1 : Below w.heap.size w w1 := by rw [hw1]; exact (Below.refl _ _).alloc (Nat.le_refl _) _
  have hI : MeaI w.heap.size (· = w.heap.size) [] w1 := ⟨fun q => Iff.rfl, by simpa using hrow, by simp⟩
  have hj : JAtP w1 (fun q => (F0 q ∨ q = g) ∧ q < w.heap.size) g off v := by
    obtain ⟨a1, cs, a2, a3⟩ := h
    refine ⟨Nat.lt_of_lt_of_le a1 hb1.size, cs, fun q u hu => (hb1.cell (p := ⟨g, off + q, none⟩) a1).trans (a2 q u hu), ?_⟩
    exact (JIs.mono (G := fun q => (F0 q ∨ q = g) ∧ q < w.heap.size) (fun q b1 b2 => ⟨.inl b1, b2⟩) _ _ a3).below hb1
  have HT := Lib.hid (jtell_ok 86 #[.pointer (some ⟨w.heap.size, 0, none⟩)] (MeaI w.heap.size) MeaBad (fun _ => True) (mea_lay w.heap.size) (fun _ _ => rfl) _ v (Nat.le_refl _) hf _ g off (· = w.heap.size) [] w1 hI trivial hj ⟨.inr rfl, h.1⟩ ⟨fun q hq => Nat.lt_of_lt_of_le hq.2 hb1.size, fun q hq e => by have := hq.2; omega⟩ (fun V hV => hT.below (hb1.trans (hV.below hb1.size (fun q e => by rw [e]; exact Nat.le_refl _)))))
  rw [List.nil_append] at HT
  have HB1 := Lib.hid hb1
  have HW1 := Lib.hid hw1
  have hmf : ∀ (fn : Fn) (first cap : Array Value) (W : World), (Instr.makeFunc fn first cap).run Tryz.prog W = .ok (.func fn first cap) W := fun _ _ _ _ => rfl
  clear hrow hb1 hI hj h hf hT hw1
  go_enter Tryz.func44, Tryz.ntmps44
  go_upto_region 1 with fail
  rw [← HW1.out]
  go_wp2_with fail
  refine HT.out.mono ?_
  rintro e w2 (⟨rfl, o, ⟨i1, i2, i3⟩, hk, ho⟩ | ⟨π, rfl, ⟨rfl, hb⟩, hk⟩)
  · have HF : Hid (Below w.heap.size w w2) := Lib.hid (HB1.out.trans (hk.below HB1.out.size (fun q e => by rw [e]; exact Nat.le_refl _)))
    have HL := Lib.hid i3
    clear i1 i2 i3 hk ho
    go_wp2_with fail
    go_end0
    exact ⟨.inl ⟨HL.out, rfl⟩, HF.out⟩
  · have HF : Hid (Below w.heap.size w w2) := Lib.hid (HB1.out.trans (hk.below HB1.out.size (fun q e => by rw [e]; exact Nat.le_refl _)))
    have HL := Lib.hid hb
    clear hb hk
    go_wp2_with fail
    exact ⟨rfl, .inr ⟨HL.out, rfl⟩, HF.out⟩
end Go.Proofs.YtfdodndagakmmaaGreatDoor
/- Of no program: a region whose operations come in an order that is drawn; a condition on the world holds till one operation has come up. -/
namespace Go.Proofs.YtfdodndagakmmaaGreatDoor
open Go Go.RowKit
section
variable {P : Program} {md : Region.Mode} {ops : Array Oper} {Q : Exit → Act → World → Prop} {S : World → Prop} {z : Nat}

/-- Whatever order is drawn; S holds behind each operation till operation z has come up. -/
def wpTill (P : Program) (md : Region.Mode) (ops : Array Oper) (Q : Exit → Act → World → Prop) (z : Nat) (S : World → Prop) : Nat → Array Bool → Act → World → Prop
  | 0, listed, a, w => Region.ready md ops listed = [] ∧ Q .normal a w
  | fuel + 1, listed, a, w => (Region.ready md ops listed = [] → Q .normal a w) ∧
    ∀ i ∈ Region.ready md ops listed, wpOp P ops Q i (fun a' w' => ((listed.setIfInBounds i true).getD z true = false → S w') ∧ wpTill P md ops Q z S fuel (listed.setIfInBounds i true) a' w') a w
theorem wpAny_of_till : ∀ (fuel : Nat) (listed : Array Bool) (a : Act) (w : World), wpTill P md ops Q z S fuel listed a w → wpAny P md ops Q fuel listed a w
  | 0, _, _, _, h => h
  | fuel + 1, _, _, _, h => ⟨h.1, fun i hi => wpOp_mono (fun a' w' h' => wpAny_of_till fuel _ a' w' h'.2) (h.2 i hi)⟩
theorem getD_still {l : Array Bool} {i z : Nat} (h : l.getD z true = true) : (l.setIfInBounds i true).getD z true = true := by
  by_cases e : i = z
  · subst e
    by_cases hb : i < l.size
    · simp [Array.getD, hb]
    · simp [Array.getD, hb]
  · rw [getD_set_ne true e]; exact h
/-- Behind operation z nothing more is asked. -/
theorem wpTill_past : ∀ (fuel : Nat) (listed : Array Bool) (a : Act) (w : World), listed.getD z true = true → wpAny P md ops Q fuel listed a w → wpTill P md ops Q z S fuel listed a w
  | 0, _, _, _, _, h => h
  | fuel + 1, listed, a, w, hz, h => ⟨h.1, fun i hi => wpOp_mono (fun a' w' h' => ⟨fun h9 => (by rw [getD_still hz] at h9; cases h9), wpTill_past fuel _ a' w' (getD_still hz) h'⟩) (h.2 i hi)⟩
/-- Operation z waits for operation i. -/
def waitsB (md : Region.Mode) (ops : Array Oper) (z i : Nat) : Bool := ((ops[z]?).map fun o => o.after.any fun e => Region.binds md e && e.on == i).getD false
theorem waits_not {listed : Array Bool} {i : Nat} (hw : waitsB md ops z i = true) (hi : listed.getD i false = false) : z ∉ Region.ready md ops listed := fun hz => by
  obtain ⟨_, oz, hoz, hall⟩ := mem_ready.1 hz
  unfold waitsB at hw
  rw [hoz] at hw
  simp only [Option.map_some, Option.getD_some] at hw
  obtain ⟨e, he, hb⟩ := Array.any_eq_true'.1 hw
  rw [Bool.and_eq_true, beq_iff_eq] at hb
  have := hall e he hb.1
  rw [hb.2, hi] at this
  cases this
theorem wpTill_first {i : Nat} {oi : Oper} {v : Value} (hi : ops[i]? = some oi) (hsel : ∀ (j : Nat) (o : Oper) cs b, ops[j]? = some o → o.op ≠ .select cs b)
    (hQ : ∀ c a w, Q (.panic c) (a.put oi.dst v) w → Q (.panic c) a w) (hzi : waitsB md ops z i = true) :
    ∀ (fuel : Nat) (listed : Array Bool) (a : Act) (w : World),
      (∀ j oj, ops[j]? = some oj → j ≠ i → listed.getD j true = false → (∀ e ∈ oj.after, Region.binds md e = true → e.on ≠ i) → oi.apart ops oj = true) →
      i ∈ Region.ready md ops listed → listed.getD z true = false → YieldsIf P ops S oi v a → S w →
      wpTill P md ops Q z S fuel (listed.setIfInBounds i true) (a.put oi.dst v) w → wpTill P md ops Q z S (fuel + 1) listed a w := by
  intro fuel
  induction fuel with
  | zero =>
    intro listed a w _ hr _ hy hS H
    refine ⟨fun h => (by rw [h] at hr; cases hr), fun j hj => ?_⟩
    by_cases hji : j = i
    · subst hji; exact hy.wpOp hi hS ⟨fun _ => hS, H⟩
    · have h0 := ready_mono hj hji
      rw [H.1] at h0
      cases h0
  | succ fuel ih =>
    intro listed a w hfree hr hz hy hS H
    refine ⟨fun h => (by rw [h] at hr; cases hr), fun j hj => ?_⟩
    by_cases hji : j = i
    · subst hji; exact hy.wpOp hi hS ⟨fun _ => hS, H⟩
    · have hlj := (mem_ready.1 hr).1
      have hli : listed.getD i false = false := by
        rcases Nat.lt_or_ge i listed.size with h9 | h9
        · simp [Array.getD, h9] at hlj ⊢; exact hlj
        · simp [Array.getD, Nat.not_lt.2 h9]
      have hjz : j ≠ z := fun e => by subst e; exact waits_not hzi hli hj
      have hz2 : (listed.setIfInBounds j true).getD z true = false := by rw [getD_set_ne true hjz]; exact hz
      have hz3 : ((listed.setIfInBounds i true).setIfInBounds j true).getD z true = false → True := fun _ => trivial
      obtain ⟨hjun, oj, hoj, hall⟩ := mem_ready.1 hj
      have hnot : ∀ e ∈ oj.after, Region.binds md e = true → e.on ≠ i := fun e he hb heq => by
        have := hall e he hb
        rw [heq, hli] at this
        cases this
      have h1 := H.2 j (ready_mono hj hji)
      have h2 := wpOp_putIf hoj (hfree j oj hoj hji hjun hnot) (fun cs b => hsel i oi cs b hi) (fun cs b => hsel j oj cs b hoj) hQ hy h1
      have hfree' : ∀ k ok, ops[k]? = some ok → k ≠ i → (listed.setIfInBounds j true).getD k true = false →
          (∀ e ∈ ok.after, Region.binds md e = true → e.on ≠ i) → oi.apart ops ok = true := fun k ok hk hki hun hno => by
        refine hfree k ok hk hki ?_ hno
        by_cases hjk : j = k
        · subst hjk; exact hjun
        · rw [getD_set_ne true hjk] at hun; exact hun
      have hiz : i ≠ z := fun e => by
        subst e
        exact waits_not hzi hli hr
      refine wpOp_mono (fun a' w' h3 => ?_) h2
      have hSw : S w' := h3.2.1 (by rw [getD_set_ne true hjz, getD_set_ne true hiz]; exact hz)
      refine ⟨fun _ => hSw, ih (listed.setIfInBounds j true) a' w' hfree' (ready_mono hr (Ne.symm hji)) hz2 h3.1 hSw ?_⟩
      rw [Array.setIfInBounds_comm _ _ hji]
      exact h3.2.2
/-- An operation that z waits for, and that yields the same in all that S lets be, comes first. -/
theorem wpTill_take {i : Nat} {oi : Oper} {v : Value} {fuel : Nat} {listed : Array Bool} {a : Act} {w : World} (hi : ops[i]? = some oi)
    (hs : Region.noSelect ops = true) (hf : Region.free md ops listed i = true) (hr : (Region.ready md ops listed).contains i = true) (hw : waitsB md ops z i = true) (hz : listed.getD z true = false)
    (hQ : ∀ c a w, Q (.panic c) (a.put oi.dst v) w → Q (.panic c) a w) (hy : YieldsIf P ops S oi v a) (hS : S w)
    (h : wpTill P md ops Q z S fuel (listed.setIfInBounds i true) (a.put oi.dst v) w) : wpTill P md ops Q z S (fuel + 1) listed a w :=
  wpTill_first hi (Region.noSelect_spec hs) hQ hw fuel listed a w (Region.free_spec hi hf) (by simpa using hr) hz hy hS h
/-- Just one may come up. -/
theorem wpTill_one {i : Nat} {o : Oper} {fuel : Nat} {listed : Array Bool} {a : Act} {w : World} (hr : Region.ready md ops listed = [i]) (ho : ops[i]? = some o) (hg : o.guard = none)
    (h : ∀ K : Act → World → Prop, (∀ a' w', ((listed.setIfInBounds i true).getD z true = false → S w') → wpTill P md ops Q z S fuel (listed.setIfInBounds i true) a' w' → K a' w') → Oper.wp P o a w K Q) : wpTill P md ops Q z S (fuel + 1) listed a w :=
  ⟨fun h0 => (by rw [hr] at h0; cases h0), fun j hj => by
    rw [hr] at hj
    obtain rfl : j = i := by simpa using hj
    refine wpOp_step ho fun K hK => ?_
    rw [if_pos (by simp [Region.wanted, hg])]
    exact h K fun a' w' h1 h2 => hK a' w' ⟨h1, h2⟩⟩
theorem wp_region_till {id : Nat} {a : Act} {w : World} (z : Nat) (S : World → Prop) (hm : P.follows .mixedOrders = true)
    (h : wpTill P .any ops Q z S ops.size (Array.replicate ops.size false) a w.drew) : (Code.region id ops true).wp P Q a w :=
  wp_region_any hm (wpAny_of_till _ _ _ _ h)
end
end Go.Proofs.YtfdodndagakmmaaGreatDoor
