/- Layer 3's laws: a script of calls as it lies in memory; which ones are done at all; where a log may lie; what a batch costs. -/
import Derived.Test.YtljlkmmeedlaiaaDoorPt33
import Derived.Test.YtljlkmmeedlaiaaDoorPt24
namespace Go.Proofs.YtljlkmmeedlaiaaDoor
open Go.RowKit

structure WStep where
  kind : Int
  ab : Option Addr
  nb : Nat
  cb : Nat
  bytes : List Nat
  af : Option Addr
  nf : Nat
  cf : Nat
def wstepCells (s : WStep) : List Value := [.int .i64 s.kind, .slice s.ab s.nb s.cb, .slice s.af s.nf s.cf]
def wscs (l : List WStep) : List Value := l.flatMap wstepCells
structure WStepOk (w : World) (s : WStep) : Prop where
  bytes : Bytes w s.ab s.nb s.bytes
  nil : s.ab = none → s.nb = 0 ∧ s.cb = 0
  capb : s.nb ≤ s.cb ∧ s.cb ≤ 9223372036854775807
  capf : s.nf ≤ s.cf ∧ s.cf ≤ 9223372036854775807
  kind : (Lit.int .i64 s.kind).wf = true
structure WScriptOk (w : World) (A : Option Addr) (l : List WStep) : Prop where
  holds : Holds w A l.length 3 (wscs l)
  step : ∀ s ∈ l, WStepOk w s
def noWStep : WStep := ⟨0, none, 0, 0, [], none, 0, 0⟩
theorem WStepOk.below {w w' : World} {s : WStep} (h : WStepOk w s) (hb : Below w.heap.size w w') : WStepOk w' s :=
  ⟨h.bytes.below hb, h.nil, h.capb, h.capf, h.kind⟩
theorem WScriptOk.below {w w' : World} {A : Option Addr} {l : List WStep} (h : WScriptOk w A l) (hb : Below w.heap.size w w') : WScriptOk w' A l :=
  ⟨h.holds.below hb, fun s hs => (h.step s hs).below hb⟩
theorem wscs_get (l : List WStep) : ∀ (k j : Nat) (v : Value), k < l.length → (wstepCells (l.getD k noWStep))[j]? = some v → (wscs l)[k * 3 + j]? = some v := by
  induction l with
  | nil => intro k j v hk; simp at hk
  | cons s r ih =>
    intro k j v hk hv
    have h1 : wscs (s :: r) = wstepCells s ++ wscs r := rfl
    rw [h1]
    have h6 : (wstepCells s).length = 3 := rfl
    rcases k with _ | k
    · rw [Nat.zero_mul, Nat.zero_add, List.getElem?_append_left (by have := (List.getElem?_eq_some_iff.1 hv).1; simpa using this)]
      simpa using hv
    · rw [List.getElem?_append_right (by rw [h6]; omega), h6, show (k + 1) * 3 + j - 3 = k * 3 + j by omega]
      exact ih k j v (by simpa using hk) (by simpa using hv)
theorem WScriptOk.cells {w : World} {A : Option Addr} {l : List WStep} (h : WScriptOk w A l) {k : Nat} (hk : k < l.length) :
    ∃ b off, A = some ⟨b, off, none⟩ ∧ b < w.heap.size ∧ ∀ j v, (wstepCells (l.getD k noWStep))[j]? = some v → w.cell? ⟨b, off + k * 3 + j, none⟩ = some v := by
  obtain ⟨b, off, e, hb, hr⟩ := h.holds.2 (by omega)
  exact ⟨b, off, e, hb, fun j v hv => by have := hr _ _ (wscs_get l k j v hk hv); rwa [← Nat.add_assoc] at this⟩
theorem WScriptOk.get {w : World} {A : Option Addr} {l : List WStep} (h : WScriptOk w A l) {k : Nat} (hk : k < l.length) : WStepOk w (l.getD k noWStep) :=
  h.step _ (by rw [List.getD_eq_getElem?_getD, List.getElem?_eq_getElem hk]; exact List.getElem_mem hk)

/-- A step that is too much. -/
def wbig (s : WStep) : Bool := decide (20000 < s.nb) || decide (50 < s.nf)
def wsmall (l : List WStep) : Prop := ∀ s ∈ l, wbig s = false
theorem wsmall.get {l : List WStep} (h : wsmall l) {k : Nat} (hk : k < l.length) : wbig (l.getD k noWStep) = false :=
  h _ (by rw [List.getD_eq_getElem?_getD, List.getElem?_eq_getElem hk]; exact List.getElem_mem hk)
def WVastPost (w : World) (sz : Int) (l : List WStep) (e : Ending) (w' : World) : Prop :=
  Below w.heap.size w w' ∧ ((e = .returned (.bool true)) ∨ (e = .returned (.bool false) ∧ sz ≤ 60 ∧ l.length ≤ 50 ∧ wsmall l))
def logArg (sz fr n : Int) : Value := .agg #[.int .i64 sz, .int .i64 fr, .int .i64 n]

set_option maxHeartbeats 2000000 in
theorem wvast_ok (sz fr n : Int) (A : Option Addr) (c : Nat) (l : List WStep) (w : World) (h : WScriptOk w A l) :
    Calls Tryd.prog 7 #[.agg #[.int .i64 sz, .int .i64 fr, .int .i64 n], .slice A l.length c] w (WVastPost w sz l) := by
  have hb : Below w.heap.size w (w.alloc (.cells #[.int .i64 sz, .int .i64 fr, .int .i64 n] 23)) := (Below.refl _ _).alloc (Nat.le_refl _) _
  have H := Lib.hid (h.below hb)
  have HB := Lib.hid hb
  clear h hb
  by_cases h60 : 60 < sz
  · go_enter Tryd.func7, Tryd.ntmps7
    go_wp2
    go_ret
    exact ⟨HB.out, .inl rfl⟩
  by_cases h50 : 50 < l.length
  · go_enter Tryd.func7, Tryd.ntmps7
    go_wp2
    go_ret
    exact ⟨HB.out, .inl rfl⟩
  go_enter Tryd.func7, Tryd.ntmps7
  go_wp2_with fail
  go_loop [5] (fun v5 => ∃ k : Nat, k ≤ l.length ∧ v5 = .int .i64 k ∧ wsmall (l.take k)) (fun v5 => l.length - (intOf v5).toNat)
  case atStart => exact ⟨0, Nat.zero_le _, rfl, fun s hs => by simp at hs⟩
  case round =>
    obtain ⟨k, hk, rfl, hsm⟩ := hrel
    by_cases hlt : k < l.length
    · obtain ⟨b, off, rfl, _, hcells⟩ := H.out.cells hlt
      have hst := H.out.get hlt
      have HT : Hid (wbig (l.getD k noWStep) = false → wsmall (l.take (k + 1))) := Lib.hid fun h0 s hs => by
        rw [List.take_succ_eq_append_getElem hlt] at hs
        rcases List.mem_append.1 hs with hs | hs
        · exact hsm s hs
        · simp at hs; subst hs; simpa [List.getD_eq_getElem?_getD, hlt] using h0
      have c1 := hcells 1 _ rfl
      have c2 := hcells 2 _ rfl
      have b1 := hst.capb
      have b2 := hst.capf
      clear hcells hst hsm
      generalize l.getD k noWStep = s at *
      by_cases g1 : 20000 < s.nb
      · clear HT
        go_wp2
        go_ret
        exact ⟨HB.out, .inl rfl⟩
      · by_cases g2 : 50 < s.nf
        · clear HT
          go_wp2
          go_ret
          exact ⟨HB.out, .inl rfl⟩
        · have HT2 := Lib.hid (HT.out (by simp [wbig, g1, g2]))
          clear HT
          go_wp2
          go_round
          case rel => exact ⟨k + 1, by omega, by go_num, HT2.out⟩
          case measure => simp [intOf]; omega
    · obtain rfl : k = l.length := by omega
      rw [List.take_length] at hsm
      have HSM := Lib.hid hsm
      clear hsm
      go_wp2
      go_ret
      exact ⟨HB.out, .inr ⟨rfl, by omega, by omega, HSM.out⟩⟩

theorem wright_ok (sz fr n : Int) (w : World) (h1 : 0 ≤ sz) (h2 : sz ≤ 65536) (hw : (Lit.int .i64 fr).wf = true) :
    Calls Tryd.prog 9 #[.agg #[.int .i64 sz, .int .i64 fr, .int .i64 n]] w fun e w' => e = .returned (.int .i64 (placeE sz.toNat fr n)) ∧ Below w.heap.size w w' := by
  have hb : Below w.heap.size w (w.alloc (.cells #[.int .i64 sz, .int .i64 fr, .int .i64 n] 23)) := (Below.refl _ _).alloc (Nat.le_refl _) _
  have HB := Lib.hid hb
  have hfw := bounds_i64 hw
  have hsz : ((sz.toNat : Nat) : Int) = sz := by omega
  clear hb hw
  by_cases g1 : n < 4
  · have HE : Hid (placeE sz.toNat fr n = 2) := Lib.hid (by simp [placeE, g1])
    clear hsz
    go_enter Tryd.func9, Tryd.ntmps9
    go_wp2
    go_ret
    exact ⟨ret_int HE.out.symm, HB.out⟩
  have d1 : decide (n < 4) = false := by simp; omega
  by_cases g2 : fr < 0
  · have HE : Hid (placeE sz.toNat fr n = 2) := Lib.hid (by simp [placeE, g2])
    clear hsz
    go_enter Tryd.func9, Tryd.ntmps9
    go_wp2
    go_ret
    exact ⟨ret_int HE.out.symm, HB.out⟩
  have d2 : decide (fr < 0) = false := by simp; omega
  by_cases g3 : sz < fr
  · have HE : Hid (placeE sz.toNat fr n = 4) := Lib.hid (by
      unfold placeE
      rw [if_neg (by omega), if_pos (by omega)])
    clear hsz
    go_enter Tryd.func9, Tryd.ntmps9
    go_wp2
    go_ret
    exact ⟨ret_int HE.out.symm, HB.out⟩
  have d3 : decide (sz < fr) = false := by simp; omega
  by_cases g4 : sz - fr < n
  · have HE : Hid (placeE sz.toNat fr n = 4) := Lib.hid (by
      unfold placeE
      rw [if_neg (by omega), if_pos (by omega)])
    clear hsz
    go_enter Tryd.func9, Tryd.ntmps9
    go_wp2
    go_ret
    exact ⟨ret_int HE.out.symm, HB.out⟩
  · have HE : Hid (placeE sz.toNat fr n = 0) := Lib.hid (by
      unfold placeE
      rw [if_neg (by omega), if_neg (by omega)])
    have d4 : decide (sz - fr < n) = false := by simp; omega
    clear hsz
    go_enter Tryd.func9, Tryd.ntmps9
    go_wp2
    go_ret
    exact ⟨ret_int HE.out.symm, HB.out⟩

theorem wcost_ok (n : Nat) (w : World) (hn : n ≤ 1000000000) :
    Calls Tryd.prog 14 #[.int .i64 n] w fun e w' => e = .returned (.int .i64 (costN n : Nat)) ∧ w = w' := by
  have HE : Hid ((((n : Int) + 4 + 487).tdiv 488) = ((costN n : Nat) : Int)) := Lib.hid (by
    rw [Int.tdiv_eq_ediv_of_nonneg (by omega)]
    unfold costN
    omega)
  go_enter Tryd.func14, Tryd.ntmps14
  go_wp2
  go_ret
  exact ⟨ret_int HE.out, rfl⟩
end Go.Proofs.YtljlkmmeedlaiaaDoor
