/- Layer 2's law: a script of calls as it lies in memory; which ones are done at all. -/
import Derived.Test.YtielinebhbhegaaDskSameOk
namespace Go.Proofs.Ytielinebhbhegaa
open Go.RowKit

structure StepV where
  kind : Int
  at_ : Int
  num : Int
  ab : Option Addr
  nb : Nat
  cb : Nat
  bytes : List Nat
  af : Option Addr
  cf : Nat
  fates : List (Int × Int)
  ap : Option Addr
  np : Nat
  cp : Nat
def stepCells (s : StepV) : List Value := [.int .i64 s.kind, .int .i64 s.at_, .int .i64 s.num, .slice s.ab s.nb s.cb, .slice s.af s.fates.length s.cf, .slice s.ap s.np s.cp]
def scs (l : List StepV) : List Value := l.flatMap stepCells
structure StepOk (w : World) (s : StepV) : Prop where
  bytes : Bytes w s.ab s.nb s.bytes
  capb : s.nb ≤ s.cb ∧ s.cb ≤ 9223372036854775807
  fates : Holds w s.af s.fates.length 2 (fcs s.fates)
  capf : s.fates.length ≤ s.cf ∧ s.cf ≤ 9223372036854775807
  capp : s.np ≤ s.cp ∧ s.cp ≤ 9223372036854775807
  kind : (Lit.int .i64 s.kind).wf = true
  place : (Lit.int .i64 s.at_).wf = true
structure ScriptOk (w : World) (A : Option Addr) (l : List StepV) : Prop where
  holds : Holds w A l.length 6 (scs l)
  step : ∀ s ∈ l, StepOk w s
def noStep : StepV := ⟨0, 0, 0, none, 0, 0, [], none, 0, [], none, 0, 0⟩
theorem StepOk.below {w w' : World} {s : StepV} (h : StepOk w s) (hb : Below w.heap.size w w') : StepOk w' s :=
  ⟨h.bytes.below hb, h.capb, h.fates.below hb, h.capf, h.capp, h.kind, h.place⟩
theorem ScriptOk.below {w w' : World} {A : Option Addr} {l : List StepV} (h : ScriptOk w A l) (hb : Below w.heap.size w w') : ScriptOk w' A l :=
  ⟨h.holds.below hb, fun s hs => (h.step s hs).below hb⟩
theorem scs_get (l : List StepV) : ∀ (k j : Nat) (v : Value), k < l.length → (stepCells (l.getD k noStep))[j]? = some v → (scs l)[k * 6 + j]? = some v := by
  induction l with
  | nil => intro k j v hk; simp at hk
  | cons s r ih =>
    intro k j v hk hv
    have h1 : scs (s :: r) = stepCells s ++ scs r := rfl
    rw [h1]
    have h6 : (stepCells s).length = 6 := rfl
    rcases k with _ | k
    · rw [Nat.zero_mul, Nat.zero_add, List.getElem?_append_left (by have := (List.getElem?_eq_some_iff.1 hv).1; simpa using this)]
      simpa using hv
    · rw [List.getElem?_append_right (by rw [h6]; omega), h6, show (k + 1) * 6 + j - 6 = k * 6 + j by omega]
      exact ih k j v (by simpa using hk) (by simpa using hv)
theorem ScriptOk.cells {w : World} {A : Option Addr} {l : List StepV} (h : ScriptOk w A l) {k : Nat} (hk : k < l.length) :
    ∃ b off, A = some ⟨b, off, none⟩ ∧ b < w.heap.size ∧ ∀ j v, (stepCells (l.getD k noStep))[j]? = some v → w.cell? ⟨b, off + k * 6 + j, none⟩ = some v := by
  obtain ⟨b, off, e, hb, hr⟩ := h.holds.2 (by omega)
  exact ⟨b, off, e, hb, fun j v hv => by have := hr _ _ (scs_get l k j v hk hv); rwa [← Nat.add_assoc] at this⟩
theorem ScriptOk.get {w : World} {A : Option Addr} {l : List StepV} (h : ScriptOk w A l) {k : Nat} (hk : k < l.length) : StepOk w (l.getD k noStep) :=
  h.step _ (by rw [List.getD_eq_getElem?_getD, List.getElem?_eq_getElem hk]; exact List.getElem_mem hk)

/-- A step that is too much. -/
def bigStep (s : StepV) : Bool := decide (6000 < s.nb) || (decide (40 < s.fates.length) || decide (300 < s.np))
def smallSteps (l : List StepV) : Prop := ∀ s ∈ l, bigStep s = false
theorem smallSteps.get {l : List StepV} (h : smallSteps l) {k : Nat} (hk : k < l.length) : bigStep (l.getD k noStep) = false :=
  h _ (by rw [List.getD_eq_getElem?_getD, List.getElem?_eq_getElem hk]; exact List.getElem_mem hk)
def VastPost (w : World) (l : List StepV) (e : Ending) (w' : World) : Prop :=
  w = w' ∧ ((e = .returned (.bool true)) ∨ (e = .returned (.bool false) ∧ l.length ≤ 60 ∧ smallSteps l))

set_option maxHeartbeats 2000000 in
theorem vast_ok (sectors : Int) (A : Option Addr) (c : Nat) (l : List StepV) (w : World) (h : ScriptOk w A l) :
    Calls Try.prog 5 #[.int .i64 sectors, .slice A l.length c] w (VastPost w l) := by
  have H := Lib.hid h
  clear h
  by_cases h60 : 60 < l.length
  · go_enter Try.func5, Try.ntmps5
    go_wp2
    go_ret
    exact ⟨rfl, .inl rfl⟩
  · by_cases hs : 100 < sectors ∧ sectors ≤ 65536
    · obtain ⟨hs1, hs2⟩ := hs
      go_enter Try.func5, Try.ntmps5
      go_wp2
      go_ret
      exact ⟨rfl, .inl rfl⟩
    · have hs' : sectors ≤ 100 ∨ 65536 < sectors := by omega
      clear hs
      rcases hs' with hs | hs
      all_goals
        go_enter Try.func5, Try.ntmps5
        go_wp2_with fail
        go_loop [5] (fun v5 => ∃ k : Nat, k ≤ l.length ∧ v5 = .int .i64 k ∧ smallSteps (l.take k)) (fun v5 => l.length - (intOf v5).toNat)
        case atStart => exact ⟨0, Nat.zero_le _, rfl, fun s hs => by simp at hs⟩
        case round =>
          obtain ⟨k, hk, rfl, hsm⟩ := hrel
          by_cases hlt : k < l.length
          · obtain ⟨b, off, rfl, _, hcells⟩ := H.out.cells hlt
            have hst := H.out.get hlt
            have HT : Hid (bigStep (l.getD k noStep) = false → smallSteps (l.take (k + 1))) := Lib.hid fun h0 s hs => by
              rw [List.take_succ_eq_append_getElem hlt] at hs
              rcases List.mem_append.1 hs with hs | hs
              · exact hsm s hs
              · simp at hs; subst hs; simpa [List.getD_eq_getElem?_getD, hlt] using h0
            have c3 := hcells 3 _ rfl
            have c4 := hcells 4 _ rfl
            have c5 := hcells 5 _ rfl
            have b1 := hst.capb
            have b2 := hst.capf
            have b3 := hst.capp
            clear hcells hst hsm
            generalize l.getD k noStep = s at *
            by_cases g1 : 6000 < s.nb
            · clear HT
              go_wp2
              go_ret
              exact ⟨rfl, .inl rfl⟩
            · by_cases g2 : 40 < s.fates.length
              · clear HT
                go_wp2
                go_ret
                exact ⟨rfl, .inl rfl⟩
              · by_cases g3 : 300 < s.np
                · clear HT
                  go_wp2
                  go_ret
                  exact ⟨rfl, .inl rfl⟩
                · have HT2 := Lib.hid (HT.out (by simp [bigStep, g1, g2, g3]))
                  clear HT
                  go_wp2
                  go_round
                  case rel => exact ⟨k + 1, by omega, by go_num, HT2.out⟩
                  case measure => simp [intOf]; omega
          · obtain rfl : k = l.length := by omega
            rw [List.take_length] at hsm
            have HSM := Lib.hid hsm
            clear hsm
            go_wp2
            go_ret
            exact ⟨rfl, .inr ⟨rfl, by omega, HSM.out⟩⟩

set_option maxHeartbeats 1000000 in
theorem right_ok (A : Option Addr) (c : Nat) (l : List (Int × Int)) (w : World) (h : Holds w A l.length 2 (fcs l)) (hc : l.length ≤ c) (hcm : c ≤ 9223372036854775807) :
    Calls Try.prog 6 #[.slice A l.length c] w fun e w' => e = .returned (.bool (kindsB l)) ∧ w = w' := by
  have H := Lib.hid h
  clear h
  go_enter Try.func6, Try.ntmps6
  go_wp2_with fail
  go_loop [3] (fun v3 => ∃ k : Nat, k ≤ l.length ∧ v3 = .int .i64 k ∧ kindsB (l.take k) = true) (fun v3 => l.length - (intOf v3).toNat)
  case atStart => exact ⟨0, Nat.zero_le _, rfl, by simp [kindsB]⟩
  case round =>
    obtain ⟨k, hk, rfl, hkb⟩ := hrel
    by_cases hlt : k < l.length
    · obtain ⟨b, off, rfl, hbl, hc0, hc1⟩ := fate_cells H.out hlt
      have HT := Lib.hid (kinds_take l k hlt)
      have HF := Lib.hid (kinds_false l k hlt)
      have HK := Lib.hid hkb
      clear hkb
      generalize hp : l.getD k (0, 0) = q at *
      obtain ⟨x, y⟩ := q
      clear hp
      simp only at hc0
      rcases (by omega : x < 0 ∨ x = 0 ∨ x = 1 ∨ 1 < x) with hx | rfl | rfl | hx
      · have HK2 : Hid (kindsB l = false) := Lib.hid (HF.out (by simp [kindOk]; omega))
        clear HT HF HK
        go_wp2
        go_ret
        exact ⟨ret_val (by rw [HK2.out]; rfl), rfl⟩
      · have HK2 : Hid (kindsB (l.take (k + 1)) = true) := Lib.hid (by rw [HT.out, HK.out]; rfl)
        clear HT HF HK
        go_wp2
        go_round
        case rel => exact ⟨k + 1, by omega, by go_num, HK2.out⟩
        case measure => simp [intOf]; omega
      · have HK2 : Hid (kindsB (l.take (k + 1)) = true) := Lib.hid (by rw [HT.out, HK.out]; rfl)
        clear HT HF HK
        go_wp2
        go_round
        case rel => exact ⟨k + 1, by omega, by go_num, HK2.out⟩
        case measure => simp [intOf]; omega
      · have HK2 : Hid (kindsB l = false) := Lib.hid (HF.out (by simp [kindOk]; omega))
        clear HT HF HK
        go_wp2
        go_ret
        exact ⟨ret_val (by rw [HK2.out]; rfl), rfl⟩
    · obtain rfl : k = l.length := by omega
      rw [List.take_length] at hkb
      have HK := Lib.hid hkb
      clear hkb
      go_wp2
      go_ret
      exact ⟨ret_val (by rw [HK.out]; rfl), rfl⟩
end Go.Proofs.Ytielinebhbhegaa
