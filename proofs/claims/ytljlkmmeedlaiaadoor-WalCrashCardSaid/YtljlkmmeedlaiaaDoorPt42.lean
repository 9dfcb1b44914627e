/- Layer 3's laws: are two lists of batches the same? -/
import Derived.Test.YtljlkmmeedlaiaaDoorPt28
import Derived.BigQuiet
namespace Go.Proofs.YtljlkmmeedlaiaaDoor
open Go.RowKit

/-- Texts, as a list of them lies in memory. -/
def txt (l : List Nat) : Value := .string (textOf l)
def txts (ws : List (List Nat)) : List Value := ws.map txt
theorem txts_one (ws : List (List Nat)) : ∀ v ∈ txts ws, v.oneCell' = true := by
  intro v hv
  obtain ⟨b, _, rfl⟩ := List.mem_map.1 hv
  rfl
theorem text_ne {a b : List Nat} (ha : Small a) (hb : Small b) (h : a ≠ b) : ((textOf a).toList == (textOf b).toList) = false := beq_eq_false_iff_ne.2 fun e => h (textOf_inj ha hb e)
theorem Holds.txt {w : World} {A : Option Addr} {ws : List (List Nat)} (h : Holds w A ws.length 1 (txts ws)) {k : Nat} (hk : k < ws.length) : ∃ g off, A = some ⟨g, off, none⟩ ∧ w.cell? ⟨g, off + k, none⟩ = some (.string (textOf (ws.getD k []))) := by
  obtain ⟨g, off, e, _, hr⟩ := h.2 (by omega)
  refine ⟨g, off, e, ?_⟩
  have := hr k (Go.Proofs.YtljlkmmeedlaiaaDoor.txt (ws.getD k [])) (by simp [txts, List.getD_eq_getElem?_getD, hk])
  exact this
set_option maxHeartbeats 1000000 in
theorem same_wal_ok (Aa : Option Addr) (ca : Nat) (ys : List Bat) (Ab : Option Addr) (cb : Nat) (ws : List (List Nat)) (F : Nat → Prop) (w : World) (ha : Lies w F 41 1 (.slice Aa ys.length ca) ys.length (bvs ys)) (hb : ∀ b ∈ ys, BatOk w F b)
    (hs : Holds w Ab ws.length 1 (txts ws)) (hsm : ∀ b ∈ ws, Small b) (hy : ys.length ≤ 1000000) (_ : ws.length ≤ 1000000) :
    Calls Tryd.prog 17 #[.slice Aa ys.length ca, .slice Ab ws.length cb] w fun e w' => e = .returned (.bool (decide (ys.map (·.l) = ws))) ∧ Below w.heap.size w w' := by
  have HA := Lib.hid ha
  have HB := Lib.hid hb
  have HS := Lib.hid hs
  have HSM := Lib.hid hsm
  clear ha hb hs hsm
  by_cases hlen : ys.length = ws.length
  · go_enter Tryd.func17, Tryd.ntmps17
    go_wp2_with fail
    go_loopw [5] (fun v5 wr => ∃ k : Nat, k ≤ ws.length ∧ v5 = .int .i64 k ∧ (ys.map (·.l)).take k = ws.take k ∧ Below w.heap.size w wr) (fun v5 _ => ws.length - (intOf v5).toNat)
    case atStart => exact ⟨0, Nat.zero_le _, rfl, by simp, Below.refl _ _⟩
    case round =>
      obtain ⟨k, hk, rfl, htk, hbw⟩ := hrel
      by_cases hlt : k < ws.length
      · have hlt2 : k < ys.length := by omega
        obtain ⟨g, off, cap, hvv, _, hk1, hk2, _, hrng⟩ := (HA.out.below hbw).cells (by omega)
        injection hvv with hA _ hcc
        subst hA
        subst hcc
        have hc1 : wr.cell? ⟨g, off + k, none⟩ = some (ys.getD k ⟨none, 0, []⟩).v := hrng k _ (by simp [bvs, List.getD_eq_getElem?_getD, hlt2])
        have hmem : ys.getD k ⟨none, 0, []⟩ ∈ ys := by rw [List.getD_eq_getElem?_getD, List.getElem?_eq_getElem hlt2]; exact List.getElem_mem hlt2
        have hmem2 : ws.getD k [] ∈ ws := by rw [List.getD_eq_getElem?_getD, List.getElem?_eq_getElem hlt]; exact List.getElem_mem hlt
        have hbk := (HB.out _ hmem).below hbw
        have hsk := HSM.out _ hmem2
        obtain ⟨g2, off2, hA2, hc2⟩ := (HS.out.below hbw).txt hlt
        subst hA2
        obtain ⟨bA, bc, hbv, hbb, _, _, _⟩ := lies_bytes hbk.lies hbk.small
        have hbs := hbk.small
        have hget : ys.getD k ⟨none, 0, []⟩ = ys[k] := by simp [List.getD_eq_getElem?_getD, hlt2]
        have hget2 : ws.getD k [] = ws[k] := by simp [List.getD_eq_getElem?_getD, hlt]
        have HEQ : Hid ((ys.getD k ⟨none, 0, []⟩).l = ws.getD k [] → (ys.map (·.l)).take (k + 1) = ws.take (k + 1)) := Lib.hid fun he => by
          rw [List.take_succ_eq_append_getElem (by rw [List.length_map]; exact hlt2), List.take_succ_eq_append_getElem hlt, htk]
          congr 2
          rw [List.getElem_map, ← hget, he, hget2]
        have HNE : Hid ((ys.getD k ⟨none, 0, []⟩).l ≠ ws.getD k [] → decide (ys.map (·.l) = ws) = false) := Lib.hid fun hne => by
          simp only [decide_eq_false_iff_not]
          intro he
          apply hne
          have h9 : (ys.map (·.l))[k]? = ws[k]? := by rw [he]
          rw [List.getElem?_map, List.getElem?_eq_getElem hlt2, List.getElem?_eq_getElem hlt] at h9
          rw [hget, hget2]
          exact Option.some.inj h9
        rw [hbv] at hc1
        have hconv : ∀ W, Below wr.heap.size wr W → (convert 41 9 (.slice bA (ys.getD k ⟨none, 0, []⟩).l.length bc)).run Tryd.prog W = .ok (.string (textOf (ys.getD k ⟨none, 0, []⟩).l)) W := fun W hW => run_text (hbb.below hW) 41 9 5 bc Tryd.underlying41 Tryd.underlying5 Tryd.underlying9
        clear hrng hmem hmem2 hbk hbv hbb htk hget hget2
        generalize (ys.getD k ⟨none, 0, []⟩).l = la at *
        generalize ws.getD k [] = lb at *
        by_cases he : la = lb
        · subst he
          have HT := Lib.hid (HEQ.out rfl)
          clear HEQ HNE hsk hbs
          have hconv0 := hconv wr (Below.refl _ _)
          have hconv1 := hconv wr.drew ((Below.refl _ _).drew)
          clear hconv
          go_upto_region 6 with fail
          go_region
          go_wp2
          go_round
          case rel => exact ⟨k + 1, by omega, by go_num, HT.out, hbw.drew⟩
          case measure => simp [intOf]; omega
        · have HF := Lib.hid (HNE.out he)
          have HN := Lib.hid (text_ne hbs hsk he)
          clear HEQ HNE
          have hconv0 := hconv wr (Below.refl _ _)
          have hconv1 := hconv wr.drew ((Below.refl _ _).drew)
          clear hconv hsk hbs he
          generalize textOf la = ta at *
          generalize textOf lb = tb at *
          have hn1 := HN.out
          go_upto_region 6 with fail
          go_region
          go_wp2
          go_ret
          exact ⟨by rw [HF.out]; rfl, hbw.drew⟩
      · obtain rfl : k = ws.length := by omega
        have HF : Hid (decide (ys.map (·.l) = ws) = true) := Lib.hid (by
          rw [List.take_of_length_le (by rw [List.length_map]; omega), List.take_length] at htk
          simpa using htk)
        clear htk
        go_wp2
        go_ret
        exact ⟨by rw [HF.out]; rfl, hbw⟩
  · have HF : Hid (decide (ys.map (·.l) = ws) = false) := Lib.hid (by
      simp only [decide_eq_false_iff_not]
      intro he
      exact hlen (by rw [← he, List.length_map]))
    have hne : (((ys.length : Nat) : Int) != ((ws.length : Nat) : Int)) = true := by simp; omega
    go_enter Tryd.func17, Tryd.ntmps17
    go_wp2
    go_ret
    exact ⟨by rw [HF.out]; rfl, Below.refl _ _⟩
end Go.Proofs.YtljlkmmeedlaiaaDoor
