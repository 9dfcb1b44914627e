/- Layer 8: same: are two values that may be the same? -/
import Derived.Test.YtfdodndagakmmaaGreatDoorPt47
import Derived.Test.YtfdodndagakmmaaGreatDoorPt25
import Derived.Deep.QuietTactic
import Derived.BigQuiet
namespace Go.Proofs.YtfdodndagakmmaaGreatDoor
open Go.RowKit
/-- What the cells of two values that are held against each other hold. -/
def SamC (g1 o1 g2 o2 : Nat) (k k' : Int) (b b' : Bool) (d d' : Dec) (t t' : List UInt8) (L N L' N' : Value) (V : World) : Prop :=
  (V.cell? ⟨g1, o1, none⟩ = some (.int .i64 k) ∧ V.cell? ⟨g1, o1 + 1, none⟩ = some (.bool b) ∧ V.cell? ⟨g1, o1 + 2, none⟩ = some (.bool d.neg) ∧ V.cell? ⟨g1, o1 + 3, none⟩ = some (.string (bs d.digits)) ∧ V.cell? ⟨g1, o1 + 4, none⟩ = some (.int .i64 d.exp) ∧ V.cell? ⟨g1, o1 + 5, none⟩ = some (.string (bs t)) ∧ V.cell? ⟨g1, o1 + 6, none⟩ = some L ∧ V.cell? ⟨g1, o1 + 7, none⟩ = some N) ∧
  (V.cell? ⟨g2, o2, none⟩ = some (.int .i64 k') ∧ V.cell? ⟨g2, o2 + 1, none⟩ = some (.bool b') ∧ V.cell? ⟨g2, o2 + 2, none⟩ = some (.bool d'.neg) ∧ V.cell? ⟨g2, o2 + 3, none⟩ = some (.string (bs d'.digits)) ∧ V.cell? ⟨g2, o2 + 4, none⟩ = some (.int .i64 d'.exp) ∧ V.cell? ⟨g2, o2 + 5, none⟩ = some (.string (bs t')) ∧ V.cell? ⟨g2, o2 + 6, none⟩ = some L' ∧ V.cell? ⟨g2, o2 + 7, none⟩ = some N')
theorem bs_ne {a b : List UInt8} (h : a ≠ b) : ((bs a).toList == (bs b).toList) = false := by
  rw [bs_toList, bs_toList, beq_eq_false_iff_ne]
  exact h
set_option maxRecDepth 1000000 in
set_option maxHeartbeats 8000000 in
/-- Two values that differ in what their cells hold. -/
theorem same_head (g1 o1 g2 o2 : Nat) (k k' : Int) (b b' : Bool) (d d' : Dec) (t t' : List UInt8) (A B A' B' : Option Addr) (n c m c1 n' c2 m' c3 : Nat) (w : World)
    (h : SamC g1 o1 g2 o2 k k' b b' d d' t t' (.slice A n c) (.slice B m c1) (.slice A' n' c2) (.slice B' m' c3) w)
    (hne : k ≠ k' ∨ b ≠ b' ∨ d ≠ d' ∨ t ≠ t' ∨ n ≠ n') :
    Calls Tryz.prog 62 #[.pointer (some ⟨g1, o1, none⟩), .pointer (some ⟨g2, o2, none⟩)] w fun e w' => e = .returned (.bool false) ∧ Below w.heap.size w w' := by
  obtain ⟨⟨a0, a1, a2, a3, a4, a5, a6, a7⟩, b0, b1, b2, b3, b4, b5, b6, b7⟩ := h
  obtain ⟨dn, dl, dx⟩ := d
  obtain ⟨dn', dl', dx'⟩ := d'
  simp only at a2 a3 a4 b2 b3 b4
  have sk : ∀ k : Int, (k != k) = false := fun k => by simp
  by_cases ek : k = k'
  · subst ek
    have g0 := sk k
    by_cases eb : b = b'
    · subst eb
      have g1 : (b != b) = false := by simp
      by_cases e1 : dn = dn'
      · subst e1
        by_cases e2 : dl = dl'
        · subst e2
          by_cases e3 : dx = dx'
          · subst e3
            by_cases et : t = t'
            · subst et
              have en : ((n : Int) != (n' : Int)) = true := by
                rw [bne_iff_ne]
                intro e
                rcases hne with h | h | h | h | h
                · exact h rfl
                · exact h rfl
                · exact h rfl
                · exact h rfl
                · omega
              clear hne
              go_enter Tryz.func62, Tryz.ntmps62
              go_upto_region 1 with fail
              go_quiet (fail)
              go_wp2
              go_ret
              exact ⟨rfl, below_drewN (Below.refl _ _) _⟩
            · have e9 := bs_ne et
              clear hne et
              go_enter Tryz.func62, Tryz.ntmps62
              go_upto_region 1 with fail
              go_quiet (fail)
              go_wp2
              go_ret
              exact ⟨rfl, below_drewN (Below.refl _ _) _⟩
          · have e9 : (dx == dx') = false := by rw [beq_eq_false_iff_ne]; exact e3
            clear hne e3
            go_enter Tryz.func62, Tryz.ntmps62
            go_upto_region 1 with fail
            go_quiet (fail)
            go_wp2
            go_ret
            exact ⟨rfl, below_drewN (Below.refl _ _) _⟩
        · have e9 := bs_ne e2
          clear hne e2
          go_enter Tryz.func62, Tryz.ntmps62
          go_upto_region 1 with fail
          go_quiet (fail)
          go_wp2
          go_ret
          exact ⟨rfl, below_drewN (Below.refl _ _) _⟩
      · clear hne
        cases dn <;> cases dn' <;> first
          | exact absurd rfl e1
          | (clear e1
             go_enter Tryz.func62, Tryz.ntmps62
             go_upto_region 1 with fail
             go_quiet (fail)
             go_wp2
             go_ret
             exact ⟨rfl, below_drewN (Below.refl _ _) _⟩)
    · clear hne
      cases b <;> cases b' <;> first
        | exact absurd rfl eb
        | (clear eb
           go_enter Tryz.func62, Tryz.ntmps62
           go_upto_region 1 with fail
           go_quiet (fail)
           go_wp2
           go_ret
           exact ⟨rfl, below_drewN (Below.refl _ _) _⟩)
  · have e9 : (k != k') = true := by rw [bne_iff_ne]; exact ek
    clear hne ek
    go_enter Tryz.func62, Tryz.ntmps62
    go_upto_region 1 with fail
    go_quiet (fail)
    go_wp2
    go_ret
    exact ⟨rfl, below_drewN (Below.refl _ _) _⟩
end Go.Proofs.YtfdodndagakmmaaGreatDoor
