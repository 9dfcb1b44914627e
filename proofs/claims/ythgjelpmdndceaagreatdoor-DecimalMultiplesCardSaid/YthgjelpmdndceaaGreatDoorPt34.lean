/- Layer 7: the document's Cmp. -/
import Derived.Test.YthgjelpmdndceaaGreatDoorPt32
import Derived.Test.YthgjelpmdndceaaGreatDoorPt16
import Derived.Test.YthgjelpmdndceaaGreatDoorPt33
namespace Go.Proofs.YthgjelpmdndceaaGreatDoor
open Go.RowKit

/-- Digit texts by their length, then by their bytes. -/
def cmpC (a b : List UInt8) : Int := if a.length < b.length then -1 else if b.length < a.length then 1 else cmpB a b
set_option maxHeartbeats 1000000 in
theorem rcmp_ok (a b : List UInt8) (w : World) : Calls Tryz.prog 29 #[.string (bs a), .string (bs b)] w fun e w' => e = .returned (.int .i64 (cmpC a b)) ∧ w = w' := by
  have h1 : (bs a).toList = a := bs_toList a
  have h2 : (bs b).toList = b := bs_toList b
  have s1 := bs_size a
  have s2 := bs_size b
  unfold cmpC
  rw [cmpB_less]
  generalize bs a = s at *
  generalize bs b = t at *
  by_cases q1 : a.length < b.length
  · have e1 : ((a.length : Int) == (b.length : Int)) = false := by rw [beq_eq_false_iff_ne]; omega
    rw [if_pos q1]
    generalize a.length = la at *
    generalize b.length = lb at *
    go_enter Tryz.func29, Tryz.ntmps29
    go_wp2
    go_ret
    exact ⟨rfl, rfl⟩
  rw [if_neg q1]
  by_cases q2 : b.length < a.length
  · have e1 : ((a.length : Int) == (b.length : Int)) = false := by rw [beq_eq_false_iff_ne]; omega
    rw [if_pos q2]
    generalize a.length = la at *
    generalize b.length = lb at *
    go_enter Tryz.func29, Tryz.ntmps29
    go_wp2
    go_ret
    exact ⟨rfl, rfl⟩
  rw [if_neg q2]
  have e0 : a.length = b.length := by omega
  rw [e0] at s1
  clear q1 q2 e0
  generalize b.length = lb at *
  cases c1 : Op.bytesLess a b <;> cases c2 : (a == b)
  all_goals
    go_enter Tryz.func29, Tryz.ntmps29
    go_wp2
    go_ret
    exact ⟨rfl, rfl⟩
end Go.Proofs.YthgjelpmdndceaaGreatDoor
