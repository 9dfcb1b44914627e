/- The law DiskNil: its walk. -/
import Derived.Test.YtielinebhbhegaaDskNothing
namespace Go.Proofs.Ytielinebhbhegaa
open Go.RowKit

theorem zeroDisk (w : World) : (w.alloc (.cells #[.int .i64 0, .map none, .map none, .slice none 0 0, .slice none 0 0, .int .i64 0] 52)).cell? ⟨w.heap.size, 0, none⟩ = some (.int .i64 0) := (Row.new w _ _).cell rfl
set_option maxRecDepth 100000 in
set_option maxHeartbeats 1000000 in
theorem nil_law (at_ n : Int) (A : Option Addr) (nb cb : Nat) (w : World) :
    Calls Try.prog 4 #[.int .i64 at_, .int .i64 n, .slice A nb cb] w fun e w' => e = .returned (.bool true) ∧ Below w.heap.size w w' := by
  go_enter Try.func4, Try.ntmps4
  go_wp2_with fail
  refine (nothing_ok (.pointer none) at_ n A nb cb w (.inl rfl)).mono ?_
  rintro e w1 ⟨rfl, hb1⟩
  have HB1 := Lib.hid hb1
  clear hb1
  go_wp2_with fail
  refine (nothing_ok (.pointer (some ⟨w1.heap.size, 0, none⟩)) at_ n A nb cb _ (.inr ⟨_, rfl, zeroDisk w1⟩)).mono ?_
  rintro e w2 ⟨rfl, hb2⟩
  have HB2 := Lib.hid (HB1.out.lit hb2)
  clear hb2
  go_wp2_with fail
  refine (same_nn (.pointer none) (.pointer (some ⟨w2.heap.size, 0, none⟩)) _ (.inl rfl) (.inr ⟨_, rfl, zeroDisk w2⟩)).mono ?_
  rintro e w3 ⟨rfl, rfl⟩
  go_wp2_with fail
  refine (known_ok _).mono ?_
  rintro e w4 ⟨rfl, hb4⟩
  have HB4 := Lib.hid (HB2.out.lit hb4)
  clear hb4
  go_wp2
  go_ret
  exact ⟨rfl, HB4.out⟩
end Go.Proofs.Ytielinebhbhegaa
