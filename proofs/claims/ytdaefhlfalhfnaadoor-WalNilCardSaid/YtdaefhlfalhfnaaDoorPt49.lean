/- The law WalNil: its walk. -/
import Derived.Test.YtdaefhlfalhfnaaDoorPt34
import Derived.Test.YtdaefhlfalhfnaaDoorPt48
import Derived.Test.YtdaefhlfalhfnaaDoorPt29
import Derived.Test.YtdaefhlfalhfnaaDoorPt42
namespace Go.Proofs.YtdaefhlfalhfnaaDoor
open Go.RowKit

theorem zeroLog (w : World) : (w.alloc (.cells #[.pointer none, .int .i64 0, .int .i64 0, .int .u64 0, .int .u64 0, .int .i64 0, .slice none 0 0, .bool false] 68)).cell? ⟨w.heap.size, 0, none⟩ = some (.pointer none) := (Row.new w _ _).cell rfl
set_option maxRecDepth 100000 in
set_option maxHeartbeats 1000000 in
theorem nil_law (A : Option Addr) (nb cb : Nat) (from_ n : Int) (w : World) :
    Calls Tryd.prog 5 #[.slice A nb cb, .int .i64 from_, .int .i64 n] w fun e w' => e = .returned (.bool true) ∧ Below w.heap.size w w' := by
  go_enter Tryd.func5, Tryd.ntmps5
  go_wp2_with fail
  refine (format_no (.pointer none) from_ n w (.inl rfl)).mono ?_
  rintro e w1 ⟨rfl, rfl⟩
  go_wp2_with fail
  refine (open_no (.pointer none) from_ n _ (.inl rfl)).mono ?_
  rintro e w2 ⟨rfl, hb2⟩
  have HB2 := Lib.hid hb2
  clear hb2
  go_wp2_with fail
  refine (look_no (.pointer none) from_ n _ (.inl rfl)).mono ?_
  rintro e w3 ⟨v, ys, rfl, _, hl, _, hb3⟩
  have HB3 := Lib.hid (HB2.out.call hb3)
  clear hb3 hl
  go_wp2_with fail
  refine (nothing_ok (.pointer none) A nb cb _ (.inl rfl)).mono ?_
  rintro e w4 ⟨rfl, hb4⟩
  have HB4 := Lib.hid (HB3.out.call hb4)
  clear hb4
  go_wp2_with fail
  refine (nothing_ok (.pointer (some ⟨w4.heap.size, 0, none⟩)) A nb cb _ (.inr ⟨_, rfl, zeroLog w4⟩)).mono ?_
  rintro e w5 ⟨rfl, hb5⟩
  have HB5 := Lib.hid (HB4.out.lit hb5)
  clear hb5
  go_wp2_with fail
  refine (known_ok _).mono ?_
  rintro e w6 ⟨rfl, hb6⟩
  have HB6 := Lib.hid (HB5.out.call hb6)
  clear hb6
  go_wp2
  go_ret
  exact ⟨rfl, HB6.out⟩
end Go.Proofs.YtdaefhlfalhfnaaDoor
