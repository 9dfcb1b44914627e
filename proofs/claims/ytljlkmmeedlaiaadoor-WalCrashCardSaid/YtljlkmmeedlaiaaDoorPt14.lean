/- Layer 3: a head's sector, made and read. -/
import Derived.Test.YtljlkmmeedlaiaaDoorPt11
import Derived.Test.YtljlkmmeedlaiaaDoorPt07
import Derived.BigQuiet
namespace Go.Proofs.YtljlkmmeedlaiaaDoor
open Go.RowKit

/-- A head's sector. -/
def headL (r b : Nat) : List Nat := over (over zsec 0 (leB 8 r ++ leB 8 b)) 504 (leB 8 r)
structure HeadSt (w : World) (r b : Nat) (cur : List Nat) (W : World) : Prop where
  hs : Row W w.heap.size 66 #[.int .u64 r, .int .u64 b]
  hg : Row W (w.heap.size + 1) 5 (cellsOf cur).toArray
  hb : Below w.heap.size w W
theorem HeadSt.call {w W W' : World} {r b : Nat} {cur : List Nat} (h : HeadSt w r b cur W) (hb : Below W.heap.size W W') : HeadSt w r b cur W' := ⟨h.hs.call hb, h.hg.call hb, h.hb.call hb⟩
theorem HeadSt.laid {w W W' : World} {r b q off n c k : Nat} {cur xs : List Nat} (h : HeadSt w r b cur W) (hl : Laid W q (w.heap.size + 1) off n c k cur xs W') (hq : w.heap.size + 1 < q) : HeadSt w r b (over cur off xs) W' :=
  ⟨h.hs.kept hl.kept (by omega), hl.row, h.hb.trans (hl.kept.below h.hb.size (fun k hk => by omega))⟩
def BytesPost (w : World) (r b : Nat) (e : Ending) (w' : World) : Prop :=
  ∃ g, e = .returned (slc g 0 512 512) ∧ Row w' g 5 (cellsOf (headL r b)).toArray ∧ w.heap.size ≤ g ∧ Below w.heap.size w w'
set_option maxHeartbeats 2000000 in
theorem bytes_ok (r b : Nat) (w : World) (N : Nat) (hN1 : N ≤ 512) (hN2 : 512 ≤ N) :
    Calls Tryd.prog 30 #[headV r b] w (BytesPost w r b) := by
  have HNV : Hid (Value.int .i64 512 = .int .i64 (N : Int)) := Lib.hid (by congr 1; omega)
  go_enter Tryd.func30, Tryd.ntmps30
  go_wp2_with (first
    | (refine wpList_make_bytes ?_ 41 5 (.const (.int .i64 512)) ?_ N ?_ Tryd.underlying41 infoU8s (by omega) ?_
       · with_reducible rfl
       · with_reducible rfl
       · exact HNV.out))
  have hs : Row ((w.alloc (.cells #[.int .u64 r, .int .u64 b] 66)).alloc (.cells (cellsOf (List.replicate N 0)).toArray 5)) w.heap.size 66 #[.int .u64 r, .int .u64 b] := (Row.new _ _ _).alloc _
  have hg : Row ((w.alloc (.cells #[.int .u64 r, .int .u64 b] 66)).alloc (.cells (cellsOf (List.replicate N 0)).toArray 5)) (w.heap.size + 1) 5 (cellsOf (List.replicate N 0)).toArray := Row.new1 _ _ _ _
  have hb : Below w.heap.size w ((w.alloc (.cells #[.int .u64 r, .int .u64 b] 66)).alloc (.cells (cellsOf (List.replicate N 0)).toArray 5)) := ((Below.refl _ _).alloc (Nat.le_refl _) _).alloc (by simp) _
  have hz : List.replicate N 0 = zsec := by rw [show N = 512 by omega]; rfl
  rw [hz] at hs hg hb ⊢
  have hl : zsec.length = 512 := Sec.zero.1
  generalize (w.alloc (.cells #[.int .u64 r, .int .u64 b] 66)).alloc (.cells (cellsOf zsec).toArray 5) = w1 at *
  have hlen : ∀ xs off, off + xs.length ≤ 512 → (over zsec off xs).length = 512 := fun xs off h => by rw [over_length (by omega), hl]
  have HH : Hid (headL r b = over (over zsec 0 (leB 8 r ++ leB 8 b)) 504 (leB 8 r)) := Lib.hid rfl
  generalize zsec = zs at *
  obtain rfl : N = 512 := by omega
  have hgl : w.heap.size + 1 < w1.heap.size := hg.lt
  have HS1 : Hid (HeadSt w r b zs w1) := Lib.hid ⟨hs, hg, hb⟩
  clear hs hg hb hz HNV hN1 hN2
  refine (putter_ok _ 512 512 _).mono ?_
  rintro e w2 ⟨rfl, rfl⟩
  have hq2 : Row (w1.alloc (.cells #[slc (w.heap.size + 1) 0 512 512] 41)) w1.heap.size 41 #[slc (w.heap.size + 1) 0 512 512] := Row.new _ _ _
  have HS2 := Lib.hid (HS1.out.call ((Below.refl _ _).alloc (Nat.le_refl _) (.cells #[slc (w.heap.size + 1) 0 512 512] 41)))
  generalize w1.heap.size = q at *
  generalize w1.alloc (.cells #[slc (w.heap.size + 1) 0 512 512] 41) = w2 at *
  have h0 := HS2.out.hs.cell (i := 0) (v := .int .u64 r) rfl
  have HQ2 := Lib.hid hq2
  clear hq2 HS1
  go_wp2_with fail
  refine (put_ok q (w.heap.size + 1) 0 512 512 8 r zs _ HQ2.out HS2.out.hg (by omega) (by omega) (by omega) (by omega) (by omega) (by decide)).mono ?_
  rintro e w3 ⟨⟨x, rfl⟩, hl3⟩
  have HS3 := Lib.hid (HS2.out.laid hl3 (by omega))
  obtain ⟨v3, hq3, hv3⟩ := hl3.var
  obtain rfl := hv3 (by omega)
  have HQ3 := Lib.hid hq3
  clear h0 hq3 hv3 hl3 HS2 HQ2
  have h1 := HS3.out.hs.cell (i := 1) (v := .int .u64 b) rfl
  go_wp2_with fail
  refine (put_ok q (w.heap.size + 1) (0 + 8) (512 - 8) (512 - 8) 8 b _ _ HQ3.out HS3.out.hg (by omega) (by rw [hlen _ _ (by rw [leB_length]; omega)]; omega) (by omega) (by omega) (by omega) (by decide)).mono ?_
  rintro e w4 ⟨⟨y, rfl⟩, hl4⟩
  have h9 := over_over zs (leB 8 r) (leB 8 b) 0 (by rw [leB_length, leB_length]; omega)
  rw [leB_length] at h9
  have hs4 := HS3.out.laid hl4 (by omega)
  rw [h9] at hs4
  have HS4 := Lib.hid hs4
  clear h1 hs4 hl4 h9 HS3 HQ3
  have hlen2 := hlen (leB 8 r ++ leB 8 b) 0 (by simp only [List.length_append, leB_length]; omega)
  generalize over zs 0 (leB 8 r ++ leB 8 b) = cur at *
  clear hlen hl
  have h0 := HS4.out.hs.cell (i := 0) (v := .int .u64 r) rfl
  have hlt4 : w.heap.size + 1 < w4.heap.size := HS4.out.hg.lt
  have h05 : ((w4.alloc (.cells #[slc (w.heap.size + 1) 504 8 8] 41)).drew).cell? ⟨w.heap.size, 0, none⟩ = some (.int .u64 r) := (HS4.out.hs.alloc (.cells #[slc (w.heap.size + 1) 504 8 8] 41)).cell rfl
  have hq5 : Row ((w4.alloc (.cells #[slc (w.heap.size + 1) 504 8 8] 41)).drew) w4.heap.size 41 #[slc (w.heap.size + 1) 504 8 8] := Row.new _ _ _
  have HS5 := Lib.hid (HS4.out.call (((Below.refl _ _).alloc (Nat.le_refl _) (.cells #[slc (w.heap.size + 1) 504 8 8] 41)).drew))
  have HQ5 := Lib.hid hq5
  clear hq5
  go_wp2_with fail
  go_region_with (first
    | (go_at_call 51; refine (putter_ok _ 8 8 _).mono ?_; rintro e w5 ⟨rfl, rfl⟩)
    | (go_at_call 66; refine (put_ok w4.heap.size (w.heap.size + 1) 504 8 8 8 r _ _ HQ5.out HS5.out.hg (by omega) (by omega) (by omega) (by omega) (by omega) (by decide)).mono ?_; rintro e w6 ⟨⟨z, rfl⟩, hl6⟩))
  all_goals (
    have hs6 := HS5.out.laid hl6 (by omega)
    rw [← HH.out] at hs6
    have HS6 := Lib.hid hs6
    clear hs6 hl6
    go_wp2
    go_ret
    exact ⟨w.heap.size + 1, rfl, HS6.out.hg, by omega, HS6.out.hb⟩)

/-- The head that stands in a sector: the zero one if none does. -/
def headVal (l : List Nat) (i : Nat) : Nat × Nat :=
  if runL l ≠ runL (l.drop 504) ∨ 4611686018427387904 ≤ runL l ∨ runL l < runL (l.drop 8) ∨ runL l % 2 ≠ i then (0, 0) else (runL l, runL (l.drop 8))
theorem runL_lt {l : List Nat} (h : Small l) : runL l < 18446744073709551616 := by
  have := le_lt (h.take 8)
  refine Nat.lt_of_lt_of_le this ?_
  have h8 : (l.take 8).length ≤ 8 := by rw [List.length_take]; omega
  exact p256_le h8
theorem plL_lt {l : List Nat} (h : Small l) : plL l < 4294967296 := by
  have := le_lt ((h.drop 8).take 4)
  refine Nat.lt_of_lt_of_le this ?_
  have h8 : ((l.drop 8).take 4).length ≤ 4 := by rw [List.length_take]; omega
  exact Nat.le_trans (Nat.pow_le_pow_right (by decide) h8) (by decide)
end Go.Proofs.YtljlkmmeedlaiaaDoor
