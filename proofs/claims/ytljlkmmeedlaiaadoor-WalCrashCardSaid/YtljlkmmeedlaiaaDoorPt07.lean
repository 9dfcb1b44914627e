/- Layer 2: Read. -/
import Derived.Test.YtljlkmmeedlaiaaDoorPt06
namespace Go.Proofs.YtljlkmmeedlaiaaDoor
open Go.RowKit

/-- What is read of n sectors from a place on. -/
def readL (f : Int → List Nat) (at_ : Int) (n : Nat) : List Nat := (List.range n).flatMap fun (i : Nat) => f (at_ + (i : Int))
def readTo (f : Int → List Nat) (at_ : Int) (n k : Nat) : List Nat := readL f at_ k ++ List.replicate ((n - k) * 512) 0
theorem readL_succ (f : Int → List Nat) (at_ : Int) (k : Nat) : readL f at_ (k + 1) = readL f at_ k ++ f (at_ + k) := by
  unfold readL; rw [List.range_succ, List.flatMap_append]; simp
theorem readL_length {f : Int → List Nat} (h : ∀ k, Sec (f k)) (at_ : Int) (n : Nat) : (readL f at_ n).length = n * 512 := by
  induction n with
  | zero => rfl
  | succ n ih => rw [readL_succ, List.length_append, ih, (h _).1]; omega
theorem readL_small {f : Int → List Nat} (h : ∀ k, Sec (f k)) (at_ : Int) (n : Nat) : Small (readL f at_ n) := by
  intro x hx
  obtain ⟨i, _, hi⟩ := List.mem_flatMap.1 hx
  exact (h _).2 x hi
theorem readTo_length {f : Int → List Nat} (h : ∀ k, Sec (f k)) (at_ : Int) (n k : Nat) (hk : k ≤ n) : (readTo f at_ n k).length = n * 512 := by
  unfold readTo
  rw [List.length_append, readL_length h, List.length_replicate, ← Nat.add_mul, Nat.add_sub_cancel' hk]
theorem readTo_all (f : Int → List Nat) (at_ : Int) (n : Nat) : readTo f at_ n n = readL f at_ n := by simp [readTo]
theorem readTo_splice {f : Int → List Nat} (h : ∀ k, Sec (f k)) (at_ : Int) (n k : Nat) (hk : k < n) : splice (cellsOf (readTo f at_ n k)) (k * 512) (cellsOf (f (at_ + k))) = cellsOf (readTo f at_ n (k + 1)) := by
  have h1 : (readL f at_ k).length = k * 512 := readL_length h at_ k
  have h2 : (cellsOf (f (at_ + k))).length = 512 := by rw [cellsOf_length, (h _).1]
  unfold splice
  rw [h2]
  unfold readTo
  rw [readL_succ, cellsOf_append, cellsOf_append, cellsOf_append]
  rw [List.take_left' (by rw [cellsOf_length, h1]), List.append_assoc]
  congr 2
  rw [List.drop_append, List.drop_of_length_le (by rw [cellsOf_length, h1]; omega), List.nil_append, cellsOf_length, h1]
  simp only [cellsOf, List.map_replicate, List.drop_replicate]
  congr 1
  rw [show (n - k) = (n - (k + 1)) + 1 by omega]
  omega

theorem infoU8s : (Tryd.prog.info? 5).map (fun i => (i.zero, i.size, i.bytes)) = some (some (.int .u8 0), 1, 1) := by kernel_rfl
def ReadPost (w : World) (f : Int → List Nat) (at_ : Int) (n : Nat) (e : Ending) (w' : World) : Prop :=
  ∃ g, e = .returned (.tuple #[.slice (some ⟨g, 0, none⟩) (n * 512) (n * 512), .int .i64 0]) ∧ w.heap.size ≤ g ∧ Row w' g 5 (cellsOf (readL f at_ n)).toArray ∧ Below w.heap.size w w'
theorem zsec_cells : (cellsOf zsec).length = 512 := by rw [cellsOf_length]; exact Sec.zero.1

set_option maxRecDepth 100000 in
set_option maxHeartbeats 2000000 in
theorem read_ok {F : Nat → Prop} (p : Nat) (d : D) (at_ nv : Int) (n : Nat) (w : World) (h : DiskAt w F p d) (hnv : nv = n) (h0 : 0 ≤ at_) (h1 : at_ + n ≤ d.size) :
    Calls Tryd.prog 54 #[.pointer (some ⟨p, 0, none⟩), .int .i64 at_, .int .i64 nv] w (ReadPost w d.read at_ n) := by
  subst hnv
  have H := Lib.hid h
  obtain ⟨t, ht⟩ := h
  have HT := Lib.hid ht
  have hsz := ht.good.most
  have HF := Lib.hid ht.read.sec
  have hnb : (n : Int) ≤ 65536 := by omega
  have hng : decide ((n : Int) < 0) = false := by simp
  clear ht
  go_enter Tryd.func54, Tryd.ntmps54
  go_wp2_with (first
    | (go_at_call 41; refine (none_ok p d _ H.out).mono ?_; rintro e w' ⟨rfl, rfl⟩)
    | (go_at_call 67; refine (there_yes p d at_ n _ H.out h0 h1).mono ?_; rintro e w' ⟨rfl, rfl⟩)
    | (refine wpList_make_bytes ?_ 41 5 (.tmp 24) ?_ (n * 512) ?_ Tryd.underlying41 infoU8s (by omega) ?_
       · with_reducible rfl
       · with_reducible rfl
       · exact congrArg (Value.int .i64) (by omega)))
  have hr0 : Row (w.alloc (.cells (cellsOf (List.replicate (n * 512) 0)).toArray 5)) w.heap.size 5 (cellsOf (readTo d.read at_ n 0)).toArray := by
    have e : readTo d.read at_ n 0 = List.replicate (n * 512) 0 := by simp [readTo, readL]
    rw [e]
    exact Row.new _ _ _
  have hb0 : Below w.heap.size w (w.alloc (.cells (cellsOf (List.replicate (n * 512) 0)).toArray 5)) := (Below.refl _ _).alloc (Nat.le_refl _) _
  have HR0 := Lib.hid hr0
  have HB0 := Lib.hid hb0
  clear hr0 hb0
  generalize w.alloc (.cells (cellsOf (List.replicate (n * 512) 0)).toArray 5) = W0 at *
  obtain ⟨g, hg⟩ : ∃ g, w.heap.size = g := ⟨_, rfl⟩
  rw [hg]
  have HR1 : Hid (Row W0 g 5 (cellsOf (readTo d.read at_ n 0)).toArray) := Lib.hid (by rw [← hg]; exact HR0.out)
  have HG := Lib.hid hg
  clear hg HR0
  go_loopw [27] (fun v27 wr => ∃ k : Nat, k ≤ n ∧ v27 = .int .i64 k ∧ Row wr g 5 (cellsOf (readTo d.read at_ n k)).toArray ∧ Below w.heap.size w wr) (fun v27 _ => n - (intOf v27).toNat)
  case atStart => exact ⟨0, Nat.zero_le _, rfl, HR1.out, HB0.out⟩
  case round =>
    obtain ⟨k, hk, rfl, hrk, hbk⟩ := hrel
    by_cases hlt : k < n
    · have HRK := Lib.hid hrk
      have HBK := Lib.hid hbk
      have hd := HT.out.below hbk
      have hlk := hd.read.look (k := at_ + k) (WalkArith.wf_i64 (by omega))
      have hc2 := hd.c2
      have hck : ¬ n * 512 = k * 512 := by omega
      have hat : at_ + (k : Int) < 65536 := by omega
      have HS := Lib.hid (HF.out (at_ + k))
      obtain ⟨s, hs⟩ : ∃ s, d.read (at_ + k) = s := ⟨_, rfl⟩
      rw [hs] at hlk HS
      have HE := Lib.hid hs
      clear hs hrk hbk hd
      have hlz : Hid ((cellsOf s).length = 512) := Lib.hid (by rw [cellsOf_length, HS.out.1])
      go_wp2_with (first
        | (refine wpList_alloc_store ?_ ?_ 90 (.tmp 10) (.tmp 37) ?_ ?_ (cellsOf zsec).toArray (cellsOf s).toArray zeroSec ?_ ?_ ?_ ?_ ?_ ?_
           · with_reducible rfl
           · with_reducible rfl
           · with_reducible rfl
           · with_reducible rfl
           · rw [infoSec1, List.size_toArray, hlz.out]
           · rw [List.size_toArray, List.size_toArray, hlz.out, zsec_cells]
           · exact all_oneCell_toArray (cellsOf_one _)
           · rfl
           · rfl
           intro g2 w2 hg2 hr2 hb2 hs2))
      simp only [Act.put, List.setIfInBounds_toArray, List.set_cons_zero, List.set_cons_succ]
      have hr3 : Hid (w2.drew.heap[g]? = some (.cells (cellsOf (readTo d.read at_ n k)).toArray 5 (0, 0))) := Lib.hid (Row.drew (HRK.out.call hb2))
      have hb3 : Hid (Below w.heap.size w w2.drew) := Lib.hid ((HBK.out.call hb2).drew)
      have hsrc : Hid (w2.rangeAt g2 0 (cellsOf s)) := Lib.hid fun j v hv => hr2.cell (by rw [Nat.zero_add, List.getElem?_toArray]; exact hv)
      have hl1 : Hid ((cellsOf s).length = Nat.min 512 (n * 512 - k * 512)) := Lib.hid (by rw [hlz.out]; exact (Nat.min_eq_left (by omega)).symm)
      have hft : Hid (k * 512 + (cellsOf s).length ≤ (cellsOf (readTo d.read at_ n k)).length) := Lib.hid (by rw [hlz.out, cellsOf_length, readTo_length HF.out _ _ _ hk]; omega)
      clear hr2 hb2 hs2 hlk hc2
      have hw1 : IntKind.i64.wrap ((k : Int) * 512) = (k : Int) * 512 := IntWalk.i64_in _ (by omega)
      have hw2 : (0 : Int) ≤ (k : Int) * 512 := by omega
      have hw3 : (k : Int) * 512 ≤ (n : Int) * 512 := by omega
      have hw4 : ((k : Int) * 512).toNat = k * 512 := by omega
      go_region_law ((refine step_copy_splice rfl (.tmp 41) (.tmp 42) 41 41 rfl 5 Tryd.underlying41 sizeU8 (some ⟨g, k * 512, none⟩) (some ⟨g2, 0, none⟩) (n * 512 - k * 512) (n * 512 - k * 512) 512 512 (by simp [Act.eval, Act.put]) (by simp [Act.eval, Act.put]) g (k * 512) (cellsOf (readTo d.read at_ n k)) 5 hr3.out (cellsOf s) hl1.out (fun _ => ⟨rfl, _, rfl, fun j v hv => by rw [Addr.add_lit]; exact hsrc.out j v hv⟩) hft.out (cellsOf_one _) w.heap.size w hb3.out (Nat.le_of_eq HG.out) ?_); intro w3 hg3 hb4)
      have hrel : Hid (Row w3 g 5 (cellsOf (readTo d.read at_ n (k + 1))).toArray ∧ Below w.heap.size w w3) := Lib.hid ⟨by
        have := hg3.out
        rw [← HE.out, readTo_splice HF.out _ _ _ hlt] at this
        exact this, hb4⟩
      clear hw1 hw2 hw3 hw4 hr3 hb3 hsrc hl1 hft hg3 hb4
      go_wp2
      exact ⟨⟨k + 1, by omega, by go_num, hrel.out.1, hrel.out.2⟩, by simp [intOf]; omega⟩
    · obtain rfl : k = n := by omega
      rw [readTo_all] at hrk
      have HP : Hid (ReadPost w d.read at_ k (.returned (.tuple #[.slice (some ⟨g, 0, none⟩) (k * 512) (k * 512), .int .i64 0])) wr) := Lib.hid ⟨g, rfl, Nat.le_of_eq HG.out, hrk, hbk⟩
      clear hrk hbk
      go_wp2
      go_ret2
      exact HP.out

theorem read_no (v : Value) (at_ n : Int) (w : World) (h : NoDisk w v) :
    Calls Tryd.prog 54 #[v, .int .i64 at_, .int .i64 n] w fun e w' => e = .returned (.tuple #[.slice none 0 0, .int .i64 1]) ∧ w = w' := by
  have H := Lib.hid h
  clear h
  go_enter Tryd.func54, Tryd.ntmps54
  go_wp2_with (go_at_call 41; refine (none_no v _ H.out).mono ?_; rintro e w' ⟨rfl, rfl⟩)
  go_ret2
  exact ⟨rfl, rfl⟩
theorem read_range {F : Nat → Prop} (p : Nat) (d : D) (at_ n : Int) (w : World) (h : DiskAt w F p d) (hw : (Lit.int .i64 at_).wf = true) (hn : 0 ≤ n) (ht : thereB d.size at_ n = false) :
    Calls Tryd.prog 54 #[.pointer (some ⟨p, 0, none⟩), .int .i64 at_, .int .i64 n] w fun e w' => e = .returned (.tuple #[.slice none 0 0, .int .i64 4]) ∧ w = w' := by
  have H := Lib.hid h
  have hng : decide (n < 0) = false := by simp; omega
  have HT := Lib.hid ht
  clear h ht
  go_enter Tryd.func54, Tryd.ntmps54
  go_wp2_with (first
    | (go_at_call 41; refine (none_ok p d _ H.out).mono ?_; rintro e w' ⟨rfl, rfl⟩)
    | (go_at_call 67; refine (there_not p d at_ n _ H.out hw HT.out).mono ?_; rintro e w' ⟨rfl, rfl⟩))
  go_ret2
  exact ⟨rfl, rfl⟩
end Go.Proofs.YtljlkmmeedlaiaaDoor
