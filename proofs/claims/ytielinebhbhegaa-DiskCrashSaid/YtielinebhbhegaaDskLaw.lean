/- The law DiskCrash: its walk. -/
import Derived.Test.YtielinebhbhegaaDskTouch
import Derived.Test.YtielinebhbhegaaDskKnown
import Derived.Deep.DeepCutAuto
import Derived.Deep.CutRange
import Derived.BigQuiet
namespace Go.Proofs.Ytielinebhbhegaa
open Go.RowKit Go.Shelf
attribute [local go_sem] Oper.semAt_some

/-- The law's two boxes: what it is handed, its answer. -/
def lawBox (w : World) (n : Int) (Vf Vs Vp : Value) : World := (w.alloc (.cells #[.int .i64 n, Vf, Vs, Vp] 26)).alloc (.cells #[.bool false] 4)
structure Boxed (w : World) (n : Int) (Vf Vs Vp : Value) (r : Bool) (W : World) : Prop where
  arg : Row W w.heap.size 26 #[.int .i64 n, Vf, Vs, Vp]
  res : Row W (w.heap.size + 1) 4 #[.bool r]
  below : Below w.heap.size w W
theorem boxed_new (w : World) (n : Int) (Vf Vs Vp : Value) : Boxed w n Vf Vs Vp false (lawBox w n Vf Vs Vp) := by
  have h1 := Row.new w 26 #[.int .i64 n, Vf, Vs, Vp]
  have h2 := Row.new (w.alloc (.cells #[.int .i64 n, Vf, Vs, Vp] 26)) 4 #[.bool false]
  simp only [World.size_alloc] at h2
  exact ⟨h1.alloc _, h2, ((Below.refl _ _).alloc (Nat.le_refl _) _).alloc (by simp) _⟩
theorem Boxed.call {w W W' : World} {n : Int} {Vf Vs Vp : Value} {r : Bool} (h : Boxed w n Vf Vs Vp r W) (hb : Below W.heap.size W W') : Boxed w n Vf Vs Vp r W' :=
  ⟨h.arg.call hb, h.res.call hb, h.below.call hb⟩

theorem Boxed.alloc {w W : World} {n : Int} {Vf Vs Vp : Value} {r : Bool} (h : Boxed w n Vf Vs Vp r W) (o : Obj) : Boxed w n Vf Vs Vp r (W.alloc o) := h.call ((Below.refl _ _).alloc (Nat.le_refl _) o)

/-- What the law has in hand behind the pieces: its boxes, the disk, the ones, the sectors touched, the picks; the rounds' own block. -/
structure LawSt (w : World) (N : Nat) (Vf Vs Vp : Value) (Ap : Option Addr) (picks : List Int) (F : Nat → Prop) (p : Nat) (d : D) (o : Nat) (A : Option Addr) (m c gT D : Nat) (W : World) : Prop where
  box : Boxed w N Vf Vs Vp false W
  disk : DiskAt W F p d
  ones : Row W o 24 #[.slice A m c]
  cap : m ≤ c ∧ c ≤ 9223372036854775807
  one : Holds W A m 1 (ints (List.replicate m 1))
  row : Row W gT 4 (bools N fun i => decide ((i : Int) ∈ atsOf d)).toArray
  tbox : Row W (gT + 1) 35 #[.slice (some ⟨gT, 0, none⟩) N N]
  picked : Holds W Ap picks.length 1 (ints picks)
  far : w.heap.size + 1 < D
  defer : W.heap[D]? = some (.deferred (some []))
section
variable {w W W' : World} {N : Nat} {Vf Vs Vp : Value} {Ap : Option Addr} {picks : List Int} {F : Nat → Prop} {p : Nat} {d : D} {o : Nat} {A : Option Addr} {m c gT D : Nat}
theorem LawSt.call (h : LawSt w N Vf Vs Vp Ap picks F p d o A m c gT D W) (hb : Below W.heap.size W W') : LawSt w N Vf Vs Vp Ap picks F p d o A m c gT D W' :=
  ⟨h.box.call hb, h.disk.below hb, h.ones.call hb, h.cap, h.one.below hb, h.row.call hb, h.tbox.call hb, h.picked.below hb, h.far, (hb.block D (lt_of_heap h.defer)).trans h.defer⟩
theorem LawSt.stored (h : LawSt w N Vf Vs Vp Ap picks F p d o A m c gT D W) (b : Bool) :
    (W.setCell ⟨w.heap.size + 1, 0, none⟩ (.bool b)).heap[D]? = some (.deferred (some [])) ∧
    ((W.setCell ⟨w.heap.size + 1, 0, none⟩ (.bool b)).putObj D (.deferred none)).cell? ⟨w.heap.size + 1, 0, none⟩ = some (.bool b) ∧
    Below w.heap.size w ((W.setCell ⟨w.heap.size + 1, 0, none⟩ (.bool b)).putObj D (.deferred none)) := by
  have hfar := h.far
  have hs := h.box.res.set_ 0 (.bool b)
  have hc := hs.cell (i := 0) (v := .bool b) rfl
  have hD : (W.setCell ⟨w.heap.size + 1, 0, none⟩ (.bool b)).heap[D]? = some (.deferred (some [])) := (heap_setCell_other W ⟨w.heap.size + 1, 0, none⟩ D (.bool b) (by show D ≠ w.heap.size + 1; omega)).trans h.defer
  have hb : Below w.heap.size w (W.setCell ⟨w.heap.size + 1, 0, none⟩ (.bool b)) := h.box.below.setCell (p := ⟨w.heap.size + 1, 0, none⟩) (by show w.heap.size ≤ w.heap.size + 1; omega) (.bool b)
  exact ⟨hD, cell_kept hc (grownBy_putObj' _ D (.deferred none)) (fun r e => by cases e; exact ⟨_, hD, rfl⟩),
    hb.trans (belowK_b (w := w) (Nat.le_refl _) _ D _ (.deferred none) (by omega) hD rfl rfl)⟩
end

section
variable {F : Nat → Prop} {p N : Nat} {d : D} {W : World}
def LaidPost2 (W : World) (N : Nat) (f : Int → List Nat) (e : Ending) (w' : World) : Prop :=
  ∃ p', e = .returned (.tuple #[.pointer (some ⟨p', 0, none⟩), .int .i64 0]) ∧ DiskAt w' (grow noBlock W) p' (laidD N f) ∧ Below W.heap.size W w'
theorem crash_all (h : DiskAt W F p d) (hi : d.Inv) (hs : d.size = N) (hp : d.pieces.length ≤ 1000000) (A : Option Addr) (c : Nat) (h1 : Holds W A d.pieces.length 1 (ints (List.replicate d.pieces.length 1))) (hc : d.pieces.length ≤ c ∧ c ≤ 9223372036854775807) :
    Calls Try.prog 10 #[.pointer (some ⟨p, 0, none⟩), .slice A d.pieces.length c] W (LaidPost2 W N d.read) := by
  have hcr := crash_ok p d A c (List.replicate d.pieces.length 1) W h (by rw [List.length_replicate]; exact h1) (by rw [List.length_replicate]; exact hc.1) hc.2 (fun x hx => by rw [List.eq_of_mem_replicate hx]; decide) (fun x hx => by rw [List.eq_of_mem_replicate hx]; decide) hp
  rw [List.length_replicate] at hcr
  refine hcr.mono ?_
  rintro e w' ⟨p', he, hd, hb⟩
  obtain ⟨t, ht⟩ := h
  rw [crashTo_ones ht.last.sec (fun q hq => (ht.good.piece q hq).2.2) _ (Nat.le_refl _), List.take_length, ← hi.1, hs] at hd
  exact ⟨p', he, hd, hb⟩
theorem crash_bare (h : DiskAt W F p d) (hs : d.size = N) (hp : d.pieces.length ≤ 1000000) :
    Calls Try.prog 10 #[.pointer (some ⟨p, 0, none⟩), .slice none 0 0] W (LaidPost2 W N d.lasting) := by
  refine (crash_ok p d none 0 [] W h (Holds.nil _ _ _) (by simp) (by omega) (fun x hx => by simp at hx) (fun x hx => by simp at hx) hp).mono ?_
  rintro e w' ⟨p', he, hd, hb⟩
  rw [crashTo_nil, hs] at hd
  exact ⟨p', he, hd, hb⟩
theorem crash_any (h : DiskAt W F p d) (hs : d.size = N) (hp : d.pieces.length ≤ 1000000) (A : Option Addr) (c : Nat) (picks : List Int) (h1 : Holds W A picks.length 1 (ints picks)) (hc : picks.length ≤ c ∧ c ≤ 9223372036854775807) (hwf : ∀ x ∈ picks, (Lit.int .i64 x).wf = true) :
    Calls Try.prog 10 #[.pointer (some ⟨p, 0, none⟩), .slice A picks.length c] W fun e w' =>
      ∃ v x, e = .returned (.tuple #[v, .int .i64 x]) ∧ Below W.heap.size W w' ∧ (x = 2 ∨ (x = 0 ∧ noneBelow picks ∧ ∃ p', v = .pointer (some ⟨p', 0, none⟩) ∧ DiskAt w' (grow noBlock W) p' (laidD N (crashTo d.lasting d.pieces picks d.pieces.length)))) := by
  by_cases hn : noneBelow picks
  · refine (crash_ok p d A c picks W h h1 hc.1 hc.2 hn hwf hp).mono ?_
    rintro e w' ⟨p', he, hd, hb⟩
    rw [hs] at hd
    exact ⟨_, _, he, hb, .inr ⟨rfl, hn, p', rfl, hd⟩⟩
  · refine (crash_arg p d A c picks W h h1 hc.1 hc.2 hn).mono ?_
    rintro e w' ⟨he, hb⟩
    exact ⟨_, _, he, hb, .inl rfl⟩
theorem crash_still (h : DiskAt W F p d) (hs : d.size = N) (hp : d.pieces = []) {f : Int → List Nat} (hl : d.lasting = f) (A : Option Addr) (c : Nat) (picks : List Int) (h1 : Holds W A picks.length 1 (ints picks)) (hc : picks.length ≤ c ∧ c ≤ 9223372036854775807) (hwf : ∀ x ∈ picks, (Lit.int .i64 x).wf = true) (hn : noneBelow picks) :
    Calls Try.prog 10 #[.pointer (some ⟨p, 0, none⟩), .slice A picks.length c] W (LaidPost2 W N f) := by
  refine (crash_ok p d A c picks W h h1 hc.1 hc.2 hn hwf (by rw [hp]; simp)).mono ?_
  rintro e w' ⟨p', he, hd, hb⟩
  rw [hs, hp, hl] at hd
  exact ⟨p', he, hd, hb⟩
theorem write_whole {w0 w : World} {g : Nat} {f : Int → List Nat} (h : DiskAt w (grow noBlock w0) p (newD N [])) (hb : Below w0.heap.size w0 w) (hA : Bytes w (some ⟨g, 0, none⟩) (N * 512) (readL f 0 N)) (hg : g < w0.heap.size) (h2 : N ≤ 100) :
    Calls Try.prog 14 #[.pointer (some ⟨p, 0, none⟩), .int .i64 0, .slice (some ⟨g, 0, none⟩) (N * 512) (N * 512)] w fun e w' =>
      e = .returned (.int .i64 0) ∧ ∃ s, DiskAt w' (grow noBlock w0) p (wrD { newD N [] with fates := [], steps := s } 0 (readL f 0 N) N) ∧ Below w0.heap.size w0 w' := by
  obtain ⟨t, ht⟩ := h
  refine (write_ok _ p (newD N []) t 0 _ (N * 512) N (N * 512) (readL f 0 N) w ht hA (fun _ x hx hF => ?_) (Nat.le_refl _) (by omega) rfl (by omega) (by simp [newD]) (by simp [newD])).mono ?_
  · injection hx with hx
    subst hx
    rcases hF with hF | hF
    · exact hF
    · have : w0.heap.size ≤ g := hF
      omega
  · rintro e w' ⟨s, he, hd, hk⟩
    exact ⟨he, s, hd.mono (grow_grow hb.size), below_of_grow hb hk⟩
theorem sync_whole {w0 w : World} {f : Int → List Nat} {s : Int} (h : DiskAt w (grow noBlock w0) p (wrD { newD N [] with fates := [], steps := s } 0 (readL f 0 N) N)) (hb : Below w0.heap.size w0 w) (hf : ∀ k, Sec (f k)) (ho : ∀ k : Int, (k < 0 ∨ (N : Int) ≤ k) → f k = zsec) (h2 : N ≤ 100) :
    Calls Try.prog 15 #[.pointer (some ⟨p, 0, none⟩)] w fun e w' =>
      e = .returned (.int .i64 0) ∧ ∃ d', DiskAt w' (grow noBlock w0) p d' ∧ d'.size = N ∧ d'.lasting = f ∧ d'.pieces = [] ∧ Below w0.heap.size w0 w' := by
  obtain ⟨t, ht⟩ := h
  have hl : (wrD { newD N [] with fates := [], steps := s } 0 (readL f 0 N) N).pieces.length = N := by simp [wrD, newD, piecesW_length]
  refine (sync_ok _ p _ t w ht (by rw [hl]; omega)).mono ?_
  rintro e w' ⟨s', he, hd, hk⟩
  have hst : stepOf (wrD { newD N [] with fates := [], steps := s } 0 (readL f 0 N) N).fates (wrD { newD N [] with fates := [], steps := s } 0 (readL f 0 N) N).pieces.length = (N, 0) := by rw [hl]; rfl
  rw [hst] at he hd
  refine ⟨he, _, hd, rfl, ?_, ?_, below_of_grow hb hk⟩
  · show lastTo (fun _ => zsec) (wrD { newD N [] with fates := [], steps := s } 0 (readL f 0 N) N).pieces N = f
    rw [lastTo_is _ _ _ (by rw [hl]; exact Nat.le_refl _), List.take_of_length_le (by rw [hl]; exact Nat.le_refl _)]
    show applyP (fun _ => zsec) ([] ++ piecesW 0 (readL f 0 N) N) = f
    rw [List.nil_append, ← readW_is]
    exact readW_all hf N ho
  · show (wrD { newD N [] with fates := [], steps := s } 0 (readL f 0 N) N).pieces.drop N = []
    exact List.drop_of_length_le (by rw [hl]; exact Nat.le_refl _)
theorem read_all (h : DiskAt W F p d) (hs : d.size = N) :
    Calls Try.prog 11 #[.pointer (some ⟨p, 0, none⟩), .int .i64 0, .int .i64 N] W (ReadPost W d.read 0 N) :=
  read_ok p d 0 N N W h rfl (by omega) (by omega)
end

/-- What is too much, or wrong: the law then says no more. -/
def fine (n : Int) (fl : List (Int × Int)) (l : List StepV) (picks : List Int) : Prop :=
  1 ≤ n ∧ n ≤ 100 ∧ fl.length ≤ 100 ∧ kindsB fl = true ∧ l.length ≤ 60 ∧ smallSteps l ∧ picks.length ≤ 300

set_option maxRecDepth 100000 in
set_option maxHeartbeats 2000000 in
theorem crash_law (n : Int) (Af : Option Addr) (cf : Nat) (fl : List (Int × Int)) (As : Option Addr) (cs : Nat) (l : List StepV) (Ap : Option Addr) (cp : Nat) (picks : List Int) (w : World)
    (hf : Holds w Af fl.length 2 (fcs fl)) (hs : ScriptOk w As l) (hp : Holds w Ap picks.length 1 (ints picks)) (hfc : fl.length ≤ cf ∧ cf ≤ 9223372036854775807) (hpc : picks.length ≤ cp ∧ cp ≤ 9223372036854775807) (hwf : ∀ x ∈ picks, (Lit.int .i64 x).wf = true) :
    Calls Try.prog 3 #[.agg #[.int .i64 n, .slice Af fl.length cf, .slice As l.length cs, .slice Ap picks.length cp]] w fun e w' => e = .returned (.bool true) ∧ Below w.heap.size w w' := by
  have HBX := Lib.hid (boxed_new w n (.slice Af fl.length cf) (.slice As l.length cs) (.slice Ap picks.length cp))
  have hv1 := HBX.out.arg.cell (i := 0) (v := .int .i64 n) rfl
  have hv2 := HBX.out.arg.cell (i := 1) (v := .slice Af fl.length cf) rfl
  have hv3 := HBX.out.arg.cell (i := 2) (v := .slice As l.length cs) rfl
  have hv4 := HBX.out.arg.cell (i := 3) (v := .slice Ap picks.length cp) rfl
  have HF := Lib.hid (hf.below HBX.out.below)
  have HS := Lib.hid (hs.below HBX.out.below)
  have HP0 := Lib.hid hp
  have HFC := Lib.hid hfc
  have HPC := Lib.hid hpc
  have HWF := Lib.hid hwf
  clear hf hs hp hwf hfc hpc
  refine (callsIn_wide (n := 3)).1 ?_
  refine callsIn_of_wp_marks Try.func3 rfl trivial ?_ rfl
  simp only [Try.ntmps3, List.size_toArray, List.length_cons, List.length_nil, Nat.reduceAdd, Nat.reduceSub, Array.replicate_succ, Array.replicate_zero, List.push_toArray, List.append_toArray, List.nil_append, List.cons_append]
  refine wpIn_wide.2 ?_
  go_upto_region 1 with fail
  change Code.wp _ _ _ _ (lawBox w n (.slice Af fl.length cf) (.slice As l.length cs) (.slice Ap picks.length cp))
  generalize lawBox w n (.slice Af fl.length cf) (.slice As l.length cs) (.slice Ap picks.length cp) = W0 at *
  go_cut [64] from 32 to 281 (fun s wx => wx = W0 ∧ ∃ B : Bool, s = .bool B ∧ (B = false → fine n fl l picks))
  case first =>
    by_cases h1 : 100 < fl.length
    · go_wp2_with fail
      go_meet
      exact ⟨rfl, _, rfl, fun h => by first | (cases h; done) | (exfalso; simp at h; omega)⟩
    · go_wp2_with fail
      refine (vast_ok n As cs l _ HS.out).mono ?_
      rintro e w' ⟨rfl, (rfl | ⟨rfl, hl, hsm⟩)⟩
      · go_wp2_with fail
        go_meet
        exact ⟨rfl, _, rfl, fun h => by first | (cases h; done) | (exfalso; simp at h; omega)⟩
      · have HSM := Lib.hid hsm
        clear hsm
        by_cases h2 : n < 1
        · go_wp2_with fail
          go_meet
          exact ⟨rfl, _, rfl, fun h => by first | (cases h; done) | (exfalso; simp at h; omega)⟩
        · by_cases h3 : 100 < n
          · go_wp2_with fail
            go_meet
            exact ⟨rfl, _, rfl, fun h => by first | (cases h; done) | (exfalso; simp at h; omega)⟩
          · go_wp2_with fail
            refine (right_ok Af cf fl _ HF.out HFC.out.1 HFC.out.2).mono ?_
            rintro e w' ⟨rfl, rfl⟩
            obtain ⟨K, hK⟩ : ∃ K, kindsB fl = K := ⟨_, rfl⟩
            have HK := Lib.hid hK
            rw [hK]
            clear hK
            cases K
            · go_wp2_with fail
              go_meet
              exact ⟨rfl, _, rfl, fun h => by first | (cases h; done) | (exfalso; simp at h; omega)⟩
            · by_cases h4 : 300 < picks.length
              · go_wp2_with fail
                go_meet
                exact ⟨rfl, _, rfl, fun h => by first | (cases h; done) | (exfalso; simp at h; omega)⟩
              · go_wp2_with fail
                go_meet
                exact ⟨rfl, _, rfl, fun _ => ⟨by omega, by omega, by omega, HK.out, hl, HSM.out, by omega⟩⟩
  case rest =>
    obtain ⟨rfl, B, rfl, hB⟩ := hcut
    cases B
    · obtain ⟨g1, g2, g3, g4, g5, g6, g7⟩ := hB rfl
      obtain ⟨N, rfl⟩ : ∃ N : Nat, n = (N : Int) := ⟨n.toNat, by omega⟩
      have G4 := Lib.hid g4
      have G6 := Lib.hid g6
      have hfn : ∀ (q : Nat) (W : World), (binOp BinOp.eql 33 (.func (.func 36) #[] #[.pointer (some ⟨q, 0, none⟩)]) .nilFunc).run Try.prog W = .ok (.bool false) W := fun _ _ => rfl
      clear g4 g6 hB
      go_wp2_with fail
      refine (play_ok N Af cf fl As cs l wc HF.out HS.out (by omega) (by omega) g3 G4.out g5 G6.out).mono ?_
      rintro e w1 ⟨p, d, rfl, hd, hsz, hinv, hpl, hb1⟩
      have HBX1 := Lib.hid (HBX.out.call hb1)
      have HD1 := Lib.hid (hd.there.mono (G := fun k => k < w1.heap.size) fun k hk => hk.2)
      have HINV := Lib.hid hinv
      have HBX1l := Lib.hid (show w.heap.size + 1 < w1.heap.size from HBX1.out.res.lt)
      have HSZ := Lib.hid hsz
      have HF1 := Lib.hid (HF.out.below hb1)
      have hv1 := HBX1.out.arg.cell (i := 0) (v := .int .i64 N) rfl
      clear hd hb1 hinv hv2 hv3 hv4 hsz HBX HF HS
      have hal : Below w1.heap.size w1 (w1.alloc (.cells #[.slice none 0 0] 24)) := (Below.refl _ _).alloc (Nat.le_refl _) _
      have HD2 := Lib.hid (HD1.out.below hal)
      have HAL := Lib.hid hal
      clear hal
      go_wp2_with fail
      refine (pieces_ok p d _ HD2.out (by omega)).mono ?_
      rintro e w2 ⟨q, rfl, hq1, hq2, hL, hb2⟩
      have HBX2 := Lib.hid ((HBX1.out.alloc _).call hb2)
      have HO2 := Lib.hid ((Row.new w1 24 #[.slice none 0 0]).call hb2)
      have HD3 := Lib.hid (HD2.out.below hb2)
      have HF2 := Lib.hid ((HF1.out.below HAL.out).below hb2)
      have HL2 := Lib.hid hL
      have HO2k := Lib.hid HO2.out
      have HQ := Lib.hid (show w1.heap.size < q ∧ q < w2.heap.size from ⟨by have := hq1; simp at this; omega, hq2⟩)
      have hv1 := HBX2.out.arg.cell (i := 0) (v := .int .i64 N) rfl
      clear hL hq1 hq2 hb2 HBX1 HD1 HD2 HF1
      go_wp2_with (first
        | (refine wpList_make_bools ?_ 35 4 (.tmp 78) ?_ N ?_ Try.underlying35 infoBool (by omega) ?_
           · with_reducible rfl
           · with_reducible rfl
           · rfl))
      have HBX5 := Lib.hid ((HBX2.out.alloc (.cells (bools N fun _ => false).toArray 4)).alloc (.cells #[.slice (some ⟨w2.heap.size, 0, none⟩) N N] 35))
      have HO5 := Lib.hid ((HO2.out.alloc (.cells (bools N fun _ => false).toArray 4)).alloc (.cells #[.slice (some ⟨w2.heap.size, 0, none⟩) N N] 35))
      have HT5 := Lib.hid ((Row.new w2 4 (bools N fun _ => false).toArray).alloc (.cells #[.slice (some ⟨w2.heap.size, 0, none⟩) N N] 35))
      have hc5 := Row.new (w2.alloc (.cells (bools N fun _ => false).toArray 4)) 35 #[.slice (some ⟨w2.heap.size, 0, none⟩) N N]
      rw [World.size_alloc] at hc5
      have HC5 := Lib.hid hc5
      have hb5 : Below w2.heap.size w2 ((w2.alloc (.cells (bools N fun _ => false).toArray 4)).alloc (.cells #[.slice (some ⟨w2.heap.size, 0, none⟩) N N] 35)) := ((Below.refl _ _).alloc (Nat.le_refl _) _).alloc (by simp) _
      have HD5 := Lib.hid (HD3.out.below hb5)
      have HF5 := Lib.hid (HF2.out.below hb5)
      have HB5 := Lib.hid hb5
      have hs5 : w2.heap.size + 2 = ((w2.alloc (.cells (bools N fun _ => false).toArray 4)).alloc (.cells #[.slice (some ⟨w2.heap.size, 0, none⟩) N N] 35)).heap.size := by simp
      clear hc5 hb5 hv1 HBX2 HO2 HD3 HF2
      generalize (w2.alloc (.cells (bools N fun _ => false).toArray 4)).alloc (.cells #[.slice (some ⟨w2.heap.size, 0, none⟩) N N] 35) = W5 at *
      have HS5 := Lib.hid hs5
      clear hs5 hfn
      have hpin : Hid (∀ x ∈ atsOf d, 0 ≤ x ∧ x < (N : Int)) := Lib.hid fun x hx => by
        obtain ⟨y, hy, rfl⟩ := List.mem_map.1 hx
        obtain ⟨t, ht⟩ := HD5.out
        have := ht.good.piece y hy
        rw [HSZ.out] at this
        exact ⟨this.1, this.2.1⟩
      have hat : (atsOf d).length ≤ 720 := by simpa [atsOf] using hpl
      have HLT := Lib.hid (show w.heap.size + 1 < w1.heap.size from HBX1l.out)
      refine (wpIn_wide (n := 4)).1 ?_
      refine wpIn_rangeFunc_ownF rfl (by omega) (gf := 36) (lb := #[.pointer (some ⟨q, 0, none⟩)]) rfl trivial (enters_of Try.func36 (by kernel_rfl) rfl)
        (valuesK_stops q w1.heap.size w2.heap.size (atsOf d) (by omega) HQ.out.2 (by have := HQ.out.1; omega) w2 (Nat.le_refl _) HL2.out HO2k.out) (fun h k => h.trans k) (KB.turn (by have := HS5.out; omega)) HB5.out (fun _ => rfl)
        (fun pre W => TouchI W5 w1.heap.size w2.heap.size w2.heap.size N pre W) (fun c pre W => TouchX N c pre W) ?hI ?hIx ?h0 ?a1 ?assign ?body ?done ?stop
      case assign =>
        intro l' x W K hK
        simp only [oneInt]
        gi_wp2
        exact hK
      case hI => exact touch_own (by have := HS5.out; omega)
      case hIx => exact fun _ _ _ _ _ h _ _ => h
      case h0 => exact touch_start HT5.out HO5.out HC5.out
      case stop =>
        rintro D c pre W hD hpre ⟨_, x, hx, hbad⟩ hK
        have := hpin.out x (hpre.subset hx)
        omega
      case body =>
        rintro l' pre x W hI hlen
        have hl1 := HLT.out
        have hl2 := HQ.out.1
        have hl3 := HQ.out.2
        have hl5 := HS5.out
        have hA := HBX5.out.arg.kept hI.kept (by rintro (h9 | h9) <;> omega)
        have hR := HBX5.out.res.kept hI.kept (by rintro (h9 | h9) <;> omega)
        have hc0 := hA.cell (i := 0) (v := .int .i64 N) rfl
        have hr0 := hR.cell (i := 0) (v := .bool false) rfl
        have hrf := hR.free 0
        have HSZW := Lib.hid hI.kept.size
        clear hA hR
        rcases (by omega : x < 0 ∨ (N : Int) ≤ x ∨ (0 ≤ x ∧ x < N)) with hx | hx | hx
        · have HX := Lib.hid (show TouchX N .ret (pre ++ [x]) W from ⟨rfl, x, by simp, .inl hx⟩)
          clear hI
          gi_wp2
          exact ⟨KeepsOthers.setCell _ _ _, HX.out⟩
        · have HX := Lib.hid (show TouchX N .ret (pre ++ [x]) W from ⟨rfl, x, by simp, .inr hx⟩)
          have hx0 : ¬ x < 0 := by omega
          clear hI
          gi_wp2
          exact ⟨KeepsOthers.setCell _ _ _, HX.out⟩
        · obtain ⟨i, rfl⟩ : ∃ i : Nat, x = (i : Int) := ⟨x.toNat, by omega⟩
          have hi : i < N := by omega
          have hi2 : ¬ (N : Int) ≤ (i : Int) := by omega
          obtain ⟨v0, ho, hl⟩ := hI.ones
          obtain ⟨A0, c0, hv0, _, _⟩ := hl.form
          subst hv0
          have hcb := hI.box.cell (i := 0) (v := .slice (some ⟨w2.heap.size, 0, none⟩) N N) rfl
          have hcg := hI.row.cell (i := i) (bools_get N _ hi)
          have hgf := hI.row.free i
          have ho1 := ho.far (p := ⟨w2.heap.size, i, none⟩) (by show w1.heap.size ≠ w2.heap.size; omega) (.bool true)
          have hoc := ho1.cell (i := 0) (v := .slice A0 pre.length c0) rfl
          have hl1 := (hl.row hI.row (by decide) (Kept.cell _ _ i (.bool true))).below ((Below.refl _ _).alloc (Nat.le_refl _) (.cells #[.int .i64 1] 3))
          have ho2 := ho1.alloc (.cells #[.int .i64 1] 3)
          have hsrc : Hid (Source ((W.setCell ⟨w2.heap.size, i, none⟩ (.bool true)).alloc (.cells #[.int .i64 1] 3)) (some ⟨W.heap.size, 0, none⟩) 1 [.int .i64 1]) := Lib.hid (by
            have h := World.news_of_block (w := (W.setCell ⟨w2.heap.size, i, none⟩ (.bool true)).alloc (.cells #[.int .i64 1] 3)) (heap_alloc_new _ _)
            rw [show (W.setCell ⟨w2.heap.size, i, none⟩ (.bool true)).heap.size = W.heap.size by simp [World.setCell]] at h
            exact .inr ⟨_, rfl, h⟩)
          have HL1 := Lib.hid hl1
          have HO2 := Lib.hid ho2
          have HI := Lib.hid hI
          have hplen : pre.length ≤ 720 := by omega
          clear hI ho hl ho1 ho2 hl1 hx
          gi_wp2_with (first
            | (gi_at_builtin
               go_loud (
                 refine wpListIn_append_any ?_ (fun k => W5.heap.size ≤ k) (.tmp 93) (.tmp 94) 24 ?_ 3 1 8 (.int .i64 0) Try.underlying24 infoInt rfl (by decide) (.slice A0 pre.length c0) pre.length (ints (List.replicate pre.length 1)) ?_ HL1.out _ 1 1 [.int .i64 1] ?_ rfl hsrc.out ?_ (by omega) (by decide) ?_
                 · with_reducible rfl
                 · with_reducible rfl
                 · rfl
                 · rfl
                 · intro u hu; simp at hu; subst hu; rfl
                 intro v' w6 hl6 hk6
                 obtain ⟨A6, c6, rfl, _, _⟩ := hl6.form
                 have ho6 := HO2.out.kept hk6 (fun h9 => by have := h9.1; omega)
                 have ho6c := ho6.cell (i := 0) (v := .slice A0 pre.length c0) rfl
                 have ho6f := ho6.free 0
                 have HN := Lib.hid (touch_next HI.out (by omega) rfl (by omega) hl6 hk6)
                 clear hl6 hk6 ho6)))
          exact HN.out
      case done =>
        rintro D ys W hD rfl hI hK
        obtain ⟨v, ho, hl⟩ := hI.ones
        obtain ⟨A, c, hv, hc1, hc2, hh⟩ := hl.holds
        subst hv
        have hm : (atsOf d).length = d.pieces.length := by simp [atsOf]
        rw [hm] at ho hc1 hh
        have hbw : Below w.heap.size w W := HBX5.out.below.trans (hI.kept.below (Nat.le_trans (Nat.le_of_lt HBX5.out.arg.lt) (Nat.le_refl _)) (fun k hk => by
          have hl1 := HLT.out
          have hl2 := HQ.out.1
          have hl3 := HQ.out.2
          rcases hk with hk | hk <;> omega))
        have HST : Hid (LawSt w N (.slice Af fl.length cf) (.slice As l.length cs) (.slice Ap picks.length cp) Ap picks (fun k => k < w1.heap.size) p d w1.heap.size A d.pieces.length c w2.heap.size D W) := Lib.hid (by
          have hl1 := HLT.out
          have hl2 := HQ.out.1
          have hl3 := HQ.out.2
          have hl5 := HS5.out
          refine ⟨⟨HBX5.out.arg.kept hI.kept (by rintro (h9 | h9) <;> omega), HBX5.out.res.kept hI.kept (by rintro (h9 | h9) <;> omega), hbw⟩, HD5.out.kept hI.kept (fun k hk => by rintro (h9 | h9) <;> omega), ho, ⟨hc1, by unfold maxLen at hc2; omega⟩, hh, hI.row, hI.box, HP0.out.below hbw, by omega, hK⟩)
        clear hI ho hl hh hc1 hc2 hm hbw hK hD HO5 HT5 HC5 HD5 HB5 HS5 HBX5 HO2k HL2 HQ HLT HBX1l hpin HAL hat
        have hv1 := HST.out.box.arg.cell (i := 0) (v := .int .i64 N) rfl
        have hv4 := HST.out.box.arg.cell (i := 3) (v := .slice Ap picks.length cp) rfl
        have ho1 := HST.out.ones.cell (i := 0) (v := .slice A d.pieces.length c) rfl
        go_wp2_with fail
        refine (crash_all HST.out.disk HINV.out HSZ.out (by omega) A c HST.out.one HST.out.cap).mono ?_
        rintro e w3 ⟨p8, rfl, hd8, hb3⟩
        have HST3 := Lib.hid (HST.out.call hb3)
        have HD8 := Lib.hid hd8
        clear hd8 hb3 hv1 hv4 ho1 HST
        have hv4 := HST3.out.box.arg.cell (i := 3) (v := .slice Ap picks.length cp) rfl
        go_wp2_with fail
        refine (crash_bare HST3.out.disk HSZ.out (by omega)).mono ?_
        rintro e w4 ⟨p10, rfl, hd10, hb4⟩
        have HST4 := Lib.hid (HST3.out.call hb4)
        have HD8' := Lib.hid (HD8.out.below hb4)
        have HD10 := Lib.hid hd10
        clear hd10 hb4 HST3 HD8 hv4
        have hv4 := HST4.out.box.arg.cell (i := 3) (v := .slice Ap picks.length cp) rfl
        go_wp2_with fail
        refine (crash_any HST4.out.disk HSZ.out (by omega) Ap cp picks HST4.out.picked HPC.out HWF.out).mono ?_
        rintro e w5 ⟨v12, x13, rfl, hb5, hcase⟩
        have HST5 := Lib.hid (HST4.out.call hb5)
        have HD8 := Lib.hid (HD8'.out.below hb5)
        have HD10' := Lib.hid (HD10.out.below hb5)
        have HCASE := Lib.hid hcase
        clear hb5 hcase HST4 HD8' HD10 hv4
        have hv1 := HST5.out.box.arg.cell (i := 0) (v := .int .i64 N) rfl
        go_wp2_with fail
        refine (read_all HST5.out.disk HSZ.out).mono ?_
        rintro e w6 ⟨g14, rfl, hg14, hr14, hb6⟩
        have HST6 := Lib.hid (HST5.out.call hb6)
        have HD8' := Lib.hid (HD8.out.below hb6)
        have HD10 := Lib.hid (HD10'.out.below hb6)
        have HR14 := Lib.hid hr14
        have HB6 := Lib.hid hb6
        clear hb6 hr14 hg14 HST5 HD8 HD10' hv1
        have hv1 := HST6.out.box.arg.cell (i := 0) (v := .int .i64 N) rfl
        go_wp2_with fail
        refine (read_all (N := N) HD8'.out rfl).mono ?_
        rintro e w7 ⟨g16, rfl, hg16, hr16, hb7⟩
        have HST7 := Lib.hid (HST6.out.call hb7)
        have HD8 := Lib.hid (HD8'.out.below hb7)
        have HD10' := Lib.hid (HD10.out.below hb7)
        have HR14' := Lib.hid (HR14.out.call hb7)
        have HR16 := Lib.hid (show Row w7 g16 5 (cellsOf (readL d.read 0 N)).toArray from hr16)
        have HB7 := Lib.hid (HB6.out.call hb7)
        clear hb7 hr16 hg16 HST6 HD8' HD10 HR14 HB6 hv1
        have hv1 := HST7.out.box.arg.cell (i := 0) (v := .int .i64 N) rfl
        go_wp2_with fail
        refine (read_all (N := N) HD10'.out rfl).mono ?_
        rintro e w8 ⟨g18, rfl, hg18, hr18, hb8⟩
        have HST8 := Lib.hid (HST7.out.call hb8)
        have HD8' := Lib.hid (HD8.out.below hb8)
        have HR14 := Lib.hid (HR14'.out.call hb8)
        have HR16' := Lib.hid (HR16.out.call hb8)
        have HR18 := Lib.hid (show Row w8 g18 5 (cellsOf (readL d.lasting 0 N)).toArray from hr18)
        have HB8 := Lib.hid (HB7.out.call hb8)
        clear hb8 hr18 hg18 HST7 HD8 HD10' HR14' HR16 HB7 hv1
        have hsecs : (∀ k, Sec (d.read k)) ∧ (∀ k, Sec (d.lasting k)) := by
          obtain ⟨t, ht⟩ := HST8.out.disk
          exact ⟨ht.read.sec, ht.last.sec⟩
        have hl14 := readL_length hsecs.1 0 N
        have hconv14 : (convert 39 9 (.slice (some ⟨g14, 0, none⟩) (N * 512) (N * 512))).run Try.prog w8 = .ok (.string (textOf (readL d.read 0 N))) w8 :=
          run_text (Bytes.of_row' HR14.out (readL_small hsecs.1 0 N) hl14) _ _ 5 _ Try.underlying39 Try.underlying5 Try.underlying9
        have hconv16 : (convert 39 9 (.slice (some ⟨g16, 0, none⟩) (N * 512) (N * 512))).run Try.prog w8 = .ok (.string (textOf (readL d.read 0 N))) w8 :=
          run_text (Bytes.of_row' HR16'.out (readL_small hsecs.1 0 N) hl14) _ _ 5 _ Try.underlying39 Try.underlying5 Try.underlying9
        have HSEC := Lib.hid hsecs
        clear hsecs hl14 HR16'
        rcases HCASE.out with hx | ⟨hx, hnb, p12, hp12, hd12⟩
        · subst hx
          clear HCASE
          generalize textOf (readL d.read 0 N) = S at *
          go_wp2_with fail
          refine (known_ok _).mono ?_
          rintro e w9 ⟨rfl, hb9⟩
          have HST9 := Lib.hid (HST8.out.call hb9)
          have hrc := HST9.out.box.res.cell (i := 0) (v := .bool false) rfl
          have hrf := HST9.out.box.res.free 0
          obtain ⟨hz1, hz2, hz3⟩ := HST9.out.stored true
          have HZ1 := Lib.hid hz1
          have HZ2 := Lib.hid hz2
          have HZ3 := Lib.hid hz3
          clear hb9 hz1 hz2 hz3 hconv14 hconv16
          go_wp2
          refine ⟨by simp, .inl ⟨_, _, rfl, run_takeDeferred HZ1.out, ?_⟩⟩
          have hz2 := HZ2.out
          refine ⟨.bool true, ?_, rfl, HZ3.out⟩
          simp [results, Try.f3, go_sem, hz2]
        · subst hx; subst hp12
          have HD12 := Lib.hid (hd12.below HB8.out)
          have HNB := Lib.hid hnb
          clear HCASE hnb hd12 HB8
          generalize textOf (readL d.read 0 N) = S at *
          have hv1 := HST8.out.box.arg.cell (i := 0) (v := .int .i64 N) rfl
          go_wp2_with fail
          refine (read_all (N := N) HD12.out rfl).mono ?_
          rintro e w9 ⟨g20, rfl, hg20, hr20, hb9⟩
          have HST9 := Lib.hid (HST8.out.call hb9)
          have HD8 := Lib.hid (HD8'.out.below hb9)
          have HR14' := Lib.hid (HR14.out.call hb9)
          have HR18' := Lib.hid (HR18.out.call hb9)
          have HR20 := Lib.hid (show Row w9 g20 5 (cellsOf (readL (crashTo d.lasting d.pieces picks d.pieces.length) 0 N)).toArray from hr20)
          clear hb9 hr20 hg20 HST8 HD8' HR14 HR18 HD12 hv1 hconv14 hconv16
          go_wp2_with fail
          have HEQ : Hid (∀ k, k < N * 512 → decide (((k / 512 : Nat) : Int) ∈ atsOf d) = false → (readL d.lasting 0 N).getD k 0 = (readL d.read 0 N).getD k 0 ∧ (readL (crashTo d.lasting d.pieces picks d.pieces.length) 0 N).getD k 0 = (readL d.read 0 N).getD k 0) := Lib.hid fun k hk hno => by
            have hno := of_decide_eq_false hno
            have hfc : ∀ j, Sec (crashTo d.lasting d.pieces picks d.pieces.length j) := by
              obtain ⟨t, ht⟩ := HST9.out.disk
              exact crashTo_sec ht.last.sec (fun q hq => (ht.good.piece q hq).2.2) _ _
            have e1 : d.read ((k / 512 : Nat) : Int) = d.lasting ((k / 512 : Nat) : Int) := by rw [HINV.out.1, applyP_out _ _ _ hno]
            have e2 : crashTo d.lasting d.pieces picks d.pieces.length ((k / 512 : Nat) : Int) = d.lasting ((k / 512 : Nat) : Int) := crashTo_out _ _ _ _ hno _ (Nat.le_refl _)
            simp only [List.getD_eq_getElem?_getD]
            rw [readL_same HSEC.out.2 HSEC.out.1 N k hk e1.symm, readL_same hfc HSEC.out.1 N k hk (e2.trans e1.symm)]
            exact ⟨rfl, rfl⟩
          have HLEN : Hid ((readL d.read 0 N).length = N * 512 ∧ (readL d.lasting 0 N).length = N * 512 ∧ (readL (crashTo d.lasting d.pieces picks d.pieces.length) 0 N).length = N * 512) := Lib.hid ⟨readL_length HSEC.out.1 0 N, readL_length HSEC.out.2 0 N, readL_length (by
            obtain ⟨t, ht⟩ := HST9.out.disk
            exact crashTo_sec ht.last.sec (fun q hq => (ht.good.piece q hq).2.2) _ _) 0 N⟩
          go_loopw [22] (fun v22 wr => ∃ k : Nat, k ≤ N * 512 ∧ v22 = .int .i64 k ∧ Below w9.heap.size w9 wr) (fun v22 _ => N * 512 - (intOf v22).toNat)
          case atStart => exact ⟨0, Nat.zero_le _, rfl, Below.refl _ _⟩
          case round =>
            obtain ⟨k, hk, rfl, hbk⟩ := hrel
            by_cases hlt : k < N * 512
            · have hst := HST9.out.call hbk
              have hk5 : k / 512 < N := by omega
              have hcb := hst.tbox.cell (i := 0) (v := .slice (some ⟨w2.heap.size, 0, none⟩) N N) rfl
              have hct := hst.row.cell (i := k / 512) (bools_get N _ hk5)
              have h14 := (HR14'.out.call hbk).cell (i := k) (by rw [List.getElem?_toArray]; exact cellsOf_get _ (by rw [HLEN.out.1]; exact hlt))
              have h18 := (HR18'.out.call hbk).cell (i := k) (by rw [List.getElem?_toArray]; exact cellsOf_get _ (by rw [HLEN.out.2.1]; exact hlt))
              have h20 := (HR20.out.call hbk).cell (i := k) (by rw [List.getElem?_toArray]; exact cellsOf_get _ (by rw [HLEN.out.2.2]; exact hlt))
              have heq := HEQ.out k hlt
              have HBK := Lib.hid hbk
              have hk6 : (k : Int) / 512 < N := by omega
              have hk7 : 0 ≤ (k : Int) / 512 := by omega
              clear hst hbk
              generalize (readL d.read 0 N).getD k 0 = b14 at *
              generalize (readL d.lasting 0 N).getD k 0 = b18 at *
              generalize (readL (crashTo d.lasting d.pieces picks d.pieces.length) 0 N).getD k 0 = b20 at *
              generalize decide (((k / 512 : Nat) : Int) ∈ atsOf d) = T at *
              cases T
              · obtain ⟨rfl, rfl⟩ := heq rfl
                clear heq
                go_upto_region 31 with fail
                go_quiet (fail)
                go_wp2
                exact ⟨⟨k + 1, by omega, by go_num, below_drewN HBK.out nq⟩, by simp [intOf]; omega⟩
              · clear heq
                go_upto_region 31 with fail
                go_quiet (fail)
                go_wp2
                exact ⟨⟨k + 1, by omega, by go_num, below_drewN HBK.out nq⟩, by simp [intOf]; omega⟩
            · obtain rfl : k = N * 512 := by omega
              have HSTa := Lib.hid (HST9.out.call hbk)
              have HD8a := Lib.hid (HD8.out.below hbk)
              have HR14a := Lib.hid (HR14'.out.call hbk)
              have HL14 := Lib.hid HLEN.out.1
              clear hbk hk HST9 HD8 HR14' HR18' HR20 HEQ HLEN
              go_wp2_with fail
              refine (copy_ok p8 _ _ HD8a.out (by simp [laidD]) (by simp [laidD])).mono ?_
              rintro e wb ⟨p23, rfl, hd23, hbb⟩
              have HSTb := Lib.hid (HSTa.out.call hbb)
              have HD8b := Lib.hid (HD8a.out.below hbb)
              have HR14b := Lib.hid (HR14a.out.call hbb)
              have HD23 := Lib.hid hd23
              clear hd23 hbb HSTa HD8a HR14a
              have hv4 := HSTb.out.box.arg.cell (i := 3) (v := .slice Ap picks.length cp) rfl
              go_wp2_with fail
              refine (crash_still (N := N) (f := d.read) HD23.out rfl rfl rfl Ap cp picks HSTb.out.picked HPC.out HWF.out HNB.out).mono ?_
              rintro e wd ⟨p24, rfl, hd24, hbd⟩
              have HSTd := Lib.hid (HSTb.out.call hbd)
              have HD8d := Lib.hid (HD8b.out.below hbd)
              have HR14d := Lib.hid (HR14b.out.call hbd)
              have HD24 := Lib.hid hd24
              clear hd24 hbd HSTb HD8b HR14b HD23 hv4
              have hv1 := HSTd.out.box.arg.cell (i := 0) (v := .int .i64 N) rfl
              go_wp2_with fail
              refine (new_ok none 0 N [] _ (Holds.nil _ _ _) (by simp) (by omega) (by omega) rfl).mono ?_
              rintro e we ⟨p26, rfl, hd26, hbe⟩
              have HBE := Lib.hid hbe
              have HD26 := Lib.hid hd26
              have HBY : Hid (Bytes we (some ⟨g14, 0, none⟩) (N * 512) (readL d.read 0 N)) := Lib.hid (Bytes.of_row' (HR14d.out.call hbe) (readL_small HSEC.out.1 0 N) HL14.out)
              clear hbe hd26 hv1
              go_wp2_with fail
              refine (write_whole HD26.out HBE.out HBY.out HR14d.out.lt (by omega)).mono ?_
              rintro e wf ⟨rfl, s27, hd27, hbf⟩
              have HBF := Lib.hid hbf
              have HD27 := Lib.hid hd27
              clear hbf hd27 HD26 HBE HBY
              go_wp2_with fail
              refine (sync_whole HD27.out HBF.out HSEC.out.1 (fun k hk => HINV.out.2 k (by rw [HSZ.out]; exact hk)) (by omega)).mono ?_
              rintro e wg ⟨rfl, d28, hd28, hs28, hl28, hp28, hbg⟩
              have HSTg := Lib.hid (HSTd.out.call hbg)
              have HD8g := Lib.hid (HD8d.out.below hbg)
              have HD24g := Lib.hid (HD24.out.below hbg)
              have HD28 := Lib.hid (show DiskAt wg (grow noBlock wd) p26 d28 ∧ d28.size = N ∧ d28.lasting = d.read ∧ d28.pieces = [] from ⟨hd28, hs28, hl28, hp28⟩)
              clear hd28 hs28 hl28 hp28 hbg HD27 HBF HSTd HD8d HD24 HR14d
              have hv4 := HSTg.out.box.arg.cell (i := 3) (v := .slice Ap picks.length cp) rfl
              go_wp2_with fail
              refine (crash_still (N := N) (f := d.read) HD28.out.1 HD28.out.2.1 HD28.out.2.2.2 HD28.out.2.2.1 Ap cp picks HSTg.out.picked HPC.out HWF.out HNB.out).mono ?_
              rintro e wh ⟨p30, rfl, hd30, hbh⟩
              have HSTh := Lib.hid (HSTg.out.call hbh)
              have HD8h := Lib.hid (HD8g.out.below hbh)
              have HD24h := Lib.hid (HD24g.out.below hbh)
              have HD30 := Lib.hid hd30
              clear hd30 hbh hv4 HSTg HD8g HD24g HD28
              go_wp2_with fail
              refine (same_ok p24 p8 _ _ _ HD24h.out HD8h.out rfl rfl rfl rfl).mono ?_
              rintro e wi ⟨rfl, hbi⟩
              have HSTi := Lib.hid (HSTh.out.call hbi)
              have HD8i := Lib.hid (HD8h.out.below hbi)
              have HD30i := Lib.hid (HD30.out.below hbi)
              clear hbi HSTh HD8h HD24h HD30
              go_wp2_with fail
              refine (same_ok p30 p8 _ _ _ HD30i.out HD8i.out rfl rfl rfl rfl).mono ?_
              rintro e wj ⟨rfl, hbj⟩
              have HSTj := Lib.hid (HSTi.out.call hbj)
              clear hbj HSTi HD8i HD30i
              go_wp2_with fail
              refine (known_ok _).mono ?_
              rintro e wk ⟨rfl, hbk⟩
              have HSTk := Lib.hid (HSTj.out.call hbk)
              have hrc := HSTk.out.box.res.cell (i := 0) (v := .bool false) rfl
              have hrf := HSTk.out.box.res.free 0
              obtain ⟨hz1, hz2, hz3⟩ := HSTk.out.stored true
              have HZ1 := Lib.hid hz1
              have HZ2 := Lib.hid hz2
              have HZ3 := Lib.hid hz3
              clear hbk hz1 hz2 hz3 HSTj
              go_wp2
              refine ⟨by simp, .inl ⟨_, _, rfl, run_takeDeferred HZ1.out, ?_⟩⟩
              have hz2 := HZ2.out
              refine ⟨.bool true, ?_, rfl, HZ3.out⟩
              simp [results, Try.f3, go_sem, hz2]
    · clear hB hv1 hv2 hv3 hv4
      go_wp2_with fail
      refine (known_ok _).mono ?_
      rintro e w1 ⟨rfl, hb1⟩
      have HBX1 := Lib.hid (HBX.out.call hb1)
      have hrc := HBX1.out.res.cell (i := 0) (v := .bool false) rfl
      have hrf := HBX1.out.res.free 0
      have hs1 := (HBX1.out.res.set_ 0 (.bool true)).cell (i := 0) (v := .bool true) rfl
      have hbe : Below w.heap.size w (w1.setCell ⟨w.heap.size + 1, 0, none⟩ (.bool true)) := HBX1.out.below.setCell (p := ⟨w.heap.size + 1, 0, none⟩) (by show w.heap.size ≤ w.heap.size + 1; omega) (.bool true)
      have HS1 := Lib.hid hs1
      have HBE := Lib.hid hbe
      clear hb1 hs1 hbe
      go_wp2
      have hs1 := HS1.out
      refine ⟨.bool true, ?_, rfl, HBE.out⟩
      simp [results, Try.f3, go_sem, hs1]
end Go.Proofs.Ytielinebhbhegaa
