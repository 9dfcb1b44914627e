/- Layer 3: numbers in bytes, the lowest byte first; bytes laid over bytes. Of no program. -/
import Derived.Test.YtljlkmmeedlaiaaDoorPt01
import Derived.Laws.Bits64
import Derived.Laws.Bits64b
import Derived.Test.YtljlkmmeedlaiaaDoorRows
import Derived.WalkKit
import Derived.WalkSpells
import Derived.WalkLawsBesides
import Derived.Outline
import Derived.Lib.Hide
import Derived.WalkMore
namespace Go.Proofs.YtljlkmmeedlaiaaDoor
open Go.RowKit

def le : List Nat → Nat
  | [] => 0
  | x :: r => x + 256 * le r
def leB : Nat → Nat → List Nat
  | 0, _ => []
  | k + 1, v => v % 256 :: leB k (v / 256)
theorem leB_length (k v : Nat) : (leB k v).length = k := by
  induction k generalizing v with
  | zero => rfl
  | succ k ih => simp [leB, ih]
theorem leB_small (k v : Nat) : Small (leB k v) := by
  induction k generalizing v with
  | zero => intro x hx; cases hx
  | succ k ih =>
    intro x hx
    rcases List.mem_cons.1 hx with h | h
    · omega
    · exact ih _ x h
theorem le_leB (k v : Nat) : le (leB k v) = v % 256 ^ k := by
  induction k generalizing v with
  | zero => simp [leB, le, Nat.mod_one]
  | succ k ih =>
    show v % 256 + 256 * le (leB k (v / 256)) = _
    rw [ih, Nat.pow_succ, Nat.mul_comm (256 ^ k) 256, Nat.mod_mul]
theorem le_append (a b : List Nat) : le (a ++ b) = le a + 256 ^ a.length * le b := by
  induction a with
  | nil => simp [le]
  | cons x a ih =>
    show x + 256 * le (a ++ b) = x + 256 * le a + _
    rw [ih, List.length_cons, Nat.pow_succ, Nat.mul_add, Nat.mul_comm (256 ^ a.length) 256, Nat.mul_assoc, Nat.add_assoc]
theorem le_lt {l : List Nat} (h : Small l) : le l < 256 ^ l.length := by
  induction l with
  | nil => simp [le]
  | cons x l ih =>
    have h1 := ih (fun y hy => h y (by simp [hy]))
    have h2 := h x (by simp)
    show x + 256 * le l < 256 ^ (l.length + 1)
    rw [Nat.pow_succ]
    omega
theorem le_inj {a b : List Nat} (ha : Small a) (hb : Small b) (hl : a.length = b.length) (h : le a = le b) : a = b := by
  induction a generalizing b with
  | nil => cases b with
    | nil => rfl
    | cons y b => simp at hl
  | cons x a ih => cases b with
    | nil => simp at hl
    | cons y b =>
      have h1 := ha x (by simp)
      have h2 := hb y (by simp)
      change x + 256 * le a = y + 256 * le b at h
      have h3 : a = b := ih (fun z hz => ha z (List.mem_cons_of_mem _ hz)) (fun z hz => hb z (List.mem_cons_of_mem _ hz)) (by simpa using hl) (by omega)
      rw [h3, show x = y by omega]
theorem leB_le {l : List Nat} (h : Small l) : leB l.length (le l) = l :=
  le_inj (leB_small _ _) h (leB_length _ _) (by rw [le_leB, Nat.mod_eq_of_lt (le_lt h)])
theorem le_take_succ (l : List Nat) (k : Nat) (h : k < l.length) : le (l.take (k + 1)) = le (l.take k) + 256 ^ k * l.getD k 0 := by
  rw [take_succ_getD l k h, le_append, List.length_take, Nat.min_eq_left (Nat.le_of_lt h)]
  simp [le]
theorem leB_succ (k v : Nat) : leB (k + 1) v = leB k v ++ [v / 256 ^ k % 256] := by
  induction k generalizing v with
  | zero => simp [leB]
  | succ k ih =>
    show v % 256 :: leB (k + 1) (v / 256) = v % 256 :: (leB k (v / 256) ++ _)
    rw [ih, Nat.div_div_eq_div_mul, Nat.pow_succ, Nat.mul_comm 256]
theorem le_or (v x k : Nat) (hv : v < 256 ^ k) : v ||| 256 ^ k * x = v + 256 ^ k * x := by
  rw [show 256 ^ k = 2 ^ (8 * k) by rw [Nat.pow_mul]] at *
  rw [Nat.or_comm, Nat.add_comm, ← Nat.two_pow_add_eq_or_of_lt hv]
theorem p256_le {k : Nat} (h : k ≤ 8) : 256 ^ k ≤ 18446744073709551616 := Nat.le_trans (Nat.pow_le_pow_right (by decide) h) (by decide)

/-- Bytes laid over bytes, from a place on. -/
def over (cur : List Nat) (off : Nat) (xs : List Nat) : List Nat := cur.take off ++ (xs ++ cur.drop (off + xs.length))
theorem over_length {cur xs : List Nat} {off : Nat} (h : off + xs.length ≤ cur.length) : (over cur off xs).length = cur.length := by
  simp [over]; omega
theorem over_small {cur xs : List Nat} {off : Nat} (hc : Small cur) (hx : Small xs) : Small (over cur off xs) := (hc.take off).append (hx.append (hc.drop _))
theorem over_nil {cur : List Nat} {off : Nat} : over cur off [] = cur := by simp [over]
theorem over_snoc (cur xs : List Nat) (off x : Nat) (h : off + xs.length < cur.length) : (over cur off xs).set (off + xs.length) x = over cur off (xs ++ [x]) := by
  unfold over
  have h1 : (cur.take off ++ xs).length = off + xs.length := by simp; omega
  rw [← List.append_assoc, List.set_append_right _ _ (by omega), h1, Nat.sub_self, List.drop_eq_getElem_cons h, List.set_cons_zero]
  simp [Nat.add_assoc]
theorem over_over (cur xs ys : List Nat) (off : Nat) (h : off + xs.length + ys.length ≤ cur.length) : over (over cur off xs) (off + xs.length) ys = over cur off (xs ++ ys) := by
  have h1 : (cur.take off ++ xs).length = off + xs.length := by simp; omega
  have h2 : (over cur off xs).take (off + xs.length) = cur.take off ++ xs := by
    unfold over
    rw [← List.append_assoc, ← h1, List.take_left]
  have h3 : (over cur off xs).drop (off + xs.length + ys.length) = cur.drop (off + xs.length + ys.length) := by
    unfold over
    rw [← List.append_assoc, ← h1, ← List.drop_drop, List.drop_left, List.drop_drop]
  show (over cur off xs).take (off + xs.length) ++ (ys ++ (over cur off xs).drop (off + xs.length + ys.length)) = _
  rw [h2, h3]
  simp [over, Nat.add_assoc]
theorem over_drop (cur xs : List Nat) (off : Nat) (h : off + xs.length ≤ cur.length) : (over cur off xs).drop (off + xs.length) = cur.drop (off + xs.length) := by
  unfold over
  have h1 : (cur.take off ++ xs).length = off + xs.length := by simp; omega
  rw [← List.append_assoc, ← h1, List.drop_left]
end Go.Proofs.YtljlkmmeedlaiaaDoor
/- Layer 3: the closures that take numbers off bytes, and lay them on bytes. -/
namespace Go.Proofs.YtljlkmmeedlaiaaDoor
open Go.RowKit

/-- A slice of bytes that is not at its end, as a variable has it. -/
abbrev slc (g off n c : Nat) : Value := .slice (some ⟨g, off, none⟩) n c
theorem taker_ok (A : Option Addr) (n c : Nat) (w : World) :
    Calls Tryd.prog 72 #[.slice A n c] w fun e w' => e = .returned (.func (.func 77) #[] #[.pointer (some ⟨w.heap.size, 0, none⟩)]) ∧ w' = w.alloc (.cells #[.slice A n c] 41) := by
  go_enter Tryd.func72, Tryd.ntmps72
  go_wp2
  go_ret
  exact ⟨rfl, rfl⟩
theorem putter_ok (A : Option Addr) (n c : Nat) (w : World) :
    Calls Tryd.prog 51 #[.slice A n c] w fun e w' => e = .returned (.func (.func 66) #[] #[.pointer (some ⟨w.heap.size, 0, none⟩)]) ∧ w' = w.alloc (.cells #[.slice A n c] 41) := by
  go_enter Tryd.func51, Tryd.ntmps51
  go_wp2
  go_ret
  exact ⟨rfl, rfl⟩

theorem take_step (a x i : Nat) (h : a + 256 ^ i * x < 18446744073709551616) (hp : a ||| 256 ^ i * x = a + 256 ^ i * x) :
    bits BinOp.or IntKind.u64 (a : Int) (IntKind.u64.wrap ((x : Int) * 2 ^ (8 * i))) = ((a + 256 ^ i * x : Nat) : Int) := by
  have e : (x : Int) * 2 ^ (8 * i) = ((256 ^ i * x : Nat) : Int) := by
    rw [show (256 : Nat) ^ i = 2 ^ (8 * i) by rw [Nat.pow_mul]]
    simp [Int.mul_comm]
  rw [e, IntKind.wrap_u64, Int.emod_eq_of_lt (by omega) (by omega), bits_or_u64_nat _ _ (by omega) (by omega), hp]

/-- What is left in the variable of a taker. -/
def LeftAt (w : World) (q g off n c k : Nat) (w' : World) : Prop := ∃ v, w' = w.setCell ⟨q, 0, none⟩ v ∧ (k < c → v = slc g (off + k) (n - k) (c - k))
set_option maxHeartbeats 1000000 in
theorem take_ok (q g off n c k : Nat) (l : List Nat) (w : World) (hq : Row w q 41 #[slc g off n c]) (hA : Bytes w (some ⟨g, off, none⟩) n l) (hk : k ≤ n) (hk8 : k ≤ 8) (hn : n ≤ c) (hc : c ≤ maxLen) :
    Calls Tryd.prog 77 #[.int .i64 k, .pointer (some ⟨q, 0, none⟩)] w fun e w' => e = .returned (.int .u64 (le (l.take k) : Nat)) ∧ LeftAt w q g off n c k w' := by
  have h0 := hq.cell (i := 0) (v := slc g off n c) rfl
  have hf := hq.free 0
  have hlen := hA.len
  have HA := Lib.hid hA
  unfold maxLen at hc
  clear hA hq
  go_enter Tryd.func77, Tryd.ntmps77
  go_wp2_with fail
  go_loop [4, 7] (fun v4 v7 => ∃ i : Nat, i ≤ k ∧ v7 = .int .i64 i ∧ v4 = .int .u64 (le (l.take i) : Nat)) (fun _ v7 => k - (intOf v7).toNat)
  case atStart => exact ⟨0, Nat.zero_le _, rfl, rfl⟩
  case round =>
    obtain ⟨i, hi, rfl, rfl⟩ := hrel
    by_cases hlt : i < k
    · obtain ⟨b, off', e1, _, hcell⟩ := HA.out.2.2 (by omega)
      injection e1 with e1
      injection e1 with e1 e2
      subst e1
      subst e2
      have hci := hcell i (by omega)
      have hx := HA.out.byte i
      have hsm : le (l.take i) < 256 ^ i := by
        have := le_lt (HA.out.take (k := i) (by omega)).lt
        rwa [List.length_take, Nat.min_eq_left (by omega)] at this
      have h64 : le (l.take (i + 1)) < 18446744073709551616 := by
        have := le_lt (HA.out.take (k := i + 1) (by omega)).lt
        rw [List.length_take, Nat.min_eq_left (by omega)] at this
        exact Nat.lt_of_lt_of_le this (p256_le (by omega))
      have hstep := le_take_succ l i (by omega)
      have HS := Lib.hid hstep
      have hp := le_or (le (l.take i)) (l.getD i 0) i hsm
      generalize l.getD i 0 = x at *
      have hbits := take_step (le (l.take i)) x i (by omega) hp
      go_wp2
      go_round
      case rel => exact ⟨i + 1, by omega, by go_num, by rw [HS.out]; simp⟩
      case measure => simp [intOf]; omega
    · obtain rfl : i = k := by omega
      by_cases hkc : i < c
      · go_wp2
        go_ret
        exact ⟨rfl, _, rfl, fun _ => rfl⟩
      · go_wp2
        go_ret
        exact ⟨rfl, _, rfl, fun h => absurd h hkc⟩

/-- What a putter does: the bytes laid, the variable turned. -/
structure Laid (w : World) (q g off n c k : Nat) (cur xs : List Nat) (w' : World) : Prop where
  row : Row w' g 5 (cellsOf (over cur off xs)).toArray
  var : ∃ v, Row w' q 41 #[v] ∧ (k < c → v = slc g (off + k) (n - k) (c - k))
  kept : Kept (fun x => x = g ∨ x = q) w w'
set_option maxHeartbeats 1000000 in
theorem put_ok (q g off n c k v : Nat) (cur : List Nat) (w : World) (hq : Row w q 41 #[slc g off n c]) (hg : Row w g 5 (cellsOf cur).toArray) (hqg : q ≠ g) (hfit : off + n ≤ cur.length) (hk : k ≤ n) (hk8 : k ≤ 8) (hn : n ≤ c) (hc : c ≤ maxLen) :
    Calls Tryd.prog 66 #[.int .u64 v, .int .i64 k, .pointer (some ⟨q, 0, none⟩)] w fun e w' => (∃ x, e = .returned x) ∧ Laid w q g off n c k cur (leB k v) w' := by
  have HQ := Lib.hid hq
  have HG := Lib.hid hg
  unfold maxLen at hc
  clear hq hg
  go_enter Tryd.func66, Tryd.ntmps66
  go_wp2_with fail
  go_loopw [7] (fun v7 wr => ∃ i : Nat, i ≤ k ∧ v7 = .int .i64 i ∧ Row wr g 5 (cellsOf (over cur off (leB i v))).toArray ∧ Kept (fun x => x = g) w wr) (fun v7 _ => k - (intOf v7).toNat)
  case atStart => exact ⟨0, Nat.zero_le _, rfl, by rw [show leB 0 v = [] from rfl, over_nil]; exact HG.out, Kept.refl _ _⟩
  case round =>
    obtain ⟨i, hi, rfl, hrow, hkp⟩ := hrel
    have h0 := (HQ.out.kept hkp hqg).cell (i := 0) (v := slc g off n c) rfl
    have hf := (HQ.out.kept hkp hqg).free 0
    by_cases hlt : i < k
    · have hfg := hrow.free (off + i)
      have hcell : wr.cell? ⟨g, off + i, none⟩ = some (.int .u8 ((over cur off (leB i v)).getD (off + i) 0 : Nat)) := hrow.cell (by
        rw [List.getElem?_toArray]
        exact cellsOf_get _ (by rw [over_length (by rw [leB_length]; omega)]; omega))
      generalize (over cur off (leB i v)).getD (off + i) 0 = old at *
      have HROW := Lib.hid hrow
      have HKP := Lib.hid hkp
      clear hrow hkp
      have HV : Hid (Value.int .u8 ((v : Int) / 2 ^ (8 * i) % 256) = .int .u8 ((v / 256 ^ i % 256 : Nat) : Int)) := Lib.hid (by
        congr 1
        rw [show (256 : Nat) ^ i = 2 ^ (8 * i) by rw [Nat.pow_mul]]
        simp)
      go_wp2
      go_region
      go_wp2
      go_round
      case rel =>
        refine ⟨i + 1, by omega, by go_num, ?_, HKP.out.trans' ((Kept.cell _ _ _ _).drew)⟩
        rw [HV.out]
        have h9 := (HROW.out.set_ (off + i) (.int .u8 ((v / 256 ^ i % 256 : Nat) : Int))).drew
        have h8 := over_snoc cur (leB i v) off (v / 256 ^ i % 256) (by rw [leB_length]; omega)
        rw [leB_length] at h8
        rw [cellsOf_set, h8, ← leB_succ] at h9
        exact h9
      case measure => simp [intOf]; omega
    · obtain rfl : i = k := by omega
      have HROW := Lib.hid hrow
      have HKP := Lib.hid hkp
      clear hrow hkp
      have key : ∀ x, (i < c → x = slc g (off + i) (n - i) (c - i)) → Laid w q g off n c i cur (leB i v) (wr.setCell ⟨q, 0, none⟩ x) := fun x hx =>
        ⟨HROW.out.far (fun e => hqg e.symm) _, ⟨x, (HQ.out.kept HKP.out hqg).set_ 0 x, hx⟩, (HKP.out.mono fun _ _ e => .inl e).trans' ((Kept.cell _ _ _ _).mono fun _ _ e => .inr e)⟩
      have KEY := Lib.hid key
      clear key
      by_cases hkc : i < c
      · go_wp2
        go_end0
        exact ⟨⟨_, rfl⟩, KEY.out _ fun _ => rfl⟩
      · go_wp2
        go_end0
        exact ⟨⟨_, rfl⟩, KEY.out _ fun h => absurd h hkc⟩
end Go.Proofs.YtljlkmmeedlaiaaDoor
/- Sectors and pieces as values; maps from numbers to sectors. -/
namespace Go.Proofs.YtljlkmmeedlaiaaDoor
open Go.RowKit Go.MapKept Go.Maps

/-- The bytes of a sector. -/
def Sec (l : List Nat) : Prop := l.length = 512 ∧ Small l
def zsec : List Nat := List.replicate 512 0
theorem Sec.zero : Sec zsec := ⟨List.length_replicate, Small.zeros 512⟩
/-- A sector's value; a piece's. -/
def secV (l : List Nat) : Value := .agg (cellsOf l).toArray
def pieceCells (a : Int) (l : List Nat) : List Value := .int .i64 a :: cellsOf l
def pieceV (a : Int) (l : List Nat) : Value := .agg (pieceCells a l).toArray
theorem pieceCells_length {a : Int} {l : List Nat} (h : Sec l) : (pieceCells a l).length = 513 := by simp [pieceCells, cellsOf_length, h.1]
theorem pieceCells_one (a : Int) (l : List Nat) : ∀ v ∈ pieceCells a l, v.oneCell' = true := by
  intro v hv
  simp only [pieceCells, List.mem_cons] at hv
  rcases hv with rfl | hv
  · rfl
  · exact cellsOf_one l v hv
theorem secV_inj {a b : List Nat} (h : secV a = secV b) : a = b := by
  have h1 : (cellsOf a).toArray = (cellsOf b).toArray := by injection h
  exact cellsOf_inj (by simpa using h1)

theorem zeroSec (w : World) : (zeroValue 90).run Tryd.prog w = .ok (secV zsec) w := by kernel_rfl
theorem zeroSecC : Value.agg Tryd.zeroCells90 = secV zsec := by kernel_rfl
theorem zeroPiece (w : World) : (zeroValue 93).run Tryd.prog w = .ok (pieceV 0 zsec) w := by kernel_rfl
theorem infoSec : (Tryd.prog.info? 90).map (fun i => (i.size, i.bytes)) = some (512, 512) := by kernel_rfl
theorem infoPiece : (Tryd.prog.info? 93).map (fun i => (i.zero, i.size, i.bytes)) = some (some (pieceV 0 zsec), 513, 520) := by kernel_rfl
theorem infoFate : (Tryd.prog.info? 75).map (fun i => (i.zero, i.size, i.bytes)) = some (some (.agg #[.int .i64 0, .int .i64 0]), 2, 16) := by kernel_rfl
theorem pieceV_size : (pieceV 0 zsec).cells.size = 513 := by kernel_rfl
theorem keyLaw : Keyed Tryd.prog 3 := int_keyed Tryd.underlying3

/-- Block b is a map from numbers to sectors, in which f is found (noughts where nothing is). -/
def IsMap (w : World) (b : Nat) (f : Int → List Nat) : Prop :=
  ∃ es clock, w.heap[b]? = some (.map es clock) ∧ Stamped es clock ∧ (∀ x ∈ es.toList, ∃ k, (Lit.int .i64 k).wf = true ∧ x.key = .int .i64 k ∧ x.val = secV (f k)) ∧
    (∀ k, (∀ x ∈ es.toList, x.key ≠ .int .i64 k) → f k = zsec) ∧ ∀ k, Sec (f k)
def upd (f : Int → List Nat) (k : Int) (l : List Nat) (j : Int) : List Nat := if j = k then l else f j

section
variable {F : Nat → Prop} {w w' : World} {b : Nat} {f : Int → List Nat}
theorem IsMap.lt (h : IsMap w b f) : b < w.heap.size := by obtain ⟨es, clock, hb, _⟩ := h; exact lt_of_heap hb
theorem IsMap.sec (h : IsMap w b f) (k : Int) : Sec (f k) := by obtain ⟨es, clock, _, _, _, _, hs⟩ := h; exact hs k
theorem IsMap.heap (h : IsMap w b f) (hk : ∀ o, w.heap[b]? = some o → w'.heap[b]? = some o) : IsMap w' b f := by
  obtain ⟨es, clock, hb, r⟩ := h; exact ⟨es, clock, hk _ hb, r⟩
theorem IsMap.kept (h : IsMap w b f) (hk : Kept F w w') (hb : ¬ F b) : IsMap w' b f := h.heap fun _ ho => hk.heap ho hb
theorem IsMap.below (h : IsMap w b f) (hb : Below w.heap.size w w') : IsMap w' b f := h.heap fun _ ho => (hb.block b (lt_of_heap ho)).trans ho
theorem IsMap.drewN (h : IsMap w b f) (n : Nat) : IsMap (w.drewN n) b f := h
theorem IsMap.row {e' : TypeId} {cs' : Array Value} {p : Nat} (h : IsMap w b f) (hp : w.heap[p]? = some (.cells cs' e' (0, 0))) (hk : Kept (· = p) w w') : IsMap w' b f :=
  h.kept hk fun e => by subst e; obtain ⟨es, clock, hb, _⟩ := h; rw [hp] at hb; cases hb
theorem Lies.map {e : TypeId} {size n : Nat} {v : Value} {xs : List Value} (h : Lies w F e size v n xs) (hm : IsMap w b f) (hk : Kept (· = b) w w') : Lies w' F e size v n xs :=
  h.same fun g cur _ hh => hk.heap hh fun hg => by subst hg; obtain ⟨es, clock, hb, _⟩ := hm; rw [hb] at hh; cases hh
theorem IsMap.new (w : World) : IsMap (w.alloc (.map #[] 0)) w.heap.size (fun _ => zsec) :=
  ⟨#[], 0, heap_alloc_new w _, stamped_empty 0, by simp, fun _ _ => rfl, fun _ => Sec.zero⟩

theorem IsMap.look (h : IsMap w b f) {k : Int} (hk : (Lit.int .i64 k).wf = true) : (Instr.lookup 71 (.map (some b)) (.int .i64 k) false).run Tryd.prog w = .ok (secV (f k)) w := by
  obtain ⟨es, clock, hb, hst, hes, hz, _⟩ := h
  have hkey := keyOf_int_mk Tryd.underlying3 hk
  have hks : ∀ x ∈ es.toList, ∃ l, keyOf Tryd.prog 3 x.key = some l := fun x hx => by
    obtain ⟨j, hj, e, _⟩ := hes x hx
    exact ⟨_, by rw [e]; exact keyOf_int_mk Tryd.underlying3 hj⟩
  rcases keyLaw.find w hkey es.toList hks with ⟨h1, h2⟩ | ⟨j, e0, h1, h2, h3⟩
  · rw [hz k h2]
    simp [Instr.lookup, run_underlying Tryd.underlying71, MapKept.run_getObj_map hb, keyLaw.check w _ hkey, h1, zeroSecC, Result.andThen]
  · obtain ⟨k', hk', e1, e2⟩ := hes e0 (List.mem_of_getElem? h2)
    rw [h3] at e1
    have e9 : k = k' := (Value.int.inj e1).2
    subst e9
    simp [Instr.lookup, run_underlying Tryd.underlying71, MapKept.run_getObj_map hb, keyLaw.check w _ hkey, h1, e2, Result.andThen]

theorem IsMap.put (h : IsMap w b f) {k : Int} (hk : (Lit.int .i64 k).wf = true) {l : List Nat} (hl : Sec l) :
    ∃ w', (Instr.mapUpdate 71 (.map (some b)) (.int .i64 k) (secV l)).run Tryd.prog w = .ok () w' ∧ IsMap w' b (upd f k l) ∧ Kept (· = b) w w' := by
  obtain ⟨es, clock, hb, hst, hes, hz, hsec⟩ := h
  have hkey := keyOf_int_mk Tryd.underlying3 hk
  have hks : ∀ x ∈ es.toList, ∃ l, keyOf Tryd.prog 3 x.key = some l := fun x hx => by
    obtain ⟨j, hj, e, _⟩ := hes x hx
    exact ⟨_, by rw [e]; exact keyOf_int_mk Tryd.underlying3 hj⟩
  have hsec' : ∀ j, Sec (upd f k l j) := fun j => by by_cases e : j = k <;> simp [upd, e, hl, hsec]
  have hkept : ∀ o : Obj, Kept (· = b) w { w with heap := w.heap.setIfInBounds b o } := fun o => ⟨rfl, rfl, rfl, by simp, fun i hi hne => by
    show (w.heap.setIfInBounds b o)[i]? = _
    rw [Array.getElem?_setIfInBounds, if_neg (fun e => hne e.symm)]⟩
  have hnew : ∀ o : Obj, ({ w with heap := w.heap.setIfInBounds b o } : World).heap[b]? = some o := fun o => by
    show (w.heap.setIfInBounds b o)[b]? = _
    rw [Array.getElem?_setIfInBounds, if_pos rfl, if_pos (lt_of_heap hb)]
  rcases keyLaw.find w hkey es.toList hks with ⟨h1, h2⟩ | ⟨j, e0, h1, h2, h3⟩
  · refine ⟨_, by simp [Instr.mapUpdate, run_underlying Tryd.underlying71, MapKept.run_getObj_map hb, keyLaw.check w false hkey, h1, MapKept.run_setObj_map _ hb, Result.andThen]; rfl, ?_, hkept _⟩
    refine ⟨_, _, hnew _, stamped_push hst h2, ?_, ?_, hsec'⟩
    · intro x hx
      simp only [Array.toList_push, List.mem_append, List.mem_singleton] at hx
      rcases hx with hx | rfl
      · obtain ⟨i, hi, e1, e2⟩ := hes x hx
        refine ⟨i, hi, e1, ?_⟩
        rw [e2, upd, if_neg]
        intro e
        exact h2 x hx (by rw [e1, e])
      · exact ⟨k, hk, rfl, by simp [upd]⟩
    · intro i hi
      have hne : i ≠ k := fun e => hi ⟨.int .i64 k, secV l, clock⟩ (by simp) (by rw [e])
      rw [upd, if_neg hne]
      exact hz i fun x hx => hi x (by simp [hx])
  · have hj : es[j]? = some e0 := by simpa using h2
    have hlist : (es.modify j (fun e' => { e' with key := .int .i64 k, val := secV l })).toList = es.toList.set j { e0 with key := .int .i64 k, val := secV l } := by
      rw [Array.toList_modify, ChangeMaps.modify_eq_set _ _ _ _ h2]
    refine ⟨_, by simp [Instr.mapUpdate, run_underlying Tryd.underlying71, MapKept.run_getObj_map hb, keyLaw.check w false hkey, h1, hj, h3, keyLaw.stays w hkey, MapKept.run_setObj_map _ hb, Result.andThen]; rfl, ?_, hkept _⟩
    refine ⟨_, _, hnew _, stamped_modify hst _ _ (fun _ _ => rfl) (fun e' _ he' => by rw [hj] at he'; cases he'; exact h3.symm), ?_, ?_, hsec'⟩
    · intro x hx
      rw [hlist] at hx
      obtain ⟨i, hi, ex⟩ := List.getElem_of_mem hx
      rw [List.getElem_set] at ex
      split at ex
      · subst ex; exact ⟨k, hk, rfl, by simp [upd]⟩
      · rename_i hne
        have hi' : i < es.toList.length := by simpa using hi
        have hxm : x ∈ es.toList := ex ▸ List.getElem_mem hi'
        obtain ⟨i', hi2, e1, e2⟩ := hes x hxm
        refine ⟨i', hi2, e1, ?_⟩
        rw [e2, upd, if_neg]
        intro e
        have hnd := hst.2.2
        have hjl : j < es.toList.length := (List.getElem?_eq_some_iff.1 h2).1
        have e3 : (es.toList.map (·.key))[i]'(by simpa using hi') = (es.toList.map (·.key))[j]'(by simpa using hjl) := by
          simp only [List.getElem_map]
          rw [ex, e1, e, ← h3, ← (List.getElem?_eq_some_iff.1 h2).2]
        have hpw := List.pairwise_iff_getElem.1 hnd
        rcases Nat.lt_or_gt_of_ne hne with h4 | h4
        · exact hpw j i (by simpa using hjl) (by simpa using hi') h4 e3.symm
        · exact hpw i j (by simpa using hi') (by simpa using hjl) h4 e3
    · intro i hi
      have hkeys : ∀ x ∈ es.toList, x.key ≠ .int .i64 i := by
        intro x hx e
        have hm : x.key ∈ (es.modify j (fun e' => { e' with key := .int .i64 k, val := secV l })).toList.map (·.key) := by
          rw [modify_keys j _ (fun e' he' => by rw [hj] at he'; cases he'; exact h3.symm)]
          exact List.mem_map_of_mem hx
        obtain ⟨y, hy, ey⟩ := List.mem_map.1 hm
        exact hi y hy (ey.trans e)
      have hne : i ≠ k := fun e => hkeys e0 (List.mem_of_getElem? h2) (by rw [h3, e])
      rw [upd, if_neg hne]
      exact hz i hkeys
end

/-- A store into such a map, at an operation. -/
theorem wp_put {o : Oper} {a : Act} {w : World} {K : Act → World → Prop} {Q : Exit → Act → World → Prop} (m x v : Operand) (hop : o.op = .mapUpdate 71 m x v) (b : Nat) (f : Int → List Nat) (hown : IsMap w b f)
    (k : Int) (l : List Nat) (hm : a.eval m = .map (some b)) (hx : a.eval x = .int .i64 k) (hv : a.eval v = secV l) (hk : (Lit.int .i64 k).wf = true) (hl : Sec l)
    (h : ∀ w', IsMap w' b (upd f k l) → Kept (· = b) w w' → K (a.put o.dst undef) w') : o.wp Tryd.prog a w K Q := by
  obtain ⟨w', hr, h1, h2⟩ := hown.put hk hl
  unfold Oper.wp
  simp [execOp, hop, hm, hx, hv, hr, Result.andThen]
  exact h w' h1 h2
end Go.Proofs.YtljlkmmeedlaiaaDoor
/- Layer 2: a disk as the chapter has it, and how it lies in memory. The small functions. -/
namespace Go.Proofs.YtljlkmmeedlaiaaDoor
open Go.RowKit

structure D where
  size : Nat
  lasting : Int → List Nat
  read : Int → List Nat
  pieces : List (Int × List Nat)
  fates : List (Int × Int)
  steps : Int

def pcs (l : List (Int × List Nat)) : List Value := l.flatMap fun p => pieceCells p.1 p.2
def fcs (l : List (Int × Int)) : List Value := l.flatMap fun p => [.int .i64 p.1, .int .i64 p.2]
theorem pcs_append (a b : List (Int × List Nat)) : pcs (a ++ b) = pcs a ++ pcs b := by simp [pcs]
theorem fcs_append (a b : List (Int × Int)) : fcs (a ++ b) = fcs a ++ fcs b := by simp [fcs]

/-- A disk that is one. -/
structure D.Good (d : D) : Prop where
  pos : 1 ≤ d.size
  most : d.size ≤ 65536
  piece : ∀ p ∈ d.pieces, 0 ≤ p.1 ∧ p.1 < d.size ∧ Sec p.2

theorem pcs_length {l : List (Int × List Nat)} (h : ∀ p ∈ l, Sec p.2) : (pcs l).length = l.length * 513 := by
  induction l with
  | nil => rfl
  | cons p r ih =>
    have h1 : pcs (p :: r) = pieceCells p.1 p.2 ++ pcs r := rfl
    rw [h1, List.length_append, pieceCells_length (h p (by simp)), ih (fun q hq => h q (by simp [hq])), List.length_cons]
    omega
theorem fcs_length (l : List (Int × Int)) : (fcs l).length = l.length * 2 := by
  induction l with
  | nil => rfl
  | cons p r ih =>
    have h1 : fcs (p :: r) = [.int .i64 p.1, .int .i64 p.2] ++ fcs r := rfl
    rw [h1, List.length_append, ih, List.length_cons]
    simp
    omega
theorem pcs_one (l : List (Int × List Nat)) : ∀ v ∈ pcs l, v.oneCell' = true := by
  intro v hv
  obtain ⟨p, _, h⟩ := List.mem_flatMap.1 hv
  exact pieceCells_one _ _ v h
theorem fcs_one (l : List (Int × Int)) : ∀ v ∈ fcs l, v.oneCell' = true := by
  intro v hv
  obtain ⟨p, _, h⟩ := List.mem_flatMap.1 hv
  simp at h
  rcases h with rfl | rfl <;> rfl

/-- Where a disk lies: its own block, its two maps, its two lists. -/
structure Parts where
  bl : Nat
  br : Nat
  vp : Value
  vf : Value
def diskCells (d : D) (t : Parts) : Array Value := #[.int .i64 d.size, .map (some t.bl), .map (some t.br), t.vp, t.vf, .int .i64 d.steps]
structure DiskIs (w : World) (F : Nat → Prop) (p : Nat) (d : D) (t : Parts) : Prop where
  good : d.Good
  row : Row w p 78 (diskCells d t)
  fp : F p
  fl : F t.bl
  fr : F t.br
  ne : t.bl ≠ t.br
  last : IsMap w t.bl d.lasting
  read : IsMap w t.br d.read
  pieces : Lies w F 93 513 t.vp d.pieces.length (pcs d.pieces)
  fates : Lies w F 75 2 t.vf d.fates.length (fcs d.fates)
def DiskAt (w : World) (F : Nat → Prop) (p : Nat) (d : D) : Prop := ∃ t, DiskIs w F p d t

section
variable {w w' : World} {F G : Nat → Prop} {p : Nat} {d : D} {t : Parts}
theorem DiskIs.mono (h : DiskIs w F p d t) (hf : ∀ k, F k → G k) : DiskIs w G p d t :=
  ⟨h.good, h.row, hf _ h.fp, hf _ h.fl, hf _ h.fr, h.ne, h.last, h.read, h.pieces.mono hf, h.fates.mono hf⟩
theorem DiskIs.below (h : DiskIs w F p d t) (hb : Below w.heap.size w w') : DiskIs w' F p d t :=
  ⟨h.good, h.row.call hb, h.fp, h.fl, h.fr, h.ne, h.last.below hb, h.read.below hb, h.pieces.below hb, h.fates.below hb⟩
theorem DiskIs.drewN (h : DiskIs w F p d t) (n : Nat) : DiskIs (w.drewN n) F p d t :=
  ⟨h.good, h.row, h.fp, h.fl, h.fr, h.ne, h.last.drewN n, h.read.drewN n, h.pieces.drewN n, h.fates.drewN n⟩
theorem DiskIs.kept (h : DiskIs w F p d t) (hk : Kept G w w') (hd : ∀ k, F k → ¬ G k) : DiskIs w' F p d t :=
  ⟨h.good, h.row.kept hk (hd _ h.fp), h.fp, h.fl, h.fr, h.ne, h.last.kept hk (hd _ h.fl), h.read.kept hk (hd _ h.fr), h.pieces.kept hk hd, h.fates.kept hk hd⟩
/-- A disk's blocks are there. -/
theorem DiskIs.there (h : DiskIs w F p d t) : DiskIs w (fun k => F k ∧ k < w.heap.size) p d t :=
  ⟨h.good, h.row, ⟨h.fp, h.row.lt⟩, ⟨h.fl, h.last.lt⟩, ⟨h.fr, h.read.lt⟩, h.ne, h.last, h.read, h.pieces.there, h.fates.there⟩
theorem DiskAt.there (h : DiskAt w F p d) : DiskAt w (fun k => F k ∧ k < w.heap.size) p d := let ⟨t, ht⟩ := h; ⟨t, ht.there⟩
theorem DiskAt.mono (h : DiskAt w F p d) (hf : ∀ k, F k → G k) : DiskAt w G p d := let ⟨t, ht⟩ := h; ⟨t, ht.mono hf⟩
theorem DiskAt.below (h : DiskAt w F p d) (hb : Below w.heap.size w w') : DiskAt w' F p d := let ⟨t, ht⟩ := h; ⟨t, ht.below hb⟩
theorem DiskAt.kept (h : DiskAt w F p d) (hk : Kept G w w') (hd : ∀ k, F k → ¬ G k) : DiskAt w' F p d := let ⟨t, ht⟩ := h; ⟨t, ht.kept hk hd⟩
theorem DiskIs.c0 (h : DiskIs w F p d t) : w.cell? ⟨p, 0, none⟩ = some (.int .i64 d.size) := h.row.cell (by simp [diskCells])
theorem DiskIs.c1 (h : DiskIs w F p d t) : w.cell? ⟨p, 1, none⟩ = some (.map (some t.bl)) := h.row.cell (by simp [diskCells])
theorem DiskIs.c2 (h : DiskIs w F p d t) : w.cell? ⟨p, 2, none⟩ = some (.map (some t.br)) := h.row.cell (by simp [diskCells])
theorem DiskIs.c3 (h : DiskIs w F p d t) : w.cell? ⟨p, 3, none⟩ = some t.vp := h.row.cell (by simp [diskCells])
theorem DiskIs.c4 (h : DiskIs w F p d t) : w.cell? ⟨p, 4, none⟩ = some t.vf := h.row.cell (by simp [diskCells])
theorem DiskIs.c5 (h : DiskIs w F p d t) : w.cell? ⟨p, 5, none⟩ = some (.int .i64 d.steps) := h.row.cell (by simp [diskCells])
theorem DiskIs.free (h : DiskIs w F p d t) (i : Nat) : w.frozen? ⟨p, i, none⟩ = false := h.row.free i
end

/-- A zero one: as nil. -/
def ZeroAt (w : World) (p : Nat) : Prop := w.cell? ⟨p, 0, none⟩ = some (.int .i64 0)
/-- What answers as none: nil, or a zero one. -/
def NoDisk (w : World) (v : Value) : Prop := v = .pointer none ∨ ∃ p, v = .pointer (some ⟨p, 0, none⟩) ∧ ZeroAt w p
theorem NoDisk.below {w w' : World} {v : Value} (h : NoDisk w v) (hb : Below w.heap.size w w') : NoDisk w' v :=
  h.imp id fun ⟨p, hp, hz⟩ => ⟨p, hp, (hb.cell (p := ⟨p, 0, none⟩) (block_lt_of_cell hz)).trans hz⟩

theorem none_ok {F : Nat → Prop} (p : Nat) (d : D) (w : World) (h : DiskAt w F p d) :
    Calls Tryd.prog 41 #[.pointer (some ⟨p, 0, none⟩)] w fun e w' => e = .returned (.bool false) ∧ w = w' := by
  obtain ⟨t, h⟩ := h
  have h0 := h.c0
  have hp := h.good.pos
  have hne : ((d.size : Int) == 0) = false := by simp; omega
  clear h
  go_enter Tryd.func41, Tryd.ntmps41
  go_wp2
  go_ret
  exact ⟨rfl, rfl⟩
theorem none_no (v : Value) (w : World) (h : NoDisk w v) :
    Calls Tryd.prog 41 #[v] w fun e w' => e = .returned (.bool true) ∧ w = w' := by
  rcases h with rfl | ⟨p, rfl, h⟩
  · go_enter Tryd.func41, Tryd.ntmps41
    go_wp2
    go_ret
    exact ⟨rfl, rfl⟩
  · unfold ZeroAt at h
    go_enter Tryd.func41, Tryd.ntmps41
    go_wp2
    go_ret
    exact ⟨rfl, rfl⟩

theorem size_no (v : Value) (w : World) (h : NoDisk w v) :
    Calls Tryd.prog 50 #[v] w fun e w' => e = .returned (.int .i64 0) ∧ w = w' := by
  have H := Lib.hid h
  clear h
  go_enter Tryd.func50, Tryd.ntmps50
  go_wp2_with (go_at_call 41; refine (none_no v _ H.out).mono ?_; rintro e w' ⟨rfl, rfl⟩)
  go_ret
  exact ⟨rfl, rfl⟩
theorem size_ok {F : Nat → Prop} (p : Nat) (d : D) (w : World) (h : DiskAt w F p d) :
    Calls Tryd.prog 50 #[.pointer (some ⟨p, 0, none⟩)] w fun e w' => e = .returned (.int .i64 d.size) ∧ w = w' := by
  have H := Lib.hid h
  obtain ⟨t, h⟩ := h
  have h0 := h.c0
  clear h
  go_enter Tryd.func50, Tryd.ntmps50
  go_wp2_with (go_at_call 41; refine (none_ok p d _ H.out).mono ?_; rintro e w' ⟨rfl, rfl⟩)
  go_ret
  exact ⟨rfl, rfl⟩
theorem copy_no (v : Value) (w : World) (h : NoDisk w v) :
    Calls Tryd.prog 16 #[v] w fun e w' => e = .returned (.pointer none) ∧ w = w' := by
  have H := Lib.hid h
  clear h
  go_enter Tryd.func16, Tryd.ntmps16
  go_wp2_with (go_at_call 41; refine (none_no v _ H.out).mono ?_; rintro e w' ⟨rfl, rfl⟩)
  go_ret
  exact ⟨rfl, rfl⟩
theorem sync_no (v : Value) (w : World) (h : NoDisk w v) :
    Calls Tryd.prog 69 #[v] w fun e w' => e = .returned (.int .i64 1) ∧ w = w' := by
  have H := Lib.hid h
  clear h
  go_enter Tryd.func69, Tryd.ntmps69
  go_wp2_with (go_at_call 41; refine (none_no v _ H.out).mono ?_; rintro e w' ⟨rfl, rfl⟩)
  go_ret
  exact ⟨rfl, rfl⟩
end Go.Proofs.YtljlkmmeedlaiaaDoor
