import Derived.OrdersHeld
import Derived.RegionTactic
import Derived.Lib.ItoaNum
import Derived.Lib.ParseIntB
import Derived.Laws.CopyOwn
import Derived.Laws.AppendOwnNone
import Derived.Deep.AppendLies
import Derived.Lib.Hide
import Derived.OpenShut
import Derived.Test.YtmhbkjjkalnggaaGreatDoorRows
import Derived.WalkSpells
import Derived.WalkLawsBesides
import Derived.Deep.DeepCutAuto
import Derived.Deep.RegionHeld3
import Derived.BigQuiet
namespace Go.Proofs.YtmhbkjjkalnggaaGreatDoor
open Go.Lib
theorem hid {p : Prop} (h : p) : Go.RowKit.Hid p := Go.Lib.hid h
theorem gA {α : Type} {l : List α} {i : Nat} : l.toArray[i]? = l[i]? := List.getElem?_toArray
theorem gB {α : Type} {a : α} {l : List α} {i : Nat} : (a :: l)[i + 1]? = l[i]? := List.getElem?_cons_succ
theorem gC {α : Type} {a : α} {l : List α} : (a :: l)[0]? = some a := List.getElem?_cons_zero
theorem sA {α : Type} {l : List α} {i : Nat} {a : α} : l.toArray.setIfInBounds i a = (l.set i a).toArray := List.setIfInBounds_toArray ..
theorem sB {α : Type} {a b : α} {l : List α} : (a :: l).set 0 b = b :: l := List.set_cons_zero
theorem sC {α : Type} {a b : α} {l : List α} {i : Nat} : (a :: l).set (i + 1) b = a :: l.set i b := List.set_cons_succ
section
variable {P : Program} {md : Region.Mode} {ops : Array Oper} {Q : Exit -> Act -> World -> Prop} {S : World -> Prop} {z : Nat}
open Go
theorem wpAnyH_t (i : Nat) {oi : Oper} {v : Value} {fuel : Nat} {listed : Array Bool} {a : Act} {w : World} (hy : YieldsIf P ops S oi v a) (h : wpAnyH P md ops Q S fuel (listed.setIfInBounds i true) (a.put oi.dst v) w)
   (hi : ops[i]? = some oi := by (simp only [gA, gB, gC]; with_reducible rfl))
   (hc : (Region.noSelect ops && Region.free md ops listed i && (Region.ready md ops listed).contains i) = true := by kernel_rfl)
   (hS : S w := by assumption) (hQ : ∀ c a w, Q (.panic c) (a.put oi.dst v) w -> Q (.panic c) a w := by exact fun _ _ _ h => h) : wpAnyH P md ops Q S (fuel + 1) listed a w := by
 simp only [Bool.and_eq_true] at hc
 exact wpAnyH_take hi hc.1.1 hc.1.2 hc.2 hQ hy hS h
theorem wpAnyH_y (i : Nat) {oi : Oper} (v : Value) {fuel : Nat} {listed : Array Bool} {a : Act} {w : World} (hy : ∀ w, S w -> (execOp a.eval oi).run P w = .ok (.value v) w)
   (h : wpAnyH P md ops Q S fuel (listed.setIfInBounds i true) (a.put oi.dst v) w)
   (hi : ops[i]? = some oi := by (simp only [gA, gB, gC]; with_reducible rfl)) (hg : Region.wanted oi (yielded ops a.tmps) = true := by rfl)
   (hc : (Region.noSelect ops && Region.free md ops listed i && (Region.ready md ops listed).contains i) = true := by kernel_rfl)
   (hS : S w := by assumption) (hQ : ∀ c a w, Q (.panic c) (a.put oi.dst v) w -> Q (.panic c) a w := by exact fun _ _ _ h => h) : wpAnyH P md ops Q S (fuel + 1) listed a w :=
 wpAnyH_t i (.inl ⟨hg, hy⟩) h hi hc hS hQ
theorem wpAnyH_z (i : Nat) {oi : Oper} {v : Value} {fuel : Nat} {listed : Array Bool} {a : Act} {w : World}
   (h : wpAnyH P md ops Q S fuel (listed.setIfInBounds i true) (a.put oi.dst v) w)
   (hi : ops[i]? = some oi := by (simp only [gA, gB, gC]; with_reducible rfl)) (hg : Region.wanted oi (yielded ops a.tmps) = true := by rfl)
   (hy : ∀ w, S w -> (execOp a.eval oi).run P w = .ok (.value v) w := by (intro W hSw; go_simp; try with_reducible rfl))
   (hc : (Region.noSelect ops && Region.free md ops listed i && (Region.ready md ops listed).contains i) = true := by kernel_rfl)
   (hS : S w := by assumption) (hQ : ∀ c a w, Q (.panic c) (a.put oi.dst v) w -> Q (.panic c) a w := by exact fun _ _ _ h => h) : wpAnyH P md ops Q S (fuel + 1) listed a w :=
 wpAnyH_t i (.inl ⟨hg, hy⟩) h hi hc hS hQ
end
def isDig (b : UInt8) : Bool := decide (48 <= b.toNat) && decide (b.toNat <= 57)
def dval (b : UInt8) : Nat := b.toNat - 48
def Digs (l : List UInt8) : Prop := ∀ b ∈ l, isDig b = true
def num (l : List UInt8) : Nat := l.foldl (fun n b => 10 * n + dval b) 0
theorem isDig_lo {b : UInt8} (h : isDig b = true) : 48 <= b.toNat := by
 unfold isDig at h; simp only [Bool.and_eq_true, decide_eq_true_eq] at h; exact h.1
theorem isDig_hi {b : UInt8} (h : isDig b = true) : b.toNat <= 57 := by
 unfold isDig at h; simp only [Bool.and_eq_true, decide_eq_true_eq] at h; exact h.2
theorem isDig_of {b : UInt8} (h : 48 <= b.toNat) (h' : b.toNat <= 57) : isDig b = true := by
 unfold isDig; simp only [Bool.and_eq_true, decide_eq_true_eq]; exact ⟨h, h'⟩
theorem isDig_not {b : UInt8} (h : isDig b = false) : b.toNat < 48 ∨ 57 < b.toNat := by
 unfold isDig at h
 simp only [Bool.and_eq_false_iff, decide_eq_false_iff_not] at h
 omega
theorem dval_lt {b : UInt8} (h : isDig b = true) : dval b < 10 := by have := isDig_lo h; have := isDig_hi h; unfold dval; omega
theorem dval_inj {a b : UInt8} (ha : isDig a = true) (hb : isDig b = true) (h : dval a = dval b) : a = b := by
 have := isDig_lo ha; have := isDig_lo hb
 unfold dval at h
 exact UInt8.toNat_inj.1 (by omega)
theorem digOf_dig (k : Nat) (h : k < 10) : isDig (UInt8.ofNat (48 + k)) = true := by
 apply isDig_of <;> rw [UInt8.toNat_ofNat'] <;> omega
theorem digOf_val (k : Nat) (h : k < 10) : dval (UInt8.ofNat (48 + k)) = k := by
 unfold dval; rw [UInt8.toNat_ofNat']; omega
theorem Digs.nil : Digs [] := fun _ h => by cases h
theorem Digs.append {a b : List UInt8} (ha : Digs a) (hb : Digs b) : Digs (a ++ b) := fun x hx => by
 rcases List.mem_append.1 hx with h | h
 · exact ha x h
 · exact hb x h
theorem Digs.take {l : List UInt8} (h : Digs l) (k : Nat) : Digs (l.take k) := fun x hx => h x (List.mem_of_mem_take hx)
theorem Digs.drop {l : List UInt8} (h : Digs l) (k : Nat) : Digs (l.drop k) := fun x hx => h x (List.mem_of_mem_drop hx)
theorem Digs.zeros (k : Nat) : Digs (List.replicate k 48) := fun x hx => by rw [List.eq_of_mem_replicate hx]; decide
theorem Digs.one {b : UInt8} (h : isDig b = true) : Digs [b] := fun x hx => by rw [List.mem_singleton.1 hx]; exact h
theorem num_nil : num [] = 0 := rfl
theorem num_snoc (l : List UInt8) (b : UInt8) : num (l ++ [b]) = 10 * num l + dval b := by simp [num]
theorem num_foldl (l : List UInt8) (a : Nat) : l.foldl (fun n b => 10 * n + dval b) a = a * 10 ^ l.length + num l := by
 induction l generalizing a with
 | nil => simp [num]
 | cons b r ih =>
   unfold num
   rw [List.foldl_cons, List.foldl_cons, ih, ih, List.length_cons, Nat.pow_succ, Nat.add_mul, Nat.add_mul]
   rw [show 10 * a * 10 ^ r.length = a * (10 ^ r.length * 10) by rw [Nat.mul_comm 10 a, Nat.mul_assoc, Nat.mul_comm 10]]
   omega
theorem num_append (a b : List UInt8) : num (a ++ b) = num a * 10 ^ b.length + num b := by
 unfold num
 rw [List.foldl_append, num_foldl]
 rfl
theorem num_cons (b : UInt8) (l : List UInt8) : num (b :: l) = dval b * 10 ^ l.length + num l := by
 rw [show b :: l = [b] ++ l by rfl, num_append]
 simp [num]
theorem num_zeros (k : Nat) : num (List.replicate k 48) = 0 := by
 induction k with
 | zero => rfl
 | succ k ih => rw [List.replicate_succ, num_cons, ih, show dval 48 = 0 by rfl]; omega
theorem num_zeros_behind (l : List UInt8) (k : Nat) : num (l ++ List.replicate k 48) = num l * 10 ^ k := by
 rw [num_append, num_zeros, List.length_replicate]; omega
theorem num_zeros_ahead (l : List UInt8) (k : Nat) : num (List.replicate k 48 ++ l) = num l := by
 rw [num_append, num_zeros]; omega
theorem num_lt {l : List UInt8} (h : Digs l) : num l < 10 ^ l.length := by
 induction l with
 | nil => simp [num]
 | cons b r ih =>
   have hb := dval_lt (h b (by simp))
   have hr := ih fun x hx => h x (by simp [hx])
   rw [num_cons, List.length_cons, Nat.pow_succ]
   have : dval b * 10 ^ r.length <= 9 * 10 ^ r.length := Nat.mul_le_mul_right _ (by omega)
   omega
theorem num_inj : ∀ {a b : List UInt8}, Digs a -> Digs b -> a.length = b.length -> num a = num b -> a = b
 | [], [], _, _, _, _ => rfl
 | [], _ :: _, _, _, h, _ => by simp at h
 | _ :: _, [], _, _, h, _ => by simp at h
 | x :: a, y :: b, ha, hb, hl, hn => by
   have hl' : a.length = b.length := by simpa using hl
   have hx := ha x (by simp); have hy := hb y (by simp)
   have ha' : Digs a := fun z hz => ha z (by simp [hz])
   have hb' : Digs b := fun z hz => hb z (by simp [hz])
   have l1 := num_lt ha'; have l2 := num_lt hb'
   rw [num_cons, num_cons, hl'] at hn
   rw [hl'] at l1
   have hd : dval x = dval y := by
     have e1 : (dval x * 10 ^ b.length + num a) / 10 ^ b.length = dval x := by
       rw [Nat.mul_comm, Nat.mul_add_div (by omega), Nat.div_eq_of_lt l1]; rfl
     have e2 : (dval y * 10 ^ b.length + num b) / 10 ^ b.length = dval y := by
       rw [Nat.mul_comm, Nat.mul_add_div (by omega), Nat.div_eq_of_lt l2]; rfl
     rw [<- e1, hn, e2]
   rw [hd] at hn
   rw [dval_inj hx hy hd, num_inj ha' hb' hl' (by omega)]
def dig (n : Nat) : List UInt8 := if n = 0 then [] else decDigits n
theorem dig_zero : dig 0 = [] := rfl
theorem dig_pos {n : Nat} (h : 0 < n) : dig n = decDigits n := by unfold dig; rw [if_neg (by omega)]
theorem decDigits_small {n : Nat} (h : n < 10) : decDigits n = [UInt8.ofNat (48 + n)] := by rw [decDigits, dif_pos h]
theorem decDigits_big {n : Nat} (h : ¬ n < 10) : decDigits n = decDigits (n / 10) ++ [UInt8.ofNat (48 + n % 10)] := by rw [decDigits, dif_neg h]
theorem decDigits_digs (n : Nat) : Digs (decDigits n) := by
 induction n using Nat.strongRecOn with
 | _ n ih =>
   by_cases h : n < 10
   · rw [decDigits_small h]; exact Digs.one (digOf_dig n h)
   · rw [decDigits_big h]; exact (ih (n / 10) (by omega)).append (Digs.one (digOf_dig _ (by omega)))
theorem num_decDigits (n : Nat) : num (decDigits n) = n := by
 induction n using Nat.strongRecOn with
 | _ n ih =>
   by_cases h : n < 10
   · rw [decDigits_small h]; show 10 * 0 + dval _ = n; rw [digOf_val n h]; omega
   · rw [decDigits_big h, num_snoc, ih (n / 10) (by omega), digOf_val _ (by omega)]; omega
theorem dig_digs (n : Nat) : Digs (dig n) := by
 unfold dig
 split
 · exact Digs.nil
 · exact decDigits_digs n
theorem num_dig (n : Nat) : num (dig n) = n := by
 unfold dig
 split
 · rename_i h; rw [h]; rfl
 · exact num_decDigits n
theorem pow_nDigits_le {n : Nat} (h : 0 < n) : 10 ^ (nDigits n - 1) <= n := by
 induction n using Nat.strongRecOn with
 | _ n ih =>
   by_cases h1 : n < 10
   · rw [nDigits_small h1]; simp; omega
   · rw [nDigits_big h1]
     have := ih (n / 10) (by omega) (by omega)
     have hp := nDigits_pos (n / 10)
     rw [show nDigits (n / 10) + 1 - 1 = (nDigits (n / 10) - 1) + 1 by omega, Nat.pow_succ]
     omega
theorem dig_num {l : List UInt8} (h : Digs l) (h0 : l.head? ≠ some 48) : dig (num l) = l := by
 cases l with
 | nil => rfl
 | cons b r =>
   have hb := h b (by simp)
   have hr : Digs r := fun z hz => h z (by simp [hz])
   have hv : 1 <= dval b := by
     rcases Nat.eq_zero_or_pos (dval b) with e | e
     · exfalso
       apply h0
       have : b = 48 := dval_inj hb (by decide) (by rw [e]; rfl)
       rw [this]; rfl
     · exact e
   have hlt := num_lt h
   have hge : 10 ^ r.length <= num (b :: r) := by
     rw [num_cons]
     have : 1 * 10 ^ r.length <= dval b * 10 ^ r.length := Nat.mul_le_mul_right _ hv
     omega
   have hp : 0 < 10 ^ r.length := Nat.pow_pos (by omega)
   have hn : nDigits (num (b :: r)) = r.length + 1 := nDigits_unique _ _ hge (by simpa using hlt)
   rw [dig_pos (by omega)]
   exact num_inj (decDigits_digs _) h (by rw [decDigits_length, hn]; rfl) (num_decDigits _)
theorem dig_head (n : Nat) : (dig n).head? ≠ some 48 := by
 intro h
 cases hd : dig n with
 | nil => rw [hd] at h; cases h
 | cons b r =>
   rw [hd] at h
   have hb : b = 48 := by simpa using h
   have hn : n = num (b :: r) := by rw [<- hd, num_dig]
   have hd' := dig_digs n
   rw [hd] at hd'
   have hr : Digs r := fun z hz => hd' z (by simp [hz])
   have hpos : 0 < n := by
     rcases Nat.eq_zero_or_pos n with e | e
     · rw [e] at hd; cases hd
     · exact e
   rw [num_cons, hb, show dval 48 = 0 by rfl] at hn
   have hlt := num_lt hr
   have hge := pow_nDigits_le hpos
   have hln : nDigits n = r.length + 1 := by rw [<- decDigits_length, <- dig_pos hpos, hd]; rfl
   rw [hln] at hge
   simp at hge
   omega
def plain : List UInt8 -> List UInt8
 | [] => []
 | b :: r => if b = 48 then plain r else b :: r
theorem dig_ten {n : Nat} (h : 0 < n) : dig (n * 10) = dig n ++ [48] := by
 rw [dig_pos (by omega), dig_pos h, decDigits_big (by omega), Nat.mul_div_cancel _ (by omega), Nat.mul_mod_left]
 rfl
def tz (n : Nat) : Nat := if h : n ≠ 0 /\ n % 10 = 0 then tz (n / 10) + 1 else 0
termination_by n
decreasing_by omega
theorem tz_step {n : Nat} (h : 0 < n) (h' : n % 10 = 0) : tz n = tz (n / 10) + 1 := by rw [tz, dif_pos ⟨by omega, h'⟩]
theorem tz_stop {n : Nat} (h' : n % 10 ≠ 0) : tz n = 0 := by rw [tz, dif_neg (by omega)]
theorem tz_zero : tz 0 = 0 := by rw [tz, dif_neg (by omega)]
def core (n : Nat) : Nat := n / 10 ^ tz n
theorem core_mul (n : Nat) : core n * 10 ^ tz n = n := by
 induction n using Nat.strongRecOn with
 | _ n ih =>
   by_cases h : n ≠ 0 /\ n % 10 = 0
   · have e := ih (n / 10) (by omega)
     unfold core at *
     rw [tz_step (by omega) h.2, Nat.pow_succ]
     rw [Nat.mul_comm (10 ^ tz (n / 10)) 10, <- Nat.div_div_eq_div_mul, Nat.mul_comm 10, <- Nat.mul_assoc, e]
     omega
   · unfold core
     rw [tz, dif_neg h]; simp
theorem core_pos {n : Nat} (h : 0 < n) : 0 < core n := by
 rcases Nat.eq_zero_or_pos (core n) with e | e
 · have := core_mul n; rw [e] at this; omega
 · exact e
theorem tz_mul_pow {m : Nat} (h : m % 10 ≠ 0) (k : Nat) : tz (m * 10 ^ k) = k := by
 have hm : 0 < m := by rcases Nat.eq_zero_or_pos m with e | e; · rw [e] at h; simp at h
                       · exact e
 induction k with
 | zero => rw [Nat.pow_zero, Nat.mul_one]; exact tz_stop h
 | succ k ih =>
   have hp : 0 < m * 10 ^ k := Nat.mul_pos hm (Nat.pow_pos (by omega))
   rw [Nat.pow_succ, <- Nat.mul_assoc, tz_step (by omega) (by omega), Nat.mul_div_cancel _ (by omega), ih]
theorem dig_pow {n : Nat} (h : 0 < n) (k : Nat) : dig (n * 10 ^ k) = dig n ++ List.replicate k 48 := by
 induction k with
 | zero => simp
 | succ k ih =>
   rw [Nat.pow_succ, <- Nat.mul_assoc, dig_ten (Nat.mul_pos h (Nat.pow_pos (by omega))), ih, List.append_assoc, List.replicate_succ']
theorem dig_core {n : Nat} (h : 0 < n) : dig n = dig (core n) ++ List.replicate (tz n) 48 := by
 conv => lhs; rw [<- core_mul n]
 exact dig_pow (core_pos h) _
theorem num_last {l : List UInt8} (h : Digs l) (hl : l ≠ []) (h0 : l.getLast? ≠ some 48) : num l % 10 ≠ 0 := by
 obtain ⟨r, b, rfl⟩ : ∃ r b, l = r ++ [b] := ⟨l.dropLast, l.getLast hl, (List.dropLast_concat_getLast hl).symm⟩
 have hb := h b (by simp)
 rw [num_snoc]
 have hv := dval_lt hb
 intro e
 apply h0
 have : b = 48 := dval_inj hb (by decide) (by rw [show dval 48 = 0 by rfl]; omega)
 rw [this]; simp
theorem core_of {l : List UInt8} (h : Digs l) (hl : l ≠ []) (h0 : l.getLast? ≠ some 48) : core (num l) = num l /\ tz (num l) = 0 := by
 have e := num_last h hl h0
 have t := tz_stop e
 refine ⟨?_, t⟩
 unfold core
 rw [t]; simp
def wds (n : Nat) : List Nat := if h : n = 0 then [] else n % 1000000000 :: wds (n / 1000000000)
termination_by n
decreasing_by omega
def wval : List Nat -> Nat
 | [] => 0
 | x :: r => x + 1000000000 * wval r
def Words (l : List Nat) : Prop := ∀ x ∈ l, x < 1000000000
def crop : List Nat -> List Nat
 | [] => []
 | x :: r => match crop r with
   | [] => if x = 0 then [] else [x]
   | y :: c => x :: y :: c
theorem wds_zero : wds 0 = [] := by rw [wds, dif_pos rfl]
theorem wds_pos {n : Nat} (h : 0 < n) : wds n = n % 1000000000 :: wds (n / 1000000000) := by rw [wds, dif_neg (by omega)]
theorem wval_wds (n : Nat) : wval (wds n) = n := by
 induction n using Nat.strongRecOn with
 | _ n ih =>
   rcases Nat.eq_zero_or_pos n with e | e
   · rw [e, wds_zero]; rfl
   · rw [wds_pos e]; show n % 1000000000 + 1000000000 * wval (wds (n / 1000000000)) = n
     rw [ih (n / 1000000000) (by omega)]; omega
theorem wds_words (n : Nat) : Words (wds n) := by
 induction n using Nat.strongRecOn with
 | _ n ih =>
   rcases Nat.eq_zero_or_pos n with e | e
   · rw [e, wds_zero]; intro x hx; cases hx
   · rw [wds_pos e]
     intro x hx
     rcases List.mem_cons.1 hx with h | h
     · omega
     · exact ih (n / 1000000000) (by omega) x h
theorem wds_wval {l : List Nat} (h : Words l) : wds (wval l) = crop l := by
 induction l with
 | nil => exact wds_zero
 | cons x r ih =>
   have hx := h x (by simp)
   have ih' := ih fun y hy => h y (by simp [hy])
   show wds (x + 1000000000 * wval r) = _
   rcases Nat.eq_zero_or_pos (x + 1000000000 * wval r) with e | e
   · have hx0 : x = 0 := by omega
     have hr0 : wval r = 0 := by omega
     rw [hr0, wds_zero] at ih'
     rw [e, wds_zero]
     unfold crop
     rw [<- ih']
     simp [hx0]
   · rw [wds_pos e, show (x + 1000000000 * wval r) % 1000000000 = x by omega, show (x + 1000000000 * wval r) / 1000000000 = wval r by omega, ih']
     conv => rhs; unfold crop
     cases hc : crop r with
     | nil =>
       have : wval r = 0 := by
         rw [hc] at ih'
         have e1 := wval_wds (wval r)
         rw [ih'] at e1
         exact e1.symm
       simp only
       rw [if_neg (by omega)]
     | cons y c => rfl
theorem Words.append {a b : List Nat} (ha : Words a) (hb : Words b) : Words (a ++ b) := fun x hx => by
 rcases List.mem_append.1 hx with h | h
 · exact ha x h
 · exact hb x h
theorem Words.nil : Words [] := fun _ h => by cases h
theorem Words.one {x : Nat} (h : x < 1000000000) : Words [x] := fun y hy => by rw [List.mem_singleton.1 hy]; exact h
theorem Words.zeros (k : Nat) : Words (List.replicate k 0) := fun x hx => by rw [List.eq_of_mem_replicate hx]; decide
theorem wval_append (a b : List Nat) : wval (a ++ b) = wval a + 1000000000 ^ a.length * wval b := by
 induction a with
 | nil => simp [wval]
 | cons x r ih =>
   show x + 1000000000 * wval (r ++ b) = x + 1000000000 * wval r + 1000000000 ^ (r.length + 1) * wval b
   rw [ih, Nat.mul_add, Nat.pow_succ, Nat.mul_comm (1000000000 ^ r.length) 1000000000, Nat.mul_assoc]; omega
theorem wval_zeros (k : Nat) : wval (List.replicate k 0) = 0 := by
 induction k with
 | zero => rfl
 | succ k ih => rw [List.replicate_succ]; show 0 + 1000000000 * wval (List.replicate k 0) = 0; rw [ih]
theorem wval_snoc (l : List Nat) (x : Nat) : wval (l ++ [x]) = wval l + 1000000000 ^ l.length * x := by rw [wval_append]; rfl
theorem wval_lt {l : List Nat} (h : Words l) : wval l < 1000000000 ^ l.length := by
 induction l with
 | nil => simp [wval]
 | cons x r ih =>
   have hx := h x (by simp)
   have hr := ih fun y hy => h y (by simp [hy])
   show x + 1000000000 * wval r < 1000000000 ^ (r.length + 1)
   rw [Nat.pow_succ]; omega
theorem crop_snoc_zero (l : List Nat) : crop (l ++ [0]) = crop l := by
 induction l with
 | nil => simp [crop]
 | cons x r ih => rw [List.cons_append]; unfold crop; rw [ih]
theorem crop_snoc {x : Nat} (hx : x ≠ 0) (l : List Nat) : crop (l ++ [x]) = l ++ [x] := by
 induction l with
 | nil => simp [crop, hx]
 | cons y r ih =>
   rw [List.cons_append]
   unfold crop
   rw [ih]
   cases hr : r ++ [x] with
   | nil => simp at hr
   | cons z c => rfl
theorem crop_take (l : List Nat) : ∃ k, k <= l.length /\ crop l = l.take k := by
 induction l with
 | nil => exact ⟨0, by simp, rfl⟩
 | cons x r ih =>
   obtain ⟨k, hk, e⟩ := ih
   unfold crop
   cases hc : crop r with
   | nil =>
     simp only
     by_cases hx : x = 0
     · exact ⟨0, by simp, by simp [hx]⟩
     · exact ⟨1, by simp, by simp [hx]⟩
   | cons y c => exact ⟨k + 1, by simpa using hk, by simp only [List.take_succ_cons, <- e, hc]⟩
theorem crop_length_le (l : List Nat) : (crop l).length <= l.length := by
 obtain ⟨k, hk, e⟩ := crop_take l
 rw [e, List.length_take]; omega
theorem crop_eq_take (l : List Nat) : crop l = l.take (crop l).length := by
 obtain ⟨k, hk, e⟩ := crop_take l
 rw [e, List.length_take, Nat.min_eq_left hk]
theorem wds_crop (n : Nat) : crop (wds n) = wds n := by rw [<- wds_wval (wds_words n), wval_wds]
theorem wds_last {n : Nat} (h : 0 < n) : ∃ r x, wds n = r ++ [x] /\ x ≠ 0 := by
 have hne : wds n ≠ [] := by rw [wds_pos h]; simp
 refine ⟨(wds n).dropLast, (wds n).getLast hne, (List.dropLast_concat_getLast hne).symm, fun e => ?_⟩
 have hc := wds_crop n
 have h1 := List.dropLast_concat_getLast hne
 rw [e] at h1
 have h2 : crop (wds n) = crop (wds n).dropLast := by rw [<- h1, crop_snoc_zero]; simp
 have h3 := crop_length_le (wds n).dropLast
 rw [<- h2, hc] at h3
 rw [List.length_dropLast] at h3
 have : 0 < (wds n).length := List.length_pos_iff.2 hne
 omega
theorem wds_length_le {n k : Nat} (h : n < 1000000000 ^ k) : (wds n).length <= k := by
 induction k generalizing n with
 | zero => have : n = 0 := by simpa using h
           rw [this, wds_zero]; simp
 | succ k ih =>
   rcases Nat.eq_zero_or_pos n with e | e
   · rw [e, wds_zero]; simp
   · rw [wds_pos e, List.length_cons]
     have := ih (n := n / 1000000000) (by rw [Nat.pow_succ] at h; omega)
     omega
theorem wds_nil {n : Nat} (h : wds n = []) : n = 0 := by
 rcases Nat.eq_zero_or_pos n with e | e
 · exact e
 · rw [wds_pos e] at h; cases h
def pad9 (x : Nat) : List UInt8 := List.replicate (9 - (decDigits x).length) 48 ++ decDigits x
theorem decDigits_len {x k : Nat} (hk : 0 < k) (h : x < 10 ^ k) : (decDigits x).length <= k := by
 rw [decDigits_length]
 rcases Nat.eq_zero_or_pos x with e | e
 · rw [e, nDigits_small (by omega)]; omega
 · have h1 := pow_nDigits_le e
   have h2 := nDigits_pos x
   rcases Nat.lt_or_ge k (nDigits x) with h3 | h3
   · have : 10 ^ k <= 10 ^ (nDigits x - 1) := Nat.pow_le_pow_right (by omega) (by omega)
     omega
   · exact h3
theorem pad9_length {x : Nat} (h : x < 1000000000) : (pad9 x).length = 9 := by
 have := decDigits_len (x := x) (k := 9) (by omega) (by simpa using h)
 unfold pad9
 rw [List.length_append, List.length_replicate]; omega
theorem num_pad9 (x : Nat) : num (pad9 x) = x := by unfold pad9; rw [num_zeros_ahead, num_decDigits]
theorem pad9_digs (x : Nat) : Digs (pad9 x) := (Digs.zeros _).append (decDigits_digs x)
theorem dig_words {x v : Nat} (hx : x < 1000000000) (hv : 0 < v) : dig (x + 1000000000 * v) = dig v ++ pad9 x := by
 have e : num (dig v ++ pad9 x) = x + 1000000000 * v := by
   rw [num_append, num_dig, num_pad9, pad9_length hx]; omega
 rw [<- e]
 refine dig_num ((dig_digs v).append (pad9_digs x)) ?_
 have hh := dig_head v
 cases hd : dig v with
 | nil =>
   exfalso
   have := num_dig v
   rw [hd] at this
   have : num [] = 0 := rfl
   omega
 | cons b r => rw [hd] at hh; simpa using hh
theorem dig_from (l : List Nat) (hl : Words l) (i : Nat) (hi : i + 1 < l.length) (hv : 0 < wval (l.drop (i + 1))) :
   dig (wval (l.drop i)) = dig (wval (l.drop (i + 1))) ++ pad9 (l.getD i 0) := by
 have e : l.drop i = l.getD i 0 :: l.drop (i + 1) := by
   rw [List.drop_eq_getElem_cons (by omega)]
   simp [List.getD, List.getElem?_eq_getElem (show i < l.length by omega)]
 rw [e]
 show dig (l.getD i 0 + 1000000000 * wval (l.drop (i + 1))) = _
 refine dig_words ?_ hv
 have : l.getD i 0 ∈ l := by
   simp only [List.getD, List.getElem?_eq_getElem (show i < l.length by omega), Option.getD_some]
   exact List.getElem_mem _
 exact hl _ this
theorem wval_drop_pos {n : Nat} (h : 0 < n) {i : Nat} (hi : i < (wds n).length) : 0 < wval ((wds n).drop i) := by
 obtain ⟨r, x, e, hx⟩ := wds_last h
 rw [e] at hi ⊢
 rw [List.length_append, List.length_singleton] at hi
 rw [List.drop_append_of_le_length (by omega), wval_snoc]
 have : 0 < 1000000000 ^ (r.drop i).length * x := Nat.mul_pos (Nat.pow_pos (by omega)) (by omega)
 omega
theorem ten_nine (k : Nat) : 10 ^ (9 * k) = 1000000000 ^ k := by rw [Nat.pow_mul]
theorem noughts_words (m b : Nat) : m * 10 ^ (b % 9) * 1000000000 ^ (b / 9) = m * 10 ^ b := by
 rw [<- ten_nine, Nat.mul_assoc, <- Nat.pow_add]
 congr 2
 omega
theorem ten9 : (10 : Nat) ^ 9 = 1000000000 := rfl
theorem laid_step (ws : List Nat) (q c : List UInt8) (hc : c.length = 9 ∨ q = []) :
   wval (ws ++ [num c]) + 1000000000 ^ (ws ++ [num c]).length * num q = wval ws + 1000000000 ^ ws.length * num (q ++ c) := by
 have hs : 1000000000 ^ (ws ++ [num c]).length = 1000000000 ^ ws.length * 1000000000 := by rw [List.length_append, List.length_singleton, Nat.pow_succ]
 rw [wval_snoc, num_append, hs, Nat.mul_add]
 generalize 1000000000 ^ ws.length = P
 rcases hc with e | e
 · rw [e, ten9, Nat.mul_comm (num q) 1000000000, <- Nat.mul_assoc]; omega
 · rw [e, num_nil, Nat.mul_zero, Nat.zero_mul, Nat.mul_zero, Nat.zero_add, Nat.add_zero]
theorem parseUint_small {l : List UInt8} (h : Digs l) (h0 : l ≠ []) (h9 : l.length <= 9) : parseUintB 64 l = .ok (num l) := by
 have key : ∀ (l : List UInt8) (acc : Nat), Digs l -> acc * 10 ^ l.length + num l < 1000000000 -> parseUintM (2 ^ 64 - 1) acc l = .ok (acc * 10 ^ l.length + num l) := by
   intro l
   induction l with
   | nil => intro acc _ _; simp [parseUintM, num]
   | cons b r ih =>
     intro acc hd hlt
     have hb := hd b (by simp)
     have hr : Digs r := fun z hz => hd z (by simp [hz])
     have hlo := isDig_lo hb; have hhi := isDig_hi hb
     have hps : 10 ^ (b :: r).length = 10 ^ r.length * 10 := by rw [List.length_cons, Nat.pow_succ]
     rw [num_cons, hps] at hlt ⊢
     have hp : 1 <= 10 ^ r.length := Nat.one_le_pow _ _ (by decide)
     have hacc : acc * 10 ^ r.length * 10 < 1000000000 := by
       have : acc * (10 ^ r.length * 10) = acc * 10 ^ r.length * 10 := (Nat.mul_assoc ..).symm
       omega
     have hacc' : acc * 1 <= acc * 10 ^ r.length := Nat.mul_le_mul_left _ hp
     have hv : dval b = b.toNat - 48 := rfl
     have e : (acc * 10 + (b.toNat - 48)) * 10 ^ r.length + num r = acc * (10 ^ r.length * 10) + (dval b * 10 ^ r.length + num r) := by
       rw [Nat.add_mul, hv, Nat.mul_assoc, Nat.mul_comm 10 (10 ^ r.length)]; omega
     unfold parseUintM
     rw [if_pos ⟨hlo, hhi⟩, if_neg (by omega), if_neg (by omega), ih _ hr (by omega), e]
 unfold parseUintB
 rw [if_neg h0]
 have hlt := num_lt h
 have h10 : 10 ^ l.length <= 10 ^ 9 := Nat.pow_le_pow_right (by omega) h9
 have := key l 0 h (by omega)
 rw [this]
 simp
def wat (l : List Nat) (i : Nat) : Nat := l.getD i 0
def wtk (l : List Nat) (i : Nat) : Nat := wval (l.take i)
theorem wat_lt {l : List Nat} (h : Words l) (i : Nat) : wat l i < 1000000000 := by
 unfold wat
 by_cases hi : i < l.length
 · rw [List.getD, List.getElem?_eq_getElem hi]; exact h _ (List.getElem_mem _)
 · rw [List.getD, List.getElem?_eq_none (by omega)]; simp
theorem wat_out {l : List Nat} {i : Nat} (h : l.length <= i) : wat l i = 0 := by
 unfold wat; rw [List.getD, List.getElem?_eq_none h]; rfl
theorem wtk_zero (l : List Nat) : wtk l 0 = 0 := by simp [wtk, wval]
theorem wtk_all (l : List Nat) {i : Nat} (h : l.length <= i) : wtk l i = wval l := by unfold wtk; rw [List.take_of_length_le h]
theorem wtk_succ (l : List Nat) (i : Nat) : wtk l (i + 1) = wtk l i + 1000000000 ^ i * wat l i := by
 by_cases hi : i < l.length
 · unfold wtk wat
   rw [List.take_add_one, List.getElem?_eq_getElem hi, Option.toList_some, wval_snoc, List.length_take, Nat.min_eq_left (by omega), List.getD, List.getElem?_eq_getElem hi]
   rfl
 · rw [wtk_all l (by omega), wtk_all l (by omega), wat_out (by omega)]; omega
theorem wtk_lt {l : List Nat} (h : Words l) (i : Nat) : wtk l i < 1000000000 ^ i := by
 have h1 : Words (l.take i) := fun x hx => h x (List.mem_of_mem_take hx)
 have h2 := wval_lt h1
 have h3 : 1000000000 ^ (l.take i).length <= 1000000000 ^ i := Nat.pow_le_pow_right (by omega) (by rw [List.length_take]; omega)
 unfold wtk
 omega
structure UpAt (a b : List Nat) (i : Nat) (out : List Nat) (c : Nat) : Prop where
 len : out.length = i
 words : Words out
 kept : c <= 1
 eq : wval out + 1000000000 ^ i * c = wtk a i + wtk b i
structure Over (a b : List Nat) : Prop where
 le : ∀ i, wat a i <= 1000000000
 top : ∀ i, wat a i = 1000000000 -> i + 1 = a.length
 words : Words b
 short : b.length <= a.length
 less : wval b <= wval a
 room : wval a < wval b + 1000000000 ^ a.length
structure DownAt (a b : List Nat) (i : Nat) (out : List Nat) (c : Nat) : Prop where
 len : out.length = i
 words : Words out
 kept : c <= 1
 eq : wval out + wtk b i = wtk a i + 1000000000 ^ i * c
structure Dec where
 neg : Bool
 digits : List UInt8
 exp : Int
def Dec.zero : Dec := ⟨false, [], 0⟩
theorem Dec.ext' {a b : Dec} (h1 : a.neg = b.neg) (h2 : a.digits = b.digits) (h3 : a.exp = b.exp) : a = b := by
 cases a; cases b; simp only at h1 h2 h3; rw [h1, h2, h3]
def allDig (l : List UInt8) : Bool := l.all isDig
theorem allDig_iff {l : List UInt8} : allDig l = true ↔ Digs l := by
 unfold allDig Digs
 simp [List.all_eq_true]
structure May (d : Dec) : Prop where
 digs : Digs d.digits
 len : d.digits.length <= 100
 head : d.digits.head? ≠ some 48
 last : d.digits.getLast? ≠ some 48
 lo : -1000 <= d.exp
 hi : d.exp <= 1000
 nil : d.digits = [] -> d.neg = false /\ d.exp = 0
def mayB (d : Dec) : Bool :=
 if d.digits = [] then !d.neg && decide (d.exp = 0)
 else decide (d.digits.length <= 100) && decide (-1000 <= d.exp) && decide (d.exp <= 1000) && allDig d.digits && !(d.digits.head? == some 48) && !(d.digits.getLast? == some 48)
theorem mayB_iff (d : Dec) : mayB d = true ↔ May d := by
 unfold mayB
 constructor
 · intro h
   split at h
   · rename_i e
     simp only [Bool.and_eq_true, decide_eq_true_eq, Bool.not_eq_true'] at h
     exact ⟨by rw [e]; exact Digs.nil, by simp [e], by simp [e], by simp [e], by omega, by omega, fun _ => h⟩
   · rename_i e
     simp only [Bool.and_eq_true, decide_eq_true_eq, Bool.not_eq_true', beq_eq_false_iff_ne, allDig_iff] at h
     obtain ⟨⟨⟨⟨⟨h1, h2⟩, h3⟩, h4⟩, h5⟩, h6⟩ := h
     exact ⟨h4, h1, h5, h6, h2, h3, fun x => absurd x e⟩
 · intro h
   split
   · rename_i e
     obtain ⟨h1, h2⟩ := h.nil e
     simp [h1, h2]
   · rename_i e
     simp only [Bool.and_eq_true, decide_eq_true_eq, Bool.not_eq_true', beq_eq_false_iff_ne, allDig_iff]
     exact ⟨⟨⟨⟨⟨h.len, h.lo⟩, h.hi⟩, h.digs⟩, h.head⟩, h.last⟩
theorem May.zero : May Dec.zero := ⟨Digs.nil, by simp [Dec.zero], by simp [Dec.zero], by simp [Dec.zero], by simp [Dec.zero], by simp [Dec.zero], fun _ => ⟨rfl, rfl⟩⟩
def dec (neg : Bool) (n : Nat) (e : Int) : Dec := if n = 0 then Dec.zero else ⟨neg, dig (core n), e + tz n⟩
def mkE (neg : Bool) (n : Nat) (e : Int) : Nat := if mayB (dec neg n e) then 0 else 4
def mkD (neg : Bool) (n : Nat) (e : Int) : Dec := if mayB (dec neg n e) then dec neg n e else Dec.zero
theorem dec_zero (neg : Bool) (e : Int) : dec neg 0 e = Dec.zero := rfl
theorem dec_pos (neg : Bool) {n : Nat} (h : 0 < n) (e : Int) : dec neg n e = ⟨neg, dig (core n), e + tz n⟩ := by unfold dec; rw [if_neg (by omega)]
theorem mk_zero (neg : Bool) (e : Int) : mkD neg 0 e = Dec.zero := by unfold mkD; rw [dec_zero]; split <;> rfl
theorem mkE_zero (neg : Bool) (e : Int) : mkE neg 0 e = 0 := by
 unfold mkE; rw [dec_zero, if_pos ((mayB_iff _).2 May.zero)]
theorem mk_may (neg : Bool) (n : Nat) (e : Int) : May (mkD neg n e) := by
 unfold mkD
 split
 · rename_i h; exact (mayB_iff _).1 h
 · exact May.zero
theorem dec_far (neg : Bool) {n : Nat} (h : 0 < n) {e : Int} (he : 1000 < e ∨ e + tz n < -1000) : mayB (dec neg n e) = false := by
 cases hb : mayB (dec neg n e) with
 | false => rfl
 | true =>
   have hm := (mayB_iff _).1 hb
   rw [dec_pos neg h] at hm
   have h1 := hm.lo; have h2 := hm.hi
   simp only at h1 h2
   omega
theorem tz_le {l : List UInt8} (h : Digs l) : tz (num l) <= l.length := by
 rcases Nat.eq_zero_or_pos (num l) with e | e
 · rw [e, tz_zero]; omega
 · have h1 := num_lt h
   have h2 := core_mul (num l)
   have h3 := core_pos e
   have h4 : 1 * 10 ^ tz (num l) <= core (num l) * 10 ^ tz (num l) := Nat.mul_le_mul_right _ h3
   rcases Nat.lt_or_ge l.length (tz (num l)) with h5 | h5
   · have : 10 ^ l.length <= 10 ^ tz (num l) := Nat.pow_le_pow_right (by omega) (by omega)
     omega
   · exact h5
theorem mayB_cut (neg sg : Bool) {l : List UInt8} (hd : Digs l) (p pl c : Nat) (hl : l.length <= 1000) (hpl : pl <= 1000) (hc : 3000 <= c) :
   mkD neg (num l) ((if sg then -((min p c : Nat) : Int) else ((min p c : Nat) : Int)) - (pl : Int)) = mkD neg (num l) ((if sg then -(p : Int) else p) - (pl : Int)) /\
   mkE neg (num l) ((if sg then -((min p c : Nat) : Int) else ((min p c : Nat) : Int)) - (pl : Int)) = mkE neg (num l) ((if sg then -(p : Int) else p) - (pl : Int)) := by
 rcases Nat.eq_zero_or_pos (num l) with e | e
 · rw [e]; simp only [mk_zero, mkE_zero, and_self]
 · rcases Nat.lt_or_ge c p with h | h
   · have ht := tz_le hd
     have f : ∀ q : Nat, 3000 <= q -> mayB (dec neg (num l) ((if sg then -(q : Int) else q) - (pl : Int))) = false := by
       intro q hq
       refine dec_far neg e ?_
       cases sg
       · left; simp only [Bool.false_eq_true, if_false]; omega
       · right; simp only [if_true]; omega
     have h1 := f (min p c) (by omega)
     have h2 := f p (by omega)
     unfold mkD mkE
     rw [h1, h2]
     simp
   · rw [Nat.min_eq_left h]; exact ⟨rfl, rfl⟩
def spanT (l : List UInt8) : List UInt8 := l.takeWhile isDig
def spanD (l : List UInt8) : List UInt8 := l.dropWhile isDig
def ahead (l : List UInt8) : Option (List UInt8 × List UInt8) :=
 if l.head? = some 48 then some ([], l.drop 1) else if spanT l = [] then none else some (spanT l, spanD l)
def behind (l : List UInt8) : Option (List UInt8 × List UInt8) :=
 if l.head? = some 46 then (if spanT (l.drop 1) = [] then none else some (spanT (l.drop 1), spanD (l.drop 1))) else some ([], l)
def power (l : List UInt8) : Option (Bool × List UInt8 × List UInt8) :=
 if l.head? = some 101 ∨ l.head? = some 69 then
   (let r := l.drop 1
    let sg : Bool := r.head? == some 45
    let r' := if r.head? = some 45 ∨ r.head? = some 43 then r.drop 1 else r
    if spanT r' = [] then none else some (sg, spanT r', spanD r'))
 else some (false, [], l)
def signed (l : List UInt8) : Bool × List UInt8 := if l.head? = some 45 then (true, l.drop 1) else (false, l)
structure Parts where
 neg : Bool
 a : List UInt8
 b : List UInt8
 sg : Bool
 p : List UInt8
def parts (l : List UInt8) : Option Parts :=
 match ahead (signed l).2 with
 | none => none
 | some (a, r) => match behind r with
   | none => none
   | some (b, r) => match power r with
     | none => none
     | some (sg, p, r) => if r = [] then some ⟨(signed l).1, a, b, sg, p⟩ else none
def Parts.exp (q : Parts) : Int := (if q.sg then -(num q.p : Int) else num q.p) - (q.b.length : Int)
def parseD (l : List UInt8) : Dec :=
 if 1000 < l.length then Dec.zero else match parts l with
 | none => Dec.zero
 | some q => mkD q.neg (num (q.a ++ q.b)) q.exp
def parseE (l : List UInt8) : Nat :=
 if 1000 < l.length then 3 else match parts l with
 | none => 170
 | some q => mkE q.neg (num (q.a ++ q.b)) q.exp
theorem parseD_may (l : List UInt8) : May (parseD l) := by
 unfold parseD
 split
 · exact May.zero
 · split
   · exact May.zero
   · exact mk_may _ _ _
def zeros (k : Nat) : List UInt8 := List.replicate k 48
def bodyL (l : List UInt8) (e : Int) : List UInt8 :=
 let p : Int := l.length + e
 if 0 <= e /\ p <= 21 then l ++ zeros e.toNat
 else if 0 < p /\ p <= 21 then l.take p.toNat ++ 46 :: l.drop p.toNat
 else if -5 <= p /\ p <= 0 then 48 :: 46 :: (zeros (-p).toNat ++ l)
 else l.take 1 ++ ((if 1 < l.length then 46 :: l.drop 1 else []) ++ 101 :: itoa (p - 1))
def textL (d : Dec) : List UInt8 := if d.digits = [] then [48] else (if d.neg then [45] else []) ++ bodyL d.digits d.exp
open Go.RowKit
theorem ret_int {k : IntKind} {a b : Int} (h : a = b) : Ending.returned (.int k a) = .returned (.int k b) := by rw [h]
theorem ret_val {a b : Value} (h : a = b) : Ending.returned a = .returned b := by rw [h]
def Row (w : World) (g : Nat) (t : TypeId) (cs : Array Value) : Prop := w.heap[g]? = some (.cells cs t (0, 0))
section
variable {w w' : World} {g : Nat} {t : TypeId} {cs : Array Value}
theorem Row.lt (h : Row w g t cs) : g < w.heap.size := by
 rcases Nat.lt_or_ge g w.heap.size with hlt | hge
 · exact hlt
 · unfold Row at h; rw [Array.getElem?_eq_none hge] at h; cases h
theorem Row.cell (h : Row w g t cs) {i : Nat} {v : Value} (hv : cs[i]? = some v) : w.cell? ⟨g, i, none⟩ = some v :=
 (cell_of_row w g i cs t (0, 0) h).trans hv
theorem Row.free (h : Row w g t cs) (i : Nat) : w.frozen? ⟨g, i, none⟩ = false := frozen_of_row w g i cs t h
theorem Row.new (w : World) (t : TypeId) (cs : Array Value) : Row (w.alloc (.cells cs t)) w.heap.size t cs := heap_alloc_new w _
theorem Row.drew (h : Row w g t cs) : Row w.drew g t cs := h
theorem Row.drewN (h : Row w g t cs) (n : Nat) : Row (w.drewN n) g t cs := h
theorem Row.alloc (h : Row w g t cs) (o : Obj) : Row (w.alloc o) g t cs := (Below.heap_alloc w o g h.lt).trans h
theorem Row.set_ (h : Row w g t cs) (i : Nat) (u : Value) : Row (w.setCell ⟨g, i, none⟩ u) g t (cs.setIfInBounds i u) := heap_setCell_same w g i cs t u h
theorem Row.far (h : Row w g t cs) {p : Addr} (hp : g ≠ p.block) (u : Value) : Row (w.setCell p u) g t cs := (heap_setCell_other w p g u hp).trans h
theorem Row.call (h : Row w g t cs) (hb : Below w.heap.size w w') : Row w' g t cs := (hb.block g h.lt).trans h
end
theorem _root_.Go.RowKit.Below.setRow {B : Nat} {a w : World} (h : Below B a w) {g : Nat} (hg : B <= g) (cs : Array Value) : Below B a (w.setRow g cs) :=
 h.trans ⟨rfl, rfl, rfl, by simp, fun k hk => setRow_other w g k cs (by omega)⟩
theorem _root_.Go.RowKit.Below.call {W a b : World} (h : Below W.heap.size W a) (k : Below a.heap.size a b) : Below W.heap.size W b := h.trans (k.mono h.size)
theorem _root_.Go.RowKit.Below.lit {W a b : World} {o : Obj} (h : Below W.heap.size W a) (k : Below (a.alloc o).heap.size (a.alloc o) b) : Below W.heap.size W b :=
 (h.alloc h.size o).trans (k.mono (by have := h.size; simp; omega))
def Bytes (w : World) (A : Option Addr) (n : Nat) (l : List Nat) : Prop :=
 l.length = n /\ (∀ x ∈ l, x < 256) /\ (0 < n -> ∃ b off, A = some ⟨b, off, none⟩ /\ b < w.heap.size /\ ∀ i, i < n -> w.cell? ⟨b, off + i, none⟩ = some (.int .u8 (l.getD i 0 : Int)))
section
variable {w w' : World} {A : Option Addr} {n : Nat} {l : List Nat}
end
def cellsOf (l : List Nat) : List Value := l.map fun (x : Nat) => Value.int .u8 (x : Int)
theorem cellsOf_length (l : List Nat) : (cellsOf l).length = l.length := by simp [cellsOf]
theorem cellsOf_get (l : List Nat) {j : Nat} (h : j < l.length) : (cellsOf l)[j]? = some (.int .u8 (l.getD j 0 : Int)) := by
 simp [cellsOf, List.getD_eq_getElem?_getD, h]
theorem addr_add (b o j : Nat) : (⟨b, o, none⟩ : Addr).add j = ⟨b, o + j, none⟩ := by
 unfold Addr.add; split <;> simp_all
def Small (l : List Nat) : Prop := ∀ x ∈ l, x < 256
section
variable {w w' : World} {A : Option Addr} {n : Nat} {l : List Nat}
end
section
variable {P : Program} {ops : Array Oper} {rest : List Oper} {o : Oper} {a : Act} {w : World} {Q : Exit -> Act -> World -> Prop}
end
structure Kept (F : Nat -> Prop) (w w' : World) : Prop where
 os : w'.os = w.os
 tape : w'.tape = w.tape
 output : w'.output = w.output
 size : w.heap.size <= w'.heap.size
 block : ∀ k, k < w.heap.size -> ¬ F k -> w'.heap[k]? = w.heap[k]?
def grow (F : Nat -> Prop) (w : World) (k : Nat) : Prop := F k ∨ w.heap.size <= k
def noBlock (_ : Nat) : Prop := False
section
variable {F G : Nat -> Prop} {w a b c : World}
theorem grow.old {k : Nat} (h : F k) : grow F w k := .inl h
theorem grow.fresh {k : Nat} (h : w.heap.size <= k) : grow F w k := .inr h
theorem Kept.refl (F : Nat -> Prop) (w : World) : Kept F w w := ⟨rfl, rfl, rfl, Nat.le_refl _, fun _ _ _ => rfl⟩
theorem Kept.mono (h : Kept F a b) (hf : ∀ k, k < a.heap.size -> F k -> G k) : Kept G a b := ⟨h.os, h.tape, h.output, h.size, fun k hk hg => h.block k hk fun hF => hg (hf k hk hF)⟩
theorem Kept.trans (h : Kept F a b) (k : Kept (grow F a) b c) : Kept F a c :=
 ⟨k.os.trans h.os, k.tape.trans h.tape, k.output.trans h.output, Nat.le_trans h.size k.size, fun i hi hn =>
   (k.block i (Nat.lt_of_lt_of_le hi h.size) fun hg => by
     rcases hg with hg | hg
     · exact hn hg
     · omega).trans (h.block i hi hn)⟩
theorem Kept.trans' (h : Kept F a b) (k : Kept F b c) : Kept F a c := h.trans (k.mono fun _ _ => grow.old)
theorem Kept.drew (h : Kept F a b) : Kept F a b.drew := ⟨h.os, h.tape, h.output, h.size, h.block⟩
theorem Kept.drewN (h : Kept F a b) (n : Nat) : Kept F a (b.drewN n) := ⟨h.os, h.tape, h.output, h.size, h.block⟩
theorem Kept.alloc (h : Kept F a b) (o : Obj) : Kept F a (b.alloc o) :=
 h.trans' ⟨rfl, rfl, rfl, by simp, fun k hk _ => Below.heap_alloc _ _ _ hk⟩
theorem Kept.setCell (h : Kept F a b) {p : Addr} (hp : grow F a p.block) (u : Value) : Kept F a (b.setCell p u) :=
 h.trans ⟨rfl, rfl, rfl, by simp [World.setCell], fun k _ hk => Below.heap_setCell _ _ _ _ (fun e => hk (e ▸ hp))⟩
theorem Kept.setRow (h : Kept F a b) {g : Nat} (hg : grow F a g) (cs : Array Value) : Kept F a (b.setRow g cs) :=
 h.trans ⟨rfl, rfl, rfl, by simp, fun k _ hk => setRow_other _ _ _ _ (fun e => hk (e ▸ hg))⟩
theorem _root_.Go.RowKit.Below.kept (h : Below a.heap.size a b) : Kept F a b := ⟨h.os, h.tape, h.output, h.size, fun k hk _ => h.block k hk⟩
theorem Kept.below (h : Kept F a b) {B : Nat} (hB : B <= a.heap.size) (hf : ∀ k, F k -> B <= k) : Below B a b :=
 ⟨h.os, h.tape, h.output, h.size, fun k hk => h.block k (by omega) fun hF => by have := hf k hF; omega⟩
theorem Kept.heap (h : Kept F a b) {k : Nat} {o : Obj} (ho : a.heap[k]? = some o) (hk : ¬ F k) : b.heap[k]? = some o :=
 (h.block k (by rcases Nat.lt_or_ge k a.heap.size with h1 | h1
                · exact h1
                · rw [Array.getElem?_eq_none h1] at ho; cases ho) hk).trans ho
theorem Row.kept {t : TypeId} {cs : Array Value} {g : Nat} (h : Row a g t cs) (k : Kept F a b) (hg : ¬ F g) : Row b g t cs := k.heap h hg
theorem Kept.cell (a : World) (p i : Nat) (u : Value) : Kept (· = p) a (a.setCell ⟨p, i, none⟩ u) := (Kept.refl _ _).setCell (grow.old (F := (· = p)) rfl) u
theorem lt_of_heap {k : Nat} {o : Obj} (ho : a.heap[k]? = some o) : k < a.heap.size := by
 rcases Nat.lt_or_ge k a.heap.size with h1 | h1
 · exact h1
 · rw [Array.getElem?_eq_none h1] at ho; cases ho
end
theorem _root_.Go.Proofs.YtmhbkjjkalnggaaGreatDoor.Bytes.kept {F : Nat -> Prop} {w w' : World} {A : Option Addr} {n : Nat} {l : List Nat} (h : Bytes w A n l) (hk : Kept F w w') (hF : 0 < n -> ∀ x, A = some x -> ¬ F x.block) : Bytes w' A n l :=
 ⟨h.1, h.2.1, fun h0 => by
   obtain ⟨b, off, e, hb, hc⟩ := h.2.2 h0
   refine ⟨b, off, e, Nat.lt_of_lt_of_le hb hk.size, fun i hi => ?_⟩
   rw [World.cell?_of_block (w := w) (hk.block b hb (hF h0 _ e))]
   exact hc i hi⟩
def Lies (w : World) (F : Nat -> Prop) (e : TypeId) (size : Nat) (v : Value) (n : Nat) (xs : List Value) : Prop :=
 xs.length = n * size /\ ((∃ A, v = .slice A 0 0 /\ n = 0) ∨
   ∃ g off cap cur, v = .slice (some ⟨g, off, none⟩) n cap /\ F g /\ w.heap[g]? = some (.cells cur e (0, 0)) /\ n <= cap /\ cap <= maxLen /\ off + cap * size <= cur.size /\ (cur.toList.drop off).take (n * size) = xs)
section
variable {F G : Nat -> Prop} {w w' : World} {e : TypeId} {size n : Nat} {v : Value} {xs : List Value}
theorem Lies.empty (w : World) (F : Nat -> Prop) (e : TypeId) (size : Nat) (A : Option Addr) : Lies w F e size (.slice A 0 0) 0 [] := ⟨by simp, .inl ⟨A, rfl, rfl⟩⟩
theorem Lies.mono (h : Lies w F e size v n xs) (hf : ∀ k, F k -> G k) : Lies w G e size v n xs :=
 ⟨h.1, h.2.imp id fun ⟨g, off, cap, cur, h1, h2, h3⟩ => ⟨g, off, cap, cur, h1, hf g h2, h3⟩⟩
theorem Lies.same (h : Lies w F e size v n xs) (hk : ∀ g cur, F g -> w.heap[g]? = some (.cells cur e (0, 0)) -> w'.heap[g]? = some (.cells cur e (0, 0))) : Lies w' F e size v n xs :=
 ⟨h.1, h.2.imp id fun ⟨g, off, cap, cur, h1, h2, h3, h4⟩ => ⟨g, off, cap, cur, h1, h2, hk g cur h2 h3, h4⟩⟩
theorem Lies.drewN (h : Lies w F e size v n xs) (k : Nat) : Lies (w.drewN k) F e size v n xs := h
theorem Lies.kept (h : Lies w F e size v n xs) (hk : Kept G w w') (hd : ∀ k, F k -> ¬ G k) : Lies w' F e size v n xs :=
 h.same fun g _ hF hh => hk.heap hh (hd g hF)
theorem Lies.below (h : Lies w F e size v n xs) (hb : Below w.heap.size w w') : Lies w' F e size v n xs :=
 h.same fun g _ _ hh => (hb.block g (lt_of_heap hh)).trans hh
theorem Lies.there (h : Lies w F e size v n xs) : Lies w (fun k => F k /\ k < w.heap.size) e size v n xs :=
 ⟨h.1, h.2.imp id fun ⟨g, off, cap, cur, h1, h2, h3, h4⟩ => ⟨g, off, cap, cur, h1, ⟨h2, lt_of_heap h3⟩, h3, h4⟩⟩
theorem Lies.form (h : Lies w F e size v n xs) : ∃ A c, v = .slice A n c /\ n <= c /\ c <= maxLen := by
 rcases h.2 with ⟨A, rfl, rfl⟩ | ⟨g, off, cap, cur, rfl, _, _, h1, h2, _⟩
 · exact ⟨A, 0, rfl, Nat.le_refl _, by unfold maxLen; omega⟩
 · exact ⟨_, cap, rfl, h1, h2⟩
theorem Lies.length (h : Lies w F e size v n xs) : xs.length = n * size := h.1
theorem Lies.cells (h : Lies w F e size v n xs) (hn : 0 < n) : ∃ g off cap, v = .slice (some ⟨g, off, none⟩) n cap /\ F g /\ n <= cap /\ cap <= maxLen /\ g < w.heap.size /\ w.rangeAt g off xs := by
 rcases h.2 with ⟨A, rfl, rfl⟩ | ⟨g, off, cap, cur, rfl, h0, h1, h2, h3, h4, h5⟩
 · omega
 · refine ⟨g, off, cap, rfl, h0, h2, h3, lt_of_heap h1, fun j u hu => ?_⟩
   rw [cell_of_row w g (off + j) cur e (0, 0) h1]
   rw [<- h5] at hu
   have hj : j < n * size := by
     have := (List.getElem?_eq_some_iff.1 hu).1
     simp at this; omega
   rw [List.getElem?_take_of_lt hj, List.getElem?_drop] at hu
   simpa using hu
end
def Holds (w : World) (A : Option Addr) (n size : Nat) (xs : List Value) : Prop := xs.length = n * size /\ (0 < n -> ∃ b off, A = some ⟨b, off, none⟩ /\ b < w.heap.size /\ w.rangeAt b off xs)
theorem Lies.holds {w : World} {F : Nat -> Prop} {e : TypeId} {size n : Nat} {v : Value} {xs : List Value} (h : Lies w F e size v n xs) : ∃ A c, v = .slice A n c /\ n <= c /\ c <= maxLen /\ Holds w A n size xs := by
 obtain ⟨A, c, rfl, h1, h2⟩ := h.form
 refine ⟨A, c, rfl, h1, h2, h.1, fun h0 => ?_⟩
 obtain ⟨g, off, cap, hv, _, _, _, hg, hr⟩ := h.cells h0
 injection hv with hv _ _
 exact ⟨g, off, hv, hg, hr⟩
theorem rangeAt_below {w w' : World} {b o : Nat} {cs : List Value} (h : w.rangeAt b o cs) (hb : b < w.heap.size) (hk : Below w.heap.size w w') : w'.rangeAt b o cs := fun j v hv =>
 (hk.cell (p := ⟨b, o + j, none⟩) hb).trans (h j v hv)
theorem Holds.below {w w' : World} {A : Option Addr} {n size : Nat} {xs : List Value} (h : Holds w A n size xs) (hb : Below w.heap.size w w') : Holds w' A n size xs :=
 ⟨h.1, fun h0 => let ⟨b, off, e, hlt, hr⟩ := h.2 h0; ⟨b, off, e, Nat.lt_of_lt_of_le hlt hb.size, rangeAt_below hr hlt hb⟩⟩
theorem Holds.nil (w : World) (A : Option Addr) (size : Nat) : Holds w A 0 size [] := ⟨by simp, fun h => by omega⟩
section
variable {P : Program}
theorem run_append_room_off (w : World) (t ty e : TypeId) (i : TypeInfo) (ht : P.underlying t = some (.slice e)) (hi : P.info? e = some i)
   (g off sLen sCap : Nat) (cur : Array Value) (hg : w.heap[g]? = some (.cells cur e (0, 0)))
   (a : Addr) (m c : Nat) (news : List Value) (hl : news.length = m * i.size) (hnews : ∀ j u, news[j]? = some u -> w.cell? (a.add j) = some u) (h1 : ∀ u ∈ news, u.oneCell' = true)
   (hroom : sLen + m <= sCap) (hfit : off + sLen * i.size + news.length <= cur.size) :
   (Builtin.append_ #[t, t] ty #[.slice (some ⟨g, off, none⟩) sLen sCap, .slice (some a) m c]).run P w =
     .ok (.slice (some ⟨g, off, none⟩) (sLen + m) sCap) (w.setRow g (cur.toList.take (off + sLen * i.size) ++ news ++ cur.toList.drop (off + sLen * i.size + news.length)).toArray) := by
 have hf := run_firstCells_some (P := P) w i.size m a m c news hl hnews
 have hst := run_storeCells_at P g (off + sLen * i.size) e news 0 cur w hg (by simpa using hfit) h1
 simp only [Nat.add_zero] at hst
 simp [Builtin.append_, run_underlying ht, sizeOf, typeInfo, hi, Builtin.lenOf, hroom, hf, Addr.add_lit, hst]
theorem run_append_nothing (w : World) (t ty e : TypeId) (i : TypeInfo) (ht : P.underlying t = some (.slice e)) (hi : P.info? e = some i) (A A' : Option Addr) (n cap c : Nat) (hn : n <= cap) :
   (Builtin.append_ #[t, t] ty #[.slice A n cap, .slice A' 0 c]).run P w = .ok (.slice A n cap) w := by
 have hf : (Builtin.firstCells i.size 0 (.slice A' 0 c)).run P w = .ok #[] w := by
   rcases A' with _ | a
   · simp [Builtin.firstCells]
   · exact run_firstCells_some (P := P) w i.size 0 a 0 c [] (by simp) (by simp)
 rcases A with _ | a <;> simp [Builtin.append_, run_underlying ht, sizeOf, typeInfo, hi, Builtin.lenOf, hn, hf, storeCells]
def Source (w : World) (A : Option Addr) (m : Nat) (news : List Value) : Prop := m = 0 ∨ ∃ a, A = some a /\ ∀ j u, news[j]? = some u -> w.cell? (a.add j) = some u
theorem Holds.source {w : World} {A : Option Addr} {n size : Nat} {xs : List Value} (h : Holds w A n size xs) : Source w A n xs := by
 rcases Nat.eq_zero_or_pos n with h0 | h0
 · exact .inl h0
 · obtain ⟨b, off, rfl, _, hr⟩ := h.2 h0
   exact .inr ⟨_, rfl, fun j u hu => by rw [Addr.add_lit]; exact hr j u hu⟩
def Spare (v : Value) (b : Nat) : Prop := ∃ off n cap, v = .slice (some ⟨b, off, none⟩) n cap /\ 0 < cap
theorem Lies.spare {w : World} {F : Nat -> Prop} {e : TypeId} {size n : Nat} {v : Value} {xs : List Value} (h : Lies w F e size v n xs) {b : Nat} (hs : Spare v b) : b < w.heap.size := by
 obtain ⟨off, n', cap, rfl, h0⟩ := hs
 rcases h.2 with ⟨A, hv, _⟩ | ⟨g, off', cap', cur, hv, _, hg, _⟩
 · injection hv with _ _ hv; omega
 · injection hv with hv _ _; injection hv with hv; injection hv with hv _ _; subst hv; exact lt_of_heap hg
theorem run_append_any (w : World) (F : Nat -> Prop) (t ty e : TypeId) (i : TypeInfo) (z : Value) (size bytes : Nat) (ht : P.underlying t = some (.slice e)) (hi : P.info? e = some i) (hz : i.zero = some z)
   (hsize : i.size = size) (hby : i.bytes = bytes) (hzs : z.cells.size = size) (hsz : 0 < size)
   (v : Value) (n : Nat) (xs : List Value) (hown : Lies w F e size v n xs) (A : Option Addr) (m c : Nat) (news : List Value) (hl : news.length = m * size) (hsrc : Source w A m news) (h1 : ∀ u ∈ news, u.oneCell' = true)
   (hbytes : (n + m) * bytes <= 140737488355328) (hb0 : 0 < bytes) :
   ∃ v' w', (Builtin.append_ #[t, t] ty #[v, .slice A m c]).run P w = .ok v' w' /\ Lies w' (grow F w) e size v' (n + m) (xs ++ news) /\ Kept (fun g => F g /\ Spare v g /\ ∃ cur, w.heap[g]? = some (.cells cur e (0, 0))) w w' := by
 subst hsize
 subst hby
 have hnm : n + m <= 140737488355328 := Nat.le_trans (Nat.le_mul_of_pos_right _ hb0) hbytes
 have hlen : (xs ++ news).length = (n + m) * i.size := by rw [List.length_append, hown.1, hl, Nat.add_mul]
 have grown : ∀ (old : Nat), old < n + m ->
     Lies (w.drew.alloc (.cells (xs.toArray ++ news.toArray ++ Builtin.zeroCells z.cells (grownCap w (n + m) old e - (n + m))) e)) (grow F w) e i.size (.slice (some ⟨w.heap.size, 0, none⟩) (n + m) (grownCap w (n + m) old e)) (n + m) (xs ++ news) /\
     Kept (fun g => F g /\ Spare v g /\ ∃ cur, w.heap[g]? = some (.cells cur e (0, 0))) w (w.drew.alloc (.cells (xs.toArray ++ news.toArray ++ Builtin.zeroCells z.cells (grownCap w (n + m) old e - (n + m))) e)) := by
   intro old ho
   have hge := grownCap_ge w (n + m) old e
   have hcm : grownCap w (n + m) old e <= maxLen := grownCap_le_maxLen w (n + m) old e (by unfold maxLen; omega)
   refine ⟨⟨hlen, .inr ⟨w.heap.size, 0, _, _, rfl, grow.fresh (Nat.le_refl _), heap_alloc_new w.drew _, hge, hcm, ?_, ?_⟩⟩, (Kept.refl _ _).drew.alloc _⟩
   · simp only [Array.size_append, List.size_toArray, size_zeroCells, hzs, hown.1, hl, <- Nat.add_mul, Nat.zero_add]
     refine Nat.le_of_eq ?_
     congr 1
     omega
   · simp only [Array.toList_append, List.append_assoc, List.drop_zero]
     rw [<- List.append_assoc, <- hlen]
     exact List.take_left
 rcases Nat.eq_zero_or_pos m with rfl | hm
 · obtain rfl : news = [] := List.eq_nil_of_length_eq_zero (by simpa using hl)
   obtain ⟨B, cap, rfl, hcap, _⟩ := hown.form
   refine ⟨_, w, run_append_nothing w t ty e i ht hi B A n cap c hcap, ?_, Kept.refl _ _⟩
   simpa using hown.mono (fun _ => grow.old)
 · obtain ⟨a, rfl, hcells⟩ : ∃ a, A = some a /\ ∀ j u, news[j]? = some u -> w.cell? (a.add j) = some u := by
     rcases hsrc with h | h
     · omega
     · exact h
   rcases hown.2 with ⟨B, rfl, rfl⟩ | ⟨g, off, cap, cur, rfl, hF, hg, hnc, hcm, hfit, htake⟩
   · obtain rfl : xs = [] := List.eq_nil_of_length_eq_zero (by simpa using hown.1)
     rcases B with _ | b
     · have hr := run_append_nil (P := P) w t ty e i z ht hi hz a m c news hl hcells (by omega) (by omega) (by have hb := hbytes; simp only [Nat.zero_add] at hb; omega)
       have hgr := grown 0 (by omega)
       simp only [Nat.zero_add, List.nil_append, Array.empty_append] at hgr ⊢
       exact ⟨_, _, hr, hgr.1, hgr.2⟩
     · have hr := run_append_grow (P := P) w t ty e i z ht hi hz b 0 0 [] (by simp) (by simp) a m c news hl hcells (by omega) (by omega) (growslice_fits (by omega) hbytes)
       exact ⟨_, _, hr, (grown 0 (by omega)).1, (grown 0 (by omega)).2⟩
   · by_cases hroom : n + m <= cap
     · have hmul : n * i.size + news.length <= cap * i.size := by rw [hl, <- Nat.add_mul]; exact Nat.mul_le_mul_right _ hroom
       have hr := run_append_room_off (P := P) w t ty e i ht hi g off n cap cur hg a m c news hl hcells h1 hroom (by omega)
       refine ⟨_, _, hr, ⟨hlen, .inr ⟨g, off, cap, _, rfl, grow.old hF, setRow_heap w g cur _ e _ hg, hroom, hcm, ?_, ?_⟩⟩, (Kept.refl _ _).setRow (grow.old ⟨hF, ⟨off, n, cap, rfl, by omega⟩, cur, hg⟩) _⟩
       · simp only [List.size_toArray, List.length_append, List.length_take, List.length_drop, Array.length_toList]
         omega
       · have e1 : (cur.toList.take (off + n * i.size)) = cur.toList.take off ++ xs := by rw [<- htake, List.take_add]
         simp only [List.append_assoc]
         rw [e1, List.append_assoc, List.drop_append_of_le_length (by simp; omega), List.drop_of_length_le (by simp; omega), List.nil_append, <- List.append_assoc, <- hlen]
         exact List.take_left
     · have holds : ∀ j u, xs[j]? = some u -> w.cell? ((⟨g, off, none⟩ : Addr).add j) = some u := by
         intro j u hu
         rcases Nat.eq_zero_or_pos n with h0 | h0
         · subst h0
           obtain rfl : xs = [] := List.eq_nil_of_length_eq_zero (by simpa using hown.1)
           simp at hu
         · obtain ⟨g', off', cap', hv, _, _, _, _, hr⟩ := hown.cells h0
           injection hv with hv1 hv2 hv3
           injection hv1 with hv1
           injection hv1 with hv4 hv5
           subst hv4; subst hv5
           rw [Addr.add_lit]
           exact hr j u hu
       have hr := run_append_grow (P := P) w t ty e i z ht hi hz ⟨g, off, none⟩ n cap xs hown.1 holds a m c news hl hcells (by omega) (by omega) (growslice_fits (by omega) hbytes)
       exact ⟨_, _, hr, (grown cap (by omega)).1, (grown cap (by omega)).2⟩
theorem wp_append_any {o : Oper} {a : Act} {w : World} {K : Act -> World -> Prop} {Q : Exit -> Act -> World -> Prop} (F : Nat -> Prop) (s x : Operand) (t : TypeId)
   (ho : o.op = .call { callee := .builtin .append, args := #[s, x], argTypes := #[t, t] }) (e : TypeId) (size bytes : Nat) (z : Value) (ht : P.underlying t = some (.slice e)) (hi : (P.info? e).map (fun i => (i.zero, i.size, i.bytes)) = some (some z, size, bytes))
   (hzs : z.cells.size = size) (hsz : 0 < size) (v : Value) (n : Nat) (xs : List Value) (hs : a.eval s = v) (hown : Lies w F e size v n xs) (A : Option Addr) (m c : Nat) (news : List Value) (hx : a.eval x = .slice A m c)
   (hl : news.length = m * size) (hsrc : Source w A m news) (h1 : ∀ u ∈ news, u.oneCell' = true) (hbytes : (n + m) * bytes <= 140737488355328) (hb0 : 0 < bytes)
   (h : ∀ v' w', Lies w' (grow F w) e size v' (n + m) (xs ++ news) -> Kept (fun g => F g /\ Spare v g /\ ∃ cur, w.heap[g]? = some (.cells cur e (0, 0))) w w' -> K (a.put o.dst v') w') : o.wp P a w K Q := by
 obtain ⟨i, hi, hz, hs1, hb⟩ := info_parts hi
 obtain ⟨v', w', hr, h2, h3⟩ := run_append_any (P := P) w F t o.type e i z size bytes ht hi hz hs1 hb hzs hsz v n xs hown A m c news hl hsrc h1 hbytes hb0
 unfold Oper.wp execOp
 simp only [ho, resolve, invoke, builtin, Sem.run_bind, Sem.run_pure, Result.andThen_ok, List.map_toArray, List.map_cons, List.map_nil, hs, hx, hr]
 exact h v' w' h2 h3
theorem wpList_append_any {ops : Array Oper} {rest : List Oper} {o : Oper} {a : Act} {w : World} {Q : Exit -> Act -> World -> Prop} (hgd : o.guard = none) (F : Nat -> Prop) (s x : Operand) (t : TypeId)
   (ho : o.op = .call { callee := .builtin .append, args := #[s, x], argTypes := #[t, t] }) (e : TypeId) (size bytes : Nat) (z : Value) (ht : P.underlying t = some (.slice e)) (hi : (P.info? e).map (fun i => (i.zero, i.size, i.bytes)) = some (some z, size, bytes))
   (hzs : z.cells.size = size) (hsz : 0 < size) (v : Value) (n : Nat) (xs : List Value) (hs : a.eval s = v) (hown : Lies w F e size v n xs) (A : Option Addr) (m c : Nat) (news : List Value) (hx : a.eval x = .slice A m c)
   (hl : news.length = m * size) (hsrc : Source w A m news) (h1 : ∀ u ∈ news, u.oneCell' = true) (hbytes : (n + m) * bytes <= 140737488355328) (hb0 : 0 < bytes)
   (h : ∀ v' w', Lies w' (grow F w) e size v' (n + m) (xs ++ news) -> Kept (fun g => F g /\ Spare v g /\ ∃ cur, w.heap[g]? = some (.cells cur e (0, 0))) w w' -> wpList P ops Q rest (a.put o.dst v') w') : wpList P ops Q (o :: rest) a w :=
 wpList_plain hgd fun _ hK => wp_append_any F s x t ho e size bytes z ht hi hzs hsz v n xs hs hown A m c news hx hl hsrc h1 hbytes hb0 fun v' w' h2 h3 => hK _ _ (h v' w' h2 h3)
def cutFrom (A : Option Addr) (n c k size : Nat) : Value := .slice (if c = k then A else A.map (·.add (k * size))) (n - k) (c - k)
theorem cutFrom_lies {w : World} {F : Nat -> Prop} {e : TypeId} {size n c k : Nat} {A : Option Addr} {xs : List Value} (h : Lies w F e size (.slice A n c) n xs) (hk : k <= n) : Lies w F e size (cutFrom A n c k size) (n - k) (xs.drop (k * size)) := by
 refine ⟨by rw [List.length_drop, h.1, Nat.sub_mul], ?_⟩
 rcases h.2 with ⟨A', hv, rfl⟩ | ⟨g, off, cap, cur, hv, hF, hg, h1, h2, h3, h4⟩
 · injection hv with _ _ hv3
   subst hv3
   obtain rfl : k = 0 := by omega
   exact .inl ⟨_, rfl, rfl⟩
 · injection hv with hv1 _ hv3
   subst hv1; subst hv3
   by_cases hck : c = k
   · subst hck
     obtain rfl : n = c := by omega
     exact .inl ⟨some ⟨g, off, none⟩, by simp [cutFrom], by omega⟩
   · refine .inr ⟨g, off + k * size, c - k, cur, by simp [cutFrom, hck, Addr.add_lit], hF, hg, by omega, by omega, ?_, ?_⟩
     · have : k * size + (c - k) * size = c * size := by rw [<- Nat.add_mul, Nat.add_sub_cancel' (by omega)]
       omega
     · rw [<- h4, List.drop_take, List.drop_drop, Nat.sub_mul]
end
def isBlank (b : UInt8) : Bool := b == 32 || b == 9 || b == 13 || b == 10
def blk (s : List UInt8) : List UInt8 := s.dropWhile isBlank
def tkB (these s : List UInt8) : Bool := match s with
 | x :: _ => these.contains x
 | [] => false
def tkS (these s : List UInt8) : List UInt8 := if tkB these s then s.drop 1 else s
theorem tkS_le (these s : List UInt8) : (tkS these s).length <= s.length := by
 unfold tkS
 split
 · simp
 · exact Nat.le_refl _
theorem dropWhile_len (p : UInt8 -> Bool) (l : List UInt8) : (l.dropWhile p).length <= l.length := (List.dropWhile_suffix p).length_le
theorem tkB_some {these s : List UInt8} (h : tkB these s = true) : 0 < s.length := by
 cases s with
 | nil => cases h
 | cons x t => simp
def dgs (s : List UInt8) : Option (List UInt8) := match s with
 | x :: t => if isDig x then some (t.dropWhile isDig) else none
 | [] => none
def numEnd (s : List UInt8) : Option (List UInt8) :=
 let s1 := tkS [45] s
 match (if tkB [48] s1 then some (s1.drop 1) else dgs s1) with
 | none => none
 | some s2 => match (if tkB [46] s2 then dgs (s2.drop 1) else some s2) with
   | none => none
   | some s3 => if tkB [101, 69] s3 then dgs (tkS [43, 45] (s3.drop 1)) else some s3
def hexDigits : List UInt8 := [48, 49, 50, 51, 52, 53, 54, 55, 56, 57, 97, 98, 99, 100, 101, 102, 65, 66, 67, 68, 69, 70]
def hexV (b : UInt8) : Option Nat :=
 if 48 <= b.toNat /\ b.toNat <= 57 then some (b.toNat - 48)
 else if 97 <= b.toNat /\ b.toNat <= 102 then some (b.toNat - 87)
 else if 65 <= b.toNat /\ b.toNat <= 70 then some (b.toNat - 55)
 else none
def hexN : Nat -> Nat -> List UInt8 -> Option (Nat × List UInt8)
 | 0, x, s => some (x, s)
 | k + 1, x, s => match s with
   | [] => none
   | b :: t => match hexV b with
     | none => none
     | some d => hexN k (x * 16 + d) t
def four (s : List UInt8) : Option (Nat × List UInt8) := hexN 4 0 s
theorem hexN_len (k : Nat) : ∀ (x : Nat) (s : List UInt8) (y : Nat) (t : List UInt8), hexN k x s = some (y, t) -> t.length + k = s.length := by
 induction k with
 | zero => intro x s y t h; injection h with h; injection h with _ h; rw [h]; rfl
 | succ k ih =>
   intro x s y t h
   cases s with
   | nil => cases h
   | cons b r =>
     unfold hexN at h
     simp only at h
     cases hd : hexV b with
     | none => rw [hd] at h; cases h
     | some d =>
       rw [hd] at h
       have := ih _ _ _ _ h
       simp only [List.length_cons]
       omega
theorem hexN_lt (k : Nat) : ∀ (x : Nat) (s : List UInt8) (y : Nat) (t : List UInt8), hexN k x s = some (y, t) -> y < (x + 1) * 16 ^ k := by
 induction k with
 | zero => intro x s y t h; injection h with h; injection h with h _; rw [h]; simp
 | succ k ih =>
   intro x s y t h
   cases s with
   | nil => cases h
   | cons b r =>
     unfold hexN at h
     simp only at h
     cases hd : hexV b with
     | none => rw [hd] at h; cases h
     | some d =>
       rw [hd] at h
       have h1 := ih _ _ _ _ h
       have h2 : d < 16 := by
         unfold hexV at hd
         split at hd
         · injection hd with hd; omega
         · split at hd
           · injection hd with hd; omega
           · split at hd
             · injection hd with hd; omega
             · cases hd
       refine Nat.lt_of_lt_of_le h1 ?_
       rw [Nat.pow_succ, Nat.mul_comm (16 ^ k), <- Nat.mul_assoc]
       exact Nat.mul_le_mul_right _ (by omega)
def runeL (x : Nat) : List UInt8 :=
 if x < 128 then [UInt8.ofNat x]
 else if x < 2048 then [UInt8.ofNat (192 + x / 64), UInt8.ofNat (128 + x % 64)]
 else if x < 65536 then [UInt8.ofNat (224 + x / 4096), UInt8.ofNat (128 + x / 64 % 64), UInt8.ofNat (128 + x % 64)]
 else [UInt8.ofNat (240 + x / 262144), UInt8.ofNat (128 + x / 4096 % 64), UInt8.ofNat (128 + x / 64 % 64), UInt8.ofNat (128 + x % 64)]
def isHi (x : Nat) : Bool := decide (55296 <= x /\ x < 56320)
def isLo (x : Nat) : Bool := decide (56320 <= x /\ x < 57344)
def pfx (p s : List UInt8) : Bool := p.isPrefixOf s
def codedL (s : List UInt8) : Option (Nat × Bool × List UInt8) := match four s with
 | none => none
 | some (x, t) =>
   if isHi x = false /\ isLo x = false then some (x, false, t)
   else if isHi x = true /\ pfx [92, 117] t = true then
     match four (t.drop 2) with
     | none => none
     | some (y, r) => if isLo y = true then some (65536 + (x - 55296) * 1024 + (y - 56320), false, r) else some (65533, true, r)
   else some (65533, true, t)
def escV (b : UInt8) : Option Nat :=
 if b = 34 then some 34 else if b = 92 then some 92 else if b = 98 then some 8 else if b = 102 then some 12
 else if b = 110 then some 10 else if b = 114 then some 13 else if b = 116 then some 9 else if b = 47 then some 47 else none
def letterL (s : List UInt8) : Option (Nat × Bool × List UInt8) := match s with
 | [] => none
 | b :: t => if b = 117 then codedL t else match escV b with
   | none => none
   | some x => some (x, false, t)
theorem codedL_len {s : List UInt8} {x : Nat} {a : Bool} {t : List UInt8} (h : codedL s = some (x, a, t)) : t.length < s.length := by
 unfold codedL four at h
 split at h
 · cases h
 · rename_i x1 t1 h1
   have l1 := hexN_len _ _ _ _ _ h1
   split at h
   · injection h with h; injection h with _ h; injection h with _ h; subst h; omega
   · split at h
     · split at h
       · cases h
       · rename_i y r h2
         have l2 := hexN_len _ _ _ _ _ h2
         rw [List.length_drop] at l2
         split at h <;> (injection h with h; injection h with _ h; injection h with _ h; subst h; omega)
     · injection h with h; injection h with _ h; injection h with _ h; subst h; omega
theorem letterL_len {s : List UInt8} {x : Nat} {a : Bool} {t : List UInt8} (h : letterL s = some (x, a, t)) : t.length < s.length := by
 cases s with
 | nil => cases h
 | cons b r =>
   unfold letterL at h
   simp only at h
   split at h
   · have := codedL_len h
     simp only [List.length_cons]; omega
   · split at h
     · cases h
     · injection h with h; injection h with _ h; injection h with _ h; subst h; simp
set_option linter.unusedVariables false in
def letsL (s : List UInt8) : Option (List UInt8 × Bool × List UInt8) := match s with
 | [] => none
 | b :: t =>
   if b = 34 then some ([], false, t)
   else if b = 92 then
     match h : letterL t with
     | none => none
     | some (x, a, r) => match letsL r with
       | none => none
       | some (l, a', q) => some (runeL x ++ l, a || a', q)
   else if b.toNat < 32 then none
   else match letsL t with
     | none => none
     | some (l, a', q) => some (b :: l, a', q)
termination_by s.length
decreasing_by
 · have := letterL_len h; simp only [List.length_cons]; omega
 · simp
inductive JV where
 | mk (kind : Int) (bool : Bool) (num : Dec) (text : List UInt8) (list : List JV) (names : List (List UInt8))
def JV.null : JV := .mk 0 false Dec.zero [] [] []
structure Fr where
 obj : Bool
 list : List JV
 names : List (List UInt8)
def Fr.val (f : Fr) : JV := .mk (if f.obj then 5 else 4) false Dec.zero [] f.list f.names
structure Fl where
 deep : Bool
 alone : Bool
 twice : Bool
 far : Bool
def maxDeep : Nat := 64
def isDeepK (K : List Fr) : Bool := decide (maxDeep < K.length)
def enterK (obj : Bool) (K : List Fr) : List Fr := ⟨obj, [], []⟩ :: K
def enterF (K : List Fr) (f : Fl) : Fl := if isDeepK K then { f with deep := true } else f
def nameK (l : List UInt8) (K : List Fr) : List Fr := match K with
 | [] => []
 | t :: r => if isDeepK K then K else { t with names := t.names ++ [l] } :: r
def nameF (l : List UInt8) (K : List Fr) (f : Fl) : Fl := match K with
 | [] => f
 | t :: _ => if isDeepK K then f else { f with twice := f.twice || t.names.contains l }
def putK (v : JV) (K : List Fr) : List Fr := match K with
 | [] => []
 | t :: r => if isDeepK K then K else { t with list := t.list ++ [v] } :: r
def wNull : List UInt8 := [110, 117, 108, 108]
def wTrue : List UInt8 := [116, 114, 117, 101]
def wFalse : List UInt8 := [102, 97, 108, 115, 101]
def plainL (s : List UInt8) : Option (JV × Bool × Bool × List UInt8) :=
 if tkB [34] s then match letsL (s.drop 1) with
   | none => none
   | some (l, a, r) => some (.mk 3 false Dec.zero l [] [], a, false, r)
 else if pfx wNull s then some (JV.null, false, false, s.drop 4)
 else if pfx wTrue s then some (.mk 1 true Dec.zero [] [] [], false, false, s.drop 4)
 else if pfx wFalse s then some (.mk 1 false Dec.zero [] [] [], false, false, s.drop 5)
 else match numEnd s with
   | none => none
   | some r => let t := s.take (s.length - r.length); some (.mk 2 false (parseD t) [] [] [], false, decide (parseE t ≠ 0), r)
theorem blk_len (s : List UInt8) : (blk s).length <= s.length := dropWhile_len _ _
theorem blk_blk (s : List UInt8) : blk (blk s) = blk s := by
 unfold blk
 induction s with
 | nil => rfl
 | cons x t ih =>
   rw [List.dropWhile_cons]
   split
   · exact ih
   · rename_i h
     rw [List.dropWhile_cons, if_neg h]
theorem dgs_len {s t : List UInt8} (h : dgs s = some t) : t.length < s.length := by
 cases s with
 | nil => cases h
 | cons x r =>
   unfold dgs at h
   simp only at h
   split at h
   · injection h with h
     subst h
     have := dropWhile_len isDig r
     simp only [List.length_cons]; omega
   · cases h
theorem numEnd_len {s t : List UInt8} (h : numEnd s = some t) : t.length < s.length := by
 unfold numEnd at h
 simp only at h
 have h1 := tkS_le [45] s
 split at h
 · cases h
 · rename_i s2 h2
   have l2 : s2.length < s.length := by
     split at h2
     · rename_i hb
       injection h2 with h2
       have := tkB_some hb
       subst h2
       rw [List.length_drop]; omega
     · have := dgs_len h2; omega
   split at h
   · cases h
   · rename_i s3 h3
     have l3 : s3.length <= s2.length := by
       split at h3
       · have := dgs_len h3
         rw [List.length_drop] at this; omega
       · injection h3 with h3; rw [h3]; exact Nat.le_refl _
     split at h
     · have := dgs_len h
       have := tkS_le [43, 45] (s3.drop 1)
       rw [List.length_drop] at this; omega
     · injection h with h; subst h; omega
theorem letsL_len (s : List UInt8) : ∀ {l : List UInt8} {a : Bool} {t : List UInt8}, letsL s = some (l, a, t) -> t.length < s.length := by
 suffices key : ∀ (n : Nat) (s : List UInt8), s.length <= n -> ∀ {l : List UInt8} {a : Bool} {t : List UInt8}, letsL s = some (l, a, t) -> t.length < s.length from fun {l a t} h => key s.length s (Nat.le_refl _) h
 intro n
 induction n with
 | zero =>
   intro s hs l a t h
   cases s with
   | nil => rw [letsL] at h; cases h
   | cons b r => simp at hs
 | succ n ih =>
   intro s hs l a t h
   cases s with
   | nil => rw [letsL] at h; cases h
   | cons b r =>
     rw [letsL] at h
     simp only [List.length_cons] at hs ⊢
     split at h
     · injection h with h; injection h with _ h; injection h with _ h; subst h; omega
     · split at h
       · split at h
         · cases h
         · rename_i x a1 r1 h1
           have l1 := letterL_len h1
           split at h
           · cases h
           · rename_i l2 a2 q h2
             have := ih r1 (by omega) h2
             injection h with h; injection h with _ h; injection h with _ h; subst h; omega
       · split at h
         · cases h
         · split at h
           · cases h
           · rename_i l2 a2 q h2
             have := ih r (by omega) h2
             injection h with h; injection h with _ h; injection h with _ h; subst h; omega
theorem pfx_len {p s : List UInt8} (h : pfx p s = true) : p.length <= s.length := (List.isPrefixOf_iff_prefix.1 h).length_le
theorem plainL_len {s : List UInt8} {v : JV} {a f : Bool} {t : List UInt8} (h : plainL s = some (v, a, f, t)) : t.length < s.length := by
 unfold plainL at h
 split at h
 · rename_i hb
   have := tkB_some hb
   split at h
   · cases h
   · rename_i l a1 r h1
     have h2 := letsL_len _ h1
     rw [List.length_drop] at h2
     injection h with h; injection h with _ h; injection h with _ h; injection h with _ h; subst h; omega
 · split at h
   · rename_i hp
     have := pfx_len hp
     injection h with h; injection h with _ h; injection h with _ h; injection h with _ h; subst h
     rw [List.length_drop]; simp only [wNull, List.length_cons, List.length_nil] at this; omega
   · split at h
     · rename_i hp
       have := pfx_len hp
       injection h with h; injection h with _ h; injection h with _ h; injection h with _ h; subst h
       rw [List.length_drop]; simp only [wTrue, List.length_cons, List.length_nil] at this; omega
     · split at h
       · rename_i hp
         have := pfx_len hp
         injection h with h; injection h with _ h; injection h with _ h; injection h with _ h; subst h
         rw [List.length_drop]; simp only [wFalse, List.length_cons, List.length_nil] at this; omega
       · split at h
         · cases h
         · rename_i r h1
           have := numEnd_len h1
           injection h with h; injection h with _ h; injection h with _ h; injection h with _ h; subst h; omega
inductive Md where
 | value
 | name
 | leave
 | behind (v : JV)
def Md.rank : Md -> Nat
 | .leave => 1
 | _ => 0
theorem tk_drop {these s s0 : List UInt8} (h : tkB these s = true) (h2 : s.length <= s0.length) : (s.drop 1).length < s0.length := by
 have := tkB_some h
 rw [List.length_drop]; omega
set_option linter.unusedVariables false in
def runJ (m : Md) (K : List Fr) (f : Fl) (s : List UInt8) : Option (JV × Fl) :=
 match m with
 | .value =>
   if h1 : tkB [91] (blk s) = true then
     if h2 : tkB [93] (blk ((blk s).drop 1)) = true then runJ .leave (enterK false K) (enterF (enterK false K) f) ((blk ((blk s).drop 1)).drop 1)
     else runJ .value (enterK false K) (enterF (enterK false K) f) (blk ((blk s).drop 1))
   else if h1' : tkB [123] (blk s) = true then
     if h2 : tkB [125] (blk ((blk s).drop 1)) = true then runJ .leave (enterK true K) (enterF (enterK true K) f) ((blk ((blk s).drop 1)).drop 1)
     else runJ .name (enterK true K) (enterF (enterK true K) f) (blk ((blk s).drop 1))
   else match h3 : plainL (blk s) with
     | none => none
     | some (v, a, g, r) => runJ (.behind v) K { f with alone := f.alone || a, far := f.far || g } r
 | .name =>
   if h1 : tkB [34] (blk s) = true then match h2 : letsL ((blk s).drop 1) with
     | none => none
     | some (l, a, r) =>
       if h3 : tkB [58] (blk r) = true then runJ .value (nameK l K) (nameF l K { f with alone := f.alone || a }) ((blk r).drop 1)
       else none
   else none
 | .leave => match K with
   | [] => none
   | t :: r => runJ (.behind (if isDeepK K then JV.null else t.val)) r f s
 | .behind v => match K with
   | [] => if blk s = [] then some (v, f) else none
   | t :: _ =>
     if h1 : tkB [44] (blk s) = true then runJ (if t.obj then .name else .value) (putK v K) f ((blk s).drop 1)
     else if h2 : tkB [if t.obj then 125 else 93] (blk s) = true then runJ .leave (putK v K) f ((blk s).drop 1)
     else none
termination_by (s.length, m.rank)
decreasing_by
 · have := tk_drop h1 (blk_len s)
   have := tk_drop h2 (blk_len ((blk s).drop 1))
   exact Prod.Lex.left _ _ (by omega)
 · have := tk_drop h1 (blk_len s)
   have := blk_len ((blk s).drop 1)
   exact Prod.Lex.left _ _ (by omega)
 · have := tk_drop h1' (blk_len s)
   have := tk_drop h2 (blk_len ((blk s).drop 1))
   exact Prod.Lex.left _ _ (by omega)
 · have := tk_drop h1' (blk_len s)
   have := blk_len ((blk s).drop 1)
   exact Prod.Lex.left _ _ (by omega)
 · have := plainL_len h3
   have := blk_len s
   exact Prod.Lex.left _ _ (by omega)
 · have := tk_drop h1 (blk_len s)
   have := letsL_len _ h2
   have := tk_drop h3 (blk_len r)
   exact Prod.Lex.left _ _ (by omega)
 · exact Prod.Lex.right _ (by show (0 : Nat) < 1; omega)
 · have := tk_drop h1 (blk_len s)
   exact Prod.Lex.left _ _ (by omega)
 · have := tk_drop h2 (blk_len s)
   exact Prod.Lex.left _ _ (by omega)
def txL (d : Dec) : List UInt8 := if mayB d = true then textL d else []
def hexD (x : Nat) : UInt8 := if x < 10 then UInt8.ofNat (48 + x) else UInt8.ofNat (87 + x)
def escL (b : UInt8) : List UInt8 :=
 if b = 34 then [92, 34] else if b = 92 then [92, 92] else if b = 8 then [92, 98] else if b = 12 then [92, 102]
 else if b = 10 then [92, 110] else if b = 13 then [92, 114] else if b = 9 then [92, 116]
 else if b.toNat < 32 then [92, 117, 48, 48, hexD (b.toNat / 16), hexD (b.toNat % 16)]
 else [b]
def quoteL (s : List UInt8) : List UInt8 := [34] ++ s.flatMap escL ++ [34]
mutual
def tellJ : JV -> List UInt8
 | .mk k b d t l ns =>
   if k = 0 then wNull else if k = 1 then (if b then wTrue else wFalse) else if k = 2 then txL d else if k = 3 then quoteL t
   else if k = 4 then [91] ++ tellKids 4 0 l [] ++ [93]
   else [123] ++ tellKids k 0 l ns ++ [125]
def tellKids (k : Int) (i : Nat) : List JV -> List (List UInt8) -> List UInt8
 | [], _ => []
 | x :: l, ns => (if i = 0 then [] else [44]) ++ (if k = 5 then quoteL (ns.headD []) ++ [58] else []) ++ tellJ x ++ tellKids k (i + 1) l ns.tail
end
mutual
def depthJ : JV -> Nat
 | .mk k _ _ _ l _ => if k = 4 ∨ k = 5 then depthKids l + 1 else 0
def depthKids : List JV -> Nat
 | [] => 0
 | x :: l => max (depthJ x) (depthKids l)
end
open Go.RowKit
def bs (l : List UInt8) : ByteArray := ⟨l.toArray⟩
theorem bs_size (l : List UInt8) : (bs l).size = l.length := by simp [bs, ByteArray.size]
theorem bs_toList (l : List UInt8) : (bs l).toList = l := ByteArray.toList_mk l
theorem bs_of (s : ByteArray) : s = bs s.data.toList := by cases s; simp [bs]
def decV (d : Dec) : Value := .agg #[.bool d.neg, .string (bs d.digits), .int .i64 d.exp]
def byteAt (l : List UInt8) (k : Nat) : Nat := (l.getD k 0).toNat
theorem run_byte {P : Program} (t : TypeId) (ht : P.underlying t = some .string) (l : List UInt8) (k : Nat) (hk : k < l.length) (w : World) :
   (Instr.index t (.string (bs l)) (.int .i64 (k : Int))).run P w = .ok (.int .u8 (byteAt l k : Int)) w := by
 rw [run_index_string w t _ _ _ ht, dif_pos ⟨by omega, by rw [bs_size]; omega⟩]
 congr 2
 unfold byteAt bs
 have : ((k : Int).toNat) = k := by omega
 simp only [this]
 congr 2
 simp [ByteArray.getElem_eq_getElem_data, List.getD, List.getElem?_eq_getElem hk]
theorem isDigit_ok (b : UInt8) (w : World) : Calls Tryz.prog 91 #[.int .u8 (b.toNat : Int)] w fun e w' => e = .returned (.bool (isDig b)) /\ w = w' := by
 have H : Hid (isDig b = (decide (48 <= b.toNat) && decide (b.toNat <= 57))) := hid rfl
 have hb := b.toNat_lt
 generalize isDig b = r at *
 generalize b.toNat = n at *
 have go : ∀ r0 : Bool, r = r0 -> ((48 <= n /\ n <= 57 /\ r0 = true) ∨ (48 <= n /\ ¬ n <= 57 /\ r0 = false) ∨ (¬ 48 <= n /\ r0 = false)) := by
   intro r0 h
   rw [H.out] at h
   by_cases h1 : 48 <= n <;> by_cases h2 : n <= 57 <;> simp [h1, h2] at h ⊢ <;> simp [h]
 have := go r rfl
 clear go H
 rcases this with ⟨h1, h2, rfl⟩ | ⟨h1, h2, rfl⟩ | ⟨h1, rfl⟩
 · go_enter Tryz.func91, Tryz.ntmps91
   go_wp2
   go_ret
   exact ⟨ret_val (congrArg Value.bool (by simp; omega)), rfl⟩
 · go_enter Tryz.func91, Tryz.ntmps91
   go_wp2
   go_ret
   exact ⟨ret_val (congrArg Value.bool (by simp; omega)), rfl⟩
 · go_enter Tryz.func91, Tryz.ntmps91
   go_wp2
   go_ret
   exact ⟨rfl, rfl⟩
theorem isZero_ok (d : Dec) (w : World) : Calls Tryz.prog 94 #[decV d] w fun e w' => e = .returned (.bool (decide (d.digits = []))) /\ Below w.heap.size w w' := by
 have hb : Below w.heap.size w (w.alloc (.cells #[.bool d.neg, .string (bs d.digits), .int .i64 d.exp] 24)) := (Below.refl _ _).alloc (Nat.le_refl _) _
 have h1 : (w.alloc (.cells #[.bool d.neg, .string (bs d.digits), .int .i64 d.exp] 24)).cell? ⟨w.heap.size, 1, none⟩ = some (.string (bs d.digits)) := (Row.new _ _ _).cell rfl
 have hE : (bs d.digits).toList.isEmpty = decide (d.digits = []) := by rw [bs_toList]; cases d.digits <;> rfl
 have HE := hid hE
 have HB := hid hb
 clear hb hE
 unfold decV
 go_enter Tryz.func94, Tryz.ntmps94
 go_wp2
 go_ret
 exact ⟨ret_val (by rw [<- HE.out]; rfl), HB.out⟩
theorem place_ok (d : Dec) (w : World) (h1 : d.digits.length <= 140737488355328) (h2 : -4611686018427387904 <= d.exp) (h3 : d.exp <= 4611686018427387904) :
   Calls Tryz.prog 70 #[decV d] w fun e w' => e = .returned (.int .i64 (d.digits.length + d.exp)) /\ Below w.heap.size w w' := by
 have hb : Below w.heap.size w (w.alloc (.cells #[.bool d.neg, .string (bs d.digits), .int .i64 d.exp] 24)) := (Below.refl _ _).alloc (Nat.le_refl _) _
 have hr : Row (w.alloc (.cells #[.bool d.neg, .string (bs d.digits), .int .i64 d.exp] 24)) w.heap.size 24 #[.bool d.neg, .string (bs d.digits), .int .i64 d.exp] := Row.new _ _ _
 have c1 := hr.cell (i := 1) (v := .string (bs d.digits)) rfl
 have c2 := hr.cell (i := 2) (v := .int .i64 d.exp) rfl
 have hs := bs_size d.digits
 have HB := hid hb
 clear hb hr
 unfold decV
 generalize bs d.digits = s at *
 generalize d.exp = e at *
 generalize d.digits.length = n at *
 go_enter Tryz.func70, Tryz.ntmps70
 go_wp2
 go_ret
 exact ⟨ret_int (by omega), HB.out⟩
def u64s (l : List Nat) : List Value := l.map fun (x : Nat) => Value.int .u64 (x : Int)
theorem u64s_length (l : List Nat) : (u64s l).length = l.length := by simp [u64s]
theorem u64s_get (l : List Nat) {j : Nat} (h : j < l.length) : (u64s l)[j]? = some (.int .u64 (wat l j : Int)) := by
 simp [u64s, wat, List.getElem?_eq_getElem h, List.getD]
theorem u64s_append (a b : List Nat) : u64s (a ++ b) = u64s a ++ u64s b := by simp [u64s]
def Wds (w : World) (v : Value) (l : List Nat) : Prop :=
 (∀ i, wat l i < 18446744073709551616) /\ ∃ A c, v = .slice A l.length c /\ l.length <= c /\ c <= maxLen /\ Holds w A l.length 1 (u64s l)
theorem Wds.below {w w' : World} {v : Value} {l : List Nat} (h : Wds w v l) (hb : Below w.heap.size w w') : Wds w' v l := by
 obtain ⟨h0, A, c, h1, h2, h3, h4⟩ := h
 exact ⟨h0, A, c, h1, h2, h3, h4.below hb⟩
theorem Wds.at_ {w : World} {v : Value} {l : List Nat} (h : Wds w v l) (h0 : 0 < l.length) :
   ∃ b off c, v = .slice (some ⟨b, off, none⟩) l.length c /\ l.length <= c /\ c <= maxLen /\ b < w.heap.size /\ ∀ j, j < l.length -> w.cell? ⟨b, off + j, none⟩ = some (.int .u64 (wat l j : Int)) := by
 obtain ⟨_, A, c, rfl, h2, h3, _, h4⟩ := h
 obtain ⟨b, off, rfl, hb, hr⟩ := h4 h0
 exact ⟨b, off, c, rfl, h2, h3, hb, fun j hj => hr j _ (u64s_get l hj)⟩
theorem wat_take {l : List Nat} {k j : Nat} (h : j < k) : wat (l.take k) j = wat l j := by
 unfold wat
 simp [List.getD_eq_getElem?_getD, h]
theorem wat_take_le (l : List Nat) (k j : Nat) : wat (l.take k) j <= wat l j := by
 by_cases h : j < k
 · rw [wat_take h]; exact Nat.le_refl _
 · rw [wat_out (by rw [List.length_take]; omega)]; omega
theorem Wds.take {w : World} {A : Option Addr} {n c : Nat} {l : List Nat} (h : Wds w (.slice A n c) l) {k : Nat} (hk : k <= l.length) : Wds w (.slice A k c) (l.take k) := by
 obtain ⟨h0, A', c', e, h2, h3, h4, h5⟩ := h
 injection e with e1 e2 e3
 subst e1 e2 e3
 have hl : (l.take k).length = k := by rw [List.length_take]; omega
 refine ⟨fun i => Nat.lt_of_le_of_lt (wat_take_le l k i) (h0 i), A, c, by rw [hl], by omega, h3, by rw [u64s_length]; omega, fun hp => ?_⟩
 obtain ⟨b, off, e, hb, hr⟩ := h5 (by omega)
 refine ⟨b, off, e, hb, fun j u hu => hr j u ?_⟩
 unfold u64s at hu ⊢
 rw [List.map_take] at hu
 by_cases hj : j < k
 · rwa [List.getElem?_take_of_lt hj] at hu
 · rw [List.getElem?_eq_none (by rw [List.length_take]; omega)] at hu; cases hu
set_option maxHeartbeats 1000000 in
theorem cropped_ok (A : Option Addr) (n c : Nat) (l : List Nat) (w : World) (h : Wds w (.slice A n c) l) :
   Calls Tryz.prog 185 #[.slice A n c] w fun e w' => e = .returned (.slice A (crop l).length c) /\ w = w' := by
 obtain ⟨hw, A', c', e, h2, h3, h4, h5⟩ := h
 injection e with e1 e2 e3
 subst e1 e2 e3
 unfold maxLen at h3
 go_enter Tryz.func185, Tryz.ntmps185
 go_wp2_with fail
 go_loop [0] (fun v0 => ∃ k : Nat, k <= l.length /\ v0 = .slice A k c /\ Hid (crop (l.take k) = crop l)) (fun v0 => match v0 with | .slice _ k _ => k | _ => 0)
 case atStart => exact ⟨l.length, Nat.le_refl _, rfl, hid (by rw [List.take_length])⟩
 case round =>
   obtain ⟨k, hk, rfl, Hc⟩ := hrel
   rcases Nat.eq_zero_or_pos k with hk0 | hk0
   · subst hk0
     have e1 : (crop l).length = 0 := by rw [<- Hc.out]; rfl
     go_wp2
     go_ret
     exact ⟨rfl, rfl⟩
   · obtain ⟨b, off, rfl, hb, hr⟩ := h5 (by omega)
     have hck : w.cell? ⟨b, off + (k - 1), none⟩ = some (.int .u64 (wat l (k - 1) : Int)) := hr (k - 1) _ (u64s_get l (by omega))
     have hx := hw (k - 1)
     have hT : l.take k = l.take (k - 1) ++ [wat l (k - 1)] := by
       conv => lhs; rw [show k = k - 1 + 1 by omega]
       rw [List.take_add_one, List.getElem?_eq_getElem (by omega), Option.toList_some]
       congr 2
       simp [wat, List.getD, List.getElem?_eq_getElem (show k - 1 < l.length by omega)]
     by_cases hz : wat l (k - 1) = 0
     · have HC2 : Hid (crop (l.take (k - 1)) = crop l) := hid (by rw [<- Hc.out, hT, hz, crop_snoc_zero])
       rw [hz] at hck
       clear hr hT Hc hx hz
       obtain ⟨m, rfl⟩ : ∃ m, k = m + 1 := ⟨k - 1, by omega⟩
       simp only [Nat.add_sub_cancel] at hck HC2
       go_wp2
       go_round
       case rel => exact ⟨m, by omega, by go_num, HC2⟩
       case measure => simp
     · have e1 : (crop l).length = k := by rw [<- Hc.out, hT, crop_snoc hz, List.length_append, List.length_take, List.length_singleton]; omega
       clear hr hT Hc
       generalize wat l (k - 1) = x at *
       obtain ⟨m, rfl⟩ : ∃ m, k = m + 1 := ⟨k - 1, by omega⟩
       simp only [Nat.add_sub_cancel] at hck
       go_wp2
       go_ret
       exact ⟨rfl, rfl⟩
end Go.Proofs.YtmhbkjjkalnggaaGreatDoor
