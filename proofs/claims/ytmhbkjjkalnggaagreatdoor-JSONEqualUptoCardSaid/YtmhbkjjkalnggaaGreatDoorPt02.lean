import Derived.Test.YtmhbkjjkalnggaaGreatDoorPt01
import Derived.Shelf.Small.Utf8
import Derived.Shelf.Small.Wraps
import Derived.Shelf.Utf8.AppendRune
import Derived.Shelf.Strconv.Atoi
import Derived.Shelf.Strconv.Itoa3
import Derived.Shelf.Strconv.Clone
import Derived.Shelf.Strconv.ParseUint10Any
import Derived.Shelf.Pu.ErrVarParseUint
import Derived.Shelf.Strings.Shaped
import Derived.Shelf.Strings.Runes
import Derived.Shelf.Strings.Repeat
import Derived.Shelf.Unicode.ValidAny
import Derived.Lib.AppendIntMem
import Derived.RangeFuncNested
import Derived.RangeFuncBound
import Derived.Shelf.RegionOpen
import Derived.OwnWalkIn
import Derived.LoopNIn
import Derived.LoopIn
namespace Go.Proofs.YtmhbkjjkalnggaaGreatDoor
open Go.RowKit
set_option maxRecDepth 100000
set_option maxHeartbeats 4000000
theorem allDig_take_succ (l : List UInt8) (k : Nat) (hk : k < l.length) : l.take (k + 1) = l.take k ++ [l.getD k 0] := by
 rw [List.take_add_one, List.getElem?_eq_getElem hk, Option.toList_some]
 simp [List.getD, List.getElem?_eq_getElem hk]
theorem allDig_snoc (l : List UInt8) (b : UInt8) : allDig (l ++ [b]) = (allDig l && isDig b) := by simp [allDig]
theorem allDig_false {l : List UInt8} {k : Nat} (hk : k < l.length) (h : isDig (l.getD k 0) = false) : allDig l = false := by
 cases ha : allDig l with
 | false => rfl
 | true =>
   have hd := allDig_iff.1 ha
   have hm : l.getD k 0 ∈ l := by
     simp only [List.getD, List.getElem?_eq_getElem hk, Option.getD_some]
     exact List.getElem_mem _
   rw [hd _ hm] at h; cases h
def checkE (d : Dec) : Nat := if mayB d then 0 else 2
theorem checkE_yes {d : Dec} (h : mayB d = true) : checkE d = 0 := by unfold checkE; rw [h]; rfl
theorem checkE_no {d : Dec} (h : mayB d = false) : checkE d = 2 := by unfold checkE; rw [h]; rfl
theorem mayB_no {d : Dec} (h : ¬ May d) : mayB d = false := by
 cases hb : mayB d with
 | false => rfl
 | true => exact absurd ((mayB_iff d).1 hb) h
theorem isDigit_at (l : List UInt8) (k : Nat) (w : World) : Calls Tryz.prog 91 #[.int .u8 (byteAt l k : Int)] w fun e w' => e = .returned (.bool (isDig (l.getD k 0))) /\ w = w' :=
 isDigit_ok (l.getD k 0) w
theorem head_byte {l : List UInt8} (h : l ≠ []) : l.head? = some 48 ↔ byteAt l 0 = 48 := by
 cases l with
 | nil => exact absurd rfl h
 | cons b r =>
   show some b = some 48 ↔ b.toNat = 48
   constructor
   · intro e; injection e with e; rw [e]; rfl
   · intro e; rw [show b = 48 from UInt8.toNat_inj.1 e]
theorem last_byte {l : List UInt8} (h : l ≠ []) : l.getLast? = some 48 ↔ byteAt l (l.length - 1) = 48 := by
 obtain ⟨r, b, rfl⟩ : ∃ r b, l = r ++ [b] := ⟨l.dropLast, l.getLast h, (List.dropLast_concat_getLast h).symm⟩
 unfold byteAt
 simp only [List.getLast?_append, List.getLast?_singleton, Option.some_or, List.length_append, List.length_singleton, Nat.add_sub_cancel, List.getD, List.getElem?_append_right (Nat.le_refl _), Nat.sub_self, gC, Option.getD_some]
 constructor
 · intro e; injection e with e; rw [e]; rfl
 · intro e; rw [show b = 48 from UInt8.toNat_inj.1 e]
theorem check_nil (neg : Bool) (e : Int) (w : World) :
   Calls Tryz.prog 58 #[.agg #[.bool neg, .string (bs []), .int .i64 e]] w fun x w' => x = .returned (.int .i64 (checkE ⟨neg, [], e⟩ : Nat)) /\ Below w.heap.size w w' := by
 have hb : Below w.heap.size w (w.alloc (.cells #[.bool neg, .string (bs []), .int .i64 e] 24)) := (Below.refl _ _).alloc (Nat.le_refl _) _
 have hr : Row (w.alloc (.cells #[.bool neg, .string (bs []), .int .i64 e] 24)) w.heap.size 24 #[.bool neg, .string (bs []), .int .i64 e] := Row.new _ _ _
 have c0 := hr.cell (i := 0) (v := .bool neg) rfl
 have c1 := hr.cell (i := 1) (v := .string (bs [])) rfl
 have c2 := hr.cell (i := 2) (v := .int .i64 e) rfl
 have HB := hid hb
 have hs0 : (bs []).size = 0 := rfl
 have ht0 : (bs []).toList = [] := bs_toList []
 clear hb hr
 by_cases h : neg = false /\ e = 0
 · obtain ⟨rfl, rfl⟩ := h
   rw [checkE_yes (by rfl)]
   go_enter Tryz.func58, Tryz.ntmps58
   go_wp2
   go_ret
   exact ⟨rfl, HB.out⟩
 · have hn : mayB ⟨neg, [], e⟩ = false := by
     unfold mayB
     cases neg
     · simp; intro e0; exact h ⟨rfl, e0⟩
     · rfl
   rw [checkE_no hn]
   clear hn
   cases neg
   · have he : ¬ e = 0 := fun e0 => h ⟨rfl, e0⟩
     clear h
     go_enter Tryz.func58, Tryz.ntmps58
     go_wp2
     go_ret
     exact ⟨rfl, HB.out⟩
   · clear h
     go_enter Tryz.func58, Tryz.ntmps58
     go_wp2
     go_ret
     exact ⟨rfl, HB.out⟩
theorem check_some (neg : Bool) (l : List UInt8) (e : Int) (w : World) (hl : ¬ l = []) (hn : l.length <= 9223372036854775806) :
   Calls Tryz.prog 58 #[.agg #[.bool neg, .string (bs l), .int .i64 e]] w fun x w' => x = .returned (.int .i64 (checkE ⟨neg, l, e⟩ : Nat)) /\ Below w.heap.size w w' := by
 obtain ⟨w0, hw0⟩ : ∃ w0, w0 = w.alloc (.cells #[.bool neg, .string (bs l), .int .i64 e] 24) := ⟨_, rfl⟩
 have hb : Below w.heap.size w w0 := by subst hw0; exact (Below.refl _ _).alloc (Nat.le_refl _) _
 have hr : Row w0 w.heap.size 24 #[.bool neg, .string (bs l), .int .i64 e] := by subst hw0; exact Row.new _ _ _
 have c0 := hr.cell (i := 0) (v := .bool neg) rfl
 have c1 := hr.cell (i := 1) (v := .string (bs l)) rfl
 have c2 := hr.cell (i := 2) (v := .int .i64 e) rfl
 have hs := bs_size l
 have HB := hid hb
 clear hb hr
 have hpos : 0 < l.length := List.length_pos_iff.2 hl
 have HL := hid hl
 have hE : ¬ (bs l).toList = [] := by rw [bs_toList]; exact hl
 have HI : ∀ k : Nat, k < l.length -> ∀ W : World, (Instr.index 9 (.string (bs l)) (.int .i64 (k : Int))).run Tryz.prog W = .ok (.int .u8 (byteAt l k : Int)) W := fun k hk W => run_byte _ Tryz.underlying9 l k hk W
 have HII := hid HI
 clear HI hl
 have hz : ((l.length : Int) == 0) = false := by rw [beq_eq_false_iff_ne]; omega
 by_cases hm : l.length <= 100 /\ -1000 <= e /\ e <= 1000
 · obtain ⟨h1, h2, h3⟩ := hm
   go_enter Tryz.func58, Tryz.ntmps58
   go_upto_region 1 with fail
   rw [<- hw0]
   generalize bs l = s at *
   obtain ⟨n, hn'⟩ : ∃ n, n = l.length := ⟨_, rfl⟩
   have HN := hid hn'
   rw [<- hn'] at hs hn hpos hz h1
   clear hn'
   have hd1 : decide ((100 : Int) < (n : Int)) = false := by simp; omega
   have hd2 : decide (e < (-1000 : Int)) = false := by simp; omega
   have hd3 : decide ((1000 : Int) < e) = false := by simp; omega
   clear hw0
   go_wp2_with fail
   go_loop [28] (fun v28 => ∃ k : Nat, k <= n /\ v28 = .int .i64 k /\ Hid (allDig (l.take k) = true)) (fun v28 => n - (intOf v28).toNat)
   case atStart => exact ⟨0, Nat.zero_le _, rfl, hid rfl⟩
   case round =>
     obtain ⟨k, hk, rfl, Hk⟩ := hrel
     by_cases hlt : k < n
     · have hidx := HII.out k (by rw [<- HN.out]; exact hlt)
       have HT : Hid (allDig (l.take (k + 1)) = isDig (l.getD k 0)) := hid (by rw [allDig_take_succ l k (by rw [<- HN.out]; exact hlt), allDig_snoc, Hk.out, Bool.true_and])
       have HF : Hid (isDig (l.getD k 0) = false -> checkE ⟨neg, l, e⟩ = 2) := hid (fun h => checkE_no (mayB_no fun m => by have h1 := allDig_iff.2 m.digs; have h2 := allDig_false (l := l) (by rw [<- HN.out]; exact hlt) h; exact absurd (h2.symm.trans h1) (by decide)))
       clear HII
       go_wp2_with fail
       refine (isDigit_at l k _).mono ?_
       rintro x w1 ⟨rfl, rfl⟩
       cases hd : isDig (l.getD k 0) with
       | false =>
         have HE := hid (HF.out hd)
         clear HF HT hd
         go_wp2
         go_ret
         exact ⟨congrArg (fun n : Nat => Ending.returned (.int .i64 (n : Int))) HE.out.symm, HB.out⟩
       | true =>
         have HT2 : Hid (allDig (l.take (k + 1)) = true) := hid (by rw [HT.out, hd])
         clear HF HT hd
         go_wp2
         go_round
         case rel => exact ⟨k + 1, by omega, by go_num, HT2⟩
         case measure => simp [intOf]; omega
     · obtain rfl : k = n := by omega
       have i0 : ∀ W : World, (Instr.index 9 (.string s) (.int .i64 0)).run Tryz.prog W = .ok (.int .u8 (byteAt l 0 : Int)) W := HII.out 0 (by rw [<- HN.out]; exact hpos)
       have i1 := HII.out (k - 1) (by rw [<- HN.out]; omega)
       have HA : Hid (allDig l = true) := hid (by rw [<- Hk.out, HN.out, List.take_length])
       by_cases e0 : byteAt l 0 = 48
       · have HE := hid (checkE_no (d := ⟨neg, l, e⟩) (mayB_no fun m => m.head ((head_byte HL.out).2 e0)))
         have i00 : ∀ W : World, (Instr.index 9 (.string s) (.int .i64 0)).run Tryz.prog W = .ok (.int .u8 48) W := by intro W; rw [i0 W, e0]; rfl
         clear i0
         clear e0 HII HA Hk
         go_wp2
         go_ret
         exact ⟨congrArg (fun n : Nat => Ending.returned (.int .i64 (n : Int))) HE.out.symm, HB.out⟩
       · obtain ⟨m, rfl⟩ : ∃ m, k = m + 1 := ⟨k - 1, by omega⟩
         rw [Nat.add_sub_cancel] at i1
         by_cases e1 : byteAt l m = 48
         · have HE := hid (checkE_no (d := ⟨neg, l, e⟩) (mayB_no fun mm => mm.last ((last_byte HL.out).2 (by rw [<- HN.out]; exact e1))))
           have i11 : ∀ W : World, (Instr.index 9 (.string s) (.int .i64 (m : Int))).run Tryz.prog W = .ok (.int .u8 48) W := by intro W; rw [i1 W, e1]; rfl
           clear i1
           have q0 : ((byteAt l 0 : Int) == 48) = false := by simp; omega
           clear e1 HII HA Hk e0
           generalize byteAt l 0 = b0 at *
           go_wp2
           go_ret
           exact ⟨congrArg (fun n : Nat => Ending.returned (.int .i64 (n : Int))) HE.out.symm, HB.out⟩
         · have HE := hid (checkE_yes (d := ⟨neg, l, e⟩) ((mayB_iff _).2 ⟨allDig_iff.1 HA.out, by show l.length <= 100; rw [<- HN.out]; exact h1, fun x => e0 ((head_byte HL.out).1 x), fun x => e1 (by have := (last_byte HL.out).1 x; rwa [<- HN.out] at this), h2, h3, fun x => absurd x HL.out⟩))
           have q0 : ((byteAt l 0 : Int) == 48) = false := by simp; omega
           have q1 : ((byteAt l m : Int) == 48) = false := by simp; omega
           clear e1 HII HA Hk e0
           generalize byteAt l 0 = b0 at *
           generalize byteAt l m = b1 at *
           go_wp2
           go_ret
           exact ⟨congrArg (fun n : Nat => Ending.returned (.int .i64 (n : Int))) HE.out.symm, HB.out⟩
 · have HM : Hid (checkE ⟨neg, l, e⟩ = 2) := hid (checkE_no (mayB_no fun m => hm ⟨m.len, m.lo, m.hi⟩))
   rw [HM.out]
   go_enter Tryz.func58, Tryz.ntmps58
   go_upto_region 1 with fail
   rw [<- hw0]
   generalize bs l = s at *
   generalize l.length = n at *
   clear hw0
   by_cases h1 : (100 : Int) < (n : Int)
   · have hd1 : decide ((100 : Int) < (n : Int)) = true := by simp; omega
     clear HM hm HII
     go_wp2
     go_ret
     exact ⟨rfl, HB.out⟩
   · have hd1 : decide ((100 : Int) < (n : Int)) = false := by simp; omega
     by_cases h2 : e < -1000
     · have hd2 : decide (e < (-1000 : Int)) = true := by simp; omega
       clear HM hm HII
       go_wp2
       go_ret
       exact ⟨rfl, HB.out⟩
     · have hd2 : decide (e < (-1000 : Int)) = false := by simp; omega
       have hd3 : decide ((1000 : Int) < e) = true := by simp; omega
       clear HM hm HII
       go_wp2
       go_ret
       exact ⟨rfl, HB.out⟩
theorem check_ok (d : Dec) (w : World) (hn : d.digits.length <= 9223372036854775806) :
   Calls Tryz.prog 58 #[decV d] w fun e w' => e = .returned (.int .i64 (checkE d : Nat)) /\ Below w.heap.size w w' := by
 obtain ⟨neg, l, e⟩ := d
 by_cases hl : l = []
 · subst hl; exact check_nil neg e w
 · exact check_some neg l e w hl hn
end Go.Proofs.YtmhbkjjkalnggaaGreatDoor
namespace Go.Proofs
open Go.Shelf
def Tryz.lays137_ren : Go.Shelf.Ren := ⟨fun | 137 => 123 | 217 => 155 | 266 => 179 | n => n, fun | 9 => 9 | 5 => 5 | 3 => 3 | n => n, fun | n => n⟩
theorem Tryz.lays137 : Go.Proofs.Lays.n137 Tryz.prog Tryz.lays137_ren := {
 mixed := by kernel_rfl
 f137 := Tryz.func123.trans (congrArg some (by kernel_rfl))
 f217 := Tryz.func155.trans (congrArg some (by kernel_rfl))
 f266 := Tryz.func179.trans (congrArg some (by kernel_rfl))
 t3 := Tryz.underlying3
 a3 := Tryz.isAgg3
 z3 := Tryz.sizeOf3
 v3 := Tryz.zeroValue3
 t5 := Tryz.underlying5
 a5 := Tryz.isAgg5
 z5 := Tryz.sizeOf5
 v5 := Tryz.zeroValue5
 t9 := Tryz.underlying9
 a9 := Tryz.isAgg9
 z9 := Tryz.sizeOf9
 v9 := Tryz.zeroValue9 }
open Go.RowKit in
theorem Tryz.strings_IndexByte (s : ByteArray) (c : Int) (w : World) :
   Calls Tryz.prog 123 #[.string s, .int .u8 c] w fun e w' => e = .returned (.int .i64 (Lib.indexByte s.data.toList c.toNat.toUInt8)) /\ w' = w := Any.strings_IndexByte Tryz.lays137 s c w
def Tryz.lays121_ren : Go.Shelf.Ren := ⟨fun | 121 => 63 | 214 => 93 | n => n, fun | 4 => 4 | 9 => 9 | n => n, fun | n => n⟩
theorem Tryz.lays121 : Go.Proofs.Lays.n121 Tryz.prog Tryz.lays121_ren := {
 mixed := by kernel_rfl
 f121 := Tryz.func63.trans (congrArg some (by kernel_rfl))
 f214 := Tryz.func93.trans (congrArg some (by kernel_rfl))
 t4 := Tryz.underlying4
 a4 := Tryz.isAgg4
 z4 := Tryz.sizeOf4
 v4 := Tryz.zeroValue4
 t9 := Tryz.underlying9
 a9 := Tryz.isAgg9
 z9 := Tryz.sizeOf9
 v9 := Tryz.zeroValue9 }
open Go.RowKit in
theorem Tryz.strconv_FormatBool (b : Bool) (w : World) :
   Calls Tryz.prog 63 #[.bool b] w fun e w' => e = .returned (.string ⟨(Lib.formatBool b).toArray⟩) /\ w' = w := Any.strconv_FormatBool Tryz.lays121 b w
def Tryz.lays242_ren : Go.Shelf.Ren := ⟨fun | 242 => 125 | 278 => 156 | n => n, fun | 37 => 35 | 21 => 21 | 51 => 133 | 4 => 4 | 5 => 5 | 46 => 98 | n => n, fun | n => n⟩
theorem Tryz.lays242 : Go.Proofs.Lays.n242 Tryz.prog Tryz.lays242_ren := {
 mixed := by kernel_rfl
 f242 := Tryz.func125.trans (congrArg some (by kernel_rfl))
 f278 := Tryz.func156.trans (congrArg some (by kernel_rfl))
 t4 := Tryz.underlying4
 a4 := Tryz.isAgg4
 z4 := Tryz.sizeOf4
 v4 := Tryz.zeroValue4
 t5 := Tryz.underlying5
 a5 := Tryz.isAgg5
 z5 := Tryz.sizeOf5
 v5 := Tryz.zeroValue5
 t21 := Tryz.underlying21
 a21 := Tryz.isAgg21
 z21 := Tryz.sizeOf21
 v21 := Tryz.zeroValue21
 t37 := Tryz.underlying35
 a37 := Tryz.isAgg35
 z37 := Tryz.sizeOf35
 v37 := Tryz.zeroValue35
 t46 := Tryz.underlying98
 a46 := Tryz.isAgg98
 z46 := Tryz.sizeOf98
 v46 := Tryz.zeroValue98
 t51 := Tryz.underlying133
 a51 := Tryz.isAgg133
 z51 := Tryz.sizeOf133
 v51 := Tryz.zeroValue133 }
open Go.RowKit in
theorem Tryz.utf8_AppendRune_row (B : Nat) (v : Value) (n : Nat) (xs : List Value) (r : Int) (hr0 : -2147483648 <= r) (hr1 : r <= 2147483647) (w : World) (hown : w.ownsRowF B 5 1 v n xs) (hlen : n + 4 <= 140737488355328) (hBw : B <= w.heap.size) :
   Calls Tryz.prog 125 #[v, .int .i32 r] w fun e w' => ∃ v', e = .returned v' /\ w'.ownsRowF B 5 1 v' (n + (Lib.runeCells r).length) (xs ++ Lib.runeCells r) /\ ∃ o, (w.alloc o).grownBy w' v.ownBlock := Any.utf8_AppendRune_row Tryz.lays242 (by kernel_rfl) B v n xs r hr0 hr1 w hown hlen hBw
def Tryz.lays172_ren : Go.Shelf.Ren := ⟨fun | 172 => 88 | 244 => 108 | 245 => 109 | 247 => 136 | 279 => 137 | 280 => 138 | 281 => 139 | 282 => 140 | 287 => 170 | 316 => 90 | 171 => 55 | 205 => 171 | 321 => 189 | 322 => 190 | 243 => 89 | 246 => 110 | 283 => 141 | 284 => 142 | 285 => 143 | 286 => 144 | 129 => 114 | 317 => 172 | 318 => 173 | 319 => 174 | 320 => 175 | 337 => 191 | 338 => 192 | n => n, fun | 9 => 9 | 3 => 3 | 75 => 104 | 76 => 105 | 4 => 4 | 5 => 5 | 167 => 155 | 37 => 35 | 0 => 0 | 85 => 156 | 2 => 2 | 168 => 158 | 53 => 89 | 175 => 183 | 46 => 98 | 210 => 186 | 127 => 129 | 145 => 208 | 143 => 206 | 21 => 21 | 171 => 161 | 173 => 163 | 212 => 189 | 51 => 133 | 20 => 20 | 213 => 190 | 232 => 214 | 233 => 215 | 80 => 121 | n => n, fun | 15 => 2 | 16 => 3 | 17 => 4 | 18 => 6 | 19 => 7 | n => n⟩
theorem Tryz.lays172 : Go.Proofs.Lays.n172 Tryz.prog Tryz.lays172_ren := {
 mixed := by kernel_rfl
 f129 := Tryz.func114.trans (congrArg some (by kernel_rfl))
 f171 := Tryz.func55.trans (congrArg some (by kernel_rfl))
 f172 := Tryz.func88.trans (congrArg some (by kernel_rfl))
 f205 := Tryz.func171.trans (congrArg some (by kernel_rfl))
 f243 := Tryz.func89.trans (congrArg some (by kernel_rfl))
 f244 := Tryz.func108.trans (congrArg some (by kernel_rfl))
 f245 := Tryz.func109.trans (congrArg some (by kernel_rfl))
 f246 := Tryz.func110.trans (congrArg some (by kernel_rfl))
 f247 := Tryz.func136.trans (congrArg some (by kernel_rfl))
 f279 := Tryz.func137.trans (congrArg some (by kernel_rfl))
 f280 := Tryz.func138.trans (congrArg some (by kernel_rfl))
 f281 := Tryz.func139.trans (congrArg some (by kernel_rfl))
 f282 := Tryz.func140.trans (congrArg some (by kernel_rfl))
 f283 := Tryz.func141.trans (congrArg some (by kernel_rfl))
 f284 := Tryz.func142.trans (congrArg some (by kernel_rfl))
 f285 := Tryz.func143.trans (congrArg some (by kernel_rfl))
 f286 := Tryz.func144.trans (congrArg some (by kernel_rfl))
 f287 := Tryz.func170.trans (congrArg some (by kernel_rfl))
 f316 := Tryz.func90.trans (congrArg some (by kernel_rfl))
 f317 := Tryz.func172.trans (congrArg some (by kernel_rfl))
 f318 := Tryz.func173.trans (congrArg some (by kernel_rfl))
 f319 := Tryz.func174.trans (congrArg some (by kernel_rfl))
 f320 := Tryz.func175.trans (congrArg some (by kernel_rfl))
 f321 := Tryz.func189.trans (congrArg some (by kernel_rfl))
 f322 := Tryz.func190.trans (congrArg some (by kernel_rfl))
 f337 := Tryz.func191.trans (congrArg some (by kernel_rfl))
 f338 := Tryz.func192.trans (congrArg some (by kernel_rfl))
 t0 := Tryz.underlying0
 a0 := Tryz.isAgg0
 z0 := Tryz.sizeOf0
 v0 := Tryz.zeroValue0
 t2 := Tryz.underlying2
 a2 := Tryz.isAgg2
 z2 := Tryz.sizeOf2
 v2 := Tryz.zeroValue2
 t3 := Tryz.underlying3
 a3 := Tryz.isAgg3
 z3 := Tryz.sizeOf3
 v3 := Tryz.zeroValue3
 t4 := Tryz.underlying4
 a4 := Tryz.isAgg4
 z4 := Tryz.sizeOf4
 v4 := Tryz.zeroValue4
 t5 := Tryz.underlying5
 a5 := Tryz.isAgg5
 z5 := Tryz.sizeOf5
 v5 := Tryz.zeroValue5
 t9 := Tryz.underlying9
 a9 := Tryz.isAgg9
 z9 := Tryz.sizeOf9
 v9 := Tryz.zeroValue9
 t20 := Tryz.underlying20
 a20 := Tryz.isAgg20
 z20 := Tryz.sizeOf20
 v20 := Tryz.zeroValue20
 t21 := Tryz.underlying21
 a21 := Tryz.isAgg21
 z21 := Tryz.sizeOf21
 v21 := Tryz.zeroValue21
 t37 := Tryz.underlying35
 a37 := Tryz.isAgg35
 z37 := Tryz.sizeOf35
 v37 := Tryz.zeroValue35
 t46 := Tryz.underlying98
 a46 := Tryz.isAgg98
 z46 := Tryz.sizeOf98
 v46 := Tryz.zeroValue98
 t51 := Tryz.underlying133
 a51 := Tryz.isAgg133
 z51 := Tryz.sizeOf133
 v51 := Tryz.zeroValue133
 t53 := Tryz.underlying89
 a53 := Tryz.isAgg89
 z53 := Tryz.sizeOf89
 v53 := Tryz.zeroValue89
 t75 := Tryz.underlying104
 a75 := Tryz.isAgg104
 z75 := Tryz.sizeOf104
 v75 := Tryz.zeroValue104
 t76 := Tryz.underlying105
 a76 := Tryz.isAgg105
 z76 := Tryz.sizeOf105
 v76 := Tryz.zeroValue105
 t85 := Tryz.underlying156
 a85 := Tryz.isAgg156
 z85 := Tryz.sizeOf156
 v85 := Tryz.zeroValue156
 t127 := Tryz.underlying129
 a127 := Tryz.isAgg129
 z127 := Tryz.sizeOf129
 v127 := Tryz.zeroValue129
 t143 := Tryz.underlying206
 a143 := Tryz.isAgg206
 z143 := Tryz.sizeOf206
 v143 := Tryz.zeroValue206
 t145 := Tryz.underlying208
 a145 := Tryz.isAgg208
 z145 := Tryz.sizeOf208
 v145 := Tryz.zeroValue208
 t167 := Tryz.underlying155
 a167 := Tryz.isAgg155
 z167 := Tryz.sizeOf155
 v167 := Tryz.zeroValue155
 t168 := Tryz.underlying158
 a168 := Tryz.isAgg158
 z168 := Tryz.sizeOf158
 v168 := Tryz.zeroValue158
 t171 := Tryz.underlying161
 a171 := Tryz.isAgg161
 z171 := Tryz.sizeOf161
 v171 := Tryz.zeroValue161
 t173 := Tryz.underlying163
 a173 := Tryz.isAgg163
 z173 := Tryz.sizeOf163
 v173 := Tryz.zeroValue163
 t175 := Tryz.underlying183
 a175 := Tryz.isAgg183
 z175 := Tryz.sizeOf183
 v175 := Tryz.zeroValue183
 t210 := Tryz.underlying186
 a210 := Tryz.isAgg186
 z210 := Tryz.sizeOf186
 v210 := Tryz.zeroValue186
 t212 := Tryz.underlying189
 a212 := Tryz.isAgg189
 z212 := Tryz.sizeOf189
 v212 := Tryz.zeroValue189
 t213 := Tryz.underlying190
 a213 := Tryz.isAgg190
 z213 := Tryz.sizeOf190
 t232 := Tryz.underlying214
 a232 := Tryz.isAgg214
 z232 := Tryz.sizeOf214
 v232 := Tryz.zeroValue214
 t233 := Tryz.underlying215
 a233 := Tryz.isAgg215
 z233 := Tryz.sizeOf215
 v233 := Tryz.zeroValue215
 g15 := by kernel_rfl
 g16 := by kernel_rfl
 g17 := by kernel_rfl
 g18 := by kernel_rfl
 g19 := by kernel_rfl }
open Go.RowKit in
theorem Tryz.strconv_Atoi (s : ByteArray) (n : Int) (hl : s.size <= 18) (h : Lib.atoi s.data.toList = some n) (w : World) :
   Calls Tryz.prog 88 #[.string s] w fun e w' => e = .returned (.tuple #[.int .i64 n, .nilIface]) /\ ∃ t, w' = Lib.bytesWorld w 5 t := Any.strconv_Atoi Tryz.lays172 s n hl h w
def Tryz.lays283_ren : Go.Shelf.Ren := ⟨fun | 283 => 141 | n => n, fun | 3 => 3 | 9 => 9 | 4 => 4 | n => n, fun | n => n⟩
theorem Tryz.lays283 : Go.Proofs.Lays.n283 Tryz.prog Tryz.lays283_ren := {
 mixed := by kernel_rfl
 f283 := Tryz.func141.trans (congrArg some (by kernel_rfl))
 t3 := Tryz.underlying3
 a3 := Tryz.isAgg3
 z3 := Tryz.sizeOf3
 v3 := Tryz.zeroValue3
 t4 := Tryz.underlying4
 a4 := Tryz.isAgg4
 z4 := Tryz.sizeOf4
 v4 := Tryz.zeroValue4
 t9 := Tryz.underlying9
 a9 := Tryz.isAgg9
 z9 := Tryz.sizeOf9
 v9 := Tryz.zeroValue9 }
open Go.Lib in
theorem Tryz.internal_strconv_small (i : Nat) (h : i < 100) (w : World) :
   Calls Tryz.prog 141 #[.int .i64 i] w fun e w' => e = .returned (.string ⟨(Lib.decDigits i).toArray⟩) /\ w' = w := Any.internal_strconv_small Tryz.lays283 i h w
def Tryz.laysM284_ren : Go.Shelf.Ren := ⟨fun | 284 => 142 | 129 => 114 | 317 => 172 | 318 => 173 | n => n, fun | 53 => 89 | 3 => 3 | 212 => 189 | 0 => 0 | 4 => 4 | 46 => 98 | 5 => 5 | 9 => 9 | n => n, fun | 17 => 4 | n => n⟩
theorem Tryz.laysM284 : Go.Proofs.LaysM.n284 Tryz.prog Tryz.laysM284_ren := {
 mixed := by kernel_rfl
 f129 := Tryz.func114.trans (congrArg some (by kernel_rfl))
 f284 := Tryz.func142.trans (congrArg some (by kernel_rfl))
 f317 := Tryz.func172.trans (congrArg some (by kernel_rfl))
 f318 := Tryz.func173.trans (congrArg some (by kernel_rfl))
 t0 := Tryz.underlying0
 a0 := Tryz.isAgg0
 z0 := Tryz.sizeOf0
 v0 := Tryz.zeroValue0
 t3 := Tryz.underlying3
 a3 := Tryz.isAgg3
 z3 := Tryz.sizeOf3
 v3 := Tryz.zeroValue3
 t4 := Tryz.underlying4
 a4 := Tryz.isAgg4
 z4 := Tryz.sizeOf4
 v4 := Tryz.zeroValue4
 t5 := Tryz.underlying5
 a5 := Tryz.isAgg5
 z5 := Tryz.sizeOf5
 v5 := Tryz.zeroValue5
 t9 := Tryz.underlying9
 a9 := Tryz.isAgg9
 z9 := Tryz.sizeOf9
 v9 := Tryz.zeroValue9
 t46 := Tryz.underlying98
 a46 := Tryz.isAgg98
 z46 := Tryz.sizeOf98
 v46 := Tryz.zeroValue98
 t53 := Tryz.underlying89
 a53 := Tryz.isAgg89
 z53 := Tryz.sizeOf89
 v53 := Tryz.zeroValue89
 t212 := Tryz.underlying189
 a212 := Tryz.isAgg189
 z212 := Tryz.sizeOf189
 v212 := Tryz.zeroValue189
 g17 := by kernel_rfl
 i0 := by kernel_rfl
 i3 := by kernel_rfl
 i4 := by kernel_rfl
 i5 := by kernel_rfl
 i9 := by kernel_rfl
 i46 := by kernel_rfl
 i53 := by kernel_rfl
 i212 := by kernel_rfl
 m17 := by kernel_rfl }
open Go.Lib in
theorem Tryz.internal_strconv_numDigits (u : Nat) (h1 : 1 ≤ u) (h2 : u < 18446744073709551616) (w : World) (htab : Lib.TabIs Tryz.prog w "internal/strconv.uint64pow10" .u64 Lib.pow10Tab) :
   Calls Tryz.prog 142 #[.int .u64 u] w fun e w' => e = .returned (.int .i64 (Lib.nDigits u)) /\ w' = w := Any.internal_strconv_numDigits Tryz.laysM284 u h1 h2 w htab
def Tryz.lays285_ren : Go.Shelf.Ren := ⟨fun | 285 => 143 | n => n, fun | 37 => 35 | 53 => 89 | 3 => 3 | 4 => 4 | 51 => 133 | 9 => 9 | 5 => 5 | 0 => 0 | n => n, fun | n => n⟩
theorem Tryz.lays285 : Go.Proofs.Lays.n285 Tryz.prog Tryz.lays285_ren := {
 mixed := by kernel_rfl
 f285 := Tryz.func143.trans (congrArg some (by kernel_rfl))
 t0 := Tryz.underlying0
 a0 := Tryz.isAgg0
 z0 := Tryz.sizeOf0
 v0 := Tryz.zeroValue0
 t3 := Tryz.underlying3
 a3 := Tryz.isAgg3
 z3 := Tryz.sizeOf3
 v3 := Tryz.zeroValue3
 t4 := Tryz.underlying4
 a4 := Tryz.isAgg4
 z4 := Tryz.sizeOf4
 v4 := Tryz.zeroValue4
 t5 := Tryz.underlying5
 a5 := Tryz.isAgg5
 z5 := Tryz.sizeOf5
 v5 := Tryz.zeroValue5
 t9 := Tryz.underlying9
 a9 := Tryz.isAgg9
 z9 := Tryz.sizeOf9
 v9 := Tryz.zeroValue9
 t37 := Tryz.underlying35
 a37 := Tryz.isAgg35
 z37 := Tryz.sizeOf35
 v37 := Tryz.zeroValue35
 t51 := Tryz.underlying133
 a51 := Tryz.isAgg133
 z51 := Tryz.sizeOf133
 v51 := Tryz.zeroValue133
 t53 := Tryz.underlying89
 a53 := Tryz.isAgg89
 z53 := Tryz.sizeOf89
 v53 := Tryz.zeroValue89 }
open Go.RowKit Go.Sort Go.Lib in
theorem Tryz.internal_strconv_formatBase10 (blk off cap : Nat) (u : Nat) (d : Array UInt8) (w : World) (hH : Holds (fun (b : UInt8) => Value.int .u8 (b.toNat : Int)) w blk off d) (hu : u < 10 ^ d.size) (hu64 : u < 18446744073709551616) (hsz : d.size < 4611686018427387904) :
   Calls Tryz.prog 143 #[.slice (some ⟨blk, off, none⟩) d.size cap, .int .u64 u] w fun e w' =>
     e = .returned (.tuple #[]) /\ ∃ (n v' : Nat) (dk : Array UInt8), w' = (putRow (fun (b : UInt8) => Value.int .u8 (b.toNat : Int)) w blk off dk).drewN n /\ FmtInv d.size u 0 v' dk := Any.internal_strconv_formatBase10 Tryz.lays285 blk off cap u d w hH hu hu64 hsz
def Tryz.laysM171_ren : Go.Shelf.Ren := ⟨fun | 171 => 55 | 243 => 89 | 246 => 110 | 283 => 141 | 284 => 142 | 285 => 143 | 286 => 144 | 129 => 114 | 317 => 172 | 318 => 173 | 319 => 174 | 320 => 175 | 337 => 191 | 338 => 192 | n => n, fun | 3 => 3 | 9 => 9 | 2 => 2 | 4 => 4 | 171 => 161 | 0 => 0 | 53 => 89 | 37 => 35 | 5 => 5 | 173 => 163 | 212 => 189 | 51 => 133 | 20 => 20 | 213 => 190 | 46 => 98 | 232 => 214 | 233 => 215 | n => n, fun | 17 => 4 | 18 => 6 | 19 => 7 | n => n⟩
theorem Tryz.laysM171 : Go.Proofs.LaysM.n171 Tryz.prog Tryz.laysM171_ren := {
 mixed := by kernel_rfl
 f129 := Tryz.func114.trans (congrArg some (by kernel_rfl))
 f171 := Tryz.func55.trans (congrArg some (by kernel_rfl))
 f243 := Tryz.func89.trans (congrArg some (by kernel_rfl))
 f246 := Tryz.func110.trans (congrArg some (by kernel_rfl))
 f283 := Tryz.func141.trans (congrArg some (by kernel_rfl))
 f284 := Tryz.func142.trans (congrArg some (by kernel_rfl))
 f285 := Tryz.func143.trans (congrArg some (by kernel_rfl))
 f286 := Tryz.func144.trans (congrArg some (by kernel_rfl))
 f317 := Tryz.func172.trans (congrArg some (by kernel_rfl))
 f318 := Tryz.func173.trans (congrArg some (by kernel_rfl))
 f319 := Tryz.func174.trans (congrArg some (by kernel_rfl))
 f320 := Tryz.func175.trans (congrArg some (by kernel_rfl))
 f337 := Tryz.func191.trans (congrArg some (by kernel_rfl))
 f338 := Tryz.func192.trans (congrArg some (by kernel_rfl))
 t0 := Tryz.underlying0
 a0 := Tryz.isAgg0
 z0 := Tryz.sizeOf0
 v0 := Tryz.zeroValue0
 t2 := Tryz.underlying2
 a2 := Tryz.isAgg2
 z2 := Tryz.sizeOf2
 v2 := Tryz.zeroValue2
 t3 := Tryz.underlying3
 a3 := Tryz.isAgg3
 z3 := Tryz.sizeOf3
 v3 := Tryz.zeroValue3
 t4 := Tryz.underlying4
 a4 := Tryz.isAgg4
 z4 := Tryz.sizeOf4
 v4 := Tryz.zeroValue4
 t5 := Tryz.underlying5
 a5 := Tryz.isAgg5
 z5 := Tryz.sizeOf5
 v5 := Tryz.zeroValue5
 t9 := Tryz.underlying9
 a9 := Tryz.isAgg9
 z9 := Tryz.sizeOf9
 v9 := Tryz.zeroValue9
 t20 := Tryz.underlying20
 a20 := Tryz.isAgg20
 z20 := Tryz.sizeOf20
 v20 := Tryz.zeroValue20
 t37 := Tryz.underlying35
 a37 := Tryz.isAgg35
 z37 := Tryz.sizeOf35
 v37 := Tryz.zeroValue35
 t46 := Tryz.underlying98
 a46 := Tryz.isAgg98
 z46 := Tryz.sizeOf98
 v46 := Tryz.zeroValue98
 t51 := Tryz.underlying133
 a51 := Tryz.isAgg133
 z51 := Tryz.sizeOf133
 v51 := Tryz.zeroValue133
 t53 := Tryz.underlying89
 a53 := Tryz.isAgg89
 z53 := Tryz.sizeOf89
 v53 := Tryz.zeroValue89
 t171 := Tryz.underlying161
 a171 := Tryz.isAgg161
 z171 := Tryz.sizeOf161
 v171 := Tryz.zeroValue161
 t173 := Tryz.underlying163
 a173 := Tryz.isAgg163
 z173 := Tryz.sizeOf163
 v173 := Tryz.zeroValue163
 t212 := Tryz.underlying189
 a212 := Tryz.isAgg189
 z212 := Tryz.sizeOf189
 v212 := Tryz.zeroValue189
 t213 := Tryz.underlying190
 a213 := Tryz.isAgg190
 z213 := Tryz.sizeOf190
 t232 := Tryz.underlying214
 a232 := Tryz.isAgg214
 z232 := Tryz.sizeOf214
 v232 := Tryz.zeroValue214
 t233 := Tryz.underlying215
 a233 := Tryz.isAgg215
 z233 := Tryz.sizeOf215
 v233 := Tryz.zeroValue215
 g17 := by kernel_rfl
 g18 := by kernel_rfl
 g19 := by kernel_rfl
 i0 := by kernel_rfl
 i2 := by kernel_rfl
 i3 := by kernel_rfl
 i4 := by kernel_rfl
 i5 := by kernel_rfl
 i9 := by kernel_rfl
 i20 := by kernel_rfl
 i37 := by kernel_rfl
 i46 := by kernel_rfl
 i51 := by kernel_rfl
 i53 := by kernel_rfl
 i171 := by kernel_rfl
 i173 := by kernel_rfl
 i212 := by kernel_rfl
 i232 := by kernel_rfl
 i233 := by kernel_rfl
 m17 := by kernel_rfl
 m18 := by kernel_rfl
 m19 := by kernel_rfl }
open Go.RowKit Go.Sort Go.Lib in
theorem Tryz.strconv_Itoa (n : Int) (h0 : -9223372036854775808 ≤ n) (h1 : n ≤ 9223372036854775807) (w : World) (htab : Lib.TabIs Tryz.prog w "internal/strconv.uint64pow10" .u64 Lib.pow10Tab) :
   Calls Tryz.prog 55 #[.int .i64 n] w fun e w' => e = .returned (.string ⟨(Lib.itoa n).toArray⟩) /\ ∃ k os, w' = grow (w.drewN k) os := Any.strconv_Itoa Tryz.laysM171 n h0 h1 w htab
def Tryz.laysM316_ren : Go.Shelf.Ren := ⟨fun | 316 => 90 | n => n, fun | 9 => 9 | 3 => 3 | 4 => 4 | 37 => 35 | 0 => 0 | 127 => 129 | 5 => 5 | n => n, fun | n => n⟩
theorem Tryz.laysM316 : Go.Proofs.LaysM.n316 Tryz.prog Tryz.laysM316_ren := {
 mixed := by kernel_rfl
 f316 := Tryz.func90.trans (congrArg some (by kernel_rfl))
 t0 := Tryz.underlying0
 a0 := Tryz.isAgg0
 z0 := Tryz.sizeOf0
 v0 := Tryz.zeroValue0
 t3 := Tryz.underlying3
 a3 := Tryz.isAgg3
 z3 := Tryz.sizeOf3
 v3 := Tryz.zeroValue3
 t4 := Tryz.underlying4
 a4 := Tryz.isAgg4
 z4 := Tryz.sizeOf4
 v4 := Tryz.zeroValue4
 t9 := Tryz.underlying9
 a9 := Tryz.isAgg9
 z9 := Tryz.sizeOf9
 v9 := Tryz.zeroValue9
 t37 := Tryz.underlying35
 a37 := Tryz.isAgg35
 z37 := Tryz.sizeOf35
 v37 := Tryz.zeroValue35
 t127 := Tryz.underlying129
 a127 := Tryz.isAgg129
 z127 := Tryz.sizeOf129
 v127 := Tryz.zeroValue129
 t5 := Tryz.underlying5
 a5 := Tryz.isAgg5
 z5 := Tryz.sizeOf5
 v5 := Tryz.zeroValue5
 i0 := by kernel_rfl
 i3 := by kernel_rfl
 i4 := by kernel_rfl
 i5 := by kernel_rfl
 i9 := by kernel_rfl
 i37 := by kernel_rfl
 i127 := by kernel_rfl }
open Go.RowKit in
theorem Tryz.stringslite_Clone (s : ByteArray) (w : World) (hlim : s.size <= 281474976710656) :
   Calls Tryz.prog 90 #[.string s] w fun e w' => e = .returned (.string s) /\ Below w.heap.size w w' := Any.stringslite_Clone Tryz.laysM316 s w hlim
def Tryz.laysPu14_ren : Go.Shelf.Ren := ⟨fun | 14 => 184 | 16 => 170 | 17 => 109 | 19 => 189 | 20 => 190 | 21 => 137 | 22 => 138 | 23 => 139 | 24 => 140 | 25 => 90 | 27 => 55 | 26 => 171 | 28 => 89 | 29 => 110 | 30 => 141 | 31 => 142 | 32 => 143 | 33 => 144 | 35 => 114 | 34 => 172 | 36 => 173 | 37 => 174 | 38 => 175 | 39 => 191 | 40 => 192 | n => n, fun | 9 => 9 | 3 => 3 | 22 => 89 | 24 => 104 | 25 => 183 | 4 => 4 | 34 => 155 | 5 => 5 | 36 => 98 | 37 => 35 | 0 => 0 | 39 => 158 | 21 => 21 | 44 => 186 | 47 => 129 | 50 => 208 | 48 => 206 | 2 => 2 | 52 => 161 | 55 => 163 | 59 => 189 | 60 => 133 | 20 => 20 | 61 => 190 | 65 => 214 | 66 => 215 | 67 => 121 | n => n, fun | 0 => 2 | 1 => 3 | 2 => 4 | 3 => 6 | 4 => 7 | n => n⟩
theorem Tryz.laysPu14 : Go.Proofs.LaysPu.n14 Tryz.prog Tryz.laysPu14_ren := {
 mixed := by kernel_rfl
 f14 := Tryz.func184.trans (congrArg some (by kernel_rfl))
 f16 := Tryz.func170.trans (congrArg some (by kernel_rfl))
 f17 := Tryz.func109.trans (congrArg some (by kernel_rfl))
 f19 := Tryz.func189.trans (congrArg some (by kernel_rfl))
 f20 := Tryz.func190.trans (congrArg some (by kernel_rfl))
 f21 := Tryz.func137.trans (congrArg some (by kernel_rfl))
 f22 := Tryz.func138.trans (congrArg some (by kernel_rfl))
 f23 := Tryz.func139.trans (congrArg some (by kernel_rfl))
 f24 := Tryz.func140.trans (congrArg some (by kernel_rfl))
 f25 := Tryz.func90.trans (congrArg some (by kernel_rfl))
 f26 := Tryz.func171.trans (congrArg some (by kernel_rfl))
 f27 := Tryz.func55.trans (congrArg some (by kernel_rfl))
 f28 := Tryz.func89.trans (congrArg some (by kernel_rfl))
 f29 := Tryz.func110.trans (congrArg some (by kernel_rfl))
 f30 := Tryz.func141.trans (congrArg some (by kernel_rfl))
 f31 := Tryz.func142.trans (congrArg some (by kernel_rfl))
 f32 := Tryz.func143.trans (congrArg some (by kernel_rfl))
 f33 := Tryz.func144.trans (congrArg some (by kernel_rfl))
 f34 := Tryz.func172.trans (congrArg some (by kernel_rfl))
 f35 := Tryz.func114.trans (congrArg some (by kernel_rfl))
 f36 := Tryz.func173.trans (congrArg some (by kernel_rfl))
 f37 := Tryz.func174.trans (congrArg some (by kernel_rfl))
 f38 := Tryz.func175.trans (congrArg some (by kernel_rfl))
 f39 := Tryz.func191.trans (congrArg some (by kernel_rfl))
 f40 := Tryz.func192.trans (congrArg some (by kernel_rfl))
 t0 := Tryz.underlying0
 a0 := Tryz.isAgg0
 z0 := Tryz.sizeOf0
 v0 := Tryz.zeroValue0
 i0 := by kernel_rfl
 t2 := Tryz.underlying2
 a2 := Tryz.isAgg2
 z2 := Tryz.sizeOf2
 v2 := Tryz.zeroValue2
 i2 := by kernel_rfl
 t3 := Tryz.underlying3
 a3 := Tryz.isAgg3
 z3 := Tryz.sizeOf3
 v3 := Tryz.zeroValue3
 i3 := by kernel_rfl
 t4 := Tryz.underlying4
 a4 := Tryz.isAgg4
 z4 := Tryz.sizeOf4
 v4 := Tryz.zeroValue4
 i4 := by kernel_rfl
 t5 := Tryz.underlying5
 a5 := Tryz.isAgg5
 z5 := Tryz.sizeOf5
 v5 := Tryz.zeroValue5
 i5 := by kernel_rfl
 t9 := Tryz.underlying9
 a9 := Tryz.isAgg9
 z9 := Tryz.sizeOf9
 v9 := Tryz.zeroValue9
 i9 := by kernel_rfl
 t20 := Tryz.underlying20
 a20 := Tryz.isAgg20
 z20 := Tryz.sizeOf20
 v20 := Tryz.zeroValue20
 i20 := by kernel_rfl
 t21 := Tryz.underlying21
 a21 := Tryz.isAgg21
 z21 := Tryz.sizeOf21
 v21 := Tryz.zeroValue21
 i21 := by kernel_rfl
 t22 := Tryz.underlying89
 a22 := Tryz.isAgg89
 z22 := Tryz.sizeOf89
 v22 := Tryz.zeroValue89
 i22 := by kernel_rfl
 t24 := Tryz.underlying104
 a24 := Tryz.isAgg104
 z24 := Tryz.sizeOf104
 v24 := Tryz.zeroValue104
 i24 := by kernel_rfl
 t25 := Tryz.underlying183
 a25 := Tryz.isAgg183
 z25 := Tryz.sizeOf183
 v25 := Tryz.zeroValue183
 i25 := by kernel_rfl
 t34 := Tryz.underlying155
 a34 := Tryz.isAgg155
 z34 := Tryz.sizeOf155
 v34 := Tryz.zeroValue155
 i34 := by kernel_rfl
 c34 := by kernel_rfl
 t36 := Tryz.underlying98
 a36 := Tryz.isAgg98
 z36 := Tryz.sizeOf98
 v36 := Tryz.zeroValue98
 i36 := by kernel_rfl
 t37 := Tryz.underlying35
 a37 := Tryz.isAgg35
 z37 := Tryz.sizeOf35
 v37 := Tryz.zeroValue35
 i37 := by kernel_rfl
 t39 := Tryz.underlying158
 a39 := Tryz.isAgg158
 z39 := Tryz.sizeOf158
 v39 := Tryz.zeroValue158
 i39 := by kernel_rfl
 t44 := Tryz.underlying186
 a44 := Tryz.isAgg186
 z44 := Tryz.sizeOf186
 v44 := Tryz.zeroValue186
 i44 := by kernel_rfl
 t47 := Tryz.underlying129
 a47 := Tryz.isAgg129
 z47 := Tryz.sizeOf129
 v47 := Tryz.zeroValue129
 i47 := by kernel_rfl
 t48 := Tryz.underlying206
 a48 := Tryz.isAgg206
 z48 := Tryz.sizeOf206
 v48 := Tryz.zeroValue206
 i48 := by kernel_rfl
 t50 := Tryz.underlying208
 a50 := Tryz.isAgg208
 z50 := Tryz.sizeOf208
 v50 := Tryz.zeroValue208
 i50 := by kernel_rfl
 t52 := Tryz.underlying161
 a52 := Tryz.isAgg161
 z52 := Tryz.sizeOf161
 v52 := Tryz.zeroValue161
 i52 := by kernel_rfl
 t55 := Tryz.underlying163
 a55 := Tryz.isAgg163
 z55 := Tryz.sizeOf163
 v55 := Tryz.zeroValue163
 i55 := by kernel_rfl
 t59 := Tryz.underlying189
 a59 := Tryz.isAgg189
 z59 := Tryz.sizeOf189
 v59 := Tryz.zeroValue189
 i59 := by kernel_rfl
 t60 := Tryz.underlying133
 a60 := Tryz.isAgg133
 z60 := Tryz.sizeOf133
 v60 := Tryz.zeroValue133
 i60 := by kernel_rfl
 t61 := Tryz.underlying190
 a61 := Tryz.isAgg190
 z61 := Tryz.sizeOf190
 t65 := Tryz.underlying214
 a65 := Tryz.isAgg214
 z65 := Tryz.sizeOf214
 v65 := Tryz.zeroValue214
 i65 := by kernel_rfl
 t66 := Tryz.underlying215
 a66 := Tryz.isAgg215
 z66 := Tryz.sizeOf215
 v66 := Tryz.zeroValue215
 i66 := by kernel_rfl
 t67 := Tryz.underlying121
 a67 := Tryz.isAgg121
 z67 := Tryz.sizeOf121
 v67 := Tryz.zeroValue121
 i67 := by kernel_rfl
 g0 := by kernel_rfl
 m0 := by kernel_rfl
 g1 := by kernel_rfl
 m1 := by kernel_rfl
 g2 := by kernel_rfl
 m2 := by kernel_rfl
 g3 := by kernel_rfl
 m3 := by kernel_rfl
 g4 := by kernel_rfl
 m4 := by kernel_rfl }
open Go.RowKit in
theorem Tryz.strconv_ParseUint_10_at64_ok (s : ByteArray) (hmax : s.size <= 9223372036854775806) (u : Nat) (h : Lib.parseUintB 64 s.data.toList = .ok u) (w : World) :
   Calls Tryz.prog 184 #[.string s, .int .i64 10, .int .i64 64] w fun e w' => e = .returned (.tuple #[.int .u64 u, .nilIface]) /\ (w' = w ∨ w' = Lib.bytesWorld w 5 s) := Any.strconv_ParseUint_10_at64_ok Tryz.laysPu14 s hmax u h w
def Tryz.lays152_ren : Go.Shelf.Ren := ⟨fun | 152 => 112 | 137 => 123 | 119 => 147 | 224 => 148 | 225 => 149 | 217 => 155 | 266 => 179 | n => n, fun | 9 => 9 | 21 => 21 | 3 => 3 | 4 => 4 | 5 => 5 | 0 => 0 | 46 => 98 | n => n, fun | n => n⟩
theorem Tryz.lays152 : Go.Proofs.Lays.n152 Tryz.prog Tryz.lays152_ren := {
 mixed := by kernel_rfl
 f119 := Tryz.func147.trans (congrArg some (by kernel_rfl))
 f137 := Tryz.func123.trans (congrArg some (by kernel_rfl))
 f152 := Tryz.func112.trans (congrArg some (by kernel_rfl))
 f217 := Tryz.func155.trans (congrArg some (by kernel_rfl))
 f224 := Tryz.func148.trans (congrArg some (by kernel_rfl))
 f225 := Tryz.func149.trans (congrArg some (by kernel_rfl))
 f266 := Tryz.func179.trans (congrArg some (by kernel_rfl))
 t0 := Tryz.underlying0
 a0 := Tryz.isAgg0
 z0 := Tryz.sizeOf0
 v0 := Tryz.zeroValue0
 t3 := Tryz.underlying3
 a3 := Tryz.isAgg3
 z3 := Tryz.sizeOf3
 v3 := Tryz.zeroValue3
 t4 := Tryz.underlying4
 a4 := Tryz.isAgg4
 z4 := Tryz.sizeOf4
 v4 := Tryz.zeroValue4
 t5 := Tryz.underlying5
 a5 := Tryz.isAgg5
 z5 := Tryz.sizeOf5
 v5 := Tryz.zeroValue5
 t9 := Tryz.underlying9
 a9 := Tryz.isAgg9
 z9 := Tryz.sizeOf9
 v9 := Tryz.zeroValue9
 t21 := Tryz.underlying21
 a21 := Tryz.isAgg21
 z21 := Tryz.sizeOf21
 v21 := Tryz.zeroValue21
 t46 := Tryz.underlying98
 a46 := Tryz.isAgg98
 z46 := Tryz.sizeOf98
 v46 := Tryz.zeroValue98 }
open Go.RowKit Go.Lib in
theorem Tryz.strings_IndexRune_ascii (s : ByteArray) (r : Int) (w : World) (h0 : 0 <= r) (h1 : r < 128) :
   Calls Tryz.prog 112 #[.string s, .int .i32 r] w fun e w' => e = .returned (.int .i64 (Lib.indexByte s.data.toList r.toNat.toUInt8)) /\ w' = w := Any.strings_IndexRune_ascii Tryz.lays152 s r w h0 h1
def Tryz.lays105_ren : Go.Shelf.Ren := ⟨fun | 105 => 111 | 212 => 145 | 99 => 85 | 165 => 131 | 166 => 133 | 170 => 146 | 169 => 135 | 263 => 176 | 264 => 177 | 206 => 105 | 240 => 166 | 241 => 167 | 276 => 186 | 277 => 187 | n => n, fun | 9 => 9 | 3 => 3 | 4 => 4 | 20 => 20 | 0 => 0 | 46 => 98 | 109 => 165 | 5 => 5 | 72 => 151 | 76 => 105 | 51 => 133 | 146 => 192 | 53 => 89 | 148 => 194 | 70 => 149 | 37 => 35 | 75 => 104 | 127 => 129 | 164 => 202 | 80 => 121 | n => n, fun | n => n⟩
theorem Tryz.lays105 : Go.Proofs.Lays.n105 Tryz.prog Tryz.lays105_ren := {
 mixed := by kernel_rfl
 f99 := Tryz.func85.trans (congrArg some (by kernel_rfl))
 f105 := Tryz.func111.trans (congrArg some (by kernel_rfl))
 f165 := Tryz.func131.trans (congrArg some (by kernel_rfl))
 f166 := Tryz.func133.trans (congrArg some (by kernel_rfl))
 f169 := Tryz.func135.trans (congrArg some (by kernel_rfl))
 f170 := Tryz.func146.trans (congrArg some (by kernel_rfl))
 f206 := Tryz.func105.trans (congrArg some (by kernel_rfl))
 f212 := Tryz.func145.trans (congrArg some (by kernel_rfl))
 f240 := Tryz.func166.trans (congrArg some (by kernel_rfl))
 f241 := Tryz.func167.trans (congrArg some (by kernel_rfl))
 f263 := Tryz.func176.trans (congrArg some (by kernel_rfl))
 f264 := Tryz.func177.trans (congrArg some (by kernel_rfl))
 f276 := Tryz.func186.trans (congrArg some (by kernel_rfl))
 f277 := Tryz.func187.trans (congrArg some (by kernel_rfl))
 t0 := Tryz.underlying0
 a0 := Tryz.isAgg0
 z0 := Tryz.sizeOf0
 v0 := Tryz.zeroValue0
 t3 := Tryz.underlying3
 a3 := Tryz.isAgg3
 z3 := Tryz.sizeOf3
 v3 := Tryz.zeroValue3
 t4 := Tryz.underlying4
 a4 := Tryz.isAgg4
 z4 := Tryz.sizeOf4
 v4 := Tryz.zeroValue4
 t5 := Tryz.underlying5
 a5 := Tryz.isAgg5
 z5 := Tryz.sizeOf5
 v5 := Tryz.zeroValue5
 t9 := Tryz.underlying9
 a9 := Tryz.isAgg9
 z9 := Tryz.sizeOf9
 v9 := Tryz.zeroValue9
 t20 := Tryz.underlying20
 a20 := Tryz.isAgg20
 z20 := Tryz.sizeOf20
 v20 := Tryz.zeroValue20
 t37 := Tryz.underlying35
 a37 := Tryz.isAgg35
 z37 := Tryz.sizeOf35
 v37 := Tryz.zeroValue35
 t46 := Tryz.underlying98
 a46 := Tryz.isAgg98
 z46 := Tryz.sizeOf98
 v46 := Tryz.zeroValue98
 t51 := Tryz.underlying133
 a51 := Tryz.isAgg133
 z51 := Tryz.sizeOf133
 v51 := Tryz.zeroValue133
 t53 := Tryz.underlying89
 a53 := Tryz.isAgg89
 z53 := Tryz.sizeOf89
 v53 := Tryz.zeroValue89
 t70 := Tryz.underlying149
 a70 := Tryz.isAgg149
 z70 := Tryz.sizeOf149
 v70 := Tryz.zeroValue149
 t72 := Tryz.underlying151
 a72 := Tryz.isAgg151
 z72 := Tryz.sizeOf151
 v72 := Tryz.zeroValue151
 t75 := Tryz.underlying104
 a75 := Tryz.isAgg104
 z75 := Tryz.sizeOf104
 v75 := Tryz.zeroValue104
 t76 := Tryz.underlying105
 a76 := Tryz.isAgg105
 z76 := Tryz.sizeOf105
 v76 := Tryz.zeroValue105
 t109 := Tryz.underlying165
 a109 := Tryz.isAgg165
 z109 := Tryz.sizeOf165
 v109 := Tryz.zeroValue165
 t127 := Tryz.underlying129
 a127 := Tryz.isAgg129
 z127 := Tryz.sizeOf129
 v127 := Tryz.zeroValue129
 t146 := Tryz.underlying192
 a146 := Tryz.isAgg192
 z146 := Tryz.sizeOf192
 v146 := Tryz.zeroValue192
 t148 := Tryz.underlying194
 a148 := Tryz.isAgg194
 z148 := Tryz.sizeOf194
 v148 := Tryz.zeroValue194
 t164 := Tryz.underlying202
 a164 := Tryz.isAgg202
 z164 := Tryz.sizeOf202
 v164 := Tryz.zeroValue202 }
theorem Tryz.Builder_Extra_105 : Builder.Extra Tryz.prog Tryz.lays105_ren := {
 sizeBuilder := by kernel_rfl
 liesBuilder := by kernel_rfl
 t5 := Tryz.underlying5
 a5 := Tryz.isAgg5
 z5 := Tryz.sizeOf5
 v5 := Tryz.zeroValue5
 infoByte := by kernel_rfl
 cellsByte := by kernel_rfl
 sizeByte := by kernel_rfl
 neB5 := by decide }
open Go.RowKit Go.Lib in
theorem Tryz.strings_Repeat (s : ByteArray) (c : Nat) (w : World) (hc : c <= 9223372036854775807) (hlen : s.size * c <= 140737488355328) :
   Calls Tryz.prog 111 #[.string s, .int .i64 c] w fun e w' => e = .returned (.string ⟨(Lib.repeatL s.data.toList c).toArray⟩) /\ Below w.heap.size w w' := Any.strings_Repeat Tryz.lays105 Tryz.Builder_Extra_105 s c w hc hlen
def Tryz.lays196_ren : Go.Shelf.Ren := ⟨fun | 196 => 59 | 259 => 92 | n => n, fun | 9 => 9 | 4 => 4 | 3 => 3 | 5 => 5 | 12 => 12 | 119 => 94 | 0 => 0 | 46 => 98 | 139 => 97 | 138 => 96 | 53 => 89 | n => n, fun | 3 => 0 | 4 => 1 | n => n⟩
theorem Tryz.lays196 : Go.Proofs.Lays.n196 Tryz.prog Tryz.lays196_ren := {
 mixed := by kernel_rfl
 f196 := Tryz.func59.trans (congrArg some (by kernel_rfl))
 f259 := Tryz.func92.trans (congrArg some (by kernel_rfl))
 t0 := Tryz.underlying0
 a0 := Tryz.isAgg0
 z0 := Tryz.sizeOf0
 v0 := Tryz.zeroValue0
 t3 := Tryz.underlying3
 a3 := Tryz.isAgg3
 z3 := Tryz.sizeOf3
 v3 := Tryz.zeroValue3
 t4 := Tryz.underlying4
 a4 := Tryz.isAgg4
 z4 := Tryz.sizeOf4
 v4 := Tryz.zeroValue4
 t5 := Tryz.underlying5
 a5 := Tryz.isAgg5
 z5 := Tryz.sizeOf5
 v5 := Tryz.zeroValue5
 t9 := Tryz.underlying9
 a9 := Tryz.isAgg9
 z9 := Tryz.sizeOf9
 v9 := Tryz.zeroValue9
 t12 := Tryz.underlying12
 a12 := Tryz.isAgg12
 z12 := Tryz.sizeOf12
 v12 := Tryz.zeroValue12
 t46 := Tryz.underlying98
 a46 := Tryz.isAgg98
 z46 := Tryz.sizeOf98
 v46 := Tryz.zeroValue98
 t53 := Tryz.underlying89
 a53 := Tryz.isAgg89
 z53 := Tryz.sizeOf89
 v53 := Tryz.zeroValue89
 t119 := Tryz.underlying94
 a119 := Tryz.isAgg94
 z119 := Tryz.sizeOf94
 t138 := Tryz.underlying96
 a138 := Tryz.isAgg96
 z138 := Tryz.sizeOf96
 v138 := Tryz.zeroValue96
 t139 := Tryz.underlying97
 a139 := Tryz.isAgg97
 z139 := Tryz.sizeOf97
 v139 := Tryz.zeroValue97
 g3 := by kernel_rfl
 g4 := by kernel_rfl }
open Go.RowKit in
theorem Tryz.utf8_ValidString (s : ByteArray) (w : World) (hs : s.size <= 9223372036854775807) (hT : Lib.Utf8Tabs 0 1 w) :
   Calls Tryz.prog 59 #[.string s] w fun e w' => e = .returned (.bool (Lib.validD s.data.toList)) /\ Below w.heap.size w w' := Any.utf8_ValidString Tryz.lays196 s w hs hT
end Go.Proofs
namespace Go.Proofs.YtmhbkjjkalnggaaGreatDoor
open Go.RowKit
open Go.Sort (putRow cell?_putRow)
def PowTab (w : World) : Prop := Lib.TabIs Tryz.prog w "internal/strconv.uint64pow10" .u64 Lib.pow10Tab
theorem PowTab.alloc {w : World} (h : PowTab w) (o : Obj) : PowTab (w.alloc o) := Lib.tabIs_alloc h o
theorem PowTab.below {w w' : World} (h : PowTab w) (hb : Below w.heap.size w w') : PowTab w' := by
 unfold PowTab Lib.TabIs World.var? at *
 cases hg : Tryz.prog.globalNamed "internal/strconv.uint64pow10" with
 | none => simp [hg] at h
 | some g =>
   simp only [hg, Option.bind_some] at h ⊢
   have hlt : g < w.heap.size := by
     rcases Nat.lt_or_ge g w.heap.size with h1 | h1
     · exact h1
     · rw [Array.getElem?_eq_none h1] at h
       simp at h
   rw [hb.block g hlt]
   exact h
theorem iformat_ok (u : Nat) (hu : u < 18446744073709551616) (w : World) (hT : PowTab w) :
   Calls Tryz.prog 197 #[.int .u64 u, .int .i64 10] w fun e w' => e = .returned (.string (bs (Lib.decDigits u))) /\ Below w.heap.size w w' := by
 by_cases hs : u < 100
 · go_enter Tryz.func197, Tryz.ntmps197
   go_wp2_with fail
   refine (Tryz.internal_strconv_small u hs _).mono ?_
   rintro e w' ⟨rfl, rfl⟩
   go_wp2
   go_ret
   exact ⟨rfl, Below.refl _ _⟩
 · have hu1 : 1 <= u := by omega
   have hnd20 : Lib.nDigits u <= 20 := by have := Lib.numDigits_eq u hu1 hu; split at this <;> omega
   have hb3 : Lib.nDigits u <= 24 := by omega
   have hal : Tryz.prog.arrayLen 161 = 24 := by simp [Program.arrayLen, Tryz.underlying161]
   have hsl1 : ∀ W, (Instr.sliceAt 161 (.pointer (some ⟨w.heap.size, 0, none⟩)) none (some (.int .i64 (Lib.nDigits u : Int))) none).run Tryz.prog W = .ok (.slice (some ⟨w.heap.size, 0, none⟩) (Lib.nDigits u) 24) W := fun W => by
     rw [run_sliceAt_array_h W 161 ⟨w.heap.size, 0, none⟩ (by simp [Program.arrayLen, Program.elem, Tryz.underlying161]) .i64 (Lib.nDigits u : Int) (by omega) (by rw [hal]; omega)]
     go_simp
   have hH0 := Lib.holds_zero0 w 161 (Lib.nDigits u) (by omega)
   have hfmt := Tryz.internal_strconv_formatBase10 w.heap.size 0 24 u (Array.replicate (Lib.nDigits u) 0) (w.alloc (.cells Lib.zeros24 161)) hH0 (by rw [Array.size_replicate]; exact Lib.lt_pow_nDigits u) hu (by rw [Array.size_replicate]; omega)
   rw [Array.size_replicate] at hfmt
   have HH0 := hid hH0
   clear hH0 hal
   go_enter Tryz.func197, Tryz.ntmps197
   go_wp2_with fail
   refine (Tryz.internal_strconv_numDigits u hu1 hu _ (hT.alloc _)).mono ?_
   rintro e w' ⟨rfl, rfl⟩
   go_wp2_with fail
   refine hfmt.mono ?_
   rintro e w' ⟨rfl, k, v', dk, rfl, hF⟩
   have hcv : (convert 35 9 (.slice (some ⟨w.heap.size, 0, none⟩) (Lib.nDigits u) 24)).run Tryz.prog ((putRow (fun (b : UInt8) => Value.int .u8 (b.toNat : Int)) (w.alloc (.cells Lib.zeros24 161)) w.heap.size 0 dk).drewN k) = .ok (.string ⟨(Lib.decDigits u).toArray⟩) ((putRow (fun (b : UInt8) => Value.int .u8 (b.toNat : Int)) (w.alloc (.cells Lib.zeros24 161)) w.heap.size 0 dk).drewN k) := by
     have h := run_convert_bytes_back (P := Tryz.prog) ((putRow (fun (b : UInt8) => Value.int .u8 (b.toNat : Int)) (w.alloc (.cells Lib.zeros24 161)) w.heap.size 0 dk).drewN k) 35 9 5 ⟨w.heap.size, 0, none⟩ 24 (Lib.decDigits u) Tryz.underlying35 Tryz.underlying5 Tryz.underlying9 (fun j hj => by
       rw [Lib.row_is_numeral hF j hj, Lib.add_plain, World.cell?_drewN]
       exact cell?_putRow (fun (b : UInt8) => Value.int .u8 (b.toNat : Int)) _ w.heap.size 0 _ dk HH0.out (by rw [hF.size, Array.size_replicate]) j (by rw [hF.size]; rw [Lib.decDigits_length] at hj; exact hj))
     rw [Lib.decDigits_length] at h
     exact h
   go_wp2
   go_ret
   obtain ⟨os, eo⟩ := Lib.fin_at w (.cells Lib.zeros24 161) dk k 0
   exact ⟨rfl, by rw [eo]; exact Lib.below_grow _ _ (Nat.le_refl _) _ _⟩
theorem format_ok (u : Nat) (hu : u < 18446744073709551616) (w : World) (hT : PowTab w) :
   Calls Tryz.prog 194 #[.int .u64 u, .int .i64 10] w fun e w' => e = .returned (.string (bs (Lib.decDigits u))) /\ Below w.heap.size w w' := by
 go_enter Tryz.func194, Tryz.ntmps194
 go_wp2_with fail
 refine (iformat_ok u hu _ hT).mono ?_
 rintro e w' ⟨rfl, hb⟩
 have HB := hid hb
 clear hb
 go_wp2
 go_ret
 exact ⟨rfl, HB.out⟩
theorem itoa_ok (n : Int) (h0 : -9223372036854775808 <= n) (h1 : n <= 9223372036854775807) (w : World) (hT : PowTab w) :
   Calls Tryz.prog 55 #[.int .i64 n] w fun e w' => e = .returned (.string (bs (Lib.itoa n))) /\ Below w.heap.size w w' := by
 refine (Tryz.strconv_Itoa n h0 h1 w hT).mono ?_
 rintro e w' ⟨rfl, k, os, rfl⟩
 exact ⟨rfl, Lib.below_grow _ _ (Nat.le_refl _) _ _⟩
theorem repeatL_one (b : UInt8) (k : Nat) : Lib.repeatL [b] k = List.replicate k b := by
 induction k with
 | zero => rfl
 | succ k ih => show [b] ++ Lib.repeatL [b] k = _; rw [ih, List.replicate_succ]; rfl
theorem noughts_ok (k : Nat) (w : World) (hk : k <= 140737488355328) :
   Calls Tryz.prog 95 #[.int .i64 k] w fun e w' => e = .returned (.string (bs (zeros k))) /\ Below w.heap.size w w' := by
 have hR := Tryz.strings_Repeat ⟨#[48]⟩ k w (by omega) (by simpa [ByteArray.size] using hk)
 have HR : Hid (Calls Tryz.prog 111 #[.string ⟨#[48]⟩, .int .i64 k] w fun e w' => e = .returned (.string (bs (zeros k))) /\ Below w.heap.size w w') := hid (by
   refine hR.mono ?_
   rintro e w' ⟨rfl, hb⟩
   exact ⟨by rw [show Lib.repeatL (ByteArray.mk #[48]).data.toList k = zeros k from repeatL_one 48 k]; rfl, hb⟩)
 clear hR
 go_enter Tryz.func95, Tryz.ntmps95
 go_wp2_with fail
 refine HR.out.mono ?_
 rintro e w' ⟨rfl, hb⟩
 have HB := hid hb
 clear hb HR
 go_wp2
 go_ret
 exact ⟨rfl, HB.out⟩
theorem bs_append (a b : List UInt8) : bs a ++ bs b = bs (a ++ b) := by
 apply ByteArray.ext
 simp [bs, ByteArray.data_append]
theorem bs_extract (l : List UInt8) (i j : Nat) : (bs l).extract i j = bs ((l.take j).drop i) := by
 apply ByteArray.ext
 simp [bs, ByteArray.data_extract, List.drop_take]
section
variable {P : Program} (W : World)
theorem run_add_bs (a b : List UInt8) (h : a.length + b.length <= 9223372036854775807) : (Op.stringOp .add (bs a) (bs b)).run P W = .ok (.string (bs (a ++ b))) W := by
 rw [run_string_add_sum W _ _ (by rw [bs_size, bs_size]; exact h), bs_append]
theorem run_from_bs (t : TypeId) (ht : P.underlying t = some .string) (l : List UInt8) (k : Nat) (hk : k <= l.length) :
   (Instr.slice t (.string (bs l)) (some (.int .i64 (k : Int))) none none).run P W = .ok (.string (bs (l.drop k))) W := by
 rw [run_slice_string_l W t (bs l) ht .i64 k (by omega) (by rw [bs_size]; omega), bs_extract, bs_size, List.take_length, Int.toNat_natCast]
theorem run_to_bs (t : TypeId) (ht : P.underlying t = some .string) (l : List UInt8) (k : Nat) (hk : k <= l.length) :
   (Instr.slice t (.string (bs l)) none (some (.int .i64 (k : Int))) none).run P W = .ok (.string (bs (l.take k))) W := by
 rw [run_slice_string_h W t (bs l) ht .i64 k (by omega) (by rw [bs_size]; omega), bs_extract, Int.toNat_natCast, List.drop_zero]
end
theorem infoU64 : (Tryz.prog.info? 89).map (fun i => (i.zero, i.size, i.bytes)) = some (some (.int .u64 0), 1, 8) := by kernel_rfl
def OwnW (w0 w : World) (v : Value) (l : List Nat) : Prop := Lies w (grow noBlock w0) 89 1 v l.length (u64s l)
theorem OwnW.wds {w0 w : World} {v : Value} {l : List Nat} (h : OwnW w0 w v l) (hl : ∀ i, wat l i < 18446744073709551616) : Wds w v l := by
 obtain ⟨A, c, rfl, h1, h2, h3⟩ := h.holds
 exact ⟨hl, A, c, rfl, h1, h2, h3⟩
section
variable {P : Program} {ops : Array Oper} {rest : List Oper} {o : Oper} {a : Act} {w : World} {Q : Exit -> Act -> World -> Prop}
theorem wpList_make_u64 (hgd : o.guard = none) (t e : TypeId) (x : Operand) (ho : o.op = .makeSlice t x x) (n : Nat) (hx : a.eval x = .int .i64 n) (ht : P.underlying t = some (.slice e))
   (hi : (P.info? e).map (fun i => (i.zero, i.size, i.bytes)) = some (some (.int .u64 0), 1, 8)) (hn : n <= 17592186044416)
   (h : wpList P ops Q rest (a.put o.dst (.slice (some ⟨w.heap.size, 0, none⟩) n n)) (w.alloc (.cells (u64s (List.replicate n 0)).toArray e))) : wpList P ops Q (o :: rest) a w := by
 obtain ⟨i, hi, hz, hs, hb⟩ := info_parts hi
 have hr := run_make (P := P) w t e i _ ht hi hz .i64 .i64 n n (by omega) (Int.le_refl _) (by rw [hb]; omega) (by omega)
 rw [hs, Nat.mul_one] at hr
 have e1 : madeCells (Value.int .u64 0).cells n = (u64s (List.replicate n 0)).toArray := by
   apply Array.toList_inj.1
   have := toList_madeCells_one (.int .u64 0) n
   simp only [u64s, List.map_replicate]
   exact this
 simp only [Int.toNat_natCast] at hr
 rw [e1] at hr
 refine wpList_plain hgd fun K hK => ?_
 unfold Oper.wp
 simp [execOp, ho, hx, hr, Result.andThen]
 exact hK _ _ h
end
theorem OwnW.made (w : World) (n : Nat) (hn : n <= maxLen) : OwnW w (w.alloc (.cells (u64s (List.replicate n 0)).toArray 89)) (.slice (some ⟨w.heap.size, 0, none⟩) n n) (List.replicate n 0) := by
 unfold OwnW
 rw [List.length_replicate]
 refine ⟨by simp [u64s_length], .inr ⟨w.heap.size, 0, n, (u64s (List.replicate n 0)).toArray, rfl, .inr (Nat.le_refl _), heap_alloc_new w _, Nat.le_refl _, hn, by simp [u64s_length], ?_⟩⟩
 have : (u64s (List.replicate n 0)).length = n * 1 := by simp [u64s_length]
 simp only [List.drop_zero]
 rw [<- this, List.take_length]
def NumPost (w : World) (n : Nat) (e : Ending) (w' : World) : Prop := ∃ v, e = .returned v /\ Wds w' v (wds n) /\ Below w.heap.size w w'
structure LaidAt (w : World) (T : Nat) (ws : List Nat) (p : List UInt8) (v : Value) (wr : World) : Prop where
 own : OwnW w wr v ws
 below : Below w.heap.size w wr
 words : Words ws
 digs : Digs p
 val : wval ws + 1000000000 ^ ws.length * num p = T
 len : ws.length <= 2000000
 plen : p.length + ws.length <= 2000000
theorem laid_ok (l : List UInt8) (b : Nat) (w : World) (hd : Digs l) (hl : l.length <= 900000) (hb : b <= 900000) :
   Calls Tryz.prog 163 #[.string (bs l), .int .i64 b] w (NumPost w (num l * 10 ^ b)) := by
 obtain ⟨T, hT⟩ : ∃ T, num l * 10 ^ b = T := ⟨_, rfl⟩
 rw [hT]
 have hq : (b : Int) / 9 = ((b / 9 : Nat) : Int) := by omega
 have hrm : (b : Int) % 9 = ((b % 9 : Nat) : Int) := by omega
 have hA1 : LaidAt w T (List.replicate (b / 9) 0) (l ++ zeros (b % 9)) (.slice (some ⟨w.heap.size, 0, none⟩) (b / 9) (b / 9)) (w.alloc (.cells (u64s (List.replicate (b / 9) 0)).toArray 89)) := by
   refine ⟨OwnW.made w _ (by unfold maxLen; omega), (Below.refl _ _).alloc (Nat.le_refl _) _, Words.zeros _, hd.append (Digs.zeros _), ?_, by simp; omega, by simp [zeros]; omega⟩
   rw [wval_zeros, List.length_replicate, Nat.zero_add, <- hT, <- noughts_words (num l) b]
   unfold zeros
   rw [num_zeros_behind, Nat.mul_comm]
 have hadd : ∀ W, (Op.stringOp .add (bs l) (bs (zeros (b % 9)))).run Tryz.prog W = .ok (.string (bs (l ++ zeros (b % 9)))) W := fun W => run_add_bs W _ _ (by simp [zeros]; omega)
 have HA1 := hid hA1
 have hqn : b / 9 <= 100000 := by omega
 have hrn : b % 9 < 9 := by omega
 clear hA1 hT hd
 generalize b / 9 = q at *
 generalize b % 9 = r at *
 go_enter Tryz.func163, Tryz.ntmps163
 go_wp2_with (refine wpList_make_u64 ?_ 180 89 (.tmp 10) ?_ q ?_ Tryz.underlying180 infoU64 (by omega) ?_
              · with_reducible rfl
              · with_reducible rfl
              · exact congrArg (Value.int .i64) (by omega))
 generalize w.alloc (.cells (u64s (List.replicate q 0)).toArray 89) = w1 at *
 go_wp2_with fail
 refine (noughts_ok r w1 (by omega)).mono ?_
 rintro e w2 ⟨rfl, hb2⟩
 have HA2 : Hid (LaidAt w T (List.replicate q 0) (l ++ zeros r) (.slice (some ⟨w.heap.size, 0, none⟩) q q) w2) := hid (by
   obtain ⟨h1, h2, h3, h4, h5, h6, h7⟩ := HA1.out
   refine ⟨?_, h2.call hb2, h3, h4, h5, h6, h7⟩
   exact Lies.below h1 hb2)
 clear HA1
 clear hb2
 go_wp2_with fail
 go_loopw [0, 5] (fun v0 v5 wr => ∃ ws p, v0 = .string (bs p) /\ LaidAt w T ws p v5 wr) (fun v0 _ _ => match v0 with | .string s => s.size | _ => 0)
 case atStart => exact ⟨_, _, rfl, HA2.out⟩
 case round =>
   obtain ⟨ws, p, rfl, hA⟩ := hrel
   have HA := hid hA
   by_cases hp : p = []
   · subst hp
     have ht0 : (bs []).toList = [] := bs_toList []
     obtain ⟨h1, h2, h3, h4, h5, h6, h7⟩ := hA
     have hws := h1.wds fun i => by have := wat_lt h3 i; omega
     have HT : Hid (crop ws = wds T) := hid (by rw [<- wds_wval h3, <- h5, num_nil, Nat.mul_zero, Nat.add_zero])
     obtain ⟨A, c, rfl, _, _⟩ := h1.form
     have HW := hid hws
     have HB := hid h2
     clear h1 h2 h3 h4 h5 h6 h7 hws HA HA2
     go_wp2_with fail
     refine (cropped_ok A ws.length c ws _ HW.out).mono ?_
     rintro e w3 ⟨rfl, rfl⟩
     go_wp2
     go_ret
     refine ⟨_, rfl, ?_, HB.out⟩
     have h9 := HW.out.take (crop_length_le ws)
     rw [<- crop_eq_take, HT.out] at h9
     rw [HT.out]
     exact h9
   · have hE : ¬ (bs p).toList = [] := by rw [bs_toList]; exact hp
     have hlp : 0 < p.length := List.length_pos_iff.2 hp
     have hs := bs_size p
     have hpl := hA.plen
     obtain ⟨k, hk, hk9⟩ : ∃ k : Nat, k <= p.length /\ ((9 <= p.length /\ k + 9 = p.length) ∨ (p.length < 9 /\ k = 0)) := by
       by_cases h9 : 9 <= p.length
       · exact ⟨p.length - 9, by omega, .inl ⟨h9, by omega⟩⟩
       · exact ⟨0, by omega, .inr ⟨by omega, rfl⟩⟩
     have hf : ∀ W, (Instr.slice 9 (.string (bs p)) (some (.int .i64 (k : Int))) none none).run Tryz.prog W = .ok (.string (bs (p.drop k))) W := fun W => run_from_bs W _ Tryz.underlying9 p k hk
     have ht : ∀ W, (Instr.slice 9 (.string (bs p)) none (some (.int .i64 (k : Int))) none).run Tryz.prog W = .ok (.string (bs (p.take k))) W := fun W => run_to_bs W _ Tryz.underlying9 p k hk
     have hcl : (p.drop k).length = p.length - k := List.length_drop
     have hcd : Digs (p.drop k) := hA.digs.drop k
     have hcn : p.drop k ≠ [] := by intro h; rw [h] at hcl; simp at hcl; omega
     have hlt := num_lt hcd
     have h10 : 10 ^ (p.drop k).length <= 10 ^ 9 := Nat.pow_le_pow_right (by omega) (by omega)
     have hx : num (p.drop k) < 1000000000 := by have := ten9; omega
     have HPU : Hid (∀ W : World, Calls Tryz.prog 184 #[.string (bs (p.drop k)), .int .i64 10, .int .i64 64] W fun e w' => e = .returned (.tuple #[.int .u64 (num (p.drop k) : Nat), .nilIface]) /\ Below W.heap.size W w') := hid fun W => by
       refine (Tryz.strconv_ParseUint_10_at64_ok (bs (p.drop k)) (by rw [bs_size]; omega) (num (p.drop k)) (by have := parseUint_small (l := p.drop k) hcd hcn (by omega); exact this) W).mono ?_
       rintro e w' ⟨rfl, h | h⟩
       · subst h; exact ⟨rfl, Below.refl _ _⟩
       · subst h; exact ⟨rfl, Lib.bytesWorld_below _ _ _⟩
     have HS : Hid (∀ v5' wr', OwnW w wr' v5' (ws ++ [num (p.drop k)]) -> Below w.heap.size w wr' -> LaidAt w T (ws ++ [num (p.drop k)]) (p.take k) v5' wr') := hid fun v5' wr' g1 g2 => by
       have h5 := hA.val
       have hst := laid_step ws (p.take k) (p.drop k) (by
         rcases hk9 with ⟨_, h⟩ | ⟨_, h⟩
         · left; rw [hcl]; omega
         · right; rw [h]; rfl)
       rw [List.take_append_drop] at hst
       refine ⟨g1, g2, hA.words.append (Words.one hx), hA.digs.take k, by rw [hst, h5], ?_, ?_⟩
       · rw [List.length_append, List.length_singleton]; omega
       · rw [List.length_append, List.length_singleton, List.length_take]; omega
     have hown := hA.own
     obtain ⟨A, c, rfl, _, hcm⟩ := hown.form
     have HO := hid hown
     have HBW := hid hA.below
     have hwl : ws.length <= 2000000 := hA.len
     have hmax : max (0 : Int) (wrap64 ((p.length : Int) - 9)) = (k : Int) := by
       have : wrap64 ((p.length : Int) - 9) = (p.length : Int) - 9 := by unfold wrap64; omega
       rw [this]; omega
     have hE2 : (bs p).toList.isEmpty = false := by cases h : (bs p).toList with | nil => exact absurd h hE | cons x y => rfl
     clear hA HA HA2 hcl hcd hcn hlt h10 hpl hown
     generalize num (p.drop k) = x at *
     generalize bs (p.drop k) = sx at *
     go_wp2_with fail
     refine (HPU.out _).mono ?_
     rintro e w3 ⟨rfl, hb3⟩
     have HO3 := hid (Lies.below HO.out hb3)
     have HB3 := hid (HBW.out.call hb3)
     clear hb3 HO HBW HPU
     have hb5 : Below w3.heap.size w3 (w3.alloc (.cells #[.int .u64 (x : Int)] 89)) := (Below.refl _ _).alloc (Nat.le_refl _) _
     have HL5 := hid (Lies.below HO3.out hb5)
     have HB5 := hid (HB3.out.call hb5)
     have hsrc : Hid (Source (w3.alloc (.cells #[.int .u64 (x : Int)] 89)) (some ⟨w3.heap.size, 0, none⟩) 1 [.int .u64 (x : Int)]) := hid (.inr ⟨_, rfl, World.news_of_block (w := w3.alloc (.cells #[.int .u64 (x : Int)] 89)) (heap_alloc_new w3 _)⟩)
     clear hb5
     go_wp2_with (
          at_builtin
          refine wpList_append_any ?_ (grow noBlock w) (.tmp 30) (.tmp 32) 180 ?_ 89 1 8 (.int .u64 0) Tryz.underlying180 infoU64 rfl (by decide) (.slice A ws.length c) ws.length (u64s ws) ?_ HL5.out _ 1 1 [.int .u64 (x : Int)] ?_ rfl hsrc.out ?_ (by omega) (by decide) ?_
          · with_reducible rfl
          · with_reducible rfl
          · rfl
          · rfl
          · intro u hu; simp at hu; subst hu; rfl
          intro v' w6 hl6 hk6
          have hown : OwnW w w6 v' (ws ++ [x]) := by
            unfold OwnW
            rw [u64s_append, List.length_append, List.length_singleton]
            exact hl6.mono fun y hy => by
              rcases hy with hy | hy
              · exact hy
              · exact .inr (Nat.le_trans HB5.out.size hy)
          have hbw : Below w.heap.size w w6 := HB5.out.trans (hk6.below HB5.out.size fun y hy => by
                rcases hy.1 with h1 | h1
                · exact h1.elim
                · exact h1)
          have hrel := hid (HS.out v' w6 hown hbw)
          clear hl6 hk6 hown hbw)
     exact ⟨⟨_, _, rfl, hrel.out⟩, by show (bs (p.take k)).size < (bs p).size; rw [bs_size, bs_size, List.length_take]; omega⟩
open Go.RowKit Go.Shelf
attribute [local go_sem] Oper.semAt_some
section
variable {F₁ : Fence} {n₁ : Nat} {P : Program} {ops : Array Oper} {rest : List Oper} {o : Oper} {a : Act} {w : World} {Q : Exit -> Act -> World -> Prop}
end
theorem KeepsOthers.of_spare {F : Nat -> Prop} {w w' : World} {v : Value} {e : TypeId} (h : Kept (fun g => F g /\ Spare v g /\ ∃ cur, w.heap[g]? = some (.cells cur e (0, 0))) w w') : KeepsOthers w w' :=
 ⟨h.size, fun k o hk ho => h.heap hk fun ⟨_, _, cur, hc⟩ => by
   rw [hk] at hc
   injection hc with hc
   rw [hc] at ho
   cases ho⟩
theorem KeepsOthers.of_below {w w' : World} (h : Below w.heap.size w w') : KeepsOthers w w' := ⟨h.size, fun k _ hk _ => (h.block k (lt_of_heap hk)).trans hk⟩
theorem kept_turn {X : Nat -> Prop} {w : World} (hX : ∀ k, w.heap.size <= k -> X k) (W : World) (l : Nat) (o₁ o' : Obj) (hl : w.heap.size <= l) (_ : W.heap[l]? = some o₁) (_ : o₁.isCells = false) (_ : o₁.isWalk = false) : Kept X W (W.putObj l o') := by
 have hg := grownBy_putObj' W l o'
 exact ⟨hg.os, hg.tape, hg.output, hg.size, fun k hk hn => hg.block k hk fun e => hn (by cases e; exact hX _ hl)⟩
theorem kept_grown {X : Nat -> Prop} {a W W' : World} {row : Option Nat} (h : Kept X a W) (hg : W.grownBy W' row) (hr : ∀ r, row = some r -> X r) : Kept X a W' :=
 h.trans' ⟨hg.os, hg.tape, hg.output, hg.size, fun k hk hn => hg.block k hk fun e => hn (hr k e.symm)⟩
theorem Kept.cellOf {F : Nat -> Prop} {w w' : World} (h : Kept F w w') {p : Addr} {v : Value} (hv : w.cell? p = some v) (hp : ¬ F p.block) : w'.cell? p = some v :=
 (World.cell?_of_block (w := w) (h.block p.block (block_lt_of_cell hv) hp)).trans hv
theorem Row.grown {W W' : World} {row : Option Nat} {k : Nat} {cs : Array Value} {t : TypeId} (hk : Row W k t cs) (hg : W.grownBy W' row) (hr : ∀ r, row = some r -> ∃ o : Obj, W.heap[r]? = some o /\ o.isCells = false) : Row W' k t cs :=
 (grownBy_keeps_cells hg hr (k := k) (o := .cells cs t (0, 0)) hk rfl).trans hk
theorem Lies.grown {W W' : World} {row : Option Nat} {F : Nat -> Prop} {e : TypeId} {size n : Nat} {v : Value} {xs : List Value} (h : Lies W F e size v n xs) (hg : W.grownBy W' row) (hr : ∀ r, row = some r -> ∃ o : Obj, W.heap[r]? = some o /\ o.isCells = false) : Lies W' F e size v n xs :=
 h.same fun _ cur _ hh => Row.grown (t := e) (cs := cur) hh hg hr
def frBack (N j : Nat) : List (Fin N) := (List.range j).filterMap fun i => if h : i < N then some ⟨N - 1 - i, by omega⟩ else none
theorem frBack_succ {N j : Nat} (h : j < N) : frBack N (j + 1) = frBack N j ++ [⟨N - 1 - j, by omega⟩] := by simp [frBack, List.range_succ, List.filterMap_append, h]
theorem frBack_length {N j : Nat} (h : j <= N) : (frBack N j).length = j := by
 induction j with
 | zero => rfl
 | succ j ih => rw [frBack_succ (by omega), List.length_append, ih (by omega)]; rfl
def oneWord (l : List Nat) {N : Nat} (j : Fin N) : Array Value := #[.int .i64 (j.val : Int), .int .u64 (wat l j.val : Int)]
def BackAt (n₀ q : Nat) (l : List Nat) (W : World) : Prop :=
 ∃ A c, W.cell? ⟨q, 0, none⟩ = some (.slice A l.length c) /\ l.length <= c /\ c <= 9223372036854775807 /\ ∀ k, k < l.length -> ∃ b off, A = some ⟨b, off, none⟩ /\ b < n₀ /\ W.cell? ⟨b, off + k, none⟩ = some (.int .u64 (wat l k : Int))
theorem back1 (l₁ n₀ q : Nat) (l : List Nat) (N : Nat) (hN : N = l.length) (hn : N <= 4611686018427387904) (Kp : World -> World -> Prop) (hKc : ∀ W W', Kp W W' -> BackAt n₀ q l W -> BackAt n₀ q l W') (J Jx : List (Fin N) -> World -> Prop)
   (hY : ∀ pre x W, J pre W -> pre.length < N -> YieldAt Fence.wide 2 Tryz.prog l₁ (oneWord l x) W fun e W' =>
     (e = .returned (.bool true) /\ J (pre ++ [x]) W' /\ Kp W W') ∨ (e = .returned (.bool false) /\ Jx (pre ++ [x]) W'))
   (W : World) (hB : BackAt n₀ q l W) (h0 : J [] W) :
   CallsIn Fence.wide 3 Tryz.prog 196 #[.func (.yield l₁) #[] #[], .pointer (some ⟨q, 0, none⟩)] W fun e W' => (∃ v, e = .returned v) /\
     ((∃ ys, ys = frBack N N /\ J ys W') ∨ (∃ pre, (∃ j, j <= N /\ pre = frBack N j) /\ Jx pre W')) := by
 refine callsIn_of_wp Tryz.func196 rfl trivial ?_ rfl
 simp only [Tryz.ntmps196, List.size_toArray, List.length_cons, List.length_nil, Nat.reduceAdd, Nat.reduceSub, Array.replicate_succ, Array.replicate_zero, List.push_toArray, List.append_toArray, List.nil_append, List.cons_append]
 have hB0 := hB
 obtain ⟨A0, c0, k0, _, k2, _⟩ := hB0
 rw [<- hN] at k0
 have HN := hid hN
 clear hN
 gi_wp2
 clear k0
 gi_loopw [3] (fun v3 wr => ∃ j : Nat, j <= N /\ v3 = .int .i64 ((N : Int) - 1 - j) /\ J (frBack N j) wr /\ BackAt n₀ q l wr)
   (fun v3 _ => (intOf v3 + 1).toNat)
 case atStart => exact ⟨0, Nat.zero_le _, by simp, h0, hB⟩
 case round =>
   obtain ⟨j, hj, rfl, hJ, hb⟩ := hrel
   by_cases hlt : j < N
   · obtain ⟨fn, tmps, assign, body, hy, hR⟩ := hY (frBack N j) ⟨N - 1 - j, by omega⟩ wr hJ (by rw [frBack_length hj]; exact hlt)
     rw [<- frBack_succ hlt] at hR
     obtain ⟨A, c, c1, h1, h2, h3⟩ := hb
     obtain ⟨b, off, rfl, _, hck⟩ := h3 (N - 1 - j) (by rw [<- HN.out]; omega)
     have HK : Hid (∀ W', Kp wr W' -> BackAt n₀ q l W') := hid fun W' hk => hKc wr W' hk ⟨_, c, c1, h1, h2, h3⟩
     unfold oneWord at hy
     obtain ⟨i, hi⟩ : ∃ i, i = N - 1 - j := ⟨_, rfl⟩
     simp only at hy
     rw [<- hi] at hy hck
     rw [<- HN.out] at c1 h1
     have hii : (N : Int) - 1 - j = (i : Int) := by omega
     rw [hii]
     have hiN : i < N := by omega
     have HI : Hid (i = N - 1 - j) := hid hi
     clear hY hKc h3 hJ hB h0 hi hii
     generalize wat l i = x at *
     gi_wp2
     refine hR.mono ?_
     rintro e W3 (⟨rfl, hJ3, hk3⟩ | ⟨rfl, hJx3⟩)
     · have hb3 := HK.out W3 hk3
       clear hck hy hR hk3 HK c1
       gi_wp2
       go_roundw
       case rel => exact ⟨j + 1, by omega, by have := HI.out; go_num, hJ3, hb3⟩
       case measure => simp [intOf]
     · gi_wp2
       refine bodyPost_ret (results_none rfl _ _ _) rfl ?_
       exact ⟨⟨_, rfl⟩, .inr ⟨frBack N (j + 1), ⟨j + 1, by omega, rfl⟩, hJx3⟩⟩
   · obtain rfl : j = N := by omega
     have h9 : ¬ (0 : Int) <= (j : Int) - 1 - j := by omega
     gi_wp2
     go_end0
     exact ⟨⟨_, rfl⟩, .inl hJ⟩
theorem BackAt.kept {n₀ q : Nat} {l : List Nat} {W W' : World} {F : Nat -> Prop} (h : BackAt n₀ q l W) (hb : Kept F W W') (hq : ¬ F q) (hF : ∀ k, k < n₀ -> ¬ F k) : BackAt n₀ q l W' := by
 obtain ⟨A, c, h1, h2, h3, h4⟩ := h
 refine ⟨A, c, hb.cellOf h1 hq, h2, h3, fun k hk => ?_⟩
 obtain ⟨b, off, e, hlt, hc⟩ := h4 k hk
 exact ⟨b, off, e, hlt, hb.cellOf hc (hF _ hlt)⟩
theorem BackAt.below {n₀ B q : Nat} {l : List Nat} {W W' : World} (h : BackAt n₀ q l W) (hb : Below B W W') (hq : q < B) (hB : n₀ <= B) : BackAt n₀ q l W' := by
 obtain ⟨A, c, h1, h2, h3, h4⟩ := h
 refine ⟨A, c, (hb.cell (p := ⟨q, 0, none⟩) hq).trans h1, h2, h3, fun k hk => ?_⟩
 obtain ⟨b, off, e, hlt, hc⟩ := h4 k hk
 exact ⟨b, off, e, hlt, (hb.cell (p := ⟨b, off + k, none⟩) (by show b < B; omega)).trans hc⟩
theorem back_stops (n₀ q : Nat) (l : List Nat) (N : Nat) (hN : N = l.length) (hn : N <= 4611686018427387904) (Kp : World -> World -> Prop) (hKc : ∀ W W', Kp W W' -> BackAt n₀ q l W -> BackAt n₀ q l W') (w : World) (hq : q < w.heap.size) (hw : n₀ <= w.heap.size) (h : BackAt n₀ q l w) :
   SeqStopsK Fence.wide 3 Tryz.prog 196 #[.pointer (some ⟨q, 0, none⟩)] (oneWord l (N := N)) Kp (fun ys => ys = frBack N N) (fun pre => ∃ j, j <= N /\ pre = frBack N j) N w := by
 intro l₁ J Jx W hW _ _ hY h0
 exact back1 l₁ n₀ q l N hN hn Kp hKc J Jx hY W (h.below hW hq hw) h0
def BackPost (n₁ : Nat) (w : World) (l : List Nat) (e : Ending) (w' : World) : Prop :=
 e = .returned (.func (.func 196) #[] #[.pointer (some ⟨w.heap.size, 0, none⟩)]) /\ BackAt n₁ w.heap.size l w' /\ Below w.heap.size w w' /\ w'.heap.size = w.heap.size + 1
theorem back_ok (v : Value) (l : List Nat) (w₁ w : World) (h : Wds w₁ v l) (hbe : Below w₁.heap.size w₁ w) :
   Calls Tryz.prog 193 #[v] w (BackPost w₁.heap.size w l) := by
 obtain ⟨h0, A, c, rfl, h2, h3, _, h4⟩ := h
 have hb : Below w.heap.size w (w.alloc (.cells #[.slice A l.length c] 180)) := (Below.refl _ _).alloc (Nat.le_refl _) _
 have HL : Hid (BackAt w₁.heap.size w.heap.size l (w.alloc (.cells #[.slice A l.length c] 180))) := hid ⟨A, c, (Row.new w _ _).cell rfl, h2, h3, fun k hk => by
   obtain ⟨b, off, e, hlt, hr⟩ := h4 (by omega)
   exact ⟨b, off, e, hlt, ((hbe.call hb).cell (p := ⟨b, off + k, none⟩) hlt).trans (hr k _ (u64s_get l hk))⟩⟩
 have HB := hid hb
 clear hb h4 hbe
 go_enter Tryz.func193, Tryz.ntmps193
 go_wp2
 go_ret
 exact ⟨rfl, HL.out, HB.out, by simp⟩
end Go.Proofs.YtmhbkjjkalnggaaGreatDoor
