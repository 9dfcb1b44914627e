import Derived.Test.YtmhbkjjkalnggaaGreatDoorPt24
namespace Go.Proofs.YtmhbkjjkalnggaaGreatDoor
open Go.RowKit
set_option maxRecDepth 1000000
set_option maxHeartbeats 40000000
theorem valid_none (A : Option Addr) (c : Nat) (w : World) (hc : c <= 9223372036854775807) :
   Calls Tryz.prog 46 #[.slice A 0 c] w fun e w' => e = .returned (.bool true) /\ Below w.heap.size w w' := by
 have hcz : (0 : Int) <= (c : Int) := by omega
 obtain ⟨A', hsl0⟩ : ∃ A', ∀ V, (Instr.sliceAt 35 (.slice A 0 c) none (some (.int .i64 0)) (some (.int .i64 0))).run Tryz.prog V = .ok (.slice A' 0 0) V := by
   have hi1 : (Tryz.prog.info? 5).map (·.size) = some 1 := by kernel_rfl
   obtain ⟨i, hi, hs⟩ : ∃ i, Tryz.prog.info? 5 = some i /\ i.size = 1 := by
     cases h : Tryz.prog.info? 5 with
     | none => rw [h] at hi1; cases hi1
     | some i => rw [h] at hi1; exact ⟨i, rfl, Option.some.inj hi1⟩
   cases A with
   | none => exact ⟨none, fun V => by simp [Instr.sliceAt, Instr.slice, Instr.sliceBounds, Instr.sliceBound, asIntOf, go_sem, run_underlying Tryz.underlying35, sizeOf, typeInfo, hi]⟩
   | some a => exact ⟨some a, fun V => by simp [Instr.sliceAt, Instr.slice, Instr.sliceBounds, Instr.sliceBound, asIntOf, go_sem, run_underlying Tryz.underlying35, sizeOf, typeInfo, hi]⟩
 go_enter Tryz.func46, Tryz.ntmps46
 go_wp2
 go_loopg [0] 1 (fun gk s0 wx => wx = w /\ s0 = .slice A' 0 0)
 case atStart => exact ⟨rfl, rfl⟩
 case round =>
   obtain ⟨rfl, rfl⟩ := hrel
   go_wp2
   go_ret
   exact ⟨rfl, Below.refl _ _⟩
theorem valid_ok (A : Option Addr) (n c : Nat) (l : List UInt8) (w : World) (hA : Holds w A n 1 (u8s l)) (hln : l.length = n) (hnc : n <= c) (hcm : c <= 9223372036854775807) (hT : Lib.Utf8Tabs 0 1 w) :
   Calls Tryz.prog 46 #[.slice A n c] w fun e w' => e = .returned (.bool (Lib.validD l)) /\ Below w.heap.size w w' := by
 by_cases h0 : 0 < n
 · obtain ⟨b, off, rfl, hlt, hr⟩ := hA.2 h0
   have hs : (ByteArray.mk l.toArray).size = n := by rw [<- hln]; rfl
   have hd : (ByteArray.mk l.toArray).data.toList = l := by simp
   have sp : Spot w b off n c (ByteArray.mk l.toArray) := ⟨hs, hnc, hcm, hlt, fun j hj => by
     refine hr j _ ?_
     rw [<- Lib.getD_get!', hd]
     unfold u8s
     simp [List.getD, List.getElem?_eq_getElem (by omega : j < l.length)]⟩
   have := valid_some b off n c _ w sp hT
   rw [hd] at this
   exact this
 · obtain rfl : n = 0 := by omega
   obtain rfl : l = [] := List.eq_nil_of_length_eq_zero hln
   exact valid_none A c w hcm
theorem jparse_v (A : Option Addr) (n c : Nat) (l : List UInt8) (w : World) (hA : Holds w A n 1 (u8s l)) (hln : l.length = n) (hnc : n <= c) (hcm : c <= 9223372036854775807) (hT : PowTab w) (hU : Lib.Utf8Tabs 0 1 w) :
   Calls Tryz.prog 27 #[.slice A n c] w (ParPost w (parseJ (Lib.validD l) l).1 (parseJ (Lib.validD l) l).2) :=
 jparse_ok A n c l _ w hA hln hnc hcm hT fun _ V hb => valid_ok A n c l V (hA.below hb) hln hnc hcm (Utf8Tabs_below hU hb)
def fitN (ns : List (List UInt8)) : Bool := ns.all Lib.validD && ((setL ns).length == ns.length)
theorem run_makeMapN (n : Int) (W : World) : (Instr.makeMap 109 (some (.int .i64 n))).run Tryz.prog W = .ok (.map (some W.heap.size)) (W.alloc (.map #[] 0)) := by
 simp [Instr.makeMap, run_underlying Tryz.underlying109, asIntOf, go_sem]
theorem IsSet.len {w : World} {b : Nat} {S : List (List UInt8)} (h : IsSet w b S) (ty : TypeId) : (Builtin.len_ #[109] ty #[.map (some b)]).run Tryz.prog w = .ok (.int .i64 (S.length : Int)) w := by
 obtain ⟨es, clock, hb, _, hks, _⟩ := h
 have e : es.size = S.length := by
   have := congrArg List.length hks
   simpa using this
 simp [Builtin.len_, run_underlying Tryz.underlying109, MapKept.run_getObj_map hb, goInt, Result.andThen, e]
theorem setL_le (ns : List (List UInt8)) : (setL ns).length <= ns.length := by
 have h : ∀ (ns S : List (List UInt8)), (ns.foldl addS S).length <= S.length + ns.length := by
   intro ns
   induction ns with
   | nil => intro S; simp
   | cons l ns ih =>
     intro S
     rw [List.foldl_cons]
     have := ih (addS S l)
     have h2 : (addS S l).length <= S.length + 1 := by unfold addS; split <;> simp
     simp only [List.length_cons]
     omega
 simpa [setL] using h ns []
theorem jnamesFit_ok (A : Option Addr) (n c : Nat) (ns : List (List UInt8)) (w : World) (hA : Holds w A n 1 (ns.map keyV)) (hln : ns.length = n) (hn : n <= 1000000000000) (hl : ∀ x ∈ ns, x.length <= maxLen) (hU : Lib.Utf8Tabs 0 1 w) :
   Calls Tryz.prog 60 #[.slice A n c] w fun e w' => e = .returned (.bool (fitN ns)) /\ Below w.heap.size w w' := by
 have hmk := run_makeMapN
 have HC : Hid (∀ i, i < n -> ∃ g2 off2, A = some ⟨g2, off2, none⟩ /\ ∀ V, Below w.heap.size w V -> V.cell? ⟨g2, off2 + i, none⟩ = some (.string (bs (ns.getD i [])))) := hid fun i hi => by
   obtain ⟨g, off, e, hlt, hr⟩ := hA.2 (by omega)
   refine ⟨g, off, e, fun V hb => (hb.cell (p := ⟨g, off + i, none⟩) hlt).trans (hr i _ ?_)⟩
   simp [keyV, List.getD, List.getElem?_eq_getElem (by omega : i < ns.length)]
 have HU := hid hU
 have HL : Hid (∀ i, i < n -> (ns.getD i []).length <= maxLen /\ ns.getD i [] ∈ ns) := hid fun i hi => by
   have hm : ns.getD i [] ∈ ns := by rw [List.getD_eq_getElem?_getD, List.getElem?_eq_getElem (by omega)]; exact List.getElem_mem _
   exact ⟨hl _ hm, hm⟩
 have HN : Hid (ns.length = n) := hid hln
 clear hA hU hl hln
 go_enter Tryz.func60, Tryz.ntmps60
 go_wp2_with fail
 go_loopw [11] (fun v11 wr => ∃ i : Nat, i <= n /\ v11 = .int .i64 (i : Int) /\ Hid (IsSet wr w.heap.size (setL (ns.take i))) /\ Hid ((ns.take i).all Lib.validD = true) /\ Hid (Below w.heap.size w wr)) (fun v11 _ => n - (intOf v11).toNat)
 case atStart => exact ⟨0, Nat.zero_le _, rfl, hid (IsSet.new w), hid (by simp), hid ((Below.refl _ _).alloc (Nat.le_refl _) _)⟩
 case round =>
   obtain ⟨i, hi, rfl, HS, HV, HB⟩ := hrel
   by_cases hlt : i < n
   · obtain ⟨g2, off2, rfl, hc⟩ := HC.out i hlt
     have q9 := hc wr HB.out
     obtain ⟨hl1, hl2⟩ := HL.out i hlt
     have HT : Hid (ns.take (i + 1) = ns.take i ++ [ns.getD i []]) := hid (by
       rw [List.take_add_one, List.getElem?_eq_getElem (by rw [HN.out]; exact hlt), List.getD_eq_getElem?_getD, List.getElem?_eq_getElem (by rw [HN.out]; exact hlt)]; rfl)
     have HM := hid hl2
     clear hc hl2
     generalize ns.getD i [] = l at *
     have HVC : Hid (∀ V, Below w.heap.size w V -> Calls Tryz.prog 59 #[.string (bs l)] V fun e w' => e = .returned (.bool (Lib.validD l)) /\ Below V.heap.size V w') := hid fun V hb => by
       have := Tryz.utf8_ValidString (bs l) V (by rw [bs_size]; unfold maxLen at hl1; omega) (Utf8Tabs_below HU.out hb)
       have e : (bs l).data.toList = l := by simp [bs]
       rw [e] at this
       exact this
     have HL1 := hid hl1
     clear hl1
     go_wp2_with fail
     refine (HVC.out wr HB.out).mono ?_
     rintro e w2 ⟨rfl, hb⟩
     have HB2 := hid (HB.out.call hb)
     have HS2 := hid (HS.out.below hb)
     clear hb HS HB q9
     cases hv : Lib.validD l with
     | false =>
       have HF : Hid (fitN ns = false) := hid (by
         unfold fitN
         have : ns.all Lib.validD = false := by
           rw [<- Bool.not_eq_true, List.all_eq_true]
           intro h
           exact Bool.noConfusion (hv.symm.trans (h _ HM.out))
         rw [this]; rfl)
       go_wp2_with fail
       go_ret
       exact ⟨by rw [HF.out]; rfl, HB2.out⟩
     | true =>
       have HV2 := hid hv
       clear hv
       go_wp2_with (refine wpList_putS ?_ (.tmp 18) (.tmp 19) (.tmp 20) ?_ w.heap.size (setL (ns.take i)) HS2.out l ?_ ?_ ?_ HL1.out ?_
                    · with_reducible rfl
                    · with_reducible rfl
                    · kernel_rfl
                    · kernel_rfl
                    · kernel_rfl
                    rintro w3 hs3 hk3
                    have HS3 := hid hs3
                    have HB3 := hid ((HB2.out.trans (hk3.below HB2.out.size fun k hk => Nat.le_of_eq hk.symm)))
                    clear hs3 hk3)
       exact ⟨⟨i + 1, by omega, by go_num, hid (by rw [HT.out, setL_snoc]; exact HS3.out), hid (by rw [HT.out, List.all_append, HV.out]; simp [HV2.out]), HB3⟩, by simp [intOf]; omega⟩
   · obtain rfl : i = n := by omega
     have HE : Hid (ns.take i = ns) := hid (List.take_of_length_le (by rw [HN.out]; exact Nat.le_refl _))
     have HS2 : Hid (IsSet wr w.heap.size (setL ns)) := hid (by rw [<- HE.out]; exact HS.out)
     have hlen := fun ty => HS2.out.len ty
     have hle : (setL ns).length <= i := by rw [<- HN.out]; exact setL_le ns
     have HF : Hid (fitN ns = decide (((setL ns).length : Int) = (i : Int))) := hid (by
       have h1 := HV.out
       rw [HE.out] at h1
       unfold fitN
       rw [h1, HN.out]
       by_cases h : (setL ns).length = i
       · rw [h]; simp
       · have h' : ¬ (((setL ns).length : Int) = (i : Int)) := by omega
         rw [decide_eq_false h']
         simp [h])
     generalize (setL ns).length = y at *
     go_wp2_with fail
     go_ret
     refine ⟨?_, HB.out⟩
     rw [HF.out]
     first | rfl | simp
end Go.Proofs.YtmhbkjjkalnggaaGreatDoor
