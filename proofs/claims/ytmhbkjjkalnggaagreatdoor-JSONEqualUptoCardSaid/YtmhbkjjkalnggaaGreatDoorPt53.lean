import Derived.Test.YtmhbkjjkalnggaaGreatDoorPt25
import Derived.Lib.LaidU8
namespace Go.Proofs.YtmhbkjjkalnggaaGreatDoor
open Go.RowKit Go.Lib
theorem pow_of_reads {W : World} (h : VarReads Tryz.prog W "internal/strconv.uint64pow10" (Lib.tabData .u64 Lib.pow10Tab)) : PowTab W := by
 obtain ⟨g, t, cs, fuel, p, hg, ht, hv, hd⟩ := h
 obtain rfl := Option.some.inj ((show Tryz.prog.globalNamed "internal/strconv.uint64pow10" = some 4 by kernel_rfl).symm.trans hg)
 obtain rfl := Option.some.inj ((show (Tryz.prog.globals[4]?).map (·.type) = some 189 by kernel_rfl).symm.trans ht)
 have h9 := Lib.cells_of_tab Tryz.underlying189 Tryz.underlying89 (by kernel_rfl) (by kernel_rfl) hd
 unfold PowTab Lib.TabIs
 rw [hv, <- h9]
theorem u8_of_reads {w : World} (h3 : VarReads Tryz.prog w "unicode/utf8.first" firstData) (h4 : VarReads Tryz.prog w "unicode/utf8.acceptRanges" acceptData) : Lib.Utf8Tabs 0 1 w := by
 refine ⟨fun c hc => ?_, fun i hi => ?_⟩
 · obtain ⟨g, t, cs, fuel, p, hg, hty, hvar, hd⟩ := h3
   obtain rfl := Option.some.inj ((show Tryz.prog.globalNamed "unicode/utf8.first" = some 0 by kernel_rfl).symm.trans hg)
   obtain rfl := Option.some.inj ((show (Tryz.prog.globals[0]?).map (·.type) = some 94 by kernel_rfl).symm.trans hty)
   have hcs := cells_of_tab Tryz.underlying94 Tryz.underlying5 (by kernel_rfl) (by kernel_rfl) hd
   have := World.var?_cell hg hvar c
   rw [this, <- Array.getElem?_toList, hcs]
   simp [firstTab, hc]
 · obtain ⟨g, t, cs, fuel, p, hg, hty, hvar, hd⟩ := h4
   obtain rfl := Option.some.inj ((show Tryz.prog.globalNamed "unicode/utf8.acceptRanges" = some 1 by kernel_rfl).symm.trans hg)
   obtain rfl := Option.some.inj ((show (Tryz.prog.globals[1]?).map (·.type) = some 97 by kernel_rfl).symm.trans hty)
   obtain ⟨fuel', d, q, hdi, he⟩ := array_elem Tryz.underlying97 hd i hi
   simp only [List.getElem?_map, List.getElem?_range hi, Option.map_some, Option.some.injEq] at hdi
   subst hdi
   have c2 : Tryz.prog.cellsOf 96 = 2 := by kernel_rfl
   have c1 : Tryz.prog.cellsOf 5 = 1 := by kernel_rfl
   rw [c2] at he
   have hcs := ints_of_struct Tryz.underlying96 (fun j f hj => by
     match j, hj with
     | 0, hj => simp at hj; subst hj; exact ⟨Tryz.underlying5, rfl, c1⟩
     | 1, hj => simp at hj; subst hj; exact ⟨Tryz.underlying5, rfl, c1⟩
     | j + 2, hj => simp at hj) (by rw [c2]; rfl) he
   have e0 := congrArg (·[0]?) hcs
   have e1 := congrArg (·[1]?) hcs
   simp only [List.getElem?_take, List.getElem?_drop] at e0 e1
   constructor
   · rw [World.var?_cell hg hvar (2 * i), <- Array.getElem?_toList]
     simpa [Nat.mul_comm] using e0
   · rw [World.var?_cell hg hvar (2 * i + 1), <- Array.getElem?_toList]
     simpa [Nat.mul_comm] using e1
end Go.Proofs.YtmhbkjjkalnggaaGreatDoor
