/- Layer 8: the law of quotes: JSONQuotes answers true at every text. -/
import Derived.Test.YtjckojedafajeaaGreatDoorPt49
import Derived.Test.YtjckojedafajeaaGreatDoorPt50
import Derived.Test.YtjckojedafajeaaGreatDoorPt52
import Derived.Test.YtjckojedafajeaaGreatDoorPt41
import Derived.Lib.LaidU8
namespace Go.Proofs.YtjckojedafajeaaGreatDoor
open Go.RowKit
set_option maxRecDepth 1000000 in
set_option maxHeartbeats 8000000 in
theorem quotes_law (l : List UInt8) (w : World) (hl : l.length ≤ 9223372036854775807) (hT : PowTab w) (hU : Lib.Utf8Tabs 0 1 w) :
    Calls Tryz.prog 4 #[.string (bs l)] w fun e w' => e = .returned (.bool true) ∧ Below w.heap.size w w' := by
  have hsz := bs_size l
  have HT := Lib.hid (fun V (hb : Below w.heap.size w V) => hT.below hb)
  have HU := Lib.hid (fun V (hb : Below w.heap.size w V) => Utf8Tabs_below hU hb)
  have HW := Lib.hid (jworks_ok w hT hU)
  by_cases hlong : 20000 < l.length
  · have hz : (20000 : Int) < (l.length : Int) := by omega
    clear hlong hT hU
    go_enter Tryz.func4, Tryz.ntmps4
    go_wp2_with fail
    refine HW.out.mono ?_
    rintro e w1 ⟨rfl, hb⟩
    have HB := Lib.hid hb
    clear hb
    go_wp2
    go_ret
    exact ⟨rfl, HB.out⟩
  · have hz : ¬ (20000 : Int) < (l.length : Int) := by omega
    have HQ := Lib.hid (jQuote_ok l w (by omega) hU)
    clear hT hU
    have HUT := Lib.hid (fun W => dutf_ok l W (by omega))
    have HUQ := Lib.hid (fun W => dquote_ok l W (by omega))
    by_cases hv : Lib.validD l = true
    · have hq : quoteR l = (quoteL l, 0) := by unfold quoteR; rw [if_neg (by omega), if_neg (by rw [hv]; simp)]
      have hql := quoteL_le l
      have HVQ := Lib.hid (valid_quote hv)
      have HPQ := Lib.hid (quote_parse (s := l) (by omega))
      rw [hq] at HQ
      rw [hv] at HUT
      simp only at HQ
      obtain ⟨q, hQ⟩ : ∃ q, q = quoteL l := ⟨_, rfl⟩
      rw [← hQ] at HQ HVQ HPQ HUQ hql
      have hqn : q.length ≤ 120002 := by omega
      have hqs := bs_size q
      have hcv : ∀ W : World, (convert 9 22 (.string (bs q))).run Tryz.prog W = .ok (.slice (some ⟨W.heap.size, 0, none⟩) q.length (grownCap W q.length 0 5)) ((W.alloc (.cells (bytesRow (bs q) (grownCap W q.length 0 5)) 5 ((bytesRow (bs q) (grownCap W q.length 0 5)).size, (bytesRow (bs q) (grownCap W q.length 0 5)).size + 1))).drew) := fun W => by
        have h9 := run_bytes_of_string (P := Tryz.prog) W 9 22 5 (bs q) Tryz.underlying9 Tryz.underlying22 Tryz.underlying5
        rw [hqs] at h9
        exact h9
      have HP : Hid (∀ (W : World) (fr : Nat × Nat), Below w.heap.size w W → Calls Tryz.prog 8 #[.slice (some ⟨W.heap.size, 0, none⟩) q.length (grownCap W q.length 0 5)] ((W.alloc (.cells (bytesRow (bs q) (grownCap W q.length 0 5)) 5 fr)).drew) (fun e w' => ∃ cs : Array Value, e = .returned (.tuple #[.agg cs, .int .i64 0]) ∧ JIs w' (fun _ => True) (.mk 3 false Dec.zero l [] []) cs.toList ∧ Below w.heap.size w w')) := Lib.hid fun W fr hb => by
        have hb2 : Below w.heap.size w ((W.alloc (.cells (bytesRow (bs q) (grownCap W q.length 0 5)) 5 fr)).drew) := (hb.alloc hb.size _).drew
        have h9 := jparse_v (some ⟨W.heap.size, 0, none⟩) q.length (grownCap W q.length 0 5) q _ (bytesRow_holds W q (grownCap W q.length 0 5) 5 fr) rfl (grownCap_ge _ _ _ _) (grownCap_le_maxLen W _ 0 _ (by unfold maxLen; omega)) (HT.out _ hb2) (HU.out _ hb2)
        rw [HVQ.out, HPQ.out] at h9
        refine h9.mono ?_
        rintro e w' ⟨cs, he, hj, hb3⟩
        exact ⟨cs, he, JIs.mono (fun _ _ _ => trivial) _ _ hj, hb2.call hb3⟩
      clear hq hlong hv hql hqn
      clear hQ
      go_enter Tryz.func4, Tryz.ntmps4
      go_wp2_with fail
      refine HQ.out.mono ?_
      rintro e w1 ⟨rfl, hb1⟩
      have HB1 := Lib.hid hb1
      clear hb1
      go_wp2_with fail
      refine (HUT.out _).mono ?_
      rintro e w2 ⟨rfl, rfl⟩
      go_wp2_with fail
      refine (HP.out w1 _ HB1.out).mono ?_
      rintro e w3 ⟨cs, rfl, hj, hb3⟩
      have h8 := size_of_jis hj
      have HON := Lib.hid (one_of_jis hj)
      have HIN := Lib.hid (info_of_size h8)
      obtain ⟨bv, rv, tv⟩ := varW_ok w3 cs h8
      have HTV := Lib.hid tv
      obtain ⟨w4, hw4⟩ : ∃ w4, w4 = varW w3 cs := ⟨_, rfl⟩
      rw [← hw4] at bv rv
      have HW4 := Lib.hid hw4
      have HB4 := Lib.hid (hb3.call bv)
      have HR4 := Lib.hid rv
      have HCS : Hid (∃ A c A' c', cs = jvC 3 false Dec.zero l (.slice A 0 c) (.slice A' 0 c')) := Lib.hid (by
        have h9 := hj
        unfold JIs at h9
        obtain ⟨A, c, A', c', e, _⟩ := h9
        exact ⟨A, c, A', c', Array.toList_inj.1 e⟩)
      clear hj hb3 h8 bv rv tv hw4
      go_wp2_with (first
        | (refine wpList_store_mid ?_ 30 (.tmp 5) (.tmp 33) ?_ w3.heap.size 0 cs ?_ ?_ ?_ HIN.out HON.out ?_
           · with_reducible rfl
           · with_reducible rfl
           · rfl
           · rfl
           · exact HTV.out
           show wpList _ _ _ _ _ (varW w3 cs)
           rw [← HW4.out]))
      refine (HUQ.out _).mono ?_
      rintro e w5 ⟨rfl, hb5⟩
      have HB5 := Lib.hid (HB4.out.call hb5)
      have HW5 := Lib.hid (jworks_ok w5 (HT.out _ HB5.out) (HU.out _ HB5.out))
      have hr := HR4.out.call hb5
      obtain ⟨A1, c1, A2, c2, ecs⟩ := HCS.out
      rw [ecs] at hr
      have z0 : w5.cell? ⟨w3.heap.size, 0, none⟩ = some (.int .i64 3) := hr.cell (i := 0) rfl
      have z3 : w5.cell? ⟨w3.heap.size, 5, none⟩ = some (.string (bs l)) := hr.cell (i := 5) rfl
      clear hb5 hr ecs
      go_wp2_with (go_at_call 11; go_in)
      refine HW5.out.mono ?_
      rintro e w6 ⟨rfl, hb6⟩
      have HB6 := Lib.hid (HB5.out.call hb6)
      clear hb6
      go_wp2
      go_ret
      exact ⟨rfl, HB6.out⟩
    · have hv2 : Lib.validD l = false := by simpa using hv
      have hq : quoteR l = ([], 181) := by unfold quoteR; rw [if_neg (by omega), if_pos hv2]
      rw [hq] at HQ
      rw [hv2] at HUT
      simp only at HQ
      have eb : bs ([] : List UInt8) = ⟨#[]⟩ := rfl
      rw [eb] at HQ
      have hem : (⟨#[]⟩ : ByteArray).toList.isEmpty = true := by kernel_rfl
      clear hq hlong hv hv2
      go_enter Tryz.func4, Tryz.ntmps4
      go_wp2_with fail
      refine HQ.out.mono ?_
      rintro e w1 ⟨rfl, hb1⟩
      have HB1 := Lib.hid hb1
      have HW1 := Lib.hid (jworks_ok w1 (HT.out _ hb1) (HU.out _ hb1))
      clear hb1
      go_wp2_with fail
      refine (HUT.out _).mono ?_
      rintro e w2 ⟨rfl, rfl⟩
      go_wp2_with (go_at_call 11; go_in)
      refine HW1.out.mono ?_
      rintro e w3 ⟨rfl, hb3⟩
      have HB3 := Lib.hid (HB1.out.call hb3)
      clear hb3
      go_wp2
      go_ret
      exact ⟨rfl, HB3.out⟩
end Go.Proofs.YtjckojedafajeaaGreatDoor
/- Layer 8: what a row's condition says of the library's tables. -/
namespace Go.Proofs.YtjckojedafajeaaGreatDoor
open Go.RowKit Go.Lib
theorem pow_of_reads {W : World} (h : VarReads Tryz.prog W "internal/strconv.uint64pow10" (Lib.tabData .u64 Lib.pow10Tab)) : PowTab W := by
  obtain ⟨g, t, cs, fuel, p, hg, ht, hv, hd⟩ := h
  obtain rfl := Option.some.inj ((show Tryz.prog.globalNamed "internal/strconv.uint64pow10" = some 5 by kernel_rfl).symm.trans hg)
  obtain rfl := Option.some.inj ((show (Tryz.prog.globals[5]?).map (·.type) = some 199 by kernel_rfl).symm.trans ht)
  have h9 := Lib.cells_of_tab Tryz.underlying199 Tryz.underlying115 (by kernel_rfl) (by kernel_rfl) hd
  unfold PowTab Lib.TabIs
  rw [hv, ← h9]
theorem u8_of_reads {w : World} (h3 : VarReads Tryz.prog w "unicode/utf8.first" firstData) (h4 : VarReads Tryz.prog w "unicode/utf8.acceptRanges" acceptData) : Lib.Utf8Tabs 0 1 w := by
  refine ⟨fun c hc => ?_, fun i hi => ?_⟩
  · obtain ⟨g, t, cs, fuel, p, hg, hty, hvar, hd⟩ := h3
    obtain rfl := Option.some.inj ((show Tryz.prog.globalNamed "unicode/utf8.first" = some 0 by kernel_rfl).symm.trans hg)
    obtain rfl := Option.some.inj ((show (Tryz.prog.globals[0]?).map (·.type) = some 89 by kernel_rfl).symm.trans hty)
    have hcs := cells_of_tab Tryz.underlying89 Tryz.underlying5 (by kernel_rfl) (by kernel_rfl) hd
    have := World.var?_cell hg hvar c
    rw [this, ← Array.getElem?_toList, hcs]
    simp [firstTab, hc]
  · obtain ⟨g, t, cs, fuel, p, hg, hty, hvar, hd⟩ := h4
    obtain rfl := Option.some.inj ((show Tryz.prog.globalNamed "unicode/utf8.acceptRanges" = some 1 by kernel_rfl).symm.trans hg)
    obtain rfl := Option.some.inj ((show (Tryz.prog.globals[1]?).map (·.type) = some 92 by kernel_rfl).symm.trans hty)
    obtain ⟨fuel', d, q, hdi, he⟩ := array_elem Tryz.underlying92 hd i hi
    simp only [List.getElem?_map, List.getElem?_range hi, Option.map_some, Option.some.injEq] at hdi
    subst hdi
    have c2 : Tryz.prog.cellsOf 91 = 2 := by kernel_rfl
    have c1 : Tryz.prog.cellsOf 5 = 1 := by kernel_rfl
    rw [c2] at he
    have hcs := ints_of_struct Tryz.underlying91 (fun j f hj => by
      match j, hj with
      | 0, hj => simp at hj; subst hj; exact ⟨Tryz.underlying5, rfl, c1⟩
      | 1, hj => simp at hj; subst hj; exact ⟨Tryz.underlying5, rfl, c1⟩
      | j + 2, hj => simp at hj) (by rw [c2]; rfl) he
    have e0 := congrArg (·[0]?) hcs
    have e1 := congrArg (·[1]?) hcs
    simp only [List.getElem?_take, List.getElem?_drop] at e0 e1
    constructor
    · rw [World.var?_cell hg hvar (2 * i), ← Array.getElem?_toList]
      simpa [Nat.mul_comm] using e0
    · rw [World.var?_cell hg hvar (2 * i + 1), ← Array.getElem?_toList]
      simpa [Nat.mul_comm] using e1
end Go.Proofs.YtjckojedafajeaaGreatDoor
