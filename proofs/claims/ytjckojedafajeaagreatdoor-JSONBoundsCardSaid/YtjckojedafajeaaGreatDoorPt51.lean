/- Layer 8: what Quote hands on: each piece is written behind what the builder holds. -/
import Derived.Test.YtjckojedafajeaaGreatDoorPt32
import Derived.Test.YtjckojedafajeaaGreatDoorPt08
import Derived.Test.YtjckojedafajeaaGreatDoorPt42
namespace Go.Proofs.YtjckojedafajeaaGreatDoor
open Go.RowKit
/-- A row of the owner's from its beginning, or nothing at all. -/
def OwnB (W : World) (F : Nat → Prop) (e : TypeId) (v : Value) (n : Nat) (xs : List Value) : Prop :=
  xs.length = n ∧ ((v = .slice none 0 0 ∧ n = 0) ∨ ∃ g cap cur, v = .slice (some ⟨g, 0, none⟩) n cap ∧ F g ∧ W.heap[g]? = some (.cells cur e (0, 0)) ∧ n ≤ cap ∧ cap ≤ maxLen ∧ cur.size = cap ∧ cur.toList.take n = xs ∧ 0 < cap)
section
variable {W W' : World} {F G : Nat → Prop} {e : TypeId} {v : Value} {n : Nat} {xs : List Value}
theorem OwnB.lies (h : OwnB W F e v n xs) : Lies W F e 1 v n xs := by
  refine ⟨by rw [h.1, Nat.mul_one], ?_⟩
  rcases h.2 with ⟨rfl, rfl⟩ | ⟨g, cap, cur, h1, h2, h3, h4, h5, h6, h7, _⟩
  · exact .inl ⟨none, rfl, rfl⟩
  · exact .inr ⟨g, 0, cap, cur, h1, h2, h3, h4, h5, by omega, by simpa using h7⟩
theorem OwnB.owns (h : OwnB W F e v n xs) {B : Nat} (hB : ∀ q, F q → B ≤ q) : W.ownsRow B e 1 v n xs := by
  refine ⟨by rw [h.1, Nat.mul_one], ?_⟩
  rcases h.2 with ⟨rfl, rfl⟩ | ⟨g, cap, cur, h1, h2, h3, h4, h5, h6, h7, _⟩
  · exact .inl ⟨rfl, rfl⟩
  · exact .inr ⟨g, cap, cur, h1, hB g h2, h3, h4, h5, by omega, by simpa using h7⟩
theorem OwnB.mono (h : OwnB W F e v n xs) (hf : ∀ q, q < W.heap.size → F q → G q) : OwnB W G e v n xs :=
  ⟨h.1, h.2.imp id fun ⟨g, cap, cur, h1, h2, h3, h4⟩ => ⟨g, cap, cur, h1, hf g (lt_of_heap h3) h2, h3, h4⟩⟩
theorem OwnB.kept (h : OwnB W F e v n xs) (hk : Kept G W W') (hd : ∀ q, F q → ¬ G q) : OwnB W' F e v n xs :=
  ⟨h.1, h.2.imp id fun ⟨g, cap, cur, h1, h2, h3, h4⟩ => ⟨g, cap, cur, h1, h2, hk.heap h3 (hd g h2), h4⟩⟩
theorem OwnB.block (h : OwnB W F e v n xs) {k : Nat} (hk : v.ownBlock = some k) : F k := by
  rcases h.2 with ⟨rfl, _⟩ | ⟨g, cap, cur, rfl, h2, _⟩
  · cases hk
  · injection hk with hk; rw [← hk]; exact h2
end
section
variable {P : Program}
/-- Text laid behind a row of bytes. -/
theorem run_append_ownb (w : World) (F : Nat → Prop) (t u ty e : TypeId) (ht : P.underlying t = some (.slice e)) (hu : P.underlying u = some .string) (hi : (P.info? e).map (fun i => (i.zero, i.size, i.bytes)) = some (some (.int .u8 0), 1, 1))
    (v : Value) (n : Nat) (xs : List Value) (h1 : OwnB w F e v n xs) (s : ByteArray) (hb : n + s.size ≤ 140737488355328) :
    ∃ v' w', (Builtin.append_ #[t, u] ty #[v, .string s]).run P w = .ok v' w' ∧ OwnB w' (grow F w) e v' (n + s.size) (xs ++ Lib.strCells s) ∧ Kept F w w' := by
  obtain ⟨i, hi, hz, hs1, hby⟩ := info_parts hi
  by_cases hm : s.size = 0
  · have hn : Lib.strCells s = [] := List.eq_nil_of_length_eq_zero (by rw [Lib.strCells_length]; exact hm)
    have hf := Lib.run_firstCells_string (P := P) w 1 s
    rw [hm, hn] at hf
    obtain ⟨A, c, rfl, hnc, _⟩ := h1.lies.form
    refine ⟨_, w, ?_, by rw [hm, hn, List.append_nil, Nat.add_zero]; exact h1.mono fun _ _ => grow.old, Kept.refl _ _⟩
    rcases A with _ | b <;> simp [Builtin.append_, run_underlying ht, run_underlying hu, sizeOf, typeInfo, hi, hs1, Builtin.lenOf, hm, hf, storeCells, hnc]
  · obtain ⟨v', w', e1, e2, e3⟩ := run_append_text (P := P) w F t u ty e i ht hu hi hz hs1 hby v n xs h1.lies s hb
    obtain ⟨v2, w2, d1, d2, _, _⟩ := Lib.run_append_own_string (P := P) w 0 t u ty e i ht hu hi hz hs1 hby v n xs (h1.owns fun _ _ => Nat.zero_le _) s (by unfold maxLen; omega) hb (Nat.zero_le _)
    rw [e1] at d1
    injection d1 with d3 d4
    subst d3 d4
    refine ⟨v', w', e1, ?_, kept_mono e3 fun q e => e.1⟩
    refine ⟨by have := d2.1; omega, .inr ?_⟩
    rcases d2.2 with ⟨_, h9⟩ | ⟨g, cap, cur, rfl, _, a1, a2, a3, a4, a5⟩
    · omega
    rcases e2.2 with ⟨A, _, h9⟩ | ⟨g', off', cap', cur', h7, h8, _⟩
    · omega
    injection h7 with h7 _ _
    injection h7 with h7
    injection h7 with h7 _ _
    subst h7
    exact ⟨g, cap, cur, rfl, h8, a1, a2, a3, by omega, by simpa using a5, by omega⟩
variable {ops : Array Oper} {rest : List Oper} {o : Oper} {a : Act} {w : World} {Q : Exit → Act → World → Prop}
theorem wpList_append_ownb (hgd : o.guard = none) (F : Nat → Prop) (sl x : Operand) (t u : TypeId) (ho : o.op = .call { callee := .builtin .append, args := #[sl, x], argTypes := #[t, u] })
    (e : TypeId) (ht : P.underlying t = some (.slice e)) (hu : P.underlying u = some .string) (hi : (P.info? e).map (fun i => (i.zero, i.size, i.bytes)) = some (some (.int .u8 0), 1, 1))
    (v : Value) (n : Nat) (xs : List Value) (hs : a.eval sl = v) (h1 : OwnB w F e v n xs) (s : ByteArray) (hx : a.eval x = .string s) (hb : n + s.size ≤ 140737488355328)
    (h : ∀ v' w', OwnB w' (grow F w) e v' (n + s.size) (xs ++ Lib.strCells s) → Kept F w w' → wpList P ops Q rest (a.put o.dst v') w') : wpList P ops Q (o :: rest) a w := by
  refine wpList_plain hgd fun K hK => ?_
  obtain ⟨v', w', hr, h3, h4⟩ := run_append_ownb (P := P) w F t u o.type e ht hu hi v n xs h1 s hb
  unfold Oper.wp execOp
  simp only [ho, resolve, invoke, builtin, Sem.run_bind, Sem.run_pure, Result.andThen_ok, List.map_toArray, List.map_cons, List.map_nil, hs, hx, hr]
  exact hK _ _ (h v' w' h3 h4)
end
/-- A builder in block gb, of the call's own (from B on). -/
def QuI (B gb : Nat) (own : Nat → Prop) (t : List UInt8) (W : World) : Prop :=
  ∃ a v, Row W gb 67 #[a, v] ∧ (a = .pointer none ∨ a = .pointer (some ⟨gb, 0, none⟩)) ∧ OwnB W (fun q => own q ∧ q ≠ gb) 5 v t.length (u8s t) ∧ own gb ∧ ∀ q, own q → B ≤ q ∧ q < W.heap.size
/-- What a builder holds. -/
theorem QuI.builder {B gb : Nat} {own : Nat → Prop} {t : List UInt8} {W : World} (h : QuI B gb own t W) : Lib.IsBuilder 67 5 B gb (Lib.byteCells t) W := by
  obtain ⟨a, v, h1, h2, h3, h4, h5⟩ := h
  have e : Lib.byteCells t = u8s t := rfl
  have hl : (u8s t).length = t.length := u8s_length t
  have hb : Lib.BuilderAt 67 5 B gb a (Lib.byteCells t) W := ⟨(h5 gb h4).1, v, h1, by rw [e, hl]; exact h3.owns fun q hq => (h5 q hq.1).1, fun e => (h3.block e).2 rfl⟩
  rcases h2 with rfl | rfl
  · exact .inl hb
  · exact .inr hb
set_option maxRecDepth 100000 in
set_option maxHeartbeats 4000000 in
theorem copyCheck_ok (gb : Nat) (a v : Value) (W : World) (hr : Row W gb 67 #[a, v]) (ha : a = .pointer none ∨ a = .pointer (some ⟨gb, 0, none⟩)) :
    Calls Tryz.prog 74 #[.pointer (some ⟨gb, 0, none⟩)] W fun e w' => e = .returned (.tuple #[]) ∧ Row w' gb 67 #[.pointer (some ⟨gb, 0, none⟩), v] ∧ Kept (· = gb) W w' := by
  have f0 := hr.free 0
  obtain ⟨j, hj, hjs⟩ : ∃ j, Tryz.prog.info? 67 = some j ∧ j.size = 2 := by
    have h9 : (Tryz.prog.info? 67).map (·.size) = some 2 := by kernel_rfl
    obtain ⟨j, h1, h2⟩ := Option.map_eq_some_iff.1 h9
    exact ⟨j, h1, h2⟩
  have hsh : W.shape? gb = some (67, 2) := by
    have h9 : W.heap[gb]? = some (.cells #[a, v] 67 (0, 0)) := hr
    simp [World.shape?, h9]
  have k1 := Lib.run_to_unsafe (P := Tryz.prog) W ⟨gb, 0, none⟩ Tryz.underlying65 Tryz.underlying126 hj (by rw [hjs]; decide) hsh (Nat.zero_lt_succ 1)
  have k2 := Lib.run_from_unsafe (P := Tryz.prog) W ⟨gb, 0, none⟩ Tryz.underlying126 Tryz.underlying65 hj hsh (by kernel_rfl)
  have k3 := Lib.run_neq_ptr_same (P := Tryz.prog) W ⟨gb, 0, none⟩ Tryz.underlying65 hj
  have k4 : (callFunc 98 #[.pointer (some ⟨gb, 0, none⟩)]).run Tryz.prog W = .ok (.value (.pointer (some ⟨gb, 0, none⟩))) W := by
    rw [run_callFunc_extern Tryz.func98 (by kernel_rfl) (by kernel_rfl) (by kernel_rfl) (e := Extern.AbiNoEscape.same) (by kernel_rfl)]
    rw [Lib.run_noEscape]
    rfl
  clear hj hjs hsh
  rcases ha with rfl | rfl
  · have c0 := hr.cell (i := 0) (v := .pointer none) rfl
    have HR : Hid (Row (W.setCell ⟨gb, 0, none⟩ (.pointer (some ⟨gb, 0, none⟩))) gb 67 #[.pointer (some ⟨gb, 0, none⟩), v]) := Lib.hid (by simpa using hr.set_ 0 (.pointer (some ⟨gb, 0, none⟩)))
    have HK : Hid (Kept (· = gb) W (W.setCell ⟨gb, 0, none⟩ (.pointer (some ⟨gb, 0, none⟩)))) := Lib.hid (Kept.cell _ _ _ _)
    clear hr
    go_enter Tryz.func74, Tryz.ntmps74
    go_wp2
    go_end0
    exact ⟨rfl, HR.out, HK.out⟩
  · have c0 := hr.cell (i := 0) (v := .pointer (some ⟨gb, 0, none⟩)) rfl
    have HR := Lib.hid hr
    clear hr
    go_enter Tryz.func74, Tryz.ntmps74
    go_wp2
    go_end0
    exact ⟨rfl, HR.out, Kept.refl _ _⟩
def WsPost (B gb : Nat) (own : Nat → Prop) (W : World) (t p : List UInt8) (e : Ending) (w' : World) : Prop := e = .returned (.tuple #[.int .i64 (p.length : Nat), .nilIface]) ∧ Laid (QuI B gb) own W (t ++ p) w'
set_option maxRecDepth 100000 in
set_option maxHeartbeats 4000000 in
theorem writeString_ok (B gb : Nat) (own : Nat → Prop) (t p : List UInt8) (W : World) (h : QuI B gb own t W) (hp : t.length + p.length ≤ 100000000000000) :
    Calls Tryz.prog 35 #[.pointer (some ⟨gb, 0, none⟩), .string (bs p)] W (WsPost B gb own W t p) := by
  obtain ⟨a, v, hr, ha, hl, ho, hlt⟩ := h
  have HC := Lib.hid (copyCheck_ok gb a v W hr ha)
  have hsz := bs_size p
  have FI : Hid (∀ w1, Row w1 gb 67 #[.pointer (some ⟨gb, 0, none⟩), v] → Kept (· = gb) W w1 → w1.cell? ⟨gb, 1, none⟩ = some v ∧ OwnB w1 (fun q => own q ∧ q ≠ gb) 5 v t.length (u8s t) ∧
      ∀ v' w', OwnB w' (grow (fun q => own q ∧ q ≠ gb) w1) 5 v' (t.length + (bs p).size) (u8s t ++ Lib.strCells (bs p)) → Kept (fun q => own q ∧ q ≠ gb) w1 w' →
      w'.cell? ⟨gb, 1, none⟩ = some v ∧ w'.frozen? ⟨gb, 1, none⟩ = false ∧ Laid (QuI B gb) own W (t ++ p) (w'.setCell ⟨gb, 1, none⟩ v')) := Lib.hid (by
    intro w1 hr1 hk1
    have hgb := hlt gb ho
    have hs1 := hk1.size
    refine ⟨hr1.cell (i := 1) rfl, hl.kept hk1 (fun q hq e => hq.2 e), fun v' w' h2 h3 => ?_⟩
    have hr2 : Row w' gb 67 #[.pointer (some ⟨gb, 0, none⟩), v] := hr1.kept h3 (fun e => e.2 rfl)
    refine ⟨hr2.cell (i := 1) rfl, hr2.free 1, ?_⟩
    have e9 : (w'.setCell ⟨gb, 1, none⟩ v').heap.size = w'.heap.size := by simp [World.setCell]
    have hkw : Kept own W w' := (kept_mono hk1 fun q e => by rw [e]; exact ho).trans (kept_mono h3 fun q e => .inl e.1)
    have hT : u8s (t ++ p) = u8s t ++ Lib.strCells (bs p) := by unfold u8s; rw [List.map_append]; rfl
    have hs2 := h3.size
    have hgr : Row (w'.setCell ⟨gb, 1, none⟩ v') gb 67 #[.pointer (some ⟨gb, 0, none⟩), v'] := by simpa using hr2.set_ 1 v'
    refine ⟨fun q => own q ∨ (W.heap.size ≤ q ∧ q < w'.heap.size), ⟨.pointer (some ⟨gb, 0, none⟩), v', hgr, .inr rfl, ?_, .inl ho, ?_⟩, hkw.setCell (grow.old ho) _, fun q hq => hq.imp id And.left⟩
    · rw [hT, List.length_append]
      rw [bs_size] at h2
      refine (h2.kept (Kept.cell w' gb 1 v') (fun q hq e => ?_)).mono fun q hlt2 hq => ?_
      · rcases hq with h9 | h9
        · exact h9.2 e
        · omega
      · rw [e9] at hlt2
        rcases hq with h9 | h9
        · exact ⟨.inl h9.1, h9.2⟩
        · exact ⟨.inr ⟨by omega, hlt2⟩, by omega⟩
    · intro q hq
      rw [e9]
      rcases hq with hq | hq
      · have := hlt q hq; omega
      · omega)
  clear hr ha hl ho hlt
  generalize hn : t.length = n at *
  clear hn
  go_enter Tryz.func35, Tryz.ntmps35
  go_wp2_with fail
  refine HC.out.mono ?_
  rintro e w1 ⟨rfl, hr1, hk1⟩
  obtain ⟨c1, a1, a4⟩ := FI.out w1 hr1 hk1
  have H1 := Lib.hid a1
  have H4 := Lib.hid a4
  clear hr1 hk1 a1 a4 HC FI
  go_wp2_with (first
    | (refine wpList_append_ownb ?_ (fun q => own q ∧ q ≠ gb) (.tmp 12) (.tmp 13) 22 9 ?_ 5 Tryz.underlying22 Tryz.underlying9 infoU8 v n (u8s t) ?_ H1.out (bs p) ?_ (by rw [hsz]; omega) ?_
       · with_reducible rfl
       · with_reducible rfl
       · rfl
       · rfl
       intro v' w' h2 h3
       obtain ⟨A2, c2, rfl, _, _⟩ := h2.lies.form
       obtain ⟨d1, d2, d3⟩ := H4.out _ w' h2 h3
       have HD3 := Lib.hid d3
       clear d3 h2 h3))
  go_ret2
  exact ⟨rfl, HD3.out⟩
set_option maxRecDepth 100000 in
set_option maxHeartbeats 4000000 in
theorem quote1_ok (B gb : Nat) (own : Nat → Prop) (t p : List UInt8) (W : World) (h : QuI B gb own t W) (hp : t.length + p.length ≤ 100000000000000) :
    Calls Tryz.prog 34 #[.string (bs p), .pointer (some ⟨gb, 0, none⟩)] W (LayPost (QuI B gb) (fun _ _ => False) own W (t ++ p)) := by
  have HC := Lib.hid (writeString_ok B gb own t p W h hp)
  clear h
  go_enter Tryz.func34, Tryz.ntmps34
  go_wp2_with fail
  refine HC.out.mono ?_
  rintro e w1 ⟨rfl, hl⟩
  have HL := Lib.hid hl
  clear hl
  go_wp2_with fail
  go_end0
  exact .inl ⟨rfl, HL.out⟩
theorem quote_lay (B gb : Nat) : LayC 34 #[.pointer (some ⟨gb, 0, none⟩)] (QuI B gb) (fun _ _ => False) (fun t => t.length ≤ 100000000000000) where
  call own t p W h _ ho := quote1_ok B gb own t p W h (by rw [List.length_append] at ho; exact ho)
  stay own t W W' h hk := by
    obtain ⟨a, v, h1, h2, h3, h4, h5⟩ := h
    exact ⟨a, v, h1.kept hk (fun hn => hn h4), h2, h3.kept hk (fun q hq hn => hn hq.1), h4, fun q hq => ⟨(h5 q hq).1, Nat.lt_of_lt_of_le (h5 q hq).2 hk.size⟩⟩
  lt own t W q h hq := by
    obtain ⟨a, v, h1, h2, h3, h4, h5⟩ := h
    exact (h5 q hq).2
  mono π a b h := h.elim
  ok a b h := by rw [List.length_append] at h; omega
end Go.Proofs.YtjckojedafajeaaGreatDoor
/- Layer 8: Quote: a text in quotes. -/
namespace Go.Proofs.YtjckojedafajeaaGreatDoor
open Go.RowKit
/-- What Quote answers. -/
def quoteR (l : List UInt8) : List UInt8 × Int := if 1048576 < l.length then ([], 3) else if Lib.validD l = false then ([], 181) else (quoteL l, 0)
theorem flat_esc_le (s : List UInt8) : (s.flatMap escL).length ≤ 6 * s.length := by
  induction s with
  | nil => simp
  | cons b s ih =>
    have := escL_len b
    rw [List.flatMap_cons, List.length_append, List.length_cons]; omega
theorem quoteL_le (s : List UInt8) : (quoteL s).length ≤ 6 * s.length + 2 := by
  have := flat_esc_le s
  unfold quoteL
  simp only [List.length_append, List.length_cons, List.length_nil]; omega
set_option maxRecDepth 1000000 in
set_option maxHeartbeats 8000000 in
theorem jQuote_ok (l : List UInt8) (w : World) (hl : l.length ≤ 4611686018427387904) (hU : Lib.Utf8Tabs 0 1 w) :
    Calls Tryz.prog 12 #[.string (bs l)] w fun e w' => e = .returned (.tuple #[.string (bs (quoteR l).1), .int .i64 (quoteR l).2]) ∧ Below w.heap.size w w' := by
  have hsz := bs_size l
  obtain ⟨R, hR⟩ : ∃ R, R = quoteR l := ⟨_, rfl⟩
  rw [← hR]
  have HR : Hid (R = quoteR l) := Lib.hid hR
  clear hR
  by_cases hlong : 1048576 < l.length
  · have HR2 : Hid (R = ([], 3)) := Lib.hid (by rw [HR.out]; unfold quoteR; rw [if_pos hlong])
    have hz : (1048576 : Int) < (l.length : Int) := by omega
    clear HR
    go_enter Tryz.func12, Tryz.ntmps12
    go_wp2_with fail
    go_ret2
    rw [HR2.out]
    exact ⟨rfl, Below.refl _ _⟩
  · have hz : ¬ (1048576 : Int) < (l.length : Int) := by omega
    have HV := Lib.hid (Tryz.utf8_ValidString (bs l) w (by rw [hsz]; omega) hU)
    have hd : (bs l).data.toList = l := by simp [bs]
    rw [hd] at HV
    clear hd
    by_cases hv : Lib.validD l = false
    · have HR2 : Hid (R = ([], 181)) := Lib.hid (by rw [HR.out]; unfold quoteR; rw [if_neg hlong, if_pos hv])
      rw [hv] at HV
      clear HR hv
      go_enter Tryz.func12, Tryz.ntmps12
      go_wp2_with fail
      refine HV.out.mono ?_
      rintro e w1 ⟨rfl, hb⟩
      have HB := Lib.hid hb
      clear hb
      go_wp2_with fail
      go_ret2
      rw [HR2.out]
      exact ⟨rfl, HB.out⟩
    · have HR2 : Hid (R = (quoteL l, 0)) := Lib.hid (by rw [HR.out]; unfold quoteR; rw [if_neg hlong, if_neg hv])
      have hv2 : Lib.validD l = true := by simpa using hv
      rw [hv2] at HV
      have FQ : Hid (∀ V, Below w.heap.size w V → Calls Tryz.prog 33 #[.string (bs l), .func (.func 34) #[] #[.pointer (some ⟨V.heap.size, 0, none⟩)]] (V.alloc (.cells #[.pointer none, .slice none 0 0] 67)) (LayPost (QuI w.heap.size V.heap.size) (fun _ _ => False) (· = V.heap.size) (V.alloc (.cells #[.pointer none, .slice none 0 0] 67)) (quoteL l))) := Lib.hid fun V hb => by
        have hI : QuI w.heap.size V.heap.size (· = V.heap.size) [] (V.alloc (.cells #[.pointer none, .slice none 0 0] 67)) :=
          ⟨_, _, Row.new _ _ _, .inl rfl, ⟨rfl, .inl ⟨rfl, rfl⟩⟩, rfl, fun q hq => by rw [hq]; exact ⟨hb.size, by simp⟩⟩
        have h9 := jquote_ok 34 #[.pointer (some ⟨V.heap.size, 0, none⟩)] (QuI w.heap.size V.heap.size) (fun _ _ => False) (fun t => t.length ≤ 100000000000000) (quote_lay _ _) (fun _ _ => rfl) l [] hl (· = V.heap.size) _ hI (by have := quoteL_le l; simp only [List.nil_append]; omega)
        rw [List.nil_append] at h9
        exact h9
      have hmf : ∀ (fn : Fn) (first cap : Array Value) (W : World), (Instr.makeFunc fn first cap).run Tryz.prog W = .ok (.func fn first cap) W := fun _ _ _ _ => rfl
      clear HR hv hv2 hU hl
      generalize hq : quoteL l = ql at *
      clear hq
      go_enter Tryz.func12, Tryz.ntmps12
      go_wp2_with fail
      refine HV.out.mono ?_
      rintro e w1 ⟨rfl, hb⟩
      have HQ := Lib.hid (FQ.out w1 hb)
      have HB : Hid (Below w.heap.size w (w1.alloc (.cells #[.pointer none, .slice none 0 0] 67))) := Lib.hid (hb.alloc hb.size _)
      have HS1 := Lib.hid hb.size
      clear hb
      go_wp2_with fail
      refine HQ.out.mono ?_
      rintro e w2 (⟨rfl, o, hI, hk, _⟩ | ⟨π, rfl, hb, hk⟩)
      · have hge : ∀ q, o q → w.heap.size ≤ q := fun q hq => by obtain ⟨_, _, _, _, _, _, h5⟩ := hI; exact (h5 q hq).1
        have HB2 : Hid (Below w.heap.size w w2) := Lib.hid (HB.out.trans (hk.below HB.out.size (fun q e => by rw [e]; exact HS1.out)))
        have HS := Lib.hid (Tryz.Builder_String_any w.heap.size w1.heap.size ql w2 hI.builder HB2.out.size)
        clear hI hk hge
        go_wp2_with fail
        refine HS.out.mono ?_
        rintro e w3 ⟨rfl, hb⟩
        have HB3 : Hid (Below w.heap.size w w3) := Lib.hid (HB2.out.trans hb)
        clear hb
        go_wp2_with fail
        go_ret2
        rw [HR2.out]
        exact ⟨rfl, HB3.out⟩
      · exact hb.elim
end Go.Proofs.YtjckojedafajeaaGreatDoor
