import Derived.Test.YtmhbkjjkalnggaaGreatDoorPt32
namespace Go.Proofs.YtmhbkjjkalnggaaGreatDoor
open Go.RowKit
set_option maxRecDepth 1000000
set_option maxHeartbeats 8000000
structure Meth (T : TypeId) (rv : Value) (name : String) (f : Nat) : Prop where
 finds : ∀ w, (method (Tryz.prog.types.size + Made.depth) T rv name).run Tryz.prog w = .ok (f, rv) w
 enters : ∀ args w, (callFunc f args).run Tryz.prog w = .ok (.enter f args) w
theorem two_reachN (nb no cn lb lo cl : Nat) : Meth 86 (twoV nb no cn lb lo cl) "Len" 215 := ⟨fun _ => by kernel_rfl, enters_of Tryz.func215 (by kernel_rfl) rfl⟩
theorem two_reachL (nb no cn lb lo cl : Nat) : Meth 86 (twoV nb no cn lb lo cl) "Less" 216 := ⟨fun _ => by kernel_rfl, enters_of Tryz.func216 (by kernel_rfl) rfl⟩
theorem two_reachS (nb no cn lb lo cl : Nat) : Meth 86 (twoV nb no cn lb lo cl) "Swap" 217 := ⟨fun _ => by kernel_rfl, enters_of Tryz.func217 (by kernel_rfl) rfl⟩
def TwoPost (nb no cn lb lo cl : Nat) (c0 c1 : Array Value) (W : World) (e : Ending) (w' : World) : Prop := e = .returned (.tuple #[]) /\ Two w' nb no cn lb lo cl ⟨#[97]⟩ ⟨#[98]⟩ c1.toList c0.toList /\ Kept (fun q => q = nb ∨ q = lb) W w'
theorem two_ins (nb no cn lb lo cl : Nat) (c0 c1 : Array Value) (W : World) (h : Two W nb no cn lb lo cl ⟨#[98]⟩ ⟨#[97]⟩ c0.toList c1.toList) (ho0 : c0.all (·.oneCell') = true) (ho1 : c1.all (·.oneCell') = true) :
   Calls Tryz.prog 115 #[.iface 86 (twoV nb no cn lb lo cl), .int .i64 0, .int .i64 2] W (TwoPost nb no cn lb lo cl c0 c1 W) := by
 obtain ⟨rv, hrv⟩ : ∃ rv, rv = twoV nb no cn lb lo cl := ⟨_, rfl⟩
 have HL := hid (two_less nb no cn lb lo cl c0.toList c1.toList W h)
 have HS := hid (fun V (hb : Below W.heap.size W V) => two_swap nb no cn lb lo cl c0 c1 V (h.below hb) ho0 ho1)
 have rL := two_reachL nb no cn lb lo cl
 have rS := two_reachS nb no cn lb lo cl
 rw [<- hrv] at rL rS HL HS ⊢
 have mL := rL.finds
 simp [Made.depth] at mL
 have mS := rS.finds
 simp [Made.depth] at mS
 have eL := rL.enters
 have eS := rS.enters
 clear hrv h ho0 ho1 rL rS
 go_enter Tryz.func115, Tryz.ntmps115
 go_wp2
 go_loopw [6] (fun v6 wr => (v6 = .int .i64 1 /\ Hid (wr = W)) ∨ (v6 = .int .i64 2 /\ Hid (TwoPost nb no cn lb lo cl c0 c1 W (.returned (.tuple #[])) wr))) (fun v6 _ => 2 - (intOf v6).toNat)
 case atStart => exact .inl ⟨rfl, hid rfl⟩
 case round =>
   rcases hrel with ⟨rfl, hw⟩ | ⟨rfl, HF⟩
   · obtain rfl := hw.out
     go_wp2_with fail
     go_loopw [7] (fun v7 wq => (v7 = .int .i64 1 /\ Hid (wq = wr)) ∨ (v7 = .int .i64 0 /\ Hid (TwoPost nb no cn lb lo cl c0 c1 wr (.returned (.tuple #[])) wq))) (fun v7 _ => (intOf v7).toNat)
     case atStart => exact .inl ⟨rfl, hid rfl⟩
     case round =>
       rcases hrel with ⟨rfl, hw2⟩ | ⟨rfl, HF⟩
       · obtain rfl := hw2.out
         go_wp2_with fail
         refine HL.out.mono ?_
         rintro e w1 ⟨rfl, hb⟩
         have HSW := hid (HS.out w1 hb)
         have HKB : Hid (Kept (fun q => q = nb ∨ q = lb) wr w1) := hid (kept_mono (F := fun _ => False) (keptOf_below hb) fun _ e => e.elim)
         clear hb
         go_wp2_with fail
         refine HSW.out.mono ?_
         rintro e w2 ⟨rfl, ht, hk⟩
         have HF : Hid (TwoPost nb no cn lb lo cl c0 c1 wr (.returned (.tuple #[])) w2) := hid ⟨rfl, ht, HKB.out.trans' hk⟩
         clear ht hk
         go_wp2_with fail
         exact ⟨.inr ⟨rfl, HF⟩, by simp [intOf]⟩
       · go_wp2_with fail
         exact ⟨.inr ⟨rfl, HF⟩, by simp [intOf]⟩
   · go_wp2_with fail
     go_end0
     exact HF.out
theorem two_pdq (nb no cn lb lo cl : Nat) (lim : Int) (c0 c1 : Array Value) (W : World) (h : Two W nb no cn lb lo cl ⟨#[98]⟩ ⟨#[97]⟩ c0.toList c1.toList) (ho0 : c0.all (·.oneCell') = true) (ho1 : c1.all (·.oneCell') = true) :
   Calls Tryz.prog 98 #[.iface 86 (twoV nb no cn lb lo cl), .int .i64 0, .int .i64 2, .int .i64 lim] W (TwoPost nb no cn lb lo cl c0 c1 W) := by
 have HI := hid (two_ins nb no cn lb lo cl c0 c1 W h ho0 ho1)
 generalize twoV nb no cn lb lo cl = rv at *
 clear h ho0 ho1
 go_enter Tryz.func98, Tryz.ntmps98
 go_wp2
 go_loopw [1, 2] (fun v1 v2 wr => v1 = .int .i64 0 /\ v2 = .int .i64 2 /\ Hid (wr = W)) (fun _ _ _ => 0)
 case atStart => exact ⟨rfl, rfl, hid rfl⟩
 case round =>
   obtain ⟨rfl, rfl, hw⟩ := hrel
   obtain rfl := hw.out
   go_wp2_with fail
   refine HI.out.mono ?_
   rintro e w1 ⟨rfl, h1, h2⟩
   have HF : Hid (TwoPost nb no cn lb lo cl c0 c1 wr (.returned (.tuple #[])) w1) := hid ⟨rfl, h1, h2⟩
   clear h1 h2
   go_wp2_with fail
   go_end0
   exact HF.out
theorem len_two (w : World) : Calls Tryz.prog 97 #[.int .u64 2] w fun e w' => e = .returned (.int .i64 2) /\ w = w' := by
 have e8 : Lib.len8 2 = 2 := by decide
 go_enter Tryz.func97, Tryz.ntmps97
 go_wp2
 go_ret
 exact ⟨rfl, rfl⟩
theorem two_sort (nb no cn lb lo cl : Nat) (c0 c1 : Array Value) (W : World) (h : Two W nb no cn lb lo cl ⟨#[98]⟩ ⟨#[97]⟩ c0.toList c1.toList) (ho0 : c0.all (·.oneCell') = true) (ho1 : c1.all (·.oneCell') = true) :
   Calls Tryz.prog 68 #[.iface 86 (twoV nb no cn lb lo cl)] W (TwoPost nb no cn lb lo cl c0 c1 W) := by
 have HN := hid (two_len nb no cn lb lo cl W)
 have HP : Hid (∀ V lim, Below W.heap.size W V -> Calls Tryz.prog 98 #[.iface 86 (twoV nb no cn lb lo cl), .int .i64 0, .int .i64 2, .int .i64 lim] V (TwoPost nb no cn lb lo cl c0 c1 V)) := hid fun V lim hb => two_pdq nb no cn lb lo cl lim c0 c1 V (h.below hb) ho0 ho1
 have rN := two_reachN nb no cn lb lo cl
 generalize twoV nb no cn lb lo cl = rv at *
 have mN := rN.finds
 simp [Made.depth] at mN
 have eN := rN.enters
 clear h ho0 ho1 rN
 go_enter Tryz.func68, Tryz.ntmps68
 go_wp2_with fail
 refine HN.out.mono ?_
 rintro e w1 ⟨rfl, hb⟩
 have HKB : Hid (Kept (fun q => q = nb ∨ q = lb) W w1) := hid (kept_mono (F := fun _ => False) (keptOf_below hb) fun _ e => e.elim)
 have HP1 := hid (fun lim => HP.out w1 lim hb)
 clear hb HP
 go_wp2_with fail
 refine (len_two w1).mono ?_
 rintro e w2 ⟨rfl, rfl⟩
 go_wp2_with fail
 refine (HP1.out 2).mono ?_
 rintro e w3 ⟨rfl, h1, h2⟩
 have HF : Hid (TwoPost nb no cn lb lo cl c0 c1 W (.returned (.tuple #[])) w3) := hid ⟨rfl, h1, HKB.out.trans' h2⟩
 clear h1 h2
 go_wp2_with fail
 go_end0
 exact HF.out
end Go.Proofs.YtmhbkjjkalnggaaGreatDoor
