/- The walk of LebPuts: out of the contracts. -/
import Derived.Test.YtdbiljmkhchihaaLebRefPut
import Derived.Test.YtdbiljmkhchihaaBegun1
import Derived.Test.YtdbiljmkhchihaaRows1
import Derived.Deep.RegionWith
import Derived.Deep.DrawnRows
namespace Go.Proofs.Ytdbiljmkhchihaa
open Go.RowKit
set_option linter.unusedVariables false

/-- A writer's contract, told as a reading. -/
theorem rd_of_own {F : Nat} {args : Array Value} {w : World} {L : List Int} (hL : IsBytes L) (h : Calls Try.prog F args w fun e w' => ∃ v, e = .returned v ∧ OwnB w' w.heap.size v L ∧ Below w.heap.size w w') :
    Calls Try.prog F args w fun e w' => ∃ A' c', e = .returned (.slice A' L.length c') ∧ Rd w' w'.heap.size A' L ∧ Below w.heap.size w w' :=
  h.mono fun e w' ⟨v, he, ho, hb⟩ => by
    obtain ⟨A', c', rfl, hr, _⟩ := ho.form hL
    exact ⟨A', c', he, hr, hb⟩

theorem below_drew {B : Nat} {w w' : World} (h : Below B w.drew w') : Below B w w' := ⟨h.os, h.tape, h.output, h.size, h.block⟩

attribute [local go_sem ↓] Go.wp_at_zero Go.wp_at_succ

set_option maxRecDepth 100000 in
set_option maxHeartbeats 4000000 in
theorem lebPuts_core (A : Option Addr) (l : List Int) (n c : Nat) (v s : Int) (w : World) (h : Rd w w.heap.size A l) (hn : n = l.length) (hl : n ≤ maxLen) (hv : 0 ≤ v ∧ v < 18446744073709551616) (hs : -9223372036854775808 ≤ s ∧ s < 9223372036854775808) :
    Calls Try.prog 4 #[.slice A n c, .int .u64 v, .int .i64 s] w fun e w' => e = .returned (.bool true) ∧ Below w.heap.size w w' := by
  have HR := Lib.hid h
  have HN := Lib.hid hn
  have HV := Lib.hid (And.intro hv hs)
  clear h hn hv hs
  unfold maxLen at hl
  by_cases h20 : 20 < n
  · go_enter Try.func4, Try.ntmps4
    go_wp2_with fail
    refine (begun1_any w).mono ?_
    rintro e w1 ⟨rfl, hb1⟩
    have HB1 := Lib.hid hb1
    clear hb1
    go_wp2
    go_ret
    exact ⟨rfl, HB1.out⟩
  · have hb1 : IsBytes (l ++ encU v) := IsBytes.app HR.out.1 (bytesU_is 9 v HV.out.1.1 (by have := HV.out.1.2; simp; omega))
    have hb2 : IsBytes (l ++ encS s) := IsBytes.app HR.out.1 (bytesS_is 9 s)
    have C1 := Lib.hid (fun W (h : Rd W W.heap.size A l) => rd_of_own hb1 (putU_any A l n c v W h HN.out (by omega) HV.out.1.1 HV.out.1.2))
    have C2 := Lib.hid (fun W (h : Rd W W.heap.size A l) => rd_of_own hb1 (refPutU_any A l n c v W h HN.out (by omega) HV.out.1.1 HV.out.1.2))
    have C3 := Lib.hid (fun W (h : Rd W W.heap.size A l) => rd_of_own hb2 (putS_any A l n c s W h HN.out (by omega) HV.out.2.1 HV.out.2.2))
    have C4 := Lib.hid (fun W (h : Rd W W.heap.size A l) => rd_of_own hb2 (refPutS_any A l n c s W h HN.out (by omega) HV.out.2.1 HV.out.2.2))
    generalize l ++ encU v = L1 at *
    generalize l ++ encS s = L2 at *
    clear hb1 hb2 HV
    go_enter Try.func4, Try.ntmps4
    go_wp2_with fail
    refine (begun1_any w).mono ?_
    rintro e w1 ⟨rfl, hb1⟩
    have HB1 := Lib.hid hb1
    have HR1 := Lib.hid (HR.out.later hb1)
    clear hb1 HR
    go_wp2_with fail
    go_region_with (first
      | (go_at_call 22; refine (C1.out _ (by exact HR1.out)).mono ?_; rintro e w2 ⟨A2, c2, rfl, hr2, hbb2⟩; have hs2 := hr2.string c2; have HB2 := Lib.hid (And.intro hr2 (below_drew hbb2)); clear hr2 hbb2)
      | (go_at_call 23; refine (C2.out _ (by exact HR1.out.later HB2.out.2)).mono ?_; rintro e w3 ⟨A3, c3, rfl, hr3, hbb3⟩; have hs3 := hr3.string c3; have hs23 := (HB2.out.1.later hbb3).string c2; have HB3 := Lib.hid (HB2.out.2.trans (hbb3.mono HB2.out.2.size)); clear hr3 hbb3)
      | (go_at_call 24; refine (C3.out _ (by exact HR1.out.later HB3.out)).mono ?_; rintro e w4 ⟨A4, c4, rfl, hr4, hbb4⟩; have hs4 := hr4.string c4; have HB4 := Lib.hid (And.intro hr4 (HB3.out.trans (hbb4.mono HB3.out.size))); clear hr4 hbb4)
      | (go_at_call 25; refine (C4.out _ (by exact HR1.out.later HB4.out.2)).mono ?_; rintro e w5 ⟨A5, c5, rfl, hr5, hbb5⟩; have hs5 := hr5.string c5; have hs45 := (HB4.out.1.later hbb5).string c4; have HB5 := Lib.hid (HB4.out.2.trans (hbb5.mono HB4.out.2.size)); clear hr5 hbb5))
    all_goals go_wp2
    all_goals go_ret
    all_goals exact ⟨rfl, HB1.out.trans (HB5.out.mono HB1.out.size)⟩
end Go.Proofs.Ytdbiljmkhchihaa
