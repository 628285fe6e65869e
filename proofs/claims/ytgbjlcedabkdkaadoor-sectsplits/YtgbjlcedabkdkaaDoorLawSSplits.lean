/- The walk of SectSplits. -/
import Derived.Test.YtgbjlcedabkdkaaDoorBegun7
import Derived.Test.YtgbjlcedabkdkaaDoorRefSplit
import Derived.Deep.QuietTactic
import Derived.BigQuiet
namespace Go.Proofs.YtgbjlcedabkdkaaDoor
open Go.RowKit
set_option maxRecDepth 100000
set_option linter.unusedVariables false

theorem secs_get {is js : List SV} (h : is.map SV.sec = js.map SV.sec) {k : Nat} {i j : SV} (hi : is[k]? = some i) (hj : js[k]? = some j) : i.id = j.id ∧ i.y = j.y := by
  have h1 : (is.map SV.sec)[k]? = some i.sec := by rw [List.getElem?_map, hi]; rfl
  rw [h, List.getElem?_map, hj] at h1
  simp [SV.sec] at h1
  exact ⟨h1.1.symm, h1.2.symm⟩
set_option maxHeartbeats 4000000 in
theorem sectSplits_core (A : Option Addr) (l : List Int) (n c : Nat) (B : Option Addr) (s : List Int) (m d : Nat) (w : World) (hT : Tabs w) (h : RdX (· < w.heap.size) w A l) (hn : n = l.length) (hnc : n ≤ c) (hcm : c ≤ maxLen)
    (h2 : RdX (· < w.heap.size) w B s) (hm : m = s.length) (hmd : m ≤ d) (hdm : d ≤ maxLen) :
    Calls Tryd.prog 3 #[.slice A n c, .slice B m d] w fun e w' => e = .returned (.bool true) ∧ Below w.heap.size w w' := by
  have HT := Lib.hid hT
  have HA := Lib.hid (And.intro h (And.intro hn (And.intro hnc hcm)))
  have HB := Lib.hid (And.intro h2 (And.intro hm (And.intro hmd hdm)))
  have HG := Lib.hid (begun7_any w hT)
  clear h hn hnc hcm h2 hm hmd hdm hT
  by_cases hn3 : n > 300
  · have hz : (n : Int) > 300 := by omega
    go_enter Tryd.func3, Tryd.ntmps3
    go_wp2_with fail
    refine HG.out.mono ?_
    rintro e w1 ⟨rfl, hb1⟩
    have HB1 := Lib.hid hb1
    clear hb1
    go_wp2
    go_ret
    exact ⟨rfl, HB1.out⟩
  by_cases hm3 : m > 60
  · have hz : ¬ ((n : Int) > 300) := by omega
    have hz2 : (m : Int) > 60 := by omega
    go_enter Tryd.func3, Tryd.ntmps3
    go_wp2_with fail
    refine HG.out.mono ?_
    rintro e w1 ⟨rfl, hb1⟩
    have HB1 := Lib.hid hb1
    clear hb1
    go_wp2
    go_ret
    exact ⟨rfl, HB1.out⟩
  · have hz : ¬ ((n : Int) > 300) := by omega
    have hz2 : ¬ ((m : Int) > 60) := by omega
    go_enter Tryd.func3, Tryd.ntmps3
    go_wp2_with fail
    refine HG.out.mono ?_
    rintro e w1 ⟨rfl, hb1⟩
    have HB1 := Lib.hid hb1
    have C1 := Lib.hid (ssplit_any A l n c w1 (HA.out.1.later hb1).rd HA.out.2.1 (by omega) HA.out.2.2.1 HA.out.2.2.2 (HT.out.later hb1))
    clear hb1 HG
    go_wp2_with fail
    refine C1.out.mono ?_
    rintro e w2 ⟨v, is, rfl, p1, p2, p3, p4⟩
    obtain ⟨A1, k1, rfl, -, -, -⟩ := RdV.of_own p1.1
    have HB2 := Lib.hid (HB1.out.trans (p3.mono HB1.out.size))
    have HP := Lib.hid (And.intro p1 (And.intro p2 p4))
    have C2 := Lib.hid (rsplit_any A l n c w2 (HA.out.1.later HB2.out).rd HA.out.2.1 (by omega) HA.out.2.2.1 HA.out.2.2.2)
    clear p1 p2 p3 p4 C1
    go_wp2_with fail
    refine C2.out.mono ?_
    rintro e w3 ⟨v, js, rfl, p1, p2, p3, p4⟩
    obtain ⟨A2, k2, rfl, -, -, -⟩ := RdV.of_own p1.1
    have HB3 := Lib.hid (HB2.out.trans (p3.mono HB2.out.size))
    have HQ := Lib.hid (And.intro (HP.out.1.rd.later p3) (And.intro p1.rd (show is.map SV.sec = js.map SV.sec by rw [HP.out.2.1, p2])))
    have hlen : is.length = js.length := by have := congrArg List.length HQ.out.2.2; simpa using this
    have hq9 : js.length ≤ 1000000 := p4
    have C3 := Lib.hid (sutf_any B s m d w3 (HB.out.1.later HB3.out) HB.out.2.1 HB.out.2.2.1 (HT.out.later HB3.out))
    clear p1 p2 p3 p4 C2 HP
    rw [hlen] at HQ ⊢
    generalize hqq : js.length = q at *
    have HL := Lib.hid (And.intro hlen hqq)
    clear hlen hqq
    generalize spE (split l) = es
    have hee : (es != es) = false := by simp
    have hqe : ((q : Int) != (q : Int)) = false := by simp
    go_wp2_with fail
    refine C3.out.mono ?_
    rintro e w4 ⟨rfl, hb4⟩
    have HB4 := Lib.hid (HB3.out.trans (hb4.mono HB3.out.size))
    have HQ4 := Lib.hid (And.intro (HQ.out.1.later hb4) (HQ.out.2.1.later hb4))
    have C4 := Lib.hid (rutf_any B s m d w4 (HB.out.1.later HB4.out) HB.out.2.1 HB.out.2.2.1 (by omega))
    clear hb4 C3
    go_wp2_with fail
    refine C4.out.mono ?_
    rintro e w5 ⟨rfl, hb5⟩
    have HB5 := Lib.hid (HB4.out.trans (hb5.mono HB4.out.size))
    have HQ5 := Lib.hid (And.intro (HQ4.out.1.later hb5) (And.intro (HQ4.out.2.later hb5) HQ.out.2.2))
    clear hb5 C4 HQ4 HQ
    generalize vd s = vs
    have hvv : (vs != vs) = false := by simp
    go_wp2
    go_loopw [9] (fun i wr => ∃ k : Nat, k ≤ q ∧ i = .int .i64 k ∧ Hid (Below w5.heap.size w5 wr)) (fun i _ => q - (intOf i).toNat)
    case atStart => exact ⟨0, by omega, rfl, Below.refl _ _⟩
    case round =>
      obtain ⟨k, hk, rfl, HX⟩ := hrel
      by_cases hlt : k < q
      · have hlt2 : (k : Int) < q := by omega
        obtain ⟨i, hi⟩ : ∃ i, is[k]? = some i := ⟨is[k]'(by rw [HL.out.1]; exact hlt), List.getElem?_eq_getElem _⟩
        obtain ⟨j, hj⟩ : ∃ j, js[k]? = some j := ⟨js[k]'(by rw [HL.out.2]; exact hlt), List.getElem?_eq_getElem _⟩
        obtain ⟨e1, e2⟩ := secs_get HQ5.out.2.2 hi hj
        obtain ⟨b1, o1, rfl, -, -, i1, i2, i3⟩ := (HQ5.out.1.later HX.out).at_ hi
        obtain ⟨b2, o2, rfl, -, -, j1, j2, j3⟩ := (HQ5.out.2.1.later HX.out).at_ hj
        rw [e1] at i1
        rw [e2] at i2
        have hs1 : ∀ m, (convert 22 9 (.slice i.A j.y.length i.c)).run Tryd.prog (wr.drewN m) = .ok (.string (strOfNums j.y)) (wr.drewN m) := fun m => by rw [← e2]; exact (i3.2.2.1.drewN m).rd.string i.c
        have hs2 : ∀ m, (convert 22 9 (.slice j.A j.y.length j.c)).run Tryd.prog (wr.drewN m) = .ok (.string (strOfNums j.y)) (wr.drewN m) := fun m => (j3.2.2.1.drewN m).rd.string j.c
        have hst : ((strOfNums j.y).toList == (strOfNums j.y).toList) = true := by simp
        have hid : (j.id != j.id) = false := by simp
        have hw1 : IntKind.i64.wrap ((k : Int) + 1) = (k : Int) + 1 := by rw [IntKind.wrap_i64]; omega
        have htn : ((k : Int)).toNat = k := by omega
        clear i3 j3 hi hj e1 e2
        generalize i.A = iA at *
        generalize i.c = ic at *
        generalize j.A = jA at *
        generalize j.c = jc at *
        generalize j.y.length = jl at *
        generalize strOfNums j.y = js at *
        generalize j.id = jid at *
        go_wp2_with fail
        go_quiet (fail)
        go_wp2
        refine ⟨⟨k + 1, by omega, by go_num, below_drewN' HX.out nq⟩, ?_⟩
        simp [intOf]; omega
      · obtain rfl : k = q := by omega
        go_wp2
        go_ret
        exact ⟨rfl, HB5.out.trans (HX.out.mono HB5.out.size)⟩
end Go.Proofs.YtgbjlcedabkdkaaDoor
