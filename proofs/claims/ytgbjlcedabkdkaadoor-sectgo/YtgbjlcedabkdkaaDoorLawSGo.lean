/- The walk of SectGo. -/
import Derived.Test.YtgbjlcedabkdkaaDoorBegun7
import Derived.Test.YtgbjlcedabkdkaaDoorGoMath
import Derived.Deep.RegionWith
import Derived.Deep.RegionHeld3
namespace Go.Proofs.YtgbjlcedabkdkaaDoor
open Go.RowKit
set_option maxRecDepth 100000
set_option linter.unusedVariables false

theorem u8l_str (l : List Int) : (strOfNums l).data.toList = u8l l := by
  have := strOfNums_data l
  rw [this]; rfl
def sback (l : List Int) : ByteArray := runesBytes ((runesL (strOfNums l).size (strOfNums l).data.toList).map fun r => Int.ofNat r)
theorem sback_iff (l : List Int) : ((sback l).toList == (strOfNums l).toList) = vd l := by
  have hb : (sback l).data.toList = reL (strOfNums l).size (strOfNums l).data.toList := back_L _ _ (by rw [Array.length_toList]; exact Nat.le_refl _)
  have hi := reL_iff (strOfNums l).size (strOfNums l).data.toList (by rw [Array.length_toList]; exact Nat.le_refl _)
  rw [ByteArray.toList_eq, ByteArray.toList_eq, hb]
  rw [u8l_str] at hi ⊢
  unfold vd
  rw [Bool.eq_iff_iff, beq_iff_eq]
  exact hi
set_option maxHeartbeats 4000000 in
theorem sectGo_core (A : Option Addr) (l : List Int) (n c : Nat) (w : World) (hT : Tabs w) (h : RdX (· < w.heap.size) w A l) (hn : n = l.length) (hnc : n ≤ c) (hcm : c ≤ maxLen) :
    Calls Tryd.prog 5 #[.slice A n c] w fun e w' => e = .returned (.bool true) ∧ Below w.heap.size w w' := by
  have HT := Lib.hid hT
  have HA := Lib.hid (And.intro h (And.intro hn (And.intro hnc hcm)))
  have HG := Lib.hid (begun7_any w hT)
  clear h hn hnc hcm hT
  by_cases hn3 : n > 60
  · have hz : (n : Int) > 60 := by omega
    go_enter Tryd.func5, Tryd.ntmps5
    go_wp2_with fail
    refine HG.out.mono ?_
    rintro e w1 ⟨rfl, hb1⟩
    have HB1 := Lib.hid hb1
    clear hb1
    go_wp2
    go_ret
    exact ⟨rfl, HB1.out⟩
  · have hz : ¬ ((n : Int) > 60) := by omega
    go_enter Tryd.func5, Tryd.ntmps5
    go_wp2_with fail
    refine HG.out.mono ?_
    rintro e w1 ⟨rfl, hb1⟩
    have HB1 := Lib.hid hb1
    clear hb1 HG
    go_upto_region 5 with fail
    have hsz : (strOfNums l).size ≤ 1000 := by rw [strOfNums_size]; have := HA.out.2.1; omega
    have HU : Hid (∀ W, Below w1.heap.size w1 W → Calls Tryd.prog 11 #[.slice A n c] W (fun e w' => e = .returned (.bool (vd l)) ∧ Below W.heap.size W w')) := fun W hW => sutf_any A l n c W (HA.out.1.later (HB1.out.trans (hW.mono HB1.out.size))) HA.out.2.1 HA.out.2.2.1 (HT.out.later (HB1.out.trans (hW.mono HB1.out.size)))
    have HS : Hid (∀ W, Below w1.heap.size w1 W → (convert 22 9 (.slice A n c)).run Tryd.prog W = .ok (.string (strOfNums l)) W) := fun W hW => by
      have := (HA.out.1.later (HB1.out.trans (hW.mono HB1.out.size))).rd.string c
      rw [← HA.out.2.1] at this
      exact this
    have hrun := fun W => runes_run (strOfNums l) hsz W
    have hback := fun W c => back_run (strOfNums l) W _ c (Below.refl _ _)
    have HBK : Hid (∀ W W' c, Below (runeW (strOfNums l) W).heap.size (runeW (strOfNums l) W) W' → (convert 40 9 (.slice (some ⟨W.heap.size, 0, none⟩) (runeN (strOfNums l)) c)).run Tryd.prog W' = .ok (.string (sback l)) W') := fun W W' c hb => back_run (strOfNums l) W W' c hb
    have HRW : Hid (∀ W, Below W.heap.size W (runeW (strOfNums l) W)) := fun W => runeW_below _ W
    rw [show runesBytes ((runesL (strOfNums l).size (strOfNums l).data.toList).map fun r => Int.ofNat r) = sback l from rfl] at hback
    have hst := sback_iff l
    have hbackD : ∀ c, (convert 40 9 (.slice (some ⟨w1.heap.size, 0, none⟩) (runeN (strOfNums l)) c)).run Tryd.prog (runeW (strOfNums l) w1.drew) = .ok (.string (sback l)) (runeW (strOfNums l) w1.drew) := fun c => HBK.out w1.drew _ c (Below.refl _ _)
    have HD : Hid (Below w1.heap.size w1 w1.drew) := (Below.refl _ _).drew
    generalize strOfNums l = sl at *
    generalize sback l = sb at *
    generalize vd l = vl at *
    have hvv : (vl == vl) = true := by simp
    go_region_held (fun (w' : World) => (convert 22 9 (.slice A n c)).run Tryd.prog w' = .ok (.string sl) w') (exact HS.out _ (by first | exact HB4.out | exact HB4.out.trans ((HRW.out _).mono HB4.out.size) | exact HD.out | exact HD.out.trans ((HRW.out _).mono HD.out.size)))
      (first
        | (go_at_call 11; refine (HU.out w1.drew HD.out).mono ?_; rintro e w4 ⟨rfl, hb⟩; have HB4 := Lib.hid (HD.out.trans (hb.mono HD.out.size)); clear hb)
        | (go_at_call 11; refine (HU.out _ (HD.out.trans ((HRW.out _).mono HD.out.size))).mono ?_; rintro e w4 ⟨rfl, hb⟩; have hback4 : ∀ c, (convert 40 9 (.slice (some ⟨w1.heap.size, 0, none⟩) (runeN sl) c)).run Tryd.prog w4 = .ok (.string sb) w4 := fun c => HBK.out w1.drew w4 c hb; have HB4 := Lib.hid ((HD.out.trans ((HRW.out w1.drew).mono HD.out.size)).trans (hb.mono (HD.out.trans ((HRW.out w1.drew).mono HD.out.size)).size)); clear hb))
    all_goals go_wp2_with fail
    all_goals go_ret
    all_goals exact ⟨rfl, by first | exact HB1.out.trans (HB4.out.mono HB1.out.size) | exact HB1.out.trans ((HB4.out.trans ((HRW.out w4).mono HB4.out.size)).mono HB1.out.size)⟩
end Go.Proofs.YtgbjlcedabkdkaaDoor
