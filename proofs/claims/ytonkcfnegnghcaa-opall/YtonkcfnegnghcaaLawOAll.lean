/- The walk of OpAll: out of the contracts. -/
import Derived.Test.YtonkcfnegnghcaaBegun5
import Derived.Test.YtonkcfnegnghcaaRefOp
namespace Go.Proofs.Ytonkcfnegnghcaa
open Go.RowKit
set_option maxRecDepth 100000
set_option linter.unusedVariables false

set_option maxHeartbeats 1000000 in
theorem opAll_core (x : Int) (w : World) : Calls Try.prog 3 #[.int .i64 x] w fun e w' => e = .returned (.bool true) ∧ Below w.heap.size w w' := by
  go_enter Try.func3, Try.ntmps3
  go_wp2_with fail
  refine (begun5_any w).mono ?_
  rintro e w1 ⟨rfl, hb1⟩
  have HB1 := Lib.hid hb1
  clear hb1
  go_wp2_with fail
  refine (kind_any x w1).mono ?_
  rintro e w' ⟨rfl, rfl⟩
  unfold pr
  go_wp2_with fail
  refine (refKind_any x w1).mono ?_
  rintro e w' ⟨rfl, rfl⟩
  unfold pr
  generalize (kd x).1 = i at *
  generalize (kd x).2 = m at *
  go_wp2_with fail
  refine (width_any x w1).mono ?_
  rintro e w' ⟨rfl, rfl⟩
  go_wp2_with fail
  refine (refWidth_any x w1).mono ?_
  rintro e w' ⟨rfl, rfl⟩
  generalize wd x = d at *
  go_wp2
  go_ret
  exact ⟨by simp, HB1.out⟩
end Go.Proofs.Ytonkcfnegnghcaa
