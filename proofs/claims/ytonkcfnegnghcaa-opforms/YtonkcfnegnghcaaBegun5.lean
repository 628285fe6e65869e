/- Has op begun? -/
import Derived.Test.YtonkcfnegnghcaaOpNames
namespace Go.Proofs.Ytonkcfnegnghcaa
open Go.RowKit
set_option maxRecDepth 100000
set_option linter.unusedVariables false

theorem kd_41 : kd 65 = (3, 0) := by decide
theorem kd_43 : kd 67 = (0, 5) := by decide
theorem wd_28 : wd 40 = 4 := by decide
set_option maxHeartbeats 1000000 in
theorem begun5_any (w : World) : Calls Try.prog 7 #[] w fun e w' => e = .returned (.bool true) ∧ Below w.heap.size w w' := by
  have N := Lib.hid (names_any w)
  go_enter Try.func7, Try.ntmps7
  go_wp2_with fail
  refine (kind_any 65 w).mono ?_
  rintro e w' ⟨rfl, rfl⟩
  rw [kd_41]
  unfold pr
  go_wp2_with fail
  refine (kind_any 67 w).mono ?_
  rintro e w' ⟨rfl, rfl⟩
  rw [kd_43]
  unfold pr
  go_wp2_with fail
  refine (width_any 40 w).mono ?_
  rintro e w' ⟨rfl, rfl⟩
  rw [wd_28]
  go_wp2_with fail
  refine N.out.mono ?_
  rintro e w1 ⟨v, rfl, ho, hb⟩
  obtain ⟨A, c, rfl, -⟩ := ho.rdI
  have HB := Lib.hid hb
  rw [all5_len]
  clear ho hb
  go_wp2
  go_ret
  exact ⟨rfl, HB.out⟩
end Go.Proofs.Ytonkcfnegnghcaa
