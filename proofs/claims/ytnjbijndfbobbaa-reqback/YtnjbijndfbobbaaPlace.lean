/- A place below a length. -/
import Derived.Test.YtnjbijndfbobbaaBytes
namespace Go.Proofs.Ytnjbijndfbobbaa
open Go.RowKit
set_option maxRecDepth 100000
set_option linter.unusedVariables false

theorem place_any (k : Int) (n : Nat) (w : World) (hn : 0 < n) (h1 : n ≤ 1000000) (hk : -9223372036854775808 ≤ k ∧ k < 9223372036854775808) :
    Calls Try.prog 23 #[.int .i64 k, .int .i64 n] w fun e w' => ∃ j : Nat, e = .returned (.int .i64 j) ∧ j < n ∧ w = w' := by
  obtain ⟨hk1, hk2⟩ := hk
  have hm1 := Int.tmod_lt_of_pos k (show (0 : Int) < n by omega)
  have hm2 : -(n : Int) < k.tmod n := by
    have := Int.tmod_lt_of_pos (-k) (show (0 : Int) < n by omega)
    rw [Int.neg_tmod] at this
    omega
  have hnz : ((n : Int) == 0) = false := by simp; omega
  by_cases h0 : k.tmod n < 0
  · go_enter Try.func23, Try.ntmps23
    go_wp2
    go_ret
    refine ⟨(k.tmod n + n).toNat, ?_, by omega, rfl⟩
    rw [show (((k.tmod n + n).toNat : Nat) : Int) = k.tmod n + n from by omega]
    rfl
  · go_enter Try.func23, Try.ntmps23
    go_wp2
    go_ret
    refine ⟨(k.tmod n).toNat, ?_, by omega, rfl⟩
    rw [show (((k.tmod n).toNat : Nat) : Int) = k.tmod n from by omega]
    rfl
end Go.Proofs.Ytnjbijndfbobbaa
