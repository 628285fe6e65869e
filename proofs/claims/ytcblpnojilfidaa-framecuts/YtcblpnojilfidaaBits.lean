/- Two bytes, one above the other: what the walks lean on. -/
import Derived.Test.YtcblpnojilfidaaBytes
import Derived.Laws.BitsAllLaws
import Derived.Laws.BitsLemmas
namespace Go.Proofs.Ytcblpnojilfidaa
open Go.RowKit
set_option linter.unusedVariables false

theorem or_bytes (x y : Int) (x0 : 0 ≤ x) (x1 : x ≤ 255) (y0 : 0 ≤ y) (y1 : y ≤ 255) : Go.bits .or .i64 (x * 256) y = x * 256 + y := by
  obtain ⟨a, rfl⟩ : ∃ a : Nat, x = a := ⟨x.toNat, by omega⟩
  obtain ⟨b, rfl⟩ : ∃ b : Nat, y = b := ⟨y.toNat, by omega⟩
  have ha : a ≤ 255 := by omega
  have hb : b ≤ 255 := by omega
  have e1 : (a : Int) * 256 = ((a * 256 : Nat) : Int) := by omega
  have e2 : a * 256 ||| b = a * 256 + b := by
    have := Nat.shiftLeft_add_eq_or_of_lt (i := 8) (b := b) (by omega) a
    rw [Nat.shiftLeft_eq] at this
    exact this.symm
  have e3 : BitVec.ofInt 64 ((a : Int) * 256) ||| BitVec.ofInt 64 (b : Int) = BitVec.ofNat 64 (a * 256 + b) := by
    rw [e1, BitVec.ofInt_natCast, BitVec.ofInt_natCast, ← BitVec.ofNat_or, e2]
  have e4 : (BitVec.ofNat 64 (a * 256 + b)).toNat = a * 256 + b := by rw [BitVec.toNat_ofNat]; exact Nat.mod_eq_of_lt (by omega)
  change IntKind.i64.wrap ((BitVec.ofInt 64 ((a : Int) * 256) ||| BitVec.ofInt 64 (b : Int)).toNat : Int) = _
  rw [e3, e4, IntKind.wrap_i64]
  omega
end Go.Proofs.Ytcblpnojilfidaa
