/- req's source: what its calls come to. -/
import Derived.Test.YtfmncljcogijhaaReader
import Derived.Test.YtfmncljcogijhaaNums
import Derived.StillTailTactics
import Derived.Deep.RegionWith
namespace Go.Proofs.Ytfmncljcogijhaa
open Go.RowKit
set_option maxRecDepth 100000
set_option linter.unusedVariables false

theorem RdrAt.below {B : Nat} {w w' : World} {g : Nat} {t : TypeId} {tl : RTl} {s : St} (h : RdrAt w g t tl s) (hb : Below B w w') (hg : g < B) (hB : B ≤ w.heap.size) : RdrAt w' g t tl s :=
  h.chg (S := fun k => B ≤ k) ⟨hb.os, hb.tape, hb.output, hb.size, fun k _ hk => hb.block k (by omega)⟩ fun k hk => by omega

def pKind : PR Int := seq pByte fun x l => if x < 1 ∨ 6 < x then .error 2 else .ok (x, l)

theorem shl8_or (x y : Int) (h0 : 0 ≤ x) (hy0 : 0 ≤ y) (hy : y ≤ 255) : Go.bits .or .u64 (IntKind.u64.wrap (x * 256)) y = x * 256 % 18446744073709551616 + y := by
  obtain ⟨a, rfl⟩ : ∃ a : Nat, x = a := ⟨x.toNat, by omega⟩
  obtain ⟨b, rfl⟩ : ∃ b : Nat, y = b := ⟨y.toNat, by omega⟩
  rw [IntKind.wrap_u64, show ((a : Int) * 256) % 18446744073709551616 = ((a * 256 % 18446744073709551616 : Nat) : Int) from by omega, u64_or_nat _ _ (by omega) (by omega), nat_join 8 _ b (by omega) (by omega)]
  omega
theorem pow256 (k : Nat) (hk : k < 8) : (256 : Int) ^ (k + 1) = 256 ^ k * 256 ∧ (256 : Int) ^ k ≤ 72057594037927936 := by
  refine ⟨Int.pow_succ _ _, ?_⟩
  rcases show k = 0 ∨ k = 1 ∨ k = 2 ∨ k = 3 ∨ k = 4 ∨ k = 5 ∨ k = 6 ∨ k = 7 from by omega with h | h | h | h | h | h | h | h <;> subst h <;> decide
/-- A text that was read. -/
def SPost (p : PR (List Int)) (g : Nat) (t : TypeId) (tl : RTl) (s : St) (w : World) (e : Ending) (w' : World) : Prop :=
  ∃ y, e = .returned (.string (strOfNums y)) ∧ IsBytes y ∧ RdrAt w' g t tl (nx p s) ∧ (∀ a l', bd s p = .ok (a, l') → y = a) ∧ Chg (fun k => k = g) w w' ∧ y.length ≤ 1000000
theorem nx_seq {α β : Type} (p : PR α) (f : α → PR β) (s : St) (a : α) (h : ∀ b l', bd s p = .ok (b, l') → a = b) : nx (seq p f) s = nx (f a) (nx p s) ∧ bd s (seq p f) = bd (nx p s) (f a) := by
  cases s with
  | error e => exact ⟨rfl, rfl⟩
  | ok l =>
    simp only [nx_ok, bd_ok, seq] at h ⊢
    cases hp : p l with
    | error e => exact ⟨rfl, rfl⟩
    | ok r =>
      have := h r.1 r.2 (by rw [hp])
      subst this
      exact ⟨rfl, rfl⟩
/-- Numbers that were read, into new memory. -/
def LPost (p : PR (List Int)) (g : Nat) (t : TypeId) (tl : RTl) (s : St) (w : World) (e : Ending) (w' : World) : Prop :=
  ∃ v y, e = .returned v ∧ OwnU w' w.heap.size v y ∧ IsU64 y ∧ RdrAt w' g t tl (nx p s) ∧ (∀ a l', bd s p = .ok (a, l') → y = a) ∧ Chg (fun k => k = g) w w' ∧ y.length ≤ 1000
end Go.Proofs.Ytfmncljcogijhaa
