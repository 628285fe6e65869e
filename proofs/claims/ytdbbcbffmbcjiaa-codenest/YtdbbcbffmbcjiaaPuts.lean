/- req's writers: what their calls come to. -/
import Derived.Test.YtdbbcbffmbcjiaaNums
import Derived.Test.YtdbbcbffmbcjiaaLebPut
import Derived.Test.YtdbbcbffmbcjiaaReqTake
namespace Go.Proofs.Ytdbbcbffmbcjiaa
open Go.RowKit
set_option maxRecDepth 100000
set_option linter.unusedVariables false

/-- Something was appended to v. -/
def GPost (base : Nat) (v : Value) (l : List Int) (w : World) (e : Ending) (w' : World) : Prop := ∃ v', e = .returned v' ∧ OwnB w' base v' l ∧ Grew v w v' w'

theorem shr_byte (x : Int) (k : Nat) (hk : k < 8) : x / 2 ^ (8 * (7 - k)) % 256 = (be8 x).getD k 0 := (be8_get x k hk).symm
theorem be8_take (x : Int) (k : Nat) (hk : k < 8) : (be8 x).take (k + 1) = (be8 x).take k ++ [(be8 x).getD k 0] := by
  rw [List.take_add_one, List.getD_eq_getElem?_getD, List.getElem?_eq_getElem (by rw [be8_len]; exact hk)]
  rfl
/-- The bytes of some numbers. -/
def encs : List Int → List Int
  | [] => []
  | x :: t => encU x ++ encs t
theorem encs_app (a b : List Int) : encs (a ++ b) = encs a ++ encs b := by
  induction a with
  | nil => rfl
  | cons x t ih => simp [encs, ih]
theorem encU_len (v : Int) : 0 < (encU v).length ∧ (encU v).length ≤ 10 := by
  unfold encU; rw [bytesOf_length]; exact ⟨List.length_pos_iff.2 (dgU_ne _ _), dgU_len 9 v⟩
theorem encU_is (v : Int) (h0 : 0 ≤ v) (h1 : v < 18446744073709551616) : IsBytes (encU v) := bytesU_is 9 v h0 (by simp; omega)
theorem encs_is (l : List Int) (h : IsU64 l) : IsBytes (encs l) := by
  induction l with
  | nil => exact IsBytes.nil
  | cons x t ih => exact (encU_is x (h x (by simp)).1 (h x (by simp)).2).app (ih fun z hz => h z (by simp [hz]))
theorem encs_len (l : List Int) : (encs l).length ≤ 10 * l.length := by
  induction l with
  | nil => simp [encs]
  | cons x t ih => have := (encU_len x).2; simp [encs]; omega
theorem Grew.rdU {X : Nat → Prop} {v v' : Value} {w w' : World} {A : Option Addr} {l : List Int} (h : Grew v w v' w') (hr : RdU X w A l) (hx : ∀ k, k < w.heap.size → X k → v.ownBlock ≠ some k) : RdU X w' A l := hr.chg h.1 fun k hk hX e => hx k hk hX e
theorem Grew.rdX {X : Nat → Prop} {v v' : Value} {w w' : World} {A : Option Addr} {l : List Int} (h : Grew v w v' w') (hr : RdX X w A l) (hx : ∀ k, k < w.heap.size → X k → v.ownBlock ≠ some k) : RdX X w' A l := hr.chg h.1 fun k hk hX e => hx k hk hX e

end Go.Proofs.Ytdbbcbffmbcjiaa
