/- Package reader: what its calls come to. -/
import Derived.Test.YtfmncljcogijhaaParseMath
import Derived.Test.YtfmncljcogijhaaCuts
import Derived.Test.YtfmncljcogijhaaLebRead2
import Derived.Test.YtfmncljcogijhaaLists
import Derived.Handy
namespace Go.Proofs.Ytfmncljcogijhaa
open Go.RowKit
set_option maxRecDepth 100000
set_option linter.unusedVariables false

/-- How many bytes there were, and what stands behind the Reader. -/
abbrev RTl := Nat × List Value
/-- A Reader at the front of block g: what it has still to read, or what it met. -/
def RdrAt (w : World) (g : Nat) (t : TypeId) (tl : RTl) (s : St) : Prop := match s with
  | .ok l => ∃ A c r, Own w g t (.slice A l.length c :: .int .i64 r :: .int .i64 0 :: tl.2) ∧ RdX (· < g) w A l ∧ l.length ≤ c ∧ c ≤ maxLen ∧ l.length ≤ 1000000 ∧ r = (tl.1 : Int) - l.length ∧ l.length ≤ tl.1 ∧ tl.1 ≤ 1000000
  | .error e => Own w g t (.slice none 0 0 :: .int .i64 0 :: .int .i64 e :: tl.2) ∧ 0 < e ∧ e ≤ 100
theorem RdrAt.chg {S : Nat → Prop} {w w' : World} {g : Nat} {t : TypeId} {tl : RTl} {s : St} (h : RdrAt w g t tl s) (hc : Chg S w w') (hs : ∀ k, k ≤ g → ¬ S k) : RdrAt w' g t tl s := by
  cases s with
  | ok l => obtain ⟨A, c, r, h1, h2, h5⟩ := h; exact ⟨A, c, r, h1.chg hc (hs g (Nat.le_refl _)), h2.chg hc fun k _ hk => hs k (by omega), h5⟩
  | error e => exact ⟨h.1.chg hc (hs g (Nat.le_refl _)), h.2⟩
theorem RdrAt.later {w w' : World} {g : Nat} {t : TypeId} {tl : RTl} {s : St} (h : RdrAt w g t tl s) (hc : Below w.heap.size w w') : RdrAt w' g t tl s := h.chg (S := fun _ => False) (Chg.of_below hc) fun _ _ => id
theorem RdrAt.lt {w : World} {g : Nat} {t : TypeId} {tl : RTl} {s : St} (h : RdrAt w g t tl s) : g < w.heap.size := by
  cases s with
  | ok l => obtain ⟨A, c, r, h1, _⟩ := h; exact h1.lt
  | error e => exact h.1.lt

theorem chgSet (w : World) (g i : Nat) (u : Value) : Chg (fun k => k = g) w (w.setCell ⟨g, i, none⟩ u) := Chg.setCell w ⟨g, i, none⟩ u
theorem own_cells2 {w : World} {g : Nat} {t : TypeId} {a b : Value} {tl : List Value} (h : Own w g t (a :: b :: tl)) : w.cell? ⟨g, 0, none⟩ = some a ∧ w.cell? ⟨g, 1, none⟩ = some b ∧ w.frozen? ⟨g, 0, none⟩ = false ∧ w.frozen? ⟨g, 1, none⟩ = false :=
  ⟨h.cell 0, h.cell 1, h.frozen 0, h.frozen 1⟩
theorem own_cells3 {w : World} {g : Nat} {t : TypeId} {a b c : Value} {tl : List Value} (h : Own w g t (a :: b :: c :: tl)) : w.cell? ⟨g, 0, none⟩ = some a ∧ w.cell? ⟨g, 1, none⟩ = some b ∧ w.cell? ⟨g, 2, none⟩ = some c ∧ w.frozen? ⟨g, 0, none⟩ = false ∧ w.frozen? ⟨g, 1, none⟩ = false ∧ w.frozen? ⟨g, 2, none⟩ = false :=
  ⟨h.cell 0, h.cell 1, h.cell 2, h.frozen 0, h.frozen 1, h.frozen 2⟩

def FailPost (g : Nat) (t : TypeId) (tl : RTl) (s : St) (w : World) (e : Ending) (w' : World) : Prop := (∃ u, e = .returned u) ∧ RdrAt w' g t tl s ∧ Chg (fun k => k = g) w w'
/-- How many bytes were read. -/
def readS (n : Nat) (s : St) : Int := match s with
  | .error _ => 0
  | .ok l => (n : Int) - l.length
def errS (s : St) : Int := match s with
  | .error e => e
  | .ok _ => 0
/-- A number that was read. -/
def RPost (K : IntKind) (hi : Int) (p : PR Int) (g : Nat) (t : TypeId) (tl : RTl) (s : St) (w : World) (e : Ending) (w' : World) : Prop :=
  ∃ x, e = .returned (.int K x) ∧ 0 ≤ x ∧ x ≤ hi ∧ RdrAt w' g t tl (nx p s) ∧ (∀ a l', bd s p = .ok (a, l') → x = a) ∧ Chg (fun k => k = g) w w'

/-- Bytes that were read, into new memory. -/
def BPost (p : PR (List Int)) (g : Nat) (t : TypeId) (tl : RTl) (s : St) (w : World) (e : Ending) (w' : World) : Prop :=
  ∃ v y, e = .returned v ∧ OwnB w' w.heap.size v y ∧ IsBytes y ∧ RdrAt w' g t tl (nx p s) ∧ (∀ a l', bd s p = .ok (a, l') → y = a) ∧ Chg (fun k => k = g) w w' ∧ y.length ≤ 1000000

end Go.Proofs.Ytfmncljcogijhaa
