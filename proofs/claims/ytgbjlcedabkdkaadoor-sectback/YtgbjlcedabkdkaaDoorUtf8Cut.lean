/- Pieces of bytes for the walk of utf8.Valid; the tables of unicode/utf8. -/
import Derived.Test.YtgbjlcedabkdkaaDoorUtf8Word
import Derived.Lib.LaidU8T
import Derived.Deep.LoopGhost
import Derived.Deep.DeepCutAuto
import Derived.Deep.CutBlock
import Derived.Handy
namespace Go.Proofs.YtgbjlcedabkdkaaDoor
open Go.RowKit
set_option maxRecDepth 100000
set_option linter.unusedVariables false

/-- unicode/utf8's two tables, as their text lays them. -/
def Tabs (w : World) : Prop := Lib.Utf8Tabs 0 1 w
theorem Tabs.later {w w' : World} (h : Tabs w) (hb : Below w.heap.size w w') : Tabs w' := Utf8Tabs_below h hb
theorem Tabs.lt {w : World} (h : Tabs w) : 1 < w.heap.size := by
  have hc := (h.2 0 (by omega)).1
  rcases Nat.lt_or_ge 1 w.heap.size with h' | h'
  · exact h'
  · simp [World.cell?, Array.getElem?_eq_none h'] at hc
theorem Tabs.chg {S : Nat → Prop} {w w' : World} (h : Tabs w) (hc : Chg S w w') (hs : ∀ k, k ≤ 1 → ¬ S k) : Tabs w' := by
  have hlt := h.lt
  have hb : Below 2 w w' := hc.below (by omega) fun i hi => hs i (by omega)
  exact ⟨fun c hc => (hb.cell (by simp)).trans (h.1 c hc), fun i hi => ⟨(hb.cell (by simp)).trans (h.2 i hi).1, (hb.cell (by simp)).trans (h.2 i hi).2⟩⟩
theorem cutK {X : Nat → Prop} (w : World) (A : Option Addr) (t : List Int) (m c k m1 : Nat) (ki : Int) (hki : ki = k) (h : RdX X w A t) (hm : m = t.length) (hmc : m ≤ c) (h1 : m1 + k = m) :
    ∃ A' c', (∀ W, (Instr.sliceAt 22 (.slice A m c) (some (.int .i64 ki)) none none).run Tryd.prog W = .ok (.slice A' m1 c') W) ∧ m1 ≤ c' ∧ RdX X w A' (t.drop k) ∧ m1 = (t.drop k).length := by
  obtain ⟨A', c', h2, h3, h4⟩ := cutB_l A m c ki k m1 hki (by omega) (by omega) hmc
  exact ⟨A', c', h2, by omega, h4 X w t (by omega) h, by rw [List.length_drop]; omega⟩
/-- s[:h:h] of all of s -/
theorem cutMax {X : Nat → Prop} (A : Option Addr) (n c : Nat) (hnc : n ≤ c) :
    ∃ A', (∀ W, (Instr.sliceAt 22 (.slice A n c) none (some (.int .i64 (n : Nat))) (some (.int .i64 (n : Nat)))).run Tryd.prog W = .ok (.slice A' n n) W) ∧ ∀ (w : World) (t : List Int), t.length = n → RdX X w A t → RdX X w A' t := by
  have hu' : Tryd.prog.underlying 22 = some (.slice (Tryd.prog.elem 22)) := by rw [elem_of under_bytes]; exact under_bytes
  refine ⟨if n = 0 then A else A.map (·.add (0 * 1)), fun W => ?_, fun w t ht h => ?_⟩
  · rw [run_sliceAt_slice W 22 _ _ _ _ hu', run_slice_hm W 22 A n c hu' .i64 .i64 n n (by omega) (by omega) (by omega), run_sz under_bytes byte_size]
    simp [Result.andThen, sliced]
  · by_cases h0 : n = 0
    · obtain rfl : t = [] := List.eq_nil_of_length_eq_zero (by omega)
      exact RdX.nil _ _ _
    · rw [if_neg h0]
      cases A with
      | none => exact h
      | some a => simpa [addZero] using h
end Go.Proofs.YtgbjlcedabkdkaaDoor
