/- From slices of bytes that came in to what they read as. -/
import Derived.Test.YtfmncljcogijhaaMem
import Derived.Test.YtfmncljcogijhaaRows1
import Derived.OpenShut
import Derived.Deep.Fields
import Derived.Lib.SmallJoins
namespace Go.Proofs.Ytfmncljcogijhaa
open Go.RowKit Go.ChangeShapes Go.WideShapes Go.Joins Go.Deep
set_option maxRecDepth 100000
set_option linter.unusedVariables false

section
variable {H : Type} {enc : TypeId × Value → H} {W : World}
theorem open_byt1 {fuel : Nat} {v : Value} {x : DataW H × List MemPlace} (h : DataW.trod enc Try.prog W 0 (fun _ => true) true fuel 22 [v] = some x) :
    ∃ A c l, v = .slice A l.length c ∧ l.length ≤ c ∧ c ≤ maxLen ∧ RdX (· < W.heap.size) W A l := by
  rcases open_ints Try.underlying22 Try.underlying5 (by kernel_rfl) h with ⟨hcs, _⟩ | ⟨x, l, c, zs, hcs, _, hl, hm, hz, _, hcell, hwz⟩
  · simp at hcs
    subst hcs
    exact ⟨none, 0, [], rfl, by simp, by simp, RdX.nil _ _ _⟩
  · simp at hcs
    subst hcs
    have hzl : zs.length = c := by simpa using hz
    refine ⟨some x, c, zs.take l, by rw [List.length_take, hzl, Nat.min_eq_left hl], by rw [List.length_take]; omega, hm, fun z hzz => u8_of_wf (hwz z (List.mem_of_mem_take hzz)), fun j u hu => ?_⟩
    rw [List.getElem?_map] at hu
    obtain ⟨z, hz', rfl⟩ := Option.map_eq_some_iff.1 hu
    have hjl : j < l := by have := (List.getElem?_eq_some_iff.1 hz').1; rw [List.length_take] at this; omega
    have hc := hcell j (by omega)
    rw [List.getElem?_take_of_lt hjl] at hz'
    rw [List.getD_eq_getElem?_getD, hz'] at hc
    exact ⟨x, rfl, by have := lt_of_cell hc; rwa [addBlock] at this, hc⟩
theorem open_byt2 {b0 : Nat} {v : Value} {d : DataW H} {p : List MemPlace} (hv : Value.okWide Try.prog W .any b0 22 v) (h : DataW.Trod enc Try.prog W 0 (fun _ => true) true 22 v d p) :
    ∃ A c l, v = .slice A l.length c ∧ l.length ≤ c ∧ c ≤ maxLen ∧ RdX (· < W.heap.size) W A l := by
  obtain ⟨a0, len0, cap0, rfl⟩ := okWide_slice Try.underlying22 hv
  obtain ⟨fuel, hf⟩ := h
  exact open_byt1 (by simpa [Value.cells] using hf)
end
end Go.Proofs.Ytfmncljcogijhaa
