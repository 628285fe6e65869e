/- From a slice of slices of bytes that came in to what it reads as. -/
import Derived.Test.YtcblpnojilfidaaLists
import Derived.Test.YtcblpnojilfidaaRows1
import Derived.Deep.Matrix
import Derived.OpenShut
namespace Go.Proofs.Ytcblpnojilfidaa
open Go.RowKit Go.ChangeShapes Go.WideShapes
set_option linter.unusedVariables false

theorem lists_of_rows {W : World} {a : Addr} {len cap : Nat} {A : Nat → Option Addr} {L C : Nat → Nat} {Z : Nat → List Int} (hl : len ≤ cap) (hm : cap ≤ maxLen)
    (h : ∀ r, r < cap → W.cell? (a.add r) = some (.slice (A r) (L r) (C r)) ∧ L r ≤ C r ∧ C r ≤ maxLen ∧ (Z r).length = C r ∧ (∀ n ∈ Z r, (Lit.int .u8 n).wf = true) ∧ (A r = none → C r = 0) ∧
        ∀ a', A r = some a' → 0 ≤ a'.block ∧ ∀ c, c < C r → W.cell? (a'.add c) = some (.int .u8 ((Z r).getD c 0))) :
    ∃ ls, len = ls.length ∧ RdL (· < W.heap.size) W (.slice (some a) len cap) ls := by
  refine ⟨(List.range len).map fun r => (Z r).take (L r), by simp, some a, cap, (List.range len).map fun r => .slice (A r) (L r) (C r), by simp, by simpa using hl, hm, fun j u hu => ?_, by simp, fun j u x hu hx => ?_⟩
  · rw [List.getElem?_map] at hu
    obtain ⟨r, hr, rfl⟩ := Option.map_eq_some_iff.1 hu
    have hjr : j < len := by have := (List.getElem?_eq_some_iff.1 hr).1; simpa using this
    rw [List.getElem?_range hjr] at hr
    injection hr with hr
    subst hr
    have hc := (h j (by omega)).1
    exact ⟨a, rfl, by have := World.block_lt_of_cell? W _ hc; rwa [addBlock] at this, hc⟩
  · rw [List.getElem?_map] at hu hx
    obtain ⟨r, hr, rfl⟩ := Option.map_eq_some_iff.1 hu
    obtain ⟨r', hr', rfl⟩ := Option.map_eq_some_iff.1 hx
    rw [hr] at hr'
    injection hr' with hr'
    subst hr'
    have hjr : j < len := by have := (List.getElem?_eq_some_iff.1 hr).1; simpa using this
    rw [List.getElem?_range hjr] at hr
    injection hr with hr
    subst hr
    obtain ⟨h1, h2, h3, h4, h5, h6, h7⟩ := h j (by omega)
    have hlen : ((Z j).take (L j)).length = L j := by rw [List.length_take, h4]; omega
    refine ⟨A j, C j, by rw [hlen], by rw [hlen]; exact h2, h3, fun z hz => u8_of_wf (h5 z (List.mem_of_mem_take hz)), fun i y hy => ?_⟩
    rw [List.getElem?_map] at hy
    obtain ⟨z, hz, rfl⟩ := Option.map_eq_some_iff.1 hy
    have hi : i < L j := by have := (List.getElem?_eq_some_iff.1 hz).1; rwa [hlen] at this
    rcases hA : A j with _ | a'
    · have := h6 hA; omega
    · have hc := (h7 a' hA).2 i (by omega)
      refine ⟨a', rfl, by have := World.block_lt_of_cell? W _ hc; rwa [addBlock] at this, ?_⟩
      rw [hc]
      rw [List.getElem?_take_of_lt hi] at hz
      rw [List.getD_eq_getElem?_getD, hz]
      rfl

section
variable {H : Type} {enc : TypeId × Value → H} {W : World}
theorem open_lists {b0 : Nat} {v : Value} {d : DataW H} {p : List MemPlace} (hv : Value.okWide Try.prog W .any b0 22 v) (h : DataW.Trod enc Try.prog W 0 (fun _ => true) true 22 v d p) :
    ∃ A n c ls, v = .slice A n c ∧ n = ls.length ∧ n ≤ maxLen ∧ RdL (· < W.heap.size) W v ls := by
  obtain ⟨a0, len0, cap0, rfl⟩ := okWide_slice Try.underlying22 hv
  obtain ⟨fuel, hf⟩ := h
  rcases Go.Deep.open_int_rows Try.underlying22 Try.underlying27 Try.underlying5 (by kernel_rfl) (by kernel_rfl) hf with ⟨hcs, _⟩ | ⟨a, len, cap, A, L, C, Z, hcs, _, hl, hm, _, hx⟩
  · simp [Value.cells] at hcs
    obtain ⟨rfl, rfl, rfl⟩ := hcs
    exact ⟨none, 0, 0, [], rfl, rfl, by simp, none, 0, [], rfl, by simp, by simp, RdV.nil _ _ _, All2.nil⟩
  · simp [Value.cells] at hcs
    obtain ⟨rfl, rfl, rfl⟩ := hcs
    obtain ⟨ls, h1, h2⟩ := lists_of_rows hl hm hx
    exact ⟨_, _, _, ls, rfl, h1, by omega, h2⟩
theorem open_bytes {b0 : Nat} {v : Value} {d : DataW H} {p : List MemPlace} (hv : Value.okWide Try.prog W .any b0 27 v) (h : DataW.Trod enc Try.prog W 0 (fun _ => true) true 27 v d p) :
    ∃ A n c l, v = .slice A n c ∧ n = l.length ∧ n ≤ c ∧ n ≤ maxLen ∧ Rd W W.heap.size A l := by
  obtain ⟨a0, len0, cap0, rfl⟩ := okWide_slice Try.underlying27 hv
  obtain ⟨fuel, hf⟩ := h
  rcases open_ints Try.underlying27 Try.underlying5 (by kernel_rfl) hf with ⟨hcs, _⟩ | ⟨x, l, c, zs, hcs, _, hl, hm, hz, _, hcell, hwz⟩
  · simp [Value.cells] at hcs
    obtain ⟨rfl, rfl, rfl⟩ := hcs
    exact ⟨none, 0, 0, [], rfl, rfl, by simp, by simp, Rd.nil _ _ _⟩
  · simp [Value.cells] at hcs
    obtain ⟨rfl, rfl, rfl⟩ := hcs
    obtain ⟨l', h1, h2, h3⟩ := rd_of_row (.inr ⟨x, rfl, hl, hm, by simpa using hz, hcell, hwz⟩)
    exact ⟨_, _, _, l', rfl, h1, hl, h3, h2⟩
end
end Go.Proofs.Ytcblpnojilfidaa
