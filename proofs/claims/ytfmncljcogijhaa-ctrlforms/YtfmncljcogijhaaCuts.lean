/- Pieces of a slice: one equation for each, whatever the capacity. -/
import Derived.Test.YtfmncljcogijhaaMem
namespace Go.Proofs.Ytfmncljcogijhaa
open Go.RowKit
set_option maxRecDepth 100000
set_option linter.unusedVariables false

/-- Where a piece lies. -/
def PieceOf (A A' : Option Addr) (k : Nat) (sz : Nat) : Prop := ∀ (X : Nat → Prop) (w : World) (vs : List Value), RdV X w A vs → RdV X w A' (vs.drop (k * sz))
theorem add_add' (a : Addr) (i j : Nat) : (a.add i).add j = a.add (i + j) := by
  unfold Addr.add
  by_cases hi : i = 0 <;> by_cases hj : j = 0 <;> simp [hi, hj, Nat.add_assoc]
theorem piece_of (A : Option Addr) (k cap sz : Nat) : ∀ (X : Nat → Prop) (w : World) (vs : List Value), vs.length ≤ cap * sz → RdV X w A vs → RdV X w (if cap = k then A else A.map (·.add (k * sz))) (vs.drop (k * sz)) := by
  intro X w vs hlen h
  by_cases hc : cap = k
  · subst hc
    rw [List.drop_of_length_le hlen]
    exact RdV.nil _ _ _
  · rw [if_neg hc]
    intro j u hu
    rw [List.getElem?_drop] at hu
    obtain ⟨ad, rfl, hX, hcell⟩ := h _ u hu
    exact ⟨ad.add (k * sz), rfl, by rw [addBlock]; exact hX, by rw [add_add']; exact hcell⟩

theorem elem_of {t e : TypeId} (hu : Try.prog.underlying t = some (.slice e)) : Try.prog.elem t = e := by simp [Program.elem, hu]
section
variable {t e : TypeId} {sz : Nat} (hu : Try.prog.underlying t = some (.slice e)) (hinf : (Try.prog.info? e).map (·.size) = some sz)
include hu hinf
theorem run_sz (W : World) : (sizeOf (Try.prog.elem t)).run Try.prog W = .ok sz W := by
  rw [elem_of hu]
  obtain ⟨i, hi, hs⟩ := Option.map_eq_some_iff.1 hinf
  simp [sizeOf, typeInfo, hi, hs]
/-- s[l:h] -/
theorem cut_lh (A : Option Addr) (n cap : Nat) (li hi : Int) (l h : Nat) (m : Nat) (hl : li = l) (hh : hi = h) (hm : m = h - l) (h1 : l ≤ h) (h2 : h ≤ cap) :
    ∃ A' c', (∀ W, (Instr.sliceAt t (.slice A n cap) (some (.int .i64 li)) (some (.int .i64 hi)) none).run Try.prog W = .ok (.slice A' m c') W) ∧ c' = cap - l ∧
      ∀ (X : Nat → Prop) (w : World) (vs : List Value), vs.length ≤ cap * sz → RdV X w A vs → RdV X w A' ((vs.drop (l * sz)).take (m * sz)) := by
  subst hl; subst hh; subst hm
  have hu' : Try.prog.underlying t = some (.slice (Try.prog.elem t)) := by rw [elem_of hu]; exact hu
  refine ⟨if cap = l then A else A.map (·.add (l * sz)), cap - l, fun W => ?_, rfl, fun X w vs hv hr => (piece_of A l cap sz X w vs hv hr).take _⟩
  rw [run_sliceAt_slice W t _ _ _ _ hu', run_slice_lh W t A n cap hu' .i64 .i64 l h (by omega) (by omega) (by omega), run_sz hu hinf]
  simp [Result.andThen, sliced]
/-- s[l:] -/
theorem cut_l (A : Option Addr) (n cap : Nat) (li : Int) (l : Nat) (m : Nat) (hl : li = l) (hm : m = n - l) (h1 : l ≤ n) (h2 : n ≤ cap) :
    ∃ A' c', (∀ W, (Instr.sliceAt t (.slice A n cap) (some (.int .i64 li)) none none).run Try.prog W = .ok (.slice A' m c') W) ∧ c' = cap - l ∧
      ∀ (X : Nat → Prop) (w : World) (vs : List Value), vs.length ≤ cap * sz → RdV X w A vs → RdV X w A' (vs.drop (l * sz)) := by
  subst hl; subst hm
  have hu' : Try.prog.underlying t = some (.slice (Try.prog.elem t)) := by rw [elem_of hu]; exact hu
  refine ⟨if cap = l then A else A.map (·.add (l * sz)), cap - l, fun W => ?_, rfl, fun X w vs hv hr => piece_of A l cap sz X w vs hv hr⟩
  rw [run_sliceAt_slice W t _ _ _ _ hu', run_slice_l W t A n cap hu' .i64 l (by omega) (by omega), run_sz hu hinf]
  simp [Result.andThen, sliced]
/-- s[l:], by a number of whatever kind -/
theorem cut_lK (K : IntKind) (A : Option Addr) (n cap : Nat) (li : Int) (l : Nat) (m : Nat) (hl : li = l) (hm : m = n - l) (h1 : l ≤ n) (h2 : n ≤ cap) :
    ∃ A' c', (∀ W, (Instr.sliceAt t (.slice A n cap) (some (.int K li)) none none).run Try.prog W = .ok (.slice A' m c') W) ∧ c' = cap - l ∧
      ∀ (X : Nat → Prop) (w : World) (vs : List Value), vs.length ≤ cap * sz → RdV X w A vs → RdV X w A' (vs.drop (l * sz)) := by
  subst hl; subst hm
  have hu' : Try.prog.underlying t = some (.slice (Try.prog.elem t)) := by rw [elem_of hu]; exact hu
  refine ⟨if cap = l then A else A.map (·.add (l * sz)), cap - l, fun W => ?_, rfl, fun X w vs hv hr => piece_of A l cap sz X w vs hv hr⟩
  rw [run_sliceAt_slice W t _ _ _ _ hu', run_slice_l W t A n cap hu' K l (by omega) (by omega), run_sz hu hinf]
  simp [Result.andThen, sliced]
/-- s[:h] -/
theorem cut_h (A : Option Addr) (n cap : Nat) (hi : Int) (h : Nat) (hh : hi = h) (h2 : h ≤ cap) :
    ∃ A' c', (∀ W, (Instr.sliceAt t (.slice A n cap) none (some (.int .i64 hi)) none).run Try.prog W = .ok (.slice A' h c') W) ∧ c' = cap ∧
      ∀ (X : Nat → Prop) (w : World) (vs : List Value), vs.length ≤ cap * sz → RdV X w A vs → RdV X w A' (vs.take (h * sz)) := by
  subst hh
  have hu' : Try.prog.underlying t = some (.slice (Try.prog.elem t)) := by rw [elem_of hu]; exact hu
  refine ⟨if cap = 0 then A else A.map (·.add (0 * sz)), cap, fun W => ?_, rfl, fun X w vs hv hr => ?_⟩
  · rw [run_sliceAt_slice W t _ _ _ _ hu', run_slice_h W t A n cap hu' .i64 h (by omega) (by omega), run_sz hu hinf]
    simp [Result.andThen, sliced]
  · have := (piece_of A 0 cap sz X w vs hv hr).take (h * sz)
    simpa using this
end

/-- s[l:h] of bytes -/
theorem cutB_lh (A : Option Addr) (n cap : Nat) (li hi : Int) (l h : Nat) (m : Nat) (hl : li = l) (hh : hi = h) (hm : m = h - l) (h1 : l ≤ h) (h2 : h ≤ cap) :
    ∃ A' c', (∀ W, (Instr.sliceAt 22 (.slice A n cap) (some (.int .i64 li)) (some (.int .i64 hi)) none).run Try.prog W = .ok (.slice A' m c') W) ∧ c' = cap - l ∧
      ∀ (X : Nat → Prop) (w : World) (xs : List Int), xs.length ≤ cap → RdX X w A xs → RdX X w A' ((xs.drop l).take m) := by
  obtain ⟨A', c', h1, h2, h3⟩ := cut_lh under_bytes byte_size A n cap li hi l h m hl hh hm h1 h2
  refine ⟨A', c', h1, h2, fun X w xs hx hr => ⟨IsBytes.take (IsBytes.drop hr.1 _) _, ?_⟩⟩
  have := h3 X w _ (by simpa using hx) hr.2
  simpa [List.map_take, List.map_drop] using this
theorem cutB_l (A : Option Addr) (n cap : Nat) (li : Int) (l : Nat) (m : Nat) (hl : li = l) (hm : m = n - l) (h1 : l ≤ n) (h2 : n ≤ cap) :
    ∃ A' c', (∀ W, (Instr.sliceAt 22 (.slice A n cap) (some (.int .i64 li)) none none).run Try.prog W = .ok (.slice A' m c') W) ∧ c' = cap - l ∧
      ∀ (X : Nat → Prop) (w : World) (xs : List Int), xs.length ≤ cap → RdX X w A xs → RdX X w A' (xs.drop l) := by
  obtain ⟨A', c', h1, h2, h3⟩ := cut_l under_bytes byte_size A n cap li l m hl hm h1 h2
  refine ⟨A', c', h1, h2, fun X w xs hx hr => ⟨IsBytes.drop hr.1 _, ?_⟩⟩
  have := h3 X w _ (by simpa using hx) hr.2
  simpa [List.map_drop] using this
theorem cutB_lK (K : IntKind) (A : Option Addr) (n cap : Nat) (li : Int) (l : Nat) (m : Nat) (hl : li = l) (hm : m = n - l) (h1 : l ≤ n) (h2 : n ≤ cap) :
    ∃ A' c', (∀ W, (Instr.sliceAt 22 (.slice A n cap) (some (.int K li)) none none).run Try.prog W = .ok (.slice A' m c') W) ∧ c' = cap - l ∧
      ∀ (X : Nat → Prop) (w : World) (xs : List Int), xs.length ≤ cap → RdX X w A xs → RdX X w A' (xs.drop l) := by
  obtain ⟨A', c', h1, h2, h3⟩ := cut_lK under_bytes byte_size K A n cap li l m hl hm h1 h2
  refine ⟨A', c', h1, h2, fun X w xs hx hr => ⟨IsBytes.drop hr.1 _, ?_⟩⟩
  have := h3 X w _ (by simpa using hx) hr.2
  simpa [List.map_drop] using this
theorem cutB_h (A : Option Addr) (n cap : Nat) (hi : Int) (h : Nat) (hh : hi = h) (h2 : h ≤ cap) :
    ∃ A' c', (∀ W, (Instr.sliceAt 22 (.slice A n cap) none (some (.int .i64 hi)) none).run Try.prog W = .ok (.slice A' h c') W) ∧ c' = cap ∧
      ∀ (X : Nat → Prop) (w : World) (xs : List Int), xs.length ≤ cap → RdX X w A xs → RdX X w A' (xs.take h) := by
  obtain ⟨A', c', h1, h2, h3⟩ := cut_h under_bytes byte_size A n cap hi h hh h2
  refine ⟨A', c', h1, h2, fun X w xs hx hr => ⟨IsBytes.take hr.1 _, ?_⟩⟩
  have := h3 X w _ (by simpa using hx) hr.2
  simpa [List.map_take] using this
end Go.Proofs.Ytfmncljcogijhaa
