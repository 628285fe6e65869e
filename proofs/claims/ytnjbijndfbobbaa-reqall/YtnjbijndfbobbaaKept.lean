/- A twin that is as it was is told so. -/
import Derived.Test.YtnjbijndfbobbaaTwin
namespace Go.Proofs.Ytnjbijndfbobbaa
open Go.RowKit
set_option maxRecDepth 100000
set_option linter.unusedVariables false

theorem kept_any (g : Nat) (A : Option Addr) (l : List Int) (n c : Nat) (w : World) (h : Rd w w.heap.size A l) (hn : n = l.length) (hl : n ≤ 1000000)
    (ho : Own w g 5 (l.map (Value.int .u8) ++ [.int .u8 229, .int .u8 229, .int .u8 229])) :
    Calls Try.prog 18 #[.slice (some ⟨g, 0, none⟩) n (n + 3), .slice A n c] w fun e w' => e = .returned (.bool true) ∧ w = w' := by
  have hs1 := (ho.rd h.1).string (n + 3)
  have hs2 := h.string c
  rw [← hn] at hs1 hs2
  have heq : ((strOfNums l).toList == (strOfNums l).toList) = true := by simp
  have h0 : w.cell? ⟨g, n, none⟩ = some (.int .u8 229) := by
    rw [ho.cell, List.getElem?_append_right (by simp; omega)]; simp [← hn]
  have h1 : w.cell? ⟨g, n + 1, none⟩ = some (.int .u8 229) := by
    rw [ho.cell, List.getElem?_append_right (by simp; omega)]; simp [← hn]
  have h2 : w.cell? ⟨g, n + 2, none⟩ = some (.int .u8 229) := by
    rw [ho.cell, List.getElem?_append_right (by simp; omega)]; simp [← hn]
  have HC : Hid (∀ k, n ≤ k → k < n + 3 → w.cell? ⟨g, k, none⟩ = some (.int .u8 229)) := by
    intro k a b
    rcases (show k = n ∨ k = n + 1 ∨ k = n + 2 by omega) with rfl | rfl | rfl
    · exact h0
    · exact h1
    · exact h2
  clear h0 h1 h2 ho hn h
  go_enter Try.func18, Try.ntmps18
  go_wp2
  go_loop [6] (fun i => ∃ k : Nat, n ≤ k ∧ k ≤ n + 3 ∧ i = .int .i64 k) (fun i => n + 3 - (intOf i).toNat)
  case atStart => exact ⟨n, Nat.le_refl _, by omega, rfl⟩
  case round =>
    obtain ⟨k, hk1, hk2, rfl⟩ := hrel
    by_cases hlt : k < n + 3
    · have hc := HC.out k hk1 hlt
      go_wp2
      exact ⟨⟨k + 1, by omega, by omega, by go_num⟩, by simp [intOf]; omega⟩
    · go_wp2
      go_ret
      exact ⟨rfl, rfl⟩
end Go.Proofs.Ytnjbijndfbobbaa
