/- []byte(s). -/
import Derived.Test.YtgbjlcedabkdkaaDoorMem
import Derived.Lib.ConvBytes
namespace Go.Proofs.YtgbjlcedabkdkaaDoor
open Go.RowKit
set_option maxRecDepth 100000
set_option linter.unusedVariables false

/-- []byte(s). -/
theorem conv_bytes (w : World) (l : List Int) (hl : IsBytes l) (hn : l.length ≤ 1000000) : ∃ c W, (convert 9 22 (.string (strOfNums l))).run Tryd.prog w = .ok (.slice (some ⟨w.heap.size, 0, none⟩) l.length c) W ∧ Rd W W.heap.size (some ⟨w.heap.size, 0, none⟩) l ∧ Below w.heap.size w W ∧ l.length ≤ c ∧ c ≤ maxLen := by
  have hss : (strOfNums l).size = l.length := strOfNums_size l
  have h := Lib.run_convert_string_bytes (P := Tryd.prog) w 9 22 5 (strOfNums l) under_string under_bytes under_byte
  rw [hss] at h
  refine ⟨_, _, h, ⟨hl, fun j hj => ⟨_, rfl, ?_, ?_⟩⟩, ⟨rfl, rfl, rfl, ?_, fun k hk => Lib.bytesWorld_at_old w _ _ k hk⟩, grownCap_ge w _ _ _, grownCap_le_maxLen w _ _ _ (by simp only [maxLen]; omega)⟩
  · rw [Lib.bytesWorld_size]; simp
  · rw [addPlain, Nat.zero_add, Lib.bytesWorld_cell w _ _ j (by rw [hss]; exact hj)]
    obtain ⟨z0, z1⟩ := hl (l.getD j 0) (by rw [List.getD_eq_getElem?_getD, List.getElem?_eq_getElem hj]; exact List.getElem_mem hj)
    rw [strOfNums_data, List.getD_eq_getElem?_getD, List.getElem?_map, List.getElem?_eq_getElem hj]
    rw [List.getD_eq_getElem?_getD, List.getElem?_eq_getElem hj] at z0 z1 ⊢
    simp only [Option.map_some, Option.getD_some] at z0 z1 ⊢
    rw [UInt8.toNat_ofNat_of_lt' (by simp; omega)]
    congr 2; omega
  · rw [Lib.bytesWorld_size]; omega

end Go.Proofs.YtgbjlcedabkdkaaDoor
