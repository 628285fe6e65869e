/- The walk of OpForms: out of the contracts. -/
import Derived.Test.YtonkcfnegnghcaaBegun5
namespace Go.Proofs.Ytonkcfnegnghcaa
open Go.RowKit
set_option maxRecDepth 100000
set_option linter.unusedVariables false

def f5o : List Int := [0, 2, 5, 6, 11, 12, 14, 17, 18, 27, 28, 29, 36, 37, 39, 40, 42, 63, 65, 66, 67, 90, 91, 103, 138, 139, 167, 168, 173, 174, 196, 197, 208, 210, 211, 252, 253, 64512, 64520, 64529, 64530, 64800, -1, 130056]
def f5k : List Int := [0, 6, 0, -1, 0, 1, 7, 2, -1, 0, 8, -1, 1, 1, -1, 5, -2, 1, 3, 4, -2, 0, -2, 0, 0, -2, 0, -2, 0, -2, 0, -1, 8, 1, -1, -1, -2, -2, 2, 1, -1, -2, -1, -1]
theorem f5_tab (k : Nat) (hk : k < 44) : ∃ z q, (f5o.map (Value.int .i64))[k]? = some (.int .i64 z) ∧ (f5k.map (Value.int .i64))[k]? = some (.int .i64 q) ∧ ((q = -1 ∧ kd z = (0, 2)) ∨ (q = -2 ∧ kd z = (0, 5)) ∨ ((q == -1) = false ∧ (q == -2) = false ∧ kd z = (q, 0))) := by
  have key : ∀ k : Fin 44, (f5k.getD k.val 0 = -1 ∧ kd (f5o.getD k.val 0) = (0, 2)) ∨ (f5k.getD k.val 0 = -2 ∧ kd (f5o.getD k.val 0) = (0, 5)) ∨ ((f5k.getD k.val 0 == -1) = false ∧ (f5k.getD k.val 0 == -2) = false ∧ kd (f5o.getD k.val 0) = (f5k.getD k.val 0, 0)) := by decide +kernel
  refine ⟨f5o.getD k 0, f5k.getD k 0, ?_, ?_, key ⟨k, hk⟩⟩
  · rw [List.getElem?_map, List.getElem?_eq_getElem (show k < f5o.length from hk), List.getD_eq_getElem?_getD, List.getElem?_eq_getElem (show k < f5o.length from hk)]; rfl
  · rw [List.getElem?_map, List.getElem?_eq_getElem (show k < f5k.length from hk), List.getD_eq_getElem?_getD, List.getElem?_eq_getElem (show k < f5k.length from hk)]; rfl
set_option maxHeartbeats 4000000 in
theorem opForms_core (w : World) : Calls Try.prog 6 #[] w fun e w' => e = .returned (.bool true) ∧ Below w.heap.size w w' := by
  go_enter Try.func6, Try.ntmps6
  go_wp2_with fail
  refine (begun5_any w).mono ?_
  rintro e w1 ⟨rfl, hb1⟩
  have HB1 := Lib.hid hb1
  clear hb1
  go_wp2
  go_loopw [3] (fun i wr => ∃ (k : Nat), k ≤ 44 ∧ i = .int .i64 k ∧ Hid (Own wr w1.heap.size 3 (f5o.map (Value.int .i64)) ∧ Own wr (w1.heap.size + 1) 3 (f5k.map (Value.int .i64)) ∧ Below w.heap.size w wr)) (fun i _ => 44 - (intOf i).toNat)
  case atStart =>
    refine ⟨0, by omega, rfl, ?_, ?_, ?_⟩
    · exact (Own.new w1 3 (f5o.map (Value.int .i64))).later ((Below.refl _ _).alloc (Nat.le_refl _) _)
    · have := Own.new (w1.alloc (.cells (f5o.map (Value.int .i64)).toArray 3)) 3 (f5k.map (Value.int .i64))
      rw [show (w1.alloc (.cells (f5o.map (Value.int .i64)).toArray 3)).heap.size = w1.heap.size + 1 from by simp] at this
      exact this
    · exact HB1.out.trans ((((Below.refl w1.heap.size w1).alloc (Nat.le_refl _) _).alloc (by simp) _).mono HB1.out.size)
  case round =>
    obtain ⟨k, hk, rfl, HX⟩ := hrel
    by_cases hlt : k < 44
    · obtain ⟨z, q, hz, hq, hcase⟩ := f5_tab k hlt
      have hc1 := HX.out.1.cell k
      have hc2 := HX.out.2.1.cell k
      rw [hz] at hc1
      rw [hq] at hc2
      have hlt2 : (k : Int) < 44 := by omega
      clear hz hq
      go_wp2_with fail
      refine (kind_any z wr).mono ?_
      rintro e w' ⟨rfl, rfl⟩
      unfold pr
      rcases hcase with ⟨rfl, hd⟩ | ⟨rfl, hd⟩ | ⟨hq1, hq2, hd⟩
      all_goals (rw [hd]; clear hd; go_wp2; refine ⟨⟨k + 1, by omega, by go_num, HX.out⟩, ?_⟩; simp [intOf]; omega)
    · obtain rfl : k = 44 := by omega
      go_wp2
      go_ret
      exact ⟨rfl, HX.out.2.2⟩
end Go.Proofs.Ytonkcfnegnghcaa
