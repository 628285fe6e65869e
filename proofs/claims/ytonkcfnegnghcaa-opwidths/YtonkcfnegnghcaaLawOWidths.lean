/- The walk of OpWidths: out of the contracts. -/
import Derived.Test.YtonkcfnegnghcaaBegun5
import Derived.BigQuiet
namespace Go.Proofs.Ytonkcfnegnghcaa
open Go.RowKit
set_option maxRecDepth 100000
set_option linter.unusedVariables false

theorem all5_wd : ∀ k : Fin 125, (wd (all5.getD k.val 0) = 0 ∧ (kd (all5.getD k.val 0)).1 ≠ 5) ∨ ((wd (all5.getD k.val 0) = 1 ∨ wd (all5.getD k.val 0) = 2 ∨ wd (all5.getD k.val 0) = 4 ∨ wd (all5.getD k.val 0) = 8) ∧ (kd (all5.getD k.val 0)).1 = 5) := by decide +kernel
theorem all5_up : ∀ k : Fin 124, all5.getD k.val 0 < all5.getD (k.val + 1) 0 := by decide +kernel
theorem wd_m1 : wd (-1) = 0 := by decide
theorem wd_2a : wd 42 = 0 := by decide
set_option maxHeartbeats 4000000 in
theorem opWidths_core (w : World) : Calls Try.prog 5 #[] w fun e w' => e = .returned (.bool true) ∧ Below w.heap.size w w' := by
  go_enter Try.func5, Try.ntmps5
  go_wp2_with fail
  refine (begun5_any w).mono ?_
  rintro e w1 ⟨rfl, hb1⟩
  have HB1 := Lib.hid hb1
  clear hb1
  go_wp2_with fail
  refine (names_any w1).mono ?_
  rintro e w3 ⟨v2, rfl, ho2, hb2⟩
  obtain ⟨A, c, rfl, hc1, hc2, hr⟩ := ho2.rdI
  obtain ⟨b, o, rfl, hcell⟩ := hr.spot (by rw [all5_len]; omega)
  have hX : ∀ wr, Below w3.heap.size w3 wr → ∀ j, j < 125 → wr.cell? ⟨b, o + j, none⟩ = some (.int .i64 (all5.getD j 0)) := fun wr h j hj => by
    have h1 := hcell j (by rw [all5_len]; exact hj)
    exact (h.cell (World.block_lt_of_cell? w3 _ h1)).trans h1
  have HX := Lib.hid hX
  have HB3 := Lib.hid (HB1.out.trans (hb2.mono HB1.out.size))
  rw [all5_len] at *
  clear hX hcell hr ho2 hb2 HB1
  go_wp2
  go_loopw [2] (fun i wr => ∃ (k : Nat), k ≤ 125 ∧ i = .int .i64 k ∧ Hid (Below w3.heap.size w3 wr)) (fun i _ => 125 - (intOf i).toNat)
  case atStart => exact ⟨0, by omega, rfl, Below.refl _ _⟩
  case round =>
    obtain ⟨k, hk, rfl, HW⟩ := hrel
    by_cases hlt : k < 125
    · have hlt2 : (k : Int) < 125 := by omega
      have h1 := HX.out wr HW.out k hlt
      have hz := all5_wd ⟨k, hlt⟩
      have hup : k = 0 ∨ ∃ j z', k = j + 1 ∧ z' < all5.getD k 0 ∧ wr.cell? ⟨b, o + j, none⟩ = some (.int .i64 z') := by
        rcases Nat.eq_zero_or_pos k with h | h
        · exact .inl h
        · refine .inr ⟨k - 1, all5.getD (k - 1) 0, by omega, ?_, HX.out wr HW.out (k - 1) (by omega)⟩
          have := all5_up ⟨k - 1, by omega⟩
          simpa [show k - 1 + 1 = k by omega] using this
      simp only at hz
      generalize all5.getD k 0 = z at *
      have hend : (∃ k_1 : Nat, k_1 ≤ 125 ∧ Value.int IntKind.i64 ((k : Int) + 1) = Value.int IntKind.i64 (k_1 : Int)) ∧ 125 - (intOf (Value.int IntKind.i64 ((k : Int) + 1))).toNat < 125 - (intOf (Value.int IntKind.i64 (k : Int))).toNat := by
        refine ⟨⟨k + 1, by omega, by go_num⟩, ?_⟩
        simp [intOf]; omega
      have HE := Lib.hid hend
      clear hend
      go_wp2_with fail
      refine (kind_any z wr).mono ?_
      rintro e w' ⟨rfl, rfl⟩
      unfold pr
      go_wp2_with fail
      refine (width_any z wr).mono ?_
      rintro e w' ⟨rfl, rfl⟩
      generalize (kd z).1 = i at *
      generalize (kd z).2 = m at *
      generalize wd z = d at *
      have hz' : (d = 0 ∧ (i == 5) = false) ∨ (d = 1 ∧ i = 5) ∨ (d = 2 ∧ i = 5) ∨ (d = 4 ∧ i = 5) ∨ (d = 8 ∧ i = 5) := by
        rcases hz with ⟨h, h'⟩ | ⟨h, h'⟩
        · exact .inl ⟨h, by simpa using h'⟩
        · omega
      clear hz
      rcases hup with rfl | ⟨j, z', rfl, hlz, h2⟩
      · rcases hz' with ⟨rfl, hi⟩ | ⟨rfl, rfl⟩ | ⟨rfl, rfl⟩ | ⟨rfl, rfl⟩ | ⟨rfl, rfl⟩
        all_goals (go_wp2_with fail; go_quiet (fail); go_wp2; exact ⟨⟨_, HE.out.1.choose_spec.1, HE.out.1.choose_spec.2, below_drewN' HW.out nq⟩, HE.out.2⟩)
      · have hzz : decide (z ≤ z') = false := by simp; omega
        have hj : (0 : Int) < ((j + 1 : Nat) : Int) := by omega
        have hj1 : ((j + 1 : Nat) : Int) - 1 = (j : Int) := by omega
        rcases hz' with ⟨rfl, hi⟩ | ⟨rfl, rfl⟩ | ⟨rfl, rfl⟩ | ⟨rfl, rfl⟩ | ⟨rfl, rfl⟩
        all_goals (go_wp2_with fail; go_quiet (fail); go_wp2; exact ⟨⟨_, HE.out.1.choose_spec.1, HE.out.1.choose_spec.2, below_drewN' HW.out nq⟩, HE.out.2⟩)
    · obtain rfl : k = 125 := by omega
      go_wp2_with fail
      refine (width_any (-1) wr).mono ?_
      rintro e w' ⟨rfl, rfl⟩
      rw [wd_m1]
      go_wp2_with fail
      refine (width_any 42 wr).mono ?_
      rintro e w' ⟨rfl, rfl⟩
      rw [wd_2a]
      go_wp2
      go_ret
      exact ⟨rfl, HB3.out.trans (HW.out.mono HB3.out.size)⟩
end Go.Proofs.Ytonkcfnegnghcaa
