/- The walks of OpNames and OpWidths: out of the contracts. -/
import Derived.Test.YtonkcfnegnghcaaBegun5
import Derived.Test.YtonkcfnegnghcaaRefNames
import Derived.BigQuiet
namespace Go.Proofs.Ytonkcfnegnghcaa
open Go.RowKit
set_option maxRecDepth 100000
set_option linter.unusedVariables false

theorem all5_ok : ∀ k : Fin 125, (kd (all5.getD k.val 0)).2 = 0 := by decide +kernel
set_option maxHeartbeats 2000000 in
theorem opNames_core (w : World) : Calls Try.prog 4 #[] w fun e w' => e = .returned (.bool true) ∧ Below w.heap.size w w' := by
  go_enter Try.func4, Try.ntmps4
  go_wp2_with fail
  refine (begun5_any w).mono ?_
  rintro e w1 ⟨rfl, hb1⟩
  have HB1 := Lib.hid hb1
  clear hb1
  go_wp2_with fail
  refine (names_any w1).mono ?_
  rintro e w2 ⟨v2, rfl, ho2, hb2⟩
  have H2 := Lib.hid (And.intro ho2 hb2)
  clear ho2 hb2
  go_wp2_with fail
  refine (refNames_any w2).mono ?_
  rintro e w3 ⟨v3, rfl, ho3, hb3⟩
  obtain ⟨A, c, rfl, hc1, hc2, hr⟩ := H2.out.1.rdI
  obtain ⟨A', c', rfl, hc1', hc2', hr'⟩ := ho3.rdI
  obtain ⟨b, o, rfl, hcell⟩ := (hr.later hb3).spot (by rw [all5_len]; omega)
  obtain ⟨b', o', rfl, hcell'⟩ := hr'.spot (by rw [all5_len]; omega)
  have hX : ∀ wr, Below w3.heap.size w3 wr → ∀ j, j < 125 → wr.cell? ⟨b, o + j, none⟩ = some (.int .i64 (all5.getD j 0)) ∧ wr.cell? ⟨b', o' + j, none⟩ = some (.int .i64 (all5.getD j 0)) := fun wr h j hj => by
    have h1 := hcell j (by rw [all5_len]; exact hj)
    have h2 := hcell' j (by rw [all5_len]; exact hj)
    exact ⟨(h.cell (World.block_lt_of_cell? w3 _ h1)).trans h1, (h.cell (World.block_lt_of_cell? w3 _ h2)).trans h2⟩
  have HX := Lib.hid hX
  have q1 := HB1.out.trans (H2.out.2.mono HB1.out.size)
  have HB3 := Lib.hid (q1.trans (hb3.mono q1.size))
  rw [all5_len] at *
  clear hX hcell hcell' hr hr' ho3 hb3 H2 HB1 q1
  go_wp2
  go_loopw [3] (fun i wr => ∃ (k : Nat), k ≤ 125 ∧ i = .int .i64 k ∧ Hid (Below w3.heap.size w3 wr)) (fun i _ => 125 - (intOf i).toNat)
  case atStart => exact ⟨0, by omega, rfl, Below.refl _ _⟩
  case round =>
    obtain ⟨k, hk, rfl, HW⟩ := hrel
    by_cases hlt : k < 125
    · have hlt2 : (k : Int) < 125 := by omega
      obtain ⟨h1, h2⟩ := HX.out wr HW.out k hlt
      have hz := all5_ok ⟨k, hlt⟩
      simp only at hz
      generalize all5.getD k 0 = z at *
      go_wp2_with fail
      refine (kind_any z wr).mono ?_
      rintro e w' ⟨rfl, rfl⟩
      unfold pr
      rw [hz]
      have hzz : (z != z) = false := by simp
      generalize (kd z).1 = i at *
      clear hz
      go_wp2_with fail
      go_quiet (fail)
      go_wp2
      refine ⟨⟨k + 1, by omega, by go_num, below_drewN' HW.out nq⟩, ?_⟩
      simp [intOf]; omega
    · obtain rfl : k = 125 := by omega
      go_wp2
      go_ret
      exact ⟨rfl, HB3.out.trans (HW.out.mono HB3.out.size)⟩
end Go.Proofs.Ytonkcfnegnghcaa
