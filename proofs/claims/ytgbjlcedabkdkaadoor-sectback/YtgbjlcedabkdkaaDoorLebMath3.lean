/- Plain mathematics: signed numbers, and longer writings. No Go text. -/
import Derived.Test.YtgbjlcedabkdkaaDoorLebMath2
namespace Go.Proofs.YtgbjlcedabkdkaaDoor
open Go.RowKit
set_option maxRecDepth 100000
set_option linter.unusedVariables false

theorem emod_step (v p : Int) (hp : 0 < p) : v % (128 * p) = v % 128 + 128 * (v / 128 % p) := by
  have h1 := Int.emod_add_mul_ediv (v / 128) p
  have h2 := Int.emod_nonneg (v / 128) (show p ≠ 0 by omega)
  have h3 := Int.emod_lt_of_pos (v / 128) hp
  have e : v = (v % 128 + 128 * (v / 128 % p)) + (128 * p) * (v / 128 / p) := by
    rw [Int.mul_assoc]
    omega
  generalize hr : v % 128 + 128 * (v / 128 % p) = r at *
  generalize v / 128 / p = q at *
  rw [e, Int.add_mul_emod_self_left]
  exact Int.emod_eq_of_lt (by omega) (by omega)

theorem dgS_spec (n : Nat) : ∀ v : Int, -(64 * 128 ^ n) ≤ v → v < 64 * 128 ^ n → Groups (dgS n v) ∧ val (dgS n v) = v % 128 ^ (dgS n v).length ∧ -(64 * 128 ^ ((dgS n v).length - 1)) ≤ v ∧ v < 64 * 128 ^ ((dgS n v).length - 1) ∧
    ((dgS n v).length = 1 ∨ v < -(64 * 128 ^ ((dgS n v).length - 2)) ∨ 64 * 128 ^ ((dgS n v).length - 2) ≤ v) ∧ (dgS n v).getLast (dgS_ne n v) = v / 128 ^ ((dgS n v).length - 1) % 128 := by
  induction n with
  | zero =>
    intro v h0 h1
    simp at h0 h1
    refine ⟨fun g hg => ?_, by simp [dgS, val], by simpa [dgS] using h0, by simpa [dgS] using h1, .inl rfl, by simp [dgS]⟩
    simp [dgS] at hg; omega
  | succ n ih =>
    intro v h0 h1
    by_cases hv : -64 ≤ v ∧ v ≤ 63
    · have e : dgS (n + 1) v = [v % 128] := by simp [dgS, hv]
      simp only [e]
      refine ⟨fun g hg => ?_, by simp [val], by simp; omega, by simp; omega, .inl rfl, by simp⟩
      simp at hg; omega
    · have e : dgS (n + 1) v = v % 128 :: dgS n (v / 128) := by simp only [dgS]; rw [if_neg hv]
      rw [Int.pow_succ] at h0 h1
      obtain ⟨i1, i2, i3, i4, i5, i6⟩ := ih (v / 128) (by omega) (by omega)
      have hpos : 0 < (dgS n (v / 128)).length := List.length_pos_iff.2 (dgS_ne _ _)
      have hlen : (v % 128 :: dgS n (v / 128)).length - 1 = (dgS n (v / 128)).length - 1 + 1 := by simp; omega
      have hlen2 : (v % 128 :: dgS n (v / 128)).length - 2 = (dgS n (v / 128)).length - 1 := by simp
      simp only [e]
      refine ⟨fun g hg => ?_, ?_, ?_, ?_, .inr ?_, ?_⟩
      · rcases List.mem_cons.1 hg with rfl | hg
        · omega
        · exact i1 g hg
      · simp only [val, i2, List.length_cons, Int.pow_succ]
        have hp : (0 : Int) < 128 ^ (dgS n (v / 128)).length := Int.pow_pos (by omega)
        generalize (128 : Int) ^ (dgS n (v / 128)).length = p at *
        rw [Int.mul_comm p 128, emod_step v p hp]
      · rw [hlen, Int.pow_succ]; omega
      · rw [hlen, Int.pow_succ]; omega
      · rw [hlen2]
        by_cases h1 : (dgS n (v / 128)).length = 1
        · rw [h1]; simp; omega
        · rw [show (dgS n (v / 128)).length - 1 = (dgS n (v / 128)).length - 2 + 1 from by omega, Int.pow_succ]
          rcases i5 with i5 | i5 | i5
          · exact absurd i5 h1
          · left; omega
          · right; omega
      · rw [List.getLast_cons (dgS_ne _ _), i6, hlen, Int.pow_succ, Int.mul_comm, ← Int.ediv_ediv_of_nonneg (by omega)]

theorem fitS_t (t r : Int) (h0 : -64 ≤ t) (h1 : t ≤ 63) (h2 : 1 ≤ r) (h3 : r ≤ 7) : fitS (t % 128) r = decide (-(2 ^ (r - 1).toNat) ≤ t ∧ t < 2 ^ (r - 1).toNat) := by
  obtain ⟨a, rfl⟩ : ∃ n : Nat, t = (n : Int) - 64 := ⟨(t + 64).toNat, by omega⟩
  obtain ⟨b, rfl⟩ : ∃ n : Nat, r = n := ⟨r.toNat, by omega⟩
  have key : ∀ a : Fin 128, ∀ b : Fin 8, 1 ≤ b.val → fitS (((a.val : Int) - 64) % 128) (b.val : Int) = decide (-(2 ^ ((b.val : Int) - 1).toNat) ≤ (a.val : Int) - 64 ∧ (a.val : Int) - 64 < 2 ^ ((b.val : Int) - 1).toNat) := by decide +kernel
  exact key ⟨a, by omega⟩ ⟨b, by omega⟩ (by simp; omega)

/-- The sign carried on gives the number back. -/
theorem sx_back (v : Int) (m : Nat) (h1 : 1 ≤ m) (h2 : m ≤ 10) (h3 : -(64 * 128 ^ (m - 1)) ≤ v) (h4 : v < 64 * 128 ^ (m - 1)) (h5 : -9223372036854775808 ≤ v) (h6 : v < 9223372036854775808) :
    sx (v % 128 ^ m % 18446744073709551616) m = v := by
  rcases len_cases m h1 h2 with rfl | rfl | rfl | rfl | rfl | rfl | rfl | rfl | rfl | rfl
  all_goals (first | rw [sx_lt _ _ (by decide)] | rw [sx_ge _ _ (by decide)])
  all_goals unfold wrap64; rw [IntKind.wrap_u64]; simp at *; omega

/-- What is read of a signed number in so many bits. -/
theorem rdS_enc (bits : Int) (hbits : bits = 32 ∨ bits = 33 ∨ bits = 64) (v : Int) (more : List Int) (h0 : -9223372036854775808 ≤ v) (h1 : v < 9223372036854775808) :
    rdS bits (encS v ++ more) = if -(2 ^ (bits - 1).toNat) ≤ v ∧ v < 2 ^ (bits - 1).toNat then (v, ((encS v).length : Int), 0) else (0, 0, 2) := by
  obtain ⟨i1, i2, i3, i4, i5, i6⟩ := dgS_spec 9 v (by simp; omega) (by simp; omega)
  have hl := dgS_len 9 v
  have hp : 0 < (dgS 9 v).length := List.length_pos_iff.2 (dgS_ne _ _)
  have hsx := sx_back v (dgS 9 v).length hp (by omega) i3 i4 h0 h1
  have hd := dec_bytes bits fitS (by omega) more _ (dgS_ne 9 v) i1 0 0 (by omega) (by omega) (by simp)
  have hft : 7 * (((dgS 9 v).length : Int) - 1) < bits → bits ≤ 7 * ((dgS 9 v).length : Int) → fitS ((dgS 9 v).getLast (dgS_ne 9 v)) (bits - (((dgS 9 v).length : Int) - 1) * 7) = decide (-(2 ^ (bits - 1).toNat) ≤ v ∧ v < 2 ^ (bits - 1).toNat) := by
    intro ha hb
    rw [i6, fitS_t _ _ ?_ ?_ (by omega) (by omega)]
    · apply decide_eq_decide.2
      generalize (dgS 9 v).length = m at *
      rcases hbits with rfl | rfl | rfl
      · obtain rfl : m = 5 := by omega
        simp; omega
      · obtain rfl : m = 5 := by omega
        simp; omega
      · obtain rfl : m = 10 := by omega
        simp; omega
    · generalize (dgS 9 v).length = m at *
      rcases len_cases m hp (by omega) with rfl | rfl | rfl | rfl | rfl | rfl | rfl | rfl | rfl | rfl <;> simp at * <;> omega
    · generalize (dgS 9 v).length = m at *
      rcases len_cases m hp (by omega) with rfl | rfl | rfl | rfl | rfl | rfl | rfl | rfl | rfl | rfl <;> simp at * <;> omega
  have hin : (7 * (((0 : Nat) : Int) + (dgS 9 v).length) < bits ∨ (7 * (((0 : Nat) : Int) + (dgS 9 v).length - 1) < bits ∧ fitS ((dgS 9 v).getLast (dgS_ne 9 v)) (bits - (((0 : Nat) : Int) + (dgS 9 v).length - 1) * 7) = true)) ↔ (-(2 ^ (bits - 1).toNat) ≤ v ∧ v < 2 ^ (bits - 1).toNat) := by
    have ez : ((0 : Nat) : Int) + ((dgS 9 v).length : Int) = ((dgS 9 v).length : Int) := by omega
    rw [ez]
    by_cases ha : 7 * (((dgS 9 v).length : Int) - 1) < bits
    · by_cases hb : bits ≤ 7 * ((dgS 9 v).length : Int)
      · rw [hft ha hb]
        simp only [decide_eq_true_eq]
        exact ⟨fun h => h.elim (fun h => absurd h (by omega)) (·.2), fun h => .inr ⟨ha, h⟩⟩
      · refine ⟨fun _ => ?_, fun _ => .inl (by omega)⟩
        generalize (dgS 9 v).length = m at *
        rcases hbits with rfl | rfl | rfl <;> rcases len_cases m hp (by omega) with rfl | rfl | rfl | rfl | rfl | rfl | rfl | rfl | rfl | rfl <;> simp at * <;> omega
    · refine ⟨fun h => ?_, fun h => ?_⟩
      · rcases h with h | ⟨h, _⟩ <;> omega
      · exfalso
        clear hft hd hsx
        generalize (dgS 9 v).length = m at *
        rcases hbits with rfl | rfl | rfl <;> rcases len_cases m hp (by omega) with rfl | rfl | rfl | rfl | rfl | rfl | rfl | rfl | rfl | rfl <;> simp at * <;> omega
  unfold rdS encS
  rw [hd]
  by_cases h : -(2 ^ (bits - 1).toNat) ≤ v ∧ v < 2 ^ (bits - 1).toNat
  · rw [if_pos (hin.2 h), if_pos h, if_pos rfl, i2, bytesOf_length]
    simp only [Nat.zero_mul, Int.pow_zero, Int.mul_one, Int.zero_add]
    rw [show ((0 : Nat) : Int) + ((dgS 9 v).length : Int) = ((dgS 9 v).length : Int) from by omega, hsx]
  · rw [if_neg (fun hh => h (hin.1 hh)), if_neg h, if_neg (by simp)]
end Go.Proofs.YtgbjlcedabkdkaaDoor
