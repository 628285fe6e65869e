/- Plain mathematics: longer writings of a number. No Go text. -/
import Derived.Test.YtdbiljmkhchihaaLebMath3
namespace Go.Proofs.Ytdbiljmkhchihaa
open Go.RowKit
set_option linter.unusedVariables false

theorem bytesOf_snoc (gs : List Int) (h : gs ≠ []) (e : Int) : bytesOf (gs ++ [e]) = (bytesOf gs).set (gs.length - 1) ((bytesOf gs).getD (gs.length - 1) 0 + 128) ++ [e] := by
  induction gs with
  | nil => exact absurd rfl h
  | cons g gs ih =>
    cases gs with
    | nil => rfl
    | cons a t =>
      have := ih (by simp)
      rw [List.cons_append, bytesOf_cons g (a :: t ++ [e]) (by simp), this, bytesOf_cons g (a :: t) (by simp)]
      simp
theorem bytesOf_last (gs : List Int) (h : gs ≠ []) (hG : Groups gs) : 0 ≤ (bytesOf gs).getD (gs.length - 1) 0 ∧ (bytesOf gs).getD (gs.length - 1) 0 < 128 := by
  induction gs with
  | nil => exact absurd rfl h
  | cons g gs ih =>
    cases gs with
    | nil => have := hG g (by simp); simpa [bytesOf] using this
    | cons a t =>
      have := ih (by simp) hG.tail
      rw [bytesOf_cons _ _ (by simp)]
      simpa using this
theorem bytesOf_is (gs : List Int) (hG : Groups gs) : ∀ z ∈ bytesOf gs, 0 ≤ z ∧ z ≤ 255 := by
  induction gs with
  | nil => intro z hz; simp [bytesOf] at hz
  | cons g gs ih =>
    have hg := hG g (by simp)
    cases gs with
    | nil => intro z hz; simp [bytesOf] at hz; omega
    | cons a t =>
      intro z hz
      rw [bytesOf_cons _ _ (by simp)] at hz
      rcases List.mem_cons.1 hz with rfl | hz
      · omega
      · exact ih hG.tail z hz
theorem val_app (a b : List Int) : val (a ++ b) = val a + 128 ^ a.length * val b := by
  induction a with
  | nil => simp [val]
  | cons g a ih => simp only [List.cons_append, val, ih, List.length_cons, Int.pow_succ]; rw [Int.mul_add, Int.mul_comm (128 ^ a.length) 128, Int.mul_assoc]; omega
theorem val_zeros (j : Nat) : val (List.replicate j 0) = 0 := by
  induction j with
  | zero => rfl
  | succ j ih => simp [List.replicate_succ, val, ih]
theorem val_ones (j : Nat) : val (List.replicate j 127) = 128 ^ j - 1 := by
  induction j with
  | zero => rfl
  | succ j ih => simp only [List.replicate_succ, val, ih, Int.pow_succ]; omega
theorem groups_app {a b : List Int} (ha : Groups a) (hb : Groups b) : Groups (a ++ b) := fun g hg => by
  rcases List.mem_append.1 hg with h | h
  · exact ha g h
  · exact hb g h
theorem groups_rep (j : Nat) (e : Int) (h0 : 0 ≤ e) (h1 : e < 128) : Groups (List.replicate j e) := fun g hg => by
  have := List.eq_of_mem_replicate hg; omega
theorem last_rep (gs : List Int) (h : gs ≠ []) (j : Nat) (e : Int) (h' : gs ++ List.replicate j e ≠ []) : (gs ++ List.replicate j e).getLast h' = if j = 0 then gs.getLast h else e := by
  by_cases hj : j = 0
  · subst hj; simp
  · rw [if_neg hj, List.getLast_append_of_ne_nil _ (by simp [hj])]; simp

theorem rdU32_long (v : Int) (j : Nat) (hj : j ≤ 7) (h0 : 0 ≤ v) (h1 : v < 4294967296) :
    rdU 32 (bytesOf (dgU 9 v ++ List.replicate j 0)) = if (encU v).length + j ≤ 5 then (v, (((encU v).length + j : Nat) : Int), 0) else (0, 0, 2) := by
  obtain ⟨i1, i2, i3, i4, i5⟩ := dgU_spec 9 v h0 (by simp; omega)
  have hl := dgU_len 9 v
  have hp : 0 < (dgU 9 v).length := List.length_pos_iff.2 (dgU_ne _ _)
  have hne : dgU 9 v ++ List.replicate j 0 ≠ [] := by simp [dgU_ne]
  have hd := dec_bytes 32 fitU (by omega) [] _ hne (groups_app i1 (groups_rep j 0 (by omega) (by omega))) 0 0 (by omega) (by omega) (by simp)
  rw [List.append_nil] at hd
  unfold rdU encU
  rw [hd, last_rep _ (dgU_ne _ _), i5, val_app, val_zeros, i2, bytesOf_length]
  have ev : (0 + (v + 128 ^ (dgU 9 v).length * 0) * 2 ^ (0 * 7)) % 18446744073709551616 = v := by simp; omega
  rw [ev]
  simp only [List.length_append, List.length_replicate]
  generalize (dgU 9 v).length = m at *
  have hiff : (7 * (((0 : Nat) : Int) + ((m + j : Nat) : Int)) < 32 ∨ 7 * (((0 : Nat) : Int) + ((m + j : Nat) : Int) - 1) < 32 ∧ fitU (if j = 0 then v / 128 ^ (m - 1) else 0) (32 - (((0 : Nat) : Int) + ((m + j : Nat) : Int) - 1) * 7) = true) ↔ m + j ≤ 5 := by
    by_cases h5 : m + j = 5
    · refine ⟨fun _ => by omega, fun _ => .inr ⟨by omega, ?_⟩⟩
      rw [h5, show (32 - (((0 : Nat) : Int) + ((5 : Nat) : Int) - 1) * 7) = 4 from rfl]
      by_cases hj0 : j = 0
      · obtain rfl : m = 5 := by omega
        simp [fitU, hj0]; omega
      · simp [fitU, hj0]
    · refine ⟨fun h => ?_, fun h => .inl (by omega)⟩
      rcases h with h | ⟨h, _⟩ <;> omega
  by_cases h : m + j ≤ 5
  · rw [if_pos (hiff.2 h), if_pos h]; simp
  · rw [if_neg (fun hh => h (hiff.1 hh)), if_neg h]

theorem rdS32_long (w : Int) (j : Nat) (hj : j ≤ 7) (h0 : -2147483648 ≤ w) (h1 : w < 2147483648) :
    rdS 32 (bytesOf (dgS 9 w ++ List.replicate j (if w < 0 then 127 else 0))) = if (encS w).length + j ≤ 5 then (w, (((encS w).length + j : Nat) : Int), 0) else (0, 0, 2) := by
  obtain ⟨i1, i2, i3, i4, i5, i6⟩ := dgS_spec 9 w (by simp; omega) (by simp; omega)
  have hl := dgS_len 9 w
  have hp : 0 < (dgS 9 w).length := List.length_pos_iff.2 (dgS_ne _ _)
  have hne : dgS 9 w ++ List.replicate j (if w < 0 then (127 : Int) else 0) ≠ [] := by simp [dgS_ne]
  have hd := dec_bytes 32 fitS (by omega) [] _ hne (groups_app i1 (groups_rep j _ (by split <;> omega) (by split <;> omega))) 0 0 (by omega) (by omega) (by simp)
  rw [List.append_nil] at hd
  have hv : val (dgS 9 w ++ List.replicate j (if w < 0 then (127 : Int) else 0)) = w % 128 ^ ((dgS 9 w).length + j) := by
    rw [val_app, i2]
    have hP : (0 : Int) < 128 ^ (dgS 9 w).length := Int.pow_pos (by omega)
    have hQ : (0 : Int) < 128 ^ j := Int.pow_pos (by omega)
    have hPm : (128 : Int) ^ (dgS 9 w).length = 128 * 128 ^ ((dgS 9 w).length - 1) := by
      rw [show (dgS 9 w).length = (dgS 9 w).length - 1 + 1 from by omega, Int.pow_succ, Int.mul_comm]; rfl
    rw [Int.pow_add]
    by_cases hw : w < 0
    · rw [if_pos hw, val_ones]
      generalize (128 : Int) ^ (dgS 9 w).length = P at *
      generalize (128 : Int) ^ j = Q at *
      have e1 : w % P = w + P := by
        rw [← Int.add_emod_right]; exact Int.emod_eq_of_lt (by omega) (by omega)
      have hPQ : P * 1 ≤ P * Q := Int.mul_le_mul_of_nonneg_left (by omega) (by omega)
      have e2 : w % (P * Q) = w + P * Q := by
        rw [← Int.add_emod_right]; exact Int.emod_eq_of_lt (by omega) (by omega)
      rw [e1, e2, Int.mul_sub]; omega
    · rw [if_neg hw, val_zeros]
      generalize (128 : Int) ^ (dgS 9 w).length = P at *
      generalize (128 : Int) ^ j = Q at *
      have hPQ : P * 1 ≤ P * Q := Int.mul_le_mul_of_nonneg_left (by omega) (by omega)
      rw [Int.emod_eq_of_lt (by omega) (by omega), Int.emod_eq_of_lt (by omega) (by omega)]
      simp
  have hm5 : (dgS 9 w).length ≤ 5 := by
    rcases i5 with i5 | i5 | i5
    · omega
    · generalize (dgS 9 w).length = m at *
      rcases len_cases m hp (by omega) with rfl | rfl | rfl | rfl | rfl | rfl | rfl | rfl | rfl | rfl <;> simp at * <;> omega
    · generalize (dgS 9 w).length = m at *
      rcases len_cases m hp (by omega) with rfl | rfl | rfl | rfl | rfl | rfl | rfl | rfl | rfl | rfl <;> simp at * <;> omega
  have hmono : ∀ k : Nat, (128 : Int) ^ ((dgS 9 w).length - 1) ≤ 128 ^ ((dgS 9 w).length + k - 1) := fun k => by
    rw [show (dgS 9 w).length + k - 1 = (dgS 9 w).length - 1 + k from by omega, Int.pow_add]
    have hQ : (0 : Int) < 128 ^ k := Int.pow_pos (by omega)
    have hP : (0 : Int) < 128 ^ ((dgS 9 w).length - 1) := Int.pow_pos (by omega)
    generalize (128 : Int) ^ ((dgS 9 w).length - 1) = P at *
    generalize (128 : Int) ^ k = Q at *
    have : P * 1 ≤ P * Q := Int.mul_le_mul_of_nonneg_left (by omega) (by omega)
    omega
  have hlast := last_rep (dgS 9 w) (dgS_ne 9 w) j (if w < 0 then (127 : Int) else 0) hne
  unfold rdS encS
  rw [hd, hlast, hv, bytesOf_length, i6]
  simp only [List.length_append, List.length_replicate]
  have hsx : (dgS 9 w).length + j ≤ 5 → sx (w % 128 ^ ((dgS 9 w).length + j) % 18446744073709551616) (((dgS 9 w).length + j : Nat) : Int) = w := fun h =>
    sx_back w ((dgS 9 w).length + j) (by omega) (by omega) (by have := hmono j; omega) (by have := hmono j; omega) (by omega) (by omega)
  generalize (dgS 9 w).length = m at *
  have hiff : (7 * (((0 : Nat) : Int) + ((m + j : Nat) : Int)) < 32 ∨ 7 * (((0 : Nat) : Int) + ((m + j : Nat) : Int) - 1) < 32 ∧ fitS (if j = 0 then w / 128 ^ (m - 1) % 128 else (if w < 0 then 127 else 0)) (32 - (((0 : Nat) : Int) + ((m + j : Nat) : Int) - 1) * 7) = true) ↔ m + j ≤ 5 := by
    by_cases h5 : m + j = 5
    · refine ⟨fun _ => by omega, fun _ => .inr ⟨by omega, ?_⟩⟩
      rw [h5, show (32 - (((0 : Nat) : Int) + ((5 : Nat) : Int) - 1) * 7) = 4 from rfl]
      by_cases hj0 : j = 0
      · obtain rfl : m = 5 := by omega
        rw [if_pos hj0, fitS_t _ 4 (by simp; omega) (by simp; omega) (by omega) (by omega)]
        simp; omega
      · rw [if_neg hj0]
        split <;> decide +kernel
    · refine ⟨fun h => ?_, fun h => .inl (by omega)⟩
      rcases h with h | ⟨h, _⟩ <;> omega
  by_cases h : m + j ≤ 5
  · rw [if_pos (hiff.2 h), if_pos h, if_pos rfl]
    simp only [Nat.zero_mul, Int.pow_zero, Int.mul_one, Int.zero_add]
    rw [show ((0 : Nat) : Int) + ((m + j : Nat) : Int) = ((m + j : Nat) : Int) from by omega, hsx h]
  · rw [if_neg (fun hh => h (hiff.1 hh)), if_neg h, if_neg (by simp)]
end Go.Proofs.Ytdbiljmkhchihaa
