/- Plain mathematics: what is written is read, whole or cut, in so many bits. No Go text. -/
import Derived.Test.YtfmncljcogijhaaLebMath
namespace Go.Proofs.Ytfmncljcogijhaa
open Go.RowKit
set_option maxRecDepth 100000
set_option linter.unusedVariables false

theorem Groups.tail {g : Int} {gs : List Int} (h : Groups (g :: gs)) : Groups gs := fun x hx => h x (by simp [hx])

theorem pow8 (k : Nat) (hk : k ≤ 8) : (2 : Int) ^ (k * 7) = 1 ∨ (2 : Int) ^ (k * 7) = 128 ∨ (2 : Int) ^ (k * 7) = 16384 ∨ (2 : Int) ^ (k * 7) = 2097152 ∨ (2 : Int) ^ (k * 7) = 268435456 ∨ (2 : Int) ^ (k * 7) = 34359738368 ∨ (2 : Int) ^ (k * 7) = 4398046511104 ∨ (2 : Int) ^ (k * 7) = 562949953421312 ∨ (2 : Int) ^ (k * 7) = 72057594037927936 := by
  match k, hk with
  | 0, _ => simp
  | 1, _ => simp
  | 2, _ => simp
  | 3, _ => simp
  | 4, _ => simp
  | 5, _ => simp
  | 6, _ => simp
  | 7, _ => simp
  | 8, _ => simp
  | n + 9, h => omega

/-- Reading the bytes of groups. -/
theorem dec_bytes (bits : Int) (fit : Int → Int → Bool) (hb : bits ≤ 64) (more : List Int) (gs : List Int) (hne : gs ≠ []) (hG : Groups gs) : ∀ (k : Nat) (x : Int), 7 * (k : Int) < bits → 0 ≤ x → x < 2 ^ (k * 7) →
    dec bits fit (bytesOf gs ++ more) k x =
      if 7 * ((k : Int) + gs.length) < bits ∨ (7 * ((k : Int) + gs.length - 1) < bits ∧ fit (gs.getLast hne) (bits - ((k : Int) + gs.length - 1) * 7) = true) then ((x + val gs * 2 ^ (k * 7)) % 18446744073709551616, (k : Int) + gs.length, 0) else (0, 0, 2) := by
  induction gs with
  | nil => exact absurd rfl hne
  | cons g gs ih =>
    intro k x hk h0 h1
    have hg := hG g (by simp)
    cases gs with
    | nil =>
      have e : g % 128 = g := by omega
      simp only [bytesOf, List.cons_append, List.nil_append, dec, val, e, List.length_cons, List.length_nil, List.getLast_singleton, Int.mul_zero, Int.add_zero]
      rw [if_pos (show g < 128 by omega), show ((0 + 1 : Nat) : Int) = 1 from rfl, show (k : Int) + 1 - 1 = k from by omega]
      by_cases h7 : bits - (k : Int) * 7 ≤ 7
      · by_cases hf : fit g (bits - (k : Int) * 7) = true
        · rw [if_neg (by rintro ⟨_, h | h⟩; · omega
                         · simp [hf] at h), if_pos (.inr ⟨hk, hf⟩)]
        · rw [if_pos ⟨h7, .inr (by simpa using hf)⟩, if_neg]
          rintro (h | ⟨_, h⟩)
          · omega
          · exact hf h
      · rw [if_neg (by rintro ⟨h, _⟩; omega), if_pos (.inl (by omega))]
    | cons h t =>
      have e : (g + 128) % 128 = g := by omega
      rw [bytesOf_cons _ _ (by simp), List.cons_append]
      simp only [dec, e]
      have hl : ((g :: h :: t).length : Int) = ((h :: t).length : Int) + 1 := by simp
      have hl1 : 1 ≤ ((h :: t).length : Int) := by simp; omega
      by_cases h7 : bits - (k : Int) * 7 ≤ 7
      · rw [if_pos ⟨h7, .inl (by omega)⟩, if_neg]
        rw [hl]
        rintro (h | ⟨h, _⟩) <;> omega
      · rw [if_neg (by rintro ⟨h, _⟩; omega), if_neg (by omega)]
        have hb' := acc_bd x g k h0 h1 (by omega) (by omega) (by omega)
        have eg : g % 128 = g := by omega
        rw [eg] at hb'
        have hlt : x + g * 2 ^ (k * 7) < 18446744073709551616 ∧ 0 ≤ x + g * 2 ^ (k * 7) := by
          rcases pow8 k (by omega) with hp | hp | hp | hp | hp | hp | hp | hp | hp <;> rw [hp] at h1 ⊢ <;> omega
        have em : (x + g * 2 ^ (k * 7)) % 18446744073709551616 = x + g * 2 ^ (k * 7) := by omega
        rw [em] at hb' ⊢
        rw [ih (by simp) hG.tail (k + 1) (x + g * 2 ^ (k * 7)) (by omega) hb'.1 hb'.2]
        have ev : x + g * 2 ^ (k * 7) + val (h :: t) * 2 ^ ((k + 1) * 7) = x + val (g :: h :: t) * 2 ^ (k * 7) := by
          rw [show (k + 1) * 7 = k * 7 + 7 from by omega, Int.pow_add, show val (g :: h :: t) = g + 128 * val (h :: t) from rfl]
          generalize val (h :: t) = y
          generalize (2 : Int) ^ (k * 7) = p
          rw [Int.add_mul, show y * (p * 2 ^ 7) = 128 * y * p from by rw [show (2 : Int) ^ 7 = 128 from rfl, Int.mul_comm p 128, ← Int.mul_assoc, Int.mul_comm y 128]]
          omega
        rw [ev, hl, show (g :: h :: t).getLast hne = (h :: t).getLast (by simp) from List.getLast_cons _]
        have e1 : ((k + 1 : Nat) : Int) + ((h :: t).length : Int) = (k : Int) + (((h :: t).length : Int) + 1) := by omega
        rw [e1]

/-- Cut off, a number is short. -/
theorem dec_short (bits : Int) (fit : Int → Int → Bool) (l : List Int) (h : ∀ z ∈ l, 128 ≤ z) : ∀ (k : Nat) (x : Int), 7 * ((k : Int) + l.length) < bits → dec bits fit l k x = (0, 0, 3) := by
  induction l with
  | nil => intro k x _; rfl
  | cons c l ih =>
    intro k x hk
    have hc := h c (by simp)
    simp only [List.length_cons] at hk
    simp only [dec]
    rw [if_neg (by rintro ⟨h, _⟩; omega), if_neg (by omega)]
    exact ih (fun z hz => h z (by simp [hz])) (k + 1) _ (by omega)

theorem bytesOf_big (gs : List Int) (hG : Groups gs) : ∀ j, j < gs.length - 1 → ∀ z ∈ (bytesOf gs)[j]?, 128 ≤ z := by
  induction gs with
  | nil => intro j hj; simp at hj
  | cons g gs ih =>
    cases gs with
    | nil => intro j hj; simp at hj
    | cons h t =>
      intro j hj z hz
      rw [bytesOf_cons _ _ (by simp)] at hz
      cases j with
      | zero => simp at hz; subst hz; have := hG g (by simp); omega
      | succ j => exact ih hG.tail j (by simp at hj ⊢; omega) z (by simpa using hz)

theorem dec_cut (bits : Int) (fit : Int → Int → Bool) (gs : List Int) (hG : Groups gs) (j : Nat) (hj : j < gs.length) (hb : 7 * (j : Int) < bits) : dec bits fit ((bytesOf gs).take j) 0 0 = (0, 0, 3) := by
  refine dec_short bits fit _ (fun z hz => ?_) 0 0 ?_
  · obtain ⟨i, hi, rfl⟩ := List.getElem_of_mem hz
    have hi' : i < j := by simp at hi; omega
    exact bytesOf_big gs hG i (by omega) _ (by rw [List.getElem_take, List.getElem?_eq_getElem (by simp at hi; omega)]; simp)
  · simp; omega

/-! ### Unsigned -/
theorem dgU_spec (n : Nat) : ∀ v : Int, 0 ≤ v → v < 128 ^ (n + 1) → Groups (dgU n v) ∧ val (dgU n v) = v ∧ v < 128 ^ (dgU n v).length ∧ ((dgU n v).length = 1 ∨ 128 ^ ((dgU n v).length - 1) ≤ v) ∧ (dgU n v).getLast (dgU_ne n v) = v / 128 ^ ((dgU n v).length - 1) := by
  induction n with
  | zero =>
    intro v h0 h1
    simp at h1
    refine ⟨fun g hg => ?_, by simp [dgU, val], by simpa [dgU] using h1, .inl rfl, by simp [dgU]⟩
    simp [dgU] at hg; omega
  | succ n ih =>
    intro v h0 h1
    by_cases hv : v < 128
    · have e : dgU (n + 1) v = [v] := by simp [dgU, hv]
      simp only [e]
      refine ⟨fun g hg => ?_, by simp [val], by simpa using hv, .inl rfl, by simp⟩
      simp at hg; omega
    · have e : dgU (n + 1) v = v % 128 :: dgU n (v / 128) := by simp [dgU, hv]
      obtain ⟨i1, i2, i3, i4, i5⟩ := ih (v / 128) (by omega) (by rw [Int.pow_succ] at h1; omega)
      have hpos : 0 < (dgU n (v / 128)).length := List.length_pos_iff.2 (dgU_ne _ _)
      have hlen : (v % 128 :: dgU n (v / 128)).length - 1 = (dgU n (v / 128)).length - 1 + 1 := by simp; omega
      simp only [e]
      refine ⟨fun g hg => ?_, by simp only [val, i2]; omega, ?_, .inr ?_, ?_⟩
      · rcases List.mem_cons.1 hg with rfl | hg
        · omega
        · exact i1 g hg
      · simp only [List.length_cons, Int.pow_succ]; omega
      · rw [hlen, Int.pow_succ]
        rcases i4 with i4 | i4
        · rw [i4]; simp; omega
        · omega
      · rw [List.getLast_cons (dgU_ne _ _), i5, hlen, Int.pow_succ, Int.mul_comm, ← Int.ediv_ediv_of_nonneg (by omega)]

theorem len_cases (m : Nat) (h1 : 1 ≤ m) (h2 : m ≤ 10) : m = 1 ∨ m = 2 ∨ m = 3 ∨ m = 4 ∨ m = 5 ∨ m = 6 ∨ m = 7 ∨ m = 8 ∨ m = 9 ∨ m = 10 := by omega

theorem rdU64_enc (v : Int) (more : List Int) (h0 : 0 ≤ v) (h1 : v < 18446744073709551616) : rdU 64 (encU v ++ more) = (v, ((encU v).length : Int), 0) := by
  obtain ⟨i1, i2, i3, i4, i5⟩ := dgU_spec 9 v h0 (by simp; omega)
  have hl := dgU_len 9 v
  have hp : 0 < (dgU 9 v).length := List.length_pos_iff.2 (dgU_ne _ _)
  unfold rdU encU
  rw [dec_bytes 64 fitU (by omega) more _ (dgU_ne 9 v) i1 0 0 (by omega) (by omega) (by simp), bytesOf_length, i5, i2]
  rw [if_pos]
  · simp; omega
  · generalize (dgU 9 v).length = m at *
    rcases len_cases m hp (by omega) with rfl | rfl | rfl | rfl | rfl | rfl | rfl | rfl | rfl | rfl
    all_goals first | (left; decide) | skip
    right
    refine ⟨by decide, ?_⟩
    simp [fitU] at *
    omega

theorem rdU32_enc (v : Int) (more : List Int) (h0 : 0 ≤ v) (h1 : v < 18446744073709551616) : rdU 32 (encU v ++ more) = if v < 4294967296 then (v, ((encU v).length : Int), 0) else (0, 0, 2) := by
  obtain ⟨i1, i2, i3, i4, i5⟩ := dgU_spec 9 v h0 (by simp; omega)
  have hl := dgU_len 9 v
  have hp : 0 < (dgU 9 v).length := List.length_pos_iff.2 (dgU_ne _ _)
  unfold rdU encU
  rw [dec_bytes 32 fitU (by omega) more _ (dgU_ne 9 v) i1 0 0 (by omega) (by omega) (by simp), bytesOf_length, i5, i2]
  have ev : (0 + v * 2 ^ (0 * 7)) % 18446744073709551616 = v := by simp; omega
  rw [ev]
  congr 1
  · generalize (dgU 9 v).length = m at *
    rcases len_cases m hp (by omega) with rfl | rfl | rfl | rfl | rfl | rfl | rfl | rfl | rfl | rfl <;> simp [fitU] at * <;> omega
  · simp
end Go.Proofs.Ytfmncljcogijhaa
