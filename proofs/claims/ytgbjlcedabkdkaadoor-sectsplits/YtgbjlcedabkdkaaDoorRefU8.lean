/- The document's UTF8: are these bytes UTF-8? -/
import Derived.Test.YtgbjlcedabkdkaaDoorUtf8Cut
import Derived.Test.YtgbjlcedabkdkaaDoorReader
namespace Go.Proofs.YtgbjlcedabkdkaaDoor
open Go.RowKit
set_option maxRecDepth 100000
set_option linter.unusedVariables false

/-- A byte behind the first of a code point. -/
def cont (x : Nat) : Bool := decide (128 ≤ x ∧ x ≤ 191)
set_option maxRecDepth 100000 in
theorem and192 : ∀ X : Fin 256, bits .and .u8 ((X.val : Nat) : Int) 192 = if cont X.val then 128 else if X.val < 64 then 0 else if X.val < 128 then 64 else 192 := by decide +kernel
set_option maxRecDepth 100000 in
theorem and63 : ∀ X : Fin 256, bits .and .u8 ((X.val : Nat) : Int) 63 = ((X.val % 64 : Nat) : Int) := by decide +kernel
theorem or6 (a b : Nat) (ha : a < 67108864) (hb : b < 64) : bits .or .u32 ((a : Int) * 64) (b : Int) = ((a * 64 + b : Nat) : Int) := by
  rw [show (a : Int) * 64 = ((a * 64 : Nat) : Int) from by omega]
  rw [u32_or_nat (a * 64) b (by omega) (by omega)]
  congr 1
  have := Nat.two_pow_add_eq_or_of_lt (i := 6) hb a
  rw [show 2 ^ 6 * a = a * 64 from by omega] at this
  exact this.symm
/-- The number that a code point's first j + 1 bytes spell. -/
def vq (t : List Int) (b0 : Nat) : Nat → Nat
  | 0 => b0
  | j + 1 => vq t b0 j * 64 + (t.getD (j + 1) 0).toNat % 64
theorem vq_lt (t : List Int) (b0 : Nat) : ∀ j, vq t b0 j < (b0 + 1) * 64 ^ j
  | 0 => by simp [vq]
  | j + 1 => by
    have := vq_lt t b0 j
    have h2 : (t.getD (j + 1) 0).toNat % 64 < 64 := Nat.mod_lt _ (by omega)
    simp only [vq]
    rw [Nat.pow_succ, ← Nat.mul_assoc]
    generalize (b0 + 1) * 64 ^ j = m at *
    omega
/-- How many bytes the first code point has, by its first byte (0: none begins so). -/
def leadK (x : Nat) : Nat := if x < 128 then 1 else if x < 194 then 0 else if x < 224 then 2 else if x < 240 then 3 else if x < 245 then 4 else 0
def contB (t : List Int) (k : Nat) : Bool := (List.range (k - 1)).all fun j => cont (t.getD (j + 1) 0).toNat
def wrongV (k v : Nat) : Bool := (k == 3 && (decide (v < 2048) || (decide (55296 ≤ v) && decide (v < 57344)))) || (k == 4 && (decide (v < 65536) || decide (1114111 < v)))
def goodK (t : List Int) (k : Nat) : Bool := k != 0 && decide (k ≤ t.length) && contB t k && !(wrongV k (vq t ((t.getD 0 0).toNat % 2 ^ (7 - k)) (k - 1)))
set_option maxHeartbeats 4000000 in
theorem vd_doc (t : List Int) (ht : IsBytes t) (hne : t ≠ []) : vd t = (goodK t (leadK (t.getD 0 0).toNat) && vd (t.drop (leadK (t.getD 0 0).toNat))) := by
  have hb : ∀ k, (t.getD k 0).toNat < 256 := fun k => by
    rw [List.getD_eq_getElem?_getD]
    cases h : t[k]? with
    | none => simp
    | some z => have := ht z (List.mem_of_getElem? h); simp; omega
  have hlen : 1 ≤ t.length := List.length_pos_iff.2 hne
  by_cases h0 : 128 ≤ (t.getD 0 0).toNat
  · rw [vd_lead t ht hne h0]
    have b0 := hb 0; have b1 := hb 1; have b2 := hb 2; have b3 := hb 3
    have gq : ∀ (k : Nat) (c : Prop) [Decidable c], (goodK t k = true ↔ ¬ c) → (match (if c then none else some k) with | none => false | some k => vd (t.drop k)) = (goodK t k && vd (t.drop k)) := fun k c _ h => by
      by_cases hc : c
      · have : goodK t k = false := by cases hg : goodK t k with
          | false => rfl
          | true => exact absurd hc (h.1 hg)
        rw [if_pos hc, this]; rfl
      · rw [if_neg hc, h.2 hc]; rfl
    have g2 : goodK t 2 = true ↔ 2 ≤ t.length ∧ 128 ≤ (t.getD 1 0).toNat ∧ (t.getD 1 0).toNat ≤ 191 := by
      simp [goodK, contB, wrongV, cont, List.range, List.range.loop]
    have g3 : goodK t 3 = true ↔ 3 ≤ t.length ∧ (128 ≤ (t.getD 1 0).toNat ∧ (t.getD 1 0).toNat ≤ 191) ∧ (128 ≤ (t.getD 2 0).toNat ∧ (t.getD 2 0).toNat ≤ 191) ∧ ¬ (((t.getD 0 0).toNat % 16 * 64 + (t.getD 1 0).toNat % 64) * 64 + (t.getD 2 0).toNat % 64 < 2048 ∨ (55296 ≤ ((t.getD 0 0).toNat % 16 * 64 + (t.getD 1 0).toNat % 64) * 64 + (t.getD 2 0).toNat % 64 ∧ ((t.getD 0 0).toNat % 16 * 64 + (t.getD 1 0).toNat % 64) * 64 + (t.getD 2 0).toNat % 64 < 57344)) := by
      unfold goodK contB wrongV cont
      simp only [vq, List.range, List.range.loop, List.all_cons, List.all_nil, Bool.and_eq_true, Bool.not_eq_true', bne_iff_ne, decide_eq_true_eq, Bool.or_eq_false_iff, Bool.and_eq_false_iff, decide_eq_false_iff_not, beq_eq_false_iff_ne, Nat.reduceSub, Nat.reducePow, Nat.reduceAdd]
      generalize (t.getD 0 0).toNat = x0; generalize (t.getD 1 0).toNat = x1; generalize (t.getD 2 0).toNat = x2
      clear gq g2
      generalize (x0 % 16 * 64 + x1 % 64) * 64 + x2 % 64 = V
      exact ⟨fun h => by omega, fun h => ⟨⟨⟨by omega, by omega⟩, by omega, by omega, trivial⟩, .inr (by omega), .inl (by omega)⟩⟩
    have g4 : goodK t 4 = true ↔ 4 ≤ t.length ∧ (128 ≤ (t.getD 1 0).toNat ∧ (t.getD 1 0).toNat ≤ 191) ∧ (128 ≤ (t.getD 2 0).toNat ∧ (t.getD 2 0).toNat ≤ 191) ∧ (128 ≤ (t.getD 3 0).toNat ∧ (t.getD 3 0).toNat ≤ 191) ∧ ¬ ((((t.getD 0 0).toNat % 8 * 64 + (t.getD 1 0).toNat % 64) * 64 + (t.getD 2 0).toNat % 64) * 64 + (t.getD 3 0).toNat % 64 < 65536 ∨ 1114111 < (((t.getD 0 0).toNat % 8 * 64 + (t.getD 1 0).toNat % 64) * 64 + (t.getD 2 0).toNat % 64) * 64 + (t.getD 3 0).toNat % 64) := by
      unfold goodK contB wrongV cont
      simp only [vq, List.range, List.range.loop, List.all_cons, List.all_nil, Bool.and_eq_true, Bool.not_eq_true', bne_iff_ne, decide_eq_true_eq, Bool.or_eq_false_iff, Bool.and_eq_false_iff, decide_eq_false_iff_not, beq_eq_false_iff_ne, Nat.reduceSub, Nat.reducePow, Nat.reduceAdd]
      generalize (t.getD 0 0).toNat = x0; generalize (t.getD 1 0).toNat = x1; generalize (t.getD 2 0).toNat = x2; generalize (t.getD 3 0).toNat = x3
      clear gq g2 g3
      generalize ((x0 % 8 * 64 + x1 % 64) * 64 + x2 % 64) * 64 + x3 % 64 = V
      exact ⟨fun h => by omega, fun h => ⟨⟨⟨by omega, by omega⟩, by omega, by omega, by omega, trivial⟩, .inl (by omega), .inr (by omega)⟩⟩
    have g0 : goodK t 0 = false := by simp [goodK]
    have lk : leadK (t.getD 0 0).toNat = 0 ∧ Lib.firstT (t.getD 0 0).toNat = 241 ∧ ((t.getD 0 0).toNat < 194 ∨ 245 ≤ (t.getD 0 0).toNat) ∨
        leadK (t.getD 0 0).toNat = 2 ∧ Lib.firstT (t.getD 0 0).toNat = 2 ∧ 194 ≤ (t.getD 0 0).toNat ∧ (t.getD 0 0).toNat < 224 ∨
        leadK (t.getD 0 0).toNat = 3 ∧ Lib.firstT (t.getD 0 0).toNat = 19 ∧ (t.getD 0 0).toNat = 224 ∨
        leadK (t.getD 0 0).toNat = 3 ∧ Lib.firstT (t.getD 0 0).toNat = 3 ∧ (224 < (t.getD 0 0).toNat ∧ (t.getD 0 0).toNat < 240 ∧ (t.getD 0 0).toNat ≠ 237) ∨
        leadK (t.getD 0 0).toNat = 3 ∧ Lib.firstT (t.getD 0 0).toNat = 35 ∧ (t.getD 0 0).toNat = 237 ∨
        leadK (t.getD 0 0).toNat = 4 ∧ Lib.firstT (t.getD 0 0).toNat = 52 ∧ (t.getD 0 0).toNat = 240 ∨
        leadK (t.getD 0 0).toNat = 4 ∧ Lib.firstT (t.getD 0 0).toNat = 4 ∧ (240 < (t.getD 0 0).toNat ∧ (t.getD 0 0).toNat < 244) ∨
        leadK (t.getD 0 0).toNat = 4 ∧ Lib.firstT (t.getD 0 0).toNat = 68 ∧ (t.getD 0 0).toNat = 244 := by
      clear gq g2 g3 g4 g0
      have key : ∀ X : Fin 256, leadK X.val = 0 ∧ Lib.firstT X.val = 241 ∧ (X.val < 194 ∨ 245 ≤ X.val) ∨ leadK X.val = 2 ∧ Lib.firstT X.val = 2 ∧ 194 ≤ X.val ∧ X.val < 224 ∨ leadK X.val = 3 ∧ Lib.firstT X.val = 19 ∧ X.val = 224 ∨ leadK X.val = 3 ∧ Lib.firstT X.val = 3 ∧ (224 < X.val ∧ X.val < 240 ∧ X.val ≠ 237) ∨ leadK X.val = 3 ∧ Lib.firstT X.val = 35 ∧ X.val = 237 ∨ leadK X.val = 4 ∧ Lib.firstT X.val = 52 ∧ X.val = 240 ∨ leadK X.val = 4 ∧ Lib.firstT X.val = 4 ∧ (240 < X.val ∧ X.val < 244) ∨ leadK X.val = 4 ∧ Lib.firstT X.val = 68 ∧ X.val = 244 ∨ X.val < 128 := by decide +kernel
      have := key ⟨_, b0⟩
      simp only at this
      rcases this with h | h | h | h | h | h | h | h | h
      all_goals first | exact .inl h | exact .inr (.inl h) | exact .inr (.inr (.inl h)) | exact .inr (.inr (.inr (.inl h))) | exact .inr (.inr (.inr (.inr (.inl h)))) | exact .inr (.inr (.inr (.inr (.inr (.inl h))))) | exact .inr (.inr (.inr (.inr (.inr (.inr (.inl h)))))) | exact .inr (.inr (.inr (.inr (.inr (.inr (.inr h)))))) | omega
    rcases lk with ⟨k, f, h⟩ | ⟨k, f, h⟩ | ⟨k, f, h⟩ | ⟨k, f, h⟩ | ⟨k, f, h⟩ | ⟨k, f, h⟩ | ⟨k, f, h⟩ | ⟨k, f, h⟩ <;> rw [k, f]
    · rw [g0]; rfl
    all_goals (
      simp +decide only [Lib.checkN, Lib.accLo, Lib.accHi, if_true, if_false]
      refine gq _ _ ?_
      first | rw [g2] | rw [g3] | rw [g4]
      clear gq g2 g3 g4 g0 k f
      generalize (t.getD 0 0).toNat = x0 at *
      generalize (t.getD 1 0).toNat = x1 at *
      generalize (t.getD 2 0).toNat = x2 at *
      generalize (t.getD 3 0).toNat = x3 at *
      constructor <;> intro hh <;> omega)
  · have h1 : leadK (t.getD 0 0).toNat = 1 := by unfold leadK; rw [if_pos (by omega)]
    rw [h1]
    have : goodK t 1 = true := by simp [goodK, contB, wrongV]; omega
    rw [this, Bool.true_and]
    refine (vd_skip t ht 1 ?_).symm
    cases t with
    | nil => exact absurd rfl hne
    | cons x l => refine asc_one x l ?_; have := ht x (by simp); simp only [List.getD_cons_zero] at h0; omega
end Go.Proofs.YtgbjlcedabkdkaaDoor
