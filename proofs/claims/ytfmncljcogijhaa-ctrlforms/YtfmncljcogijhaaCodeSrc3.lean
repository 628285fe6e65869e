/- code's source: labels, types, numbers of instructions. -/
import Derived.Test.YtfmncljcogijhaaCodeSrc2
namespace Go.Proofs.Ytfmncljcogijhaa
open Go.RowKit
set_option maxRecDepth 100000
set_option linter.unusedVariables false

/-- Numbers of 32 bits that were read, into new memory. -/
def QPost (p : PR (List Int)) (g : Nat) (t : TypeId) (tl : RTl) (s : St) (w : World) (e : Ending) (w' : World) : Prop :=
  ∃ v y, e = .returned v ∧ OwnQ w' w.heap.size v y ∧ IsU32 y ∧ RdrAt w' g t tl (nx p s) ∧ (∀ a l', bd s p = .ok (a, l') → y = a) ∧ Chg (fun k => k = g) w w' ∧ y.length ≤ 1000
theorem ty28_key {s : St} {n x : Int} {s1 s2 : St} (h1 : ∀ a l', bd s (pU 32) = .ok (a, l') → n = a) (e1 : s1 = if n = 1 then nx (pU 32) s else failS 2 (nx (pU 32) s)) (h2 : ∀ a l', bd s1 pByte = .ok (a, l') → x = a) (e2 : s2 = holdS x (nx pByte s1)) :
    nx (pTy 28) s = s2 ∧ ∀ a l', bd s (pTy 28) = .ok (a, l') → x = a := by
  subst e1 e2
  unfold pTy
  rw [if_pos rfl]
  cases s with
  | error e => simp [holdS, failS]
  | ok l =>
    simp only [nx_ok, bd_ok, seq] at h1 h2 ⊢
    cases hp : pU 32 l with
    | error e => simp [holdS, failS]
    | ok r =>
      have := h1 r.1 r.2 (by rw [hp])
      subst this
      rw [hp] at h2
      simp only [bd_ok] at h2 ⊢
      by_cases hn : r.1 = 1
      · simp only [hn, if_true, bd_ok, nx_ok] at h2 ⊢
        unfold pVal
        simp only [seq]
        cases hb : pByte r.2 with
        | error e => simp [holdS, failS]
        | ok q =>
          have := h2 q.1 q.2 (by rw [hb])
          subst this
          by_cases hv : valE q.1 = 0
          · simp only [bd_ok, hv, holdS, if_true]; exact ⟨trivial, fun a l' h => by injection h with h; injection h⟩
          · simp [holdS, hv, failS]
      · simp [hn, failS, holdS]
theorem ty_key {s : St} {op x : Int} {s2 : St} (ho : op ≠ 28) (h1 : ∀ a l', bd s pByte = .ok (a, l') → x = a) (e2 : s2 = if x = 112 ∨ x = 111 then holdS x (nx pByte s) else failS 2 (holdS x (nx pByte s))) :
    nx (pTy op) s = s2 ∧ ∀ a l', bd s (pTy op) = .ok (a, l') → x = a := by
  subst e2
  unfold pTy
  rw [if_neg ho]
  cases s with
  | error e => simp [holdS, failS]
  | ok l =>
    simp only [nx_ok, bd_ok, seq, pVal] at h1 ⊢
    cases hp : pByte l with
    | error e => simp [holdS, failS]
    | ok r =>
      have := h1 r.1 r.2 (by rw [hp])
      subst this
      simp only [bd_ok]
      by_cases hv : valE r.1 = 0
      · simp only [bd_ok, hv, if_true, holdS]
        by_cases hr : r.1 = 112 ∨ r.1 = 111
        · simp only [if_pos hr, bd_ok]; exact ⟨trivial, fun a l' h => by injection h with h; injection h⟩
        · simp [if_neg hr, failS]
      · simp [holdS, hv, failS]
theorem op_one {s : St} {b : Int} (hb : b ≠ 252) (h1 : ∀ a l', bd s pByte = .ok (a, l') → b = a) : nx pOp s = nx pByte s ∧ ∀ a l', bd s pOp = .ok (a, l') → b = a := by
  cases s with
  | error e => exact ⟨rfl, fun a l' h => by cases h⟩
  | ok l =>
    simp only [nx_ok, bd_ok, seq, pOp] at h1 ⊢
    cases hp : pByte l with
    | error e => simp
    | ok r =>
      have := h1 r.1 r.2 (by rw [hp])
      subst this
      simp only [bd_ok, if_neg hb]; exact ⟨trivial, fun a l' h => by injection h with h; injection h⟩
theorem op_two {s : St} {n : Int} (h0 : ∀ a l', bd s pByte = .ok (a, l') → 252 = a) (h1 : ∀ a l', bd (nx pByte s) (pU 32) = .ok (a, l') → n = a) :
    (¬ 255 < n → nx pOp s = nx (pU 32) (nx pByte s) ∧ ∀ a l', bd s pOp = .ok (a, l') → 64512 + n = a) ∧ (255 < n → nx pOp s = failS 2 (nx (pU 32) (nx pByte s)) ∧ ∀ a l', bd s pOp ≠ .ok (a, l')) := by
  cases s with
  | error e => exact ⟨fun _ => ⟨rfl, fun a l' h => by cases h⟩, fun _ => ⟨rfl, fun a l' h => by cases h⟩⟩
  | ok l =>
    simp only [nx_ok, bd_ok, seq, pOp] at h0 h1 ⊢
    cases hp : pByte l with
    | error e => simp [failS]
    | ok r =>
      have := h0 r.1 r.2 (by rw [hp])
      rw [hp] at h1
      simp only [bd_ok, if_pos this.symm, nx_ok] at h1 ⊢
      simp only [seq]
      cases hq : pU 32 r.2 with
      | error e => simp [failS]
      | ok q =>
        have := h1 q.1 q.2 (by rw [hq])
        subst this
        refine ⟨fun hx => ?_, fun hx => ?_⟩
        · simp only [bd_ok]; rw [if_neg hx]; exact ⟨rfl, fun a l' h => by injection h with h; injection h⟩
        · simp [hx, failS]
end Go.Proofs.Ytfmncljcogijhaa
