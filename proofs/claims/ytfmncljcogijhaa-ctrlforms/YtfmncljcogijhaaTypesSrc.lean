/- types' source: what its calls come to. -/
import Derived.Test.YtfmncljcogijhaaReqSrc
namespace Go.Proofs.Ytfmncljcogijhaa
open Go.RowKit
set_option maxRecDepth 100000
set_option linter.unusedVariables false

def pAmong (ps : List Int) : PR Int := seq pByte fun x l => if x ∈ ps then .ok (x, l) else .error 2
def valE (x : Int) : Int := if x = 127 ∨ x = 126 ∨ x = 112 ∨ x = 111 then 0 else if x = 125 ∨ x = 124 ∨ x = 123 then 5 else 2
theorem valE_cases (x : Int) : valE x = 0 ∨ valE x = 5 ∨ valE x = 2 := by
  unfold valE
  by_cases h1 : x = 127 ∨ x = 126 ∨ x = 112 ∨ x = 111
  · rw [if_pos h1]; exact .inl rfl
  · rw [if_neg h1]
    by_cases h2 : x = 125 ∨ x = 124 ∨ x = 123
    · rw [if_pos h2]; exact .inr (.inl rfl)
    · rw [if_neg h2]; exact .inr (.inr rfl)
def pVal : PR Int := seq pByte fun x l => if valE x = 0 then .ok (x, l) else .error (valE x)
def pV : Nat → List Int → PR (List Int)
  | 0, acc => fun l => .ok (acc, l)
  | n + 1, acc => seq pVal fun x => pV n (acc ++ [x])
def pVals : PR (List Int) := seq (pCount 8) fun n => pV n.toNat []
abbrev Fn := List Int × List Int
def pFn : PR Fn := seq (pAmong [96]) fun _ => seq pVals fun ps => seq pVals fun rs l => .ok ((ps, rs), l)
structure Lim where
  min : Int
  max : Int
  has : Bool
deriving DecidableEq
def pLim : PR Lim := seq (pAmong [0, 1]) fun k => seq (pU 32) fun a => if k = 1 then seq (pU 32) fun b l => .ok (⟨a, b, true⟩, l) else fun l => .ok (⟨a, 0, false⟩, l)

def valT (x : Int) : Value := .tuple #[.bool (decide (valE x = 0)), .int .i64 (valE x)]
theorem not_mem_step {l : List Int} {k : Nat} {x : Int} (hk : k < l.length) (h : x ∉ l.take k) (he : x ≠ l.getD k 0) : x ∉ l.take (k + 1) := by
  rw [List.take_add_one, List.getElem?_eq_getElem hk]
  rw [List.getD_eq_getElem?_getD, List.getElem?_eq_getElem hk] at he
  simp only [Option.getD_some] at he
  simp only [Option.toList_some, List.mem_append, List.mem_singleton, not_or]
  exact ⟨h, he⟩
theorem getD_mem {l : List Int} {k : Nat} (hk : k < l.length) : l.getD k 0 ∈ l := by
  rw [List.getD_eq_getElem?_getD, List.getElem?_eq_getElem hk]
  simp
theorem am_in {ps : List Int} {s : St} {x : Int} (h : x ∈ ps) (h3 : ∀ a l', bd s pByte = .ok (a, l') → x = a) : nx (pAmong ps) s = nx pByte s ∧ ∀ a l', bd s (pAmong ps) = .ok (a, l') → x = a := by
  cases s with
  | error e => exact ⟨rfl, fun a l' h => by cases h⟩
  | ok l =>
    simp only [nx_ok, bd_ok, pAmong, seq] at h3 ⊢
    cases hp : pByte l with
    | error e => simp
    | ok r =>
      have := h3 r.1 r.2 (by rw [hp])
      subst this
      rw [bd_ok, if_pos h]
      exact ⟨rfl, fun a l' h => by injection h with h; injection h⟩
theorem am_out {ps : List Int} {s : St} {x : Int} (h : x ∉ ps) (h3 : ∀ a l', bd s pByte = .ok (a, l') → x = a) : nx (pAmong ps) s = failS 2 (nx pByte s) ∧ ∀ a l', bd s (pAmong ps) ≠ .ok (a, l') := by
  cases s with
  | error e => exact ⟨rfl, fun a l' h => by cases h⟩
  | ok l =>
    simp only [nx_ok, bd_ok, pAmong, seq] at h3 ⊢
    cases hp : pByte l with
    | error e => simp [failS]
    | ok r =>
      have := h3 r.1 r.2 (by rw [hp])
      subst this
      rw [bd_ok, if_neg h]
      exact ⟨rfl, fun a l' h => by cases h⟩
theorem val_in {s : St} {x : Int} (h : valE x = 0) (h3 : ∀ a l', bd s pByte = .ok (a, l') → x = a) : nx pVal s = nx pByte s ∧ ∀ a l', bd s pVal = .ok (a, l') → x = a := by
  cases s with
  | error e => exact ⟨rfl, fun a l' h => by cases h⟩
  | ok l =>
    simp only [nx_ok, bd_ok, pVal, seq] at h3 ⊢
    cases hp : pByte l with
    | error e => simp
    | ok r =>
      have := h3 r.1 r.2 (by rw [hp])
      subst this
      rw [bd_ok, if_pos h]
      exact ⟨rfl, fun a l' h => by injection h with h; injection h⟩
theorem val_out {s : St} {x : Int} (h : valE x ≠ 0) (h3 : ∀ a l', bd s pByte = .ok (a, l') → x = a) : nx pVal s = failS (valE x) (nx pByte s) ∧ ∀ a l', bd s pVal ≠ .ok (a, l') := by
  cases s with
  | error e => exact ⟨rfl, fun a l' h => by cases h⟩
  | ok l =>
    simp only [nx_ok, bd_ok, pVal, seq] at h3 ⊢
    cases hp : pByte l with
    | error e => simp [failS]
    | ok r =>
      have := h3 r.1 r.2 (by rw [hp])
      subst this
      rw [bd_ok, if_neg h]
      exact ⟨rfl, fun a l' h => by cases h⟩
end Go.Proofs.Ytfmncljcogijhaa
