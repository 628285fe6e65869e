/- An error that reading meets is none but 2, 3, 4. -/
import Derived.Test.YtnjbijndfbobbaaReqForm
namespace Go.Proofs.Ytnjbijndfbobbaa
open Go.RowKit
set_option maxRecDepth 100000
set_option linter.unusedVariables false

def Errs {α : Type} (p : PR α) : Prop := ∀ l e, p l = .error e → 2 ≤ e ∧ e ≤ 4
theorem Errs.seq {α β : Type} {p : PR α} {f : α → PR β} (h1 : Errs p) (h2 : ∀ a, Errs (f a)) : Errs (seq p f) := fun l e h => by
  change bd (p l) (fun r => f r.1 r.2) = .error e at h
  cases hp : p l with
  | error e' => rw [hp] at h; injection h with h; subst h; exact h1 l _ hp
  | ok r => rw [hp, bd_ok] at h; exact h2 _ _ _ h
theorem errs_ok {α : Type} (f : List Int → α) (g : List Int → List Int) : Errs (fun l => .ok (f l, g l)) := fun l e h => by cases h
theorem errs_byte : Errs pByte := fun l e h => by
  cases l with
  | nil => injection h with h; subst h; exact ⟨by omega, by omega⟩
  | cons x t => cases h
theorem errs_u (bits : Int) (h0 : 1 ≤ bits) (hb : bits ≤ 64) : Errs (pU bits) := fun l e h => by
  rcases rdU_cases bits h0 hb l with hd | hd | ⟨u, m, hd, _⟩
  · rw [pU_no hd (by omega)] at h; injection h with h; subst h; exact ⟨by omega, by omega⟩
  · rw [pU_no hd (by omega)] at h; injection h with h; subst h; exact ⟨by omega, by omega⟩
  · rw [pU_ok hd] at h; cases h
theorem errs_bytes (n : Nat) : Errs (pBytes n) := fun l e h => by
  unfold pBytes at h
  split at h
  · cases h
  · injection h with h; subst h; exact ⟨by omega, by omega⟩
theorem errs_count (m : Int) : Errs (pCount m) := Errs.seq (errs_u 32 (by omega) (by omega)) fun v l e h => by
  split at h
  · injection h with h; subst h; exact ⟨by omega, by omega⟩
  · cases h
theorem errs_name : Errs (pName 32) := Errs.seq (errs_count 32) fun n => errs_bytes _
theorem errs_n (n : Nat) : ∀ acc, Errs (pN n acc) := by
  induction n with
  | zero => intro acc l e h; cases h
  | succ n ih => intro acc; exact Errs.seq (errs_u 64 (by omega) (by omega)) fun x => ih _
theorem errs_list : Errs (pList 8) := Errs.seq (errs_count 8) fun n => errs_n _ _
theorem errs_word : Errs pWord := fun l e h => by
  unfold pWord at h
  rw [pW_eq] at h
  split at h
  · cases h
  · injection h with h; subst h; exact ⟨by omega, by omega⟩
theorem errs_kind : Errs pKind := Errs.seq errs_byte fun x l e h => by
  split at h
  · injection h with h; subst h; exact ⟨by omega, by omega⟩
  · cases h
theorem errs_rest (k tok : Int) : Errs (pRest k tok) := by
  have hu := errs_u 64 (by omega) (by omega)
  unfold pRest
  split
  · exact fun l e h => by cases h
  · split
    · exact Errs.seq hu fun h => Errs.seq errs_name fun n l e h => by cases h
    · split
      · exact Errs.seq errs_name fun n l e h => by cases h
      · split
        · exact Errs.seq hu fun h => Errs.seq errs_name fun n => Errs.seq errs_list fun xs => Errs.seq hu fun t l e h => by cases h
        · split
          · exact Errs.seq hu fun h l e h => by cases h
          · exact Errs.seq errs_word fun o l e h => by cases h
theorem take_err (b : List Int) (e : Int) (h : takeReq b = .error e) : 2 ≤ e ∧ e ≤ 4 := by
  have hr : Errs pReq := Errs.seq errs_kind fun k => Errs.seq errs_word fun tok => errs_rest k tok
  unfold takeReq at h
  rw [bd_ok] at h
  cases hp : pReq b with
  | error e' => rw [hp] at h; injection h with h; subst h; exact hr _ _ hp
  | ok r =>
    rw [hp, bd_ok] at h
    unfold done at h
    split at h
    · cases h
    · injection h with h; subst h; exact ⟨by omega, by omega⟩
end Go.Proofs.Ytnjbijndfbobbaa
