/- What taken requests are like. -/
import Derived.Test.YtnjbijndfbobbaaMay
namespace Go.Proofs.Ytnjbijndfbobbaa
open Go.RowKit
set_option maxRecDepth 100000
set_option linter.unusedVariables false

theorem seq_ok {α β : Type} {p : PR α} {f : α → PR β} {l : List Int} {r : β × List Int} (h : seq p f l = .ok r) : ∃ a l', p l = .ok (a, l') ∧ f a l' = .ok r := by
  unfold seq at h
  cases hp : p l with
  | error e => rw [hp] at h; cases h
  | ok x => rw [hp, bd_ok] at h; exact ⟨x.1, x.2, by rw [hp] at *, h⟩
theorem pCount_ok {m v : Int} {l l' : List Int} (h : pCount m l = .ok (v, l')) : v ≤ m ∧ 0 ≤ v := by
  obtain ⟨a, l1, h1, h2⟩ := seq_ok h
  split at h2
  · cases h2
  · injection h2 with h2; injection h2 with h2 _; subst h2
    refine ⟨by omega, ?_⟩
    unfold pU at h1
    split at h1
    · injection h1 with h1; injection h1 with h1 _; rw [← h1]; exact Int.emod_nonneg _ (by decide)
    · cases h1
theorem pBytes_ok {n : Nat} {l a l' : List Int} (h : pBytes n l = .ok (a, l')) : a.length = n ∧ l'.length ≤ l.length := by
  unfold pBytes at h
  split at h
  · injection h with h; injection h with h1 h2; subst h1; subst h2; simp; omega
  · cases h
theorem pN_ok (n : Nat) : ∀ (acc l a l' : List Int), pN n acc l = .ok (a, l') → a.length = acc.length + n := by
  induction n with
  | zero => intro acc l a l' h; injection h with h; injection h with h _; subst h; rfl
  | succ n ih =>
    intro acc l a l' h
    obtain ⟨x, l1, _, h2⟩ := seq_ok h
    have := ih _ _ _ _ h2
    simp at this; omega
theorem pName_ok {l a l' : List Int} (h : pName 32 l = .ok (a, l')) : a.length ≤ 32 := by
  obtain ⟨n, l1, h1, h2⟩ := seq_ok h
  have h3 := pCount_ok h1
  have h4 := (pBytes_ok h2).1
  omega
theorem pList_ok {l a l' : List Int} (h : pList 8 l = .ok (a, l')) : a.length ≤ 8 := by
  obtain ⟨n, l1, h1, h2⟩ := seq_ok h
  have h3 := pCount_ok h1
  have h4 := pN_ok _ _ _ _ _ h2
  simp at h4; omega
theorem pWord_ok {l l' : List Int} {x : Int} (h : pWord l = .ok (x, l')) : l'.length ≤ l.length := by
  unfold pWord at h
  rw [pW_eq] at h
  split at h
  · injection h with h; injection h with _ h; subst h; simp
  · cases h
theorem take_form (b : List Int) (y : Req) (h : takeReq b = .ok y) : norm y = y ∧ 1 ≤ y.kind ∧ y.kind ≤ 6 ∧ y.name.length ≤ 32 ∧ y.args.length ≤ 8 ∧ y.body.length ≤ b.length := by
  unfold takeReq at h
  rw [bd_ok] at h
  cases hp : pReq b with
  | error e => rw [hp] at h; cases h
  | ok r =>
    rw [hp, bd_ok] at h
    have hy : r.1 = y := by
      unfold done at h
      split at h
      · injection h
      · cases h
    obtain ⟨k, l1, h1, h2⟩ := seq_ok hp
    obtain ⟨tok, l2, h3, h4⟩ := seq_ok h2
    obtain ⟨x, l0, h5, h6⟩ := seq_ok h1
    have hl2 := pWord_ok h3
    have hk : 1 ≤ k ∧ k ≤ 6 ∧ l1.length ≤ b.length := by
      split at h6
      · cases h6
      · injection h6 with h6; injection h6 with h6 h7; subst h6; subst h7
        refine ⟨by omega, by omega, ?_⟩
        cases b with
        | nil => cases h5
        | cons z t => injection h5 with h5; injection h5 with _ h5; subst h5; simp
    subst hy
    clear h h1 h2 h3 h5 h6 hp
    rcases show k = 1 ∨ k = 2 ∨ k = 3 ∨ k = 4 ∨ k = 5 ∨ k = 6 from by omega with rfl | rfl | rfl | rfl | rfl | rfl
    · rw [pRest_1] at h4
      injection h4 with h4; subst h4
      refine ⟨rfl, by simp, by simp, by simp, by simp, by simp only []; omega⟩
    · rw [pRest_2] at h4
      obtain ⟨hh, l3, _, h4⟩ := seq_ok h4
      obtain ⟨nm, l4, hn, h4⟩ := seq_ok h4
      have := pName_ok hn
      injection h4 with h4; subst h4
      exact ⟨rfl, by simp, by simp, this, by simp, by simp⟩
    · rw [pRest_3] at h4
      obtain ⟨nm, l4, hn, h4⟩ := seq_ok h4
      have := pName_ok hn
      injection h4 with h4; subst h4
      exact ⟨rfl, by simp, by simp, this, by simp, by simp⟩
    · rw [pRest_4] at h4
      obtain ⟨hh, l3, _, h4⟩ := seq_ok h4
      obtain ⟨nm, l4, hn, h4⟩ := seq_ok h4
      obtain ⟨xs, l5, hx, h4⟩ := seq_ok h4
      obtain ⟨ti, l6, _, h4⟩ := seq_ok h4
      have := pName_ok hn
      have hx2 := pList_ok hx
      injection h4 with h4; subst h4
      exact ⟨rfl, by simp, by simp, this, hx2, by simp⟩
    · rw [pRest_5] at h4
      obtain ⟨hh, l3, _, h4⟩ := seq_ok h4
      injection h4 with h4; subst h4
      exact ⟨rfl, by simp, by simp, by simp, by simp, by simp⟩
    · rw [pRest_6] at h4
      obtain ⟨hh, l3, _, h4⟩ := seq_ok h4
      injection h4 with h4; subst h4
      exact ⟨rfl, by simp, by simp, by simp, by simp, by simp⟩
end Go.Proofs.Ytnjbijndfbobbaa
