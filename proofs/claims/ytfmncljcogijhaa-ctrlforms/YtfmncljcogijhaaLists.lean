/- Lists of lists of bytes in memory. No function of the program but bytes.Clone. -/
import Derived.Test.YtfmncljcogijhaaMem
import Derived.Lib.LazyBuf
namespace Go.Proofs.Ytfmncljcogijhaa
open Go.RowKit
set_option maxRecDepth 100000
set_option linter.unusedVariables false

theorem bytes_info : (Try.prog.info? 22).map (fun i => (i.zero, i.size, i.bytes)) = some (some (.slice none 0 0), 1, 24) := by kernel_rfl

def All2 {α : Type} (P : Value → α → Prop) (vs : List Value) (ls : List α) : Prop := vs.length = ls.length ∧ ∀ (j : Nat) (u : Value) (x : α), vs[j]? = some u → ls[j]? = some x → P u x
section
variable {α : Type} {P Q : Value → α → Prop} {vs us : List Value} {ls ms : List α}
theorem All2.nil : All2 P [] ([] : List α) := ⟨rfl, fun j u x h => by simp at h⟩
theorem All2.mono (h : All2 P vs ls) (hp : ∀ u x, P u x → Q u x) : All2 Q vs ls := ⟨h.1, fun j u x hu hx => hp u x (h.2 j u x hu hx)⟩
theorem All2.monoMem (h : All2 P vs ls) (hp : ∀ u x, u ∈ vs → P u x → Q u x) : All2 Q vs ls := ⟨h.1, fun j u x hu hx => hp u x (List.mem_of_getElem? hu) (h.2 j u x hu hx)⟩
theorem All2.app (h : All2 P vs ls) (k : All2 P us ms) : All2 P (vs ++ us) (ls ++ ms) := by
  refine ⟨by simp [h.1, k.1], fun j u x hu hx => ?_⟩
  by_cases hj : j < vs.length
  · rw [List.getElem?_append_left hj] at hu
    rw [List.getElem?_append_left (by rw [← h.1]; exact hj)] at hx
    exact h.2 j u x hu hx
  · rw [List.getElem?_append_right (by omega)] at hu
    rw [List.getElem?_append_right (by rw [← h.1]; omega), ← h.1] at hx
    exact k.2 _ u x hu hx
theorem All2.one {u : Value} {x : α} (h : P u x) : All2 P [u] [x] := ⟨rfl, fun j v y hv hy => by
  cases j with
  | zero => simp at hv hy; subst hv; subst hy; exact h
  | succ j => simp at hv⟩
theorem All2.get (h : All2 P vs ls) {j : Nat} (hj : j < ls.length) : ∃ u x, vs[j]? = some u ∧ ls[j]? = some x ∧ P u x := by
  have h1 : vs[j]? = some (vs[j]'(by rw [h.1]; exact hj)) := List.getElem?_eq_getElem _
  have h2 : ls[j]? = some ls[j] := List.getElem?_eq_getElem hj
  exact ⟨_, _, h1, h2, h.2 j _ _ h1 h2⟩
end

/-- A list of lists of bytes in rows of the call's own, in blocks of X. -/
def OwnL (X : Nat → Prop) (w : World) (v : Value) (ls : List (List Int)) : Prop :=
  ∃ vs, w.ownsRow 0 22 1 v vs.length vs ∧ (∀ g, v.ownBlock = some g → X g) ∧ All2 (fun u l => OwnB w 0 u l ∧ IsBytes l ∧ ∀ g, u.ownBlock = some g → X g) vs ls
/-- A list of lists of bytes that is read. -/
def RdL (X : Nat → Prop) (w : World) (v : Value) (ls : List (List Int)) : Prop :=
  ∃ A c vs, v = .slice A ls.length c ∧ ls.length ≤ c ∧ c ≤ maxLen ∧ RdV X w A vs ∧ All2 (fun u l => ∃ B d, u = .slice B l.length d ∧ l.length ≤ d ∧ d ≤ maxLen ∧ RdX X w B l) vs ls

section
variable {X Y : Nat → Prop} {w w' : World} {v : Value} {ls : List (List Int)}
theorem OwnL.nil (X : Nat → Prop) (w : World) : OwnL X w (.slice none 0 0) [] := ⟨[], World.ownsRow_nil w 0 _ _, fun g h => by simp [Value.ownBlock] at h, All2.nil⟩
theorem OwnL.mono (h : OwnL X w v ls) (hx : ∀ k, k < w.heap.size → X k → Y k) : OwnL Y w v ls := by
  obtain ⟨vs, h1, h2, h3⟩ := h
  exact ⟨vs, h1, fun g hg => hx g (owns_lt h1 hg) (h2 g hg), h3.mono fun u l ⟨a, b, c⟩ => ⟨a, b, fun g hg => hx g (owns_lt a hg) (c g hg)⟩⟩
theorem OwnL.chg {S : Nat → Prop} (h : OwnL X w v ls) (hc : Chg S w w') (hs : ∀ k, k < w.heap.size → X k → ¬ S k) : OwnL X w' v ls := by
  obtain ⟨vs, h1, h2, h3⟩ := h
  exact ⟨vs, owns_chg h1 hc fun g hg => hs g (owns_lt h1 hg) (h2 g hg), h2, h3.mono fun u l ⟨a, b, c⟩ => ⟨OwnB.chg a hc fun g hg => hs g (owns_lt a hg) (c g hg), b, c⟩⟩
theorem OwnL.later (h : OwnL X w v ls) (hc : Below w.heap.size w w') : OwnL X w' v ls := h.chg (S := fun _ => False) (Chg.of_below hc) fun _ _ _ => id
theorem OwnL.rd (h : OwnL X w v ls) : RdL X w v ls := by
  obtain ⟨vs, h1, h2, h3⟩ := h
  obtain ⟨A, c, hv, hn, hm, hr⟩ := RdV.of_own h1
  refine ⟨A, c, vs, by rw [hv, h3.1], by rw [← h3.1]; exact hn, hm, hr.mono fun k _ hk => h2 k hk, h3.mono fun u l ⟨a, b, d⟩ => ?_⟩
  obtain ⟨B, e, hu, hl, hm, hx⟩ := a.rdX b
  exact ⟨B, e, hu, hl, hm, hx.mono fun k _ hk => d k hk⟩
theorem OwnL.ne {g : Nat} {t : TypeId} {L : List Value} (h : OwnL X w v ls) (hg : Own w g t L) (hne : 22 ≠ t) : v.ownBlock ≠ some g := by
  obtain ⟨vs, h1, _⟩ := h
  exact owns_ne h1 hg hne
theorem OwnL.neB {base : Nat} {u : Value} {l : List Int} (h : OwnL X w v ls) (hu : OwnB w base u l) {k : Nat} (hk : u.ownBlock = some k) : v.ownBlock ≠ some k := by
  obtain ⟨vs, h1, _⟩ := h
  exact owns_ne2 hu h1 (by decide) hk
theorem RdL.mono (h : RdL X w v ls) (hx : ∀ k, k < w.heap.size → X k → Y k) : RdL Y w v ls := by
  obtain ⟨A, c, vs, h1, h2, h3, h4, h5⟩ := h
  exact ⟨A, c, vs, h1, h2, h3, h4.mono hx, h5.mono fun u l ⟨B, d, a, b, e, f⟩ => ⟨B, d, a, b, e, f.mono hx⟩⟩
theorem RdL.chg {S : Nat → Prop} (h : RdL X w v ls) (hc : Chg S w w') (hs : ∀ k, k < w.heap.size → X k → ¬ S k) : RdL X w' v ls := by
  obtain ⟨A, c, vs, h1, h2, h3, h4, h5⟩ := h
  exact ⟨A, c, vs, h1, h2, h3, h4.chg hc hs, h5.mono fun u l ⟨B, d, a, b, e, f⟩ => ⟨B, d, a, b, e, f.chg hc hs⟩⟩
theorem RdL.later (h : RdL X w v ls) (hc : Below w.heap.size w w') : RdL X w' v ls := h.chg (S := fun _ => False) (Chg.of_below hc) fun _ _ _ => id
theorem RdL.drewN (h : RdL X w v ls) (n : Nat) : RdL X (w.drewN n) v ls := h.later (below_drewN' (Below.refl _ _) n)
theorem OwnL.drewN (h : OwnL X w v ls) (n : Nat) : OwnL X (w.drewN n) v ls := h.later (below_drewN' (Below.refl _ _) n)
/-- One element, where the walk wants it. -/
theorem RdL.at_ {A : Option Addr} {c n : Nat} (h : RdL X w (.slice A n c) ls) {j : Nat} (hj : j < ls.length) : ∃ b o B d, A = some ⟨b, o, none⟩ ∧ X b ∧ b < w.heap.size ∧ w.cell? ⟨b, o + j, none⟩ = some (.slice B (ls.getD j []).length d) ∧ (ls.getD j []).length ≤ d ∧ d ≤ maxLen ∧ RdX X w B (ls.getD j []) := by
  obtain ⟨A', c', vs, h1, h2, h3, h4, h5⟩ := h
  injection h1 with e1 e2 e3
  subst e1
  obtain ⟨u, x, hu, hx, B, d, rfl, hl, hm, hr⟩ := h5.get hj
  obtain ⟨b, o, rfl, hX, hb, hc⟩ := h4.spot (by rw [h5.1]; omega)
  have : ls.getD j [] = x := by rw [List.getD_eq_getElem?_getD, hx]; rfl
  rw [this]
  exact ⟨b, o, B, d, rfl, hX, hb, hc j _ hu, hl, hm, hr⟩
end

attribute [local go_sem] Lib.run_eql_slice_nil
end Go.Proofs.Ytfmncljcogijhaa
