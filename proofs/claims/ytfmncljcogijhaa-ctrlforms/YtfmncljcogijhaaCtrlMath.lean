/- Blocks, as a plain function of the operations. -/
import Derived.Test.YtfmncljcogijhaaMapsI
import Derived.Test.YtfmncljcogijhaaInsL
import Derived.Test.YtfmncljcogijhaaInts
import Derived.Test.YtfmncljcogijhaaCodeNest
namespace Go.Proofs.Ytfmncljcogijhaa
open Go.RowKit
set_option maxRecDepth 100000
set_option linter.unusedVariables false

/-- What is known as far as was gone: which blocks are open, else and end of each, how many, how deep, whether the end came. -/
structure BS where
  o : List Int
  f : Int → Option (Int × Option Int)
  n : Nat
  d : Nat
  over : Bool
def updE (f : Int → Option (Int × Option Int)) (i : Int) (v : Int × Option Int) (j : Int) : Option (Int × Option Int) := if j = i then some v else f j
def cntE (f : Int → Option (Int × Option Int)) (i : Int) (n : Nat) : Nat := if (f i).isSome then n else n + 1
def bs0 : BS := ⟨[], fun _ => none, 0, 0, false⟩
def elseE (f : Int → Option (Int × Option Int)) (i : Int) : Int := ((f i).getD (0, none)).1
def begB (at_ : Int) (s : BS) : BS := ⟨s.o ++ [at_], updE s.f at_ (-1, none), cntE s.f at_ s.n, max s.d (s.o.length + 1), s.over⟩
def meetB (ops : List Int) (at_ : Int) (op : Int) (s : BS) : Option BS :=
  if op = 2 ∨ op = 3 ∨ op = 4 then some (begB at_ s)
  else if op = 5 then match s.o.getLast? with
    | none => none
    | some k => if ops.getD k.toNat 0 ≠ 4 ∨ elseE s.f k ≠ -1 then none else some ⟨s.o, updE s.f k (at_, none), cntE s.f k s.n, s.d, s.over⟩
  else if op = 11 then match s.o.getLast? with
    | none => some ⟨s.o, s.f, s.n, s.d, true⟩
    | some k => some ⟨s.o.dropLast, updE s.f k (elseE s.f k, some at_), cntE s.f k s.n, s.d, s.over⟩
  else some s
def stB (ops : List Int) : Nat → Option BS
  | 0 => some bs0
  | j + 1 => match stB ops j with
    | none => none
    | some s => if s.over then none else meetB ops j (ops.getD j 0) s
def resB (ops : List Int) : Option BS := match stB ops ops.length with
  | none => none
  | some s => if s.over then some s else none

/-- What holds at each place. -/
structure InvB (ops : List Int) (j : Nat) (s : BS) : Prop where
  o : ∀ k ∈ s.o, 0 ≤ k ∧ k < j ∧ ∃ e, s.f k = some (e, none) ∧ -1 ≤ e
  srt : s.o.Pairwise (· < ·)
  cl : ∀ i e, s.f i = some (e, none) → i ∈ s.o
  n : s.n ≤ j
  d0 : s.o.length ≤ s.d
  d1 : s.d ≤ j
  ov : s.over = true → s.o = []
theorem cntE_le (f : Int → Option (Int × Option Int)) (i : Int) (n : Nat) : cntE f i n ≤ n + 1 := by unfold cntE; split <;> omega
theorem cntE_old {f : Int → Option (Int × Option Int)} {i : Int} {n : Nat} {v} (h : f i = some v) : cntE f i n = n := by unfold cntE; rw [h]; rfl
theorem updE_self (f : Int → Option (Int × Option Int)) (i : Int) (v : Int × Option Int) : updE f i v i = some v := by simp [updE]
theorem updE_ne (f : Int → Option (Int × Option Int)) {i j : Int} (v : Int × Option Int) (h : j ≠ i) : updE f i v j = f j := by simp [updE, h]
theorem meetB_inv (ops : List Int) (j : Nat) (op : Int) (s s' : BS) (h : InvB ops j s) (hv : s.over = false) (hs : meetB ops j op s = some s') : InvB ops (j + 1) s' := by
  unfold meetB at hs
  split at hs
  · injection hs with hs; subst hs
    unfold begB
    refine ⟨fun k hk => ?_, ?_, fun i e hi => ?_, ?_, ?_, ?_, fun hov => ?_⟩
    · rcases List.mem_append.1 hk with hk | hk
      · obtain ⟨h1, h2, e, h3, h4⟩ := h.o k hk
        exact ⟨h1, by omega, e, (updE_ne _ _ (by omega)).trans h3, h4⟩
      · simp only [List.mem_singleton] at hk; subst hk
        exact ⟨by omega, by omega, -1, updE_self _ _ _, by omega⟩
    · rw [List.pairwise_append]
      exact ⟨h.srt, by simp, fun a ha b hb => by simp only [List.mem_singleton] at hb; subst hb; exact (h.o a ha).2.1⟩
    · by_cases hij : i = (j : Int)
      · subst hij; simp
      · exact List.mem_append.2 (.inl (h.cl i e ((updE_ne _ _ hij).symm.trans hi)))
    · exact Nat.le_trans (cntE_le _ _ _) (by have := h.n; omega)
    · simp; omega
    · have := h.d0; have := h.d1; simp only [Nat.max_le]; omega
    · rw [hv] at hov; cases hov
  split at hs
  · split at hs
    · cases hs
    · rename_i k hk
      split at hs
      · cases hs
      · rename_i hne
        injection hs with hs; subst hs
        have hm : k ∈ s.o := List.mem_of_getLast? hk
        obtain ⟨h1, h2, e0, h3, h4⟩ := h.o k hm
        refine ⟨fun i hi => ?_, h.srt, fun i e hi => ?_, ?_, h.d0, by have := h.d1; simp only; omega, fun hov => by rw [hv] at hov; cases hov⟩
        · obtain ⟨g1, g2, e, g3, g4⟩ := h.o i hi
          by_cases hik : i = k
          · subst hik; exact ⟨g1, by omega, _, updE_self _ _ _, by omega⟩
          · exact ⟨g1, by omega, e, (updE_ne _ _ hik).trans g3, g4⟩
        · by_cases hik : i = k
          · subst hik; exact hm
          · exact h.cl i e ((updE_ne _ _ hik).symm.trans hi)
        · show cntE s.f k s.n ≤ j + 1; rw [cntE_old h3]; have := h.n; omega
  split at hs
  · split at hs
    · rename_i hk
      injection hs with hs; subst hs
      have he : s.o = [] := List.getLast?_eq_none_iff.1 hk
      refine ⟨fun k hk => ?_, h.srt, h.cl, by have := h.n; simp only; omega, h.d0, by have := h.d1; simp only; omega, fun _ => he⟩
      have hk2 : k ∈ s.o := hk
      rw [he] at hk2; cases hk2
    · rename_i k hk
      injection hs with hs; subst hs
      have hm : k ∈ s.o := List.mem_of_getLast? hk
      obtain ⟨h1, h2, e0, h3, h4⟩ := h.o k hm
      rcases last_of s.o with he | ⟨p, z, he⟩
      · rw [he] at hk; cases hk
      · have hz : z = k := by rw [he] at hk; simpa using hk
        subst hz
        have hp := h.srt
        rw [he, List.pairwise_append] at hp
        have hlt : ∀ i ∈ p, i < z := fun i hi => hp.2.2 i hi z (by simp)
        have hdl : s.o.dropLast = p := by rw [he]; simp
        refine ⟨fun i hi => ?_, ?_, fun i e hi => ?_, ?_, ?_, by have := h.d1; simp only; omega, fun hov => by rw [hv] at hov; cases hov⟩
        · simp only [hdl] at hi
          obtain ⟨g1, g2, e, g3, g4⟩ := h.o i (by rw [he]; simp [hi])
          have := hlt i hi
          exact ⟨g1, by omega, e, (updE_ne _ _ (by omega)).trans g3, g4⟩
        · simp only [hdl]; exact hp.1
        · by_cases hik : i = z
          · subst hik; have hi2 := (updE_self _ _ _).symm.trans hi; injection hi2 with hi2; injection hi2 with _ hi2; cases hi2
          · have := h.cl i e ((updE_ne _ _ hik).symm.trans hi)
            rw [he] at this
            simp only [hdl]
            simp at this
            rcases this with h | h
            · exact h
            · exact absurd h hik
        · show cntE s.f z s.n ≤ j + 1; rw [cntE_old h3]; have := h.n; omega
        · have := h.d0; rw [he] at this; simp only [hdl]; simp at this; omega
  · injection hs with hs; subst hs
    exact ⟨fun k hk => by obtain ⟨a, b, c⟩ := h.o k hk; exact ⟨a, by omega, c⟩, h.srt, h.cl, by have := h.n; omega, h.d0, by have := h.d1; omega, h.ov⟩
theorem stB_inv (ops : List Int) : ∀ (j : Nat) (s : BS), stB ops j = some s → InvB ops j s
  | 0, s, h => by
    injection h with h; subst h
    exact ⟨fun k hk => by simp [bs0] at hk, by simp [bs0], fun i e h => by simp [bs0] at h, by simp [bs0], by simp [bs0], by simp [bs0], fun h => by simp [bs0]⟩
  | j + 1, s, h => by
    unfold stB at h
    split at h
    · cases h
    · rename_i s0 h0
      split at h
      · cases h
      · rename_i hv
        exact meetB_inv ops j _ s0 s (stB_inv ops j s0 h0) (by simpa using hv) h
theorem stB_dead {ops : List Int} {j : Nat} (h : stB ops j = none) : ∀ k, stB ops (j + k) = none
  | 0 => h
  | k + 1 => by rw [← Nat.add_assoc]; unfold stB; rw [stB_dead h k]
theorem stB_step {ops : List Int} {j : Nat} {s : BS} (h : stB ops j = some s) (hv : s.over = false) : stB ops (j + 1) = meetB ops j (ops.getD j 0) s := by rw [stB, h]; simp [hv]
theorem stB_over {ops : List Int} {j : Nat} {s : BS} (h : stB ops j = some s) (hv : s.over = true) : stB ops (j + 1) = none := by rw [stB, h]; simp [hv]
theorem resB_none {ops : List Int} {j : Nat} (h : stB ops j = none) (hj : j ≤ ops.length) : resB ops = none := by
  have := stB_dead h (ops.length - j)
  rw [show j + (ops.length - j) = ops.length from by omega] at this
  unfold resB; rw [this]
theorem resB_some {ops : List Int} {s : BS} (h : resB ops = some s) : stB ops ops.length = some s ∧ s.over = true := by
  unfold resB at h
  split at h
  · cases h
  · rename_i s0 h0
    split at h
    · injection h with h; subst h; exact ⟨h0, by assumption⟩
    · cases h
/-- An entry, as memory has it: where the end is still missing, z. -/
def vw (z : Int) (e : Int × Option Int) : Value := .agg #[.int .i64 e.1, .int .i64 (e.2.getD z)]
def fw (z : Int) (f : Int → Option (Int × Option Int)) (i : Int) : Option Value := (f i).map (vw z)
theorem upd_fw (z : Int) (f : Int → Option (Int × Option Int)) (i : Int) (e : Int × Option Int) : upd (fw z f) i (vw z e) = fw z (updE f i e) := by
  funext j; unfold upd fw updE; split <;> rfl
theorem updN_fw (z : Int) (f : Int → Option (Int × Option Int)) (i : Int) (n : Nat) : updN (fw z f) i n = cntE f i n := by
  unfold updN fw cntE; cases f i <;> rfl
/-- Of what is a body each block has its end. -/
theorem fw_closed {ops : List Int} {s : BS} (h : resB ops = some s) (z : Int) : fw z s.f = fw 0 s.f := by
  obtain ⟨h1, h2⟩ := resB_some h
  have hi := stB_inv ops _ s h1
  have ho := hi.ov h2
  funext i
  unfold fw
  cases hf : s.f i with
  | none => rfl
  | some e =>
    obtain ⟨a, b⟩ := e
    cases b with
    | none => have := hi.cl i a hf; rw [ho] at this; cases this
    | some c => rfl
end Go.Proofs.Ytfmncljcogijhaa
