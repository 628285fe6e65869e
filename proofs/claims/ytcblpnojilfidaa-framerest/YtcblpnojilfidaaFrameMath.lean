/- Frames out of bytes: the plain mathematics. -/
namespace Go.Proofs.Ytcblpnojilfidaa
set_option linter.unusedVariables false

/-- The length that two bytes say. -/
def szOf (l : List Int) : Nat := (l.getD 0 0 * 256 + l.getD 1 0).toNat
/-- The frames at the front, the bytes that wait, and whether a frame was too long. -/
def frN : Nat → List Int → List (List Int) × List Int × Bool
  | 0, l => ([], l, false)
  | k + 1, l =>
    if l.length < 2 then ([], l, false)
    else if 5000 < szOf l then ([], [], true)
    else if l.length < szOf l + 2 then ([], l, false)
    else ((l.drop 2).take (szOf l) :: (frN k (l.drop (szOf l + 2))).1, (frN k (l.drop (szOf l + 2))).2)
def fr (l : List Int) : List (List Int) × List Int × Bool := frN l.length l

theorem frN_more (k k' : Nat) (l : List Int) (h : l.length ≤ k) (h' : l.length ≤ k') : frN k l = frN k' l := by
  induction k generalizing k' l with
  | zero =>
    have : l = [] := List.eq_nil_of_length_eq_zero (by omega)
    subst this
    cases k' <;> simp [frN]
  | succ k ih =>
    cases k' with
    | zero =>
      have : l = [] := List.eq_nil_of_length_eq_zero (by omega)
      subst this
      simp [frN]
    | succ k' =>
      unfold frN
      by_cases h1 : l.length < 2
      · simp [h1]
      · by_cases h2 : 5000 < szOf l
        · simp [h1, h2]
        · by_cases h3 : l.length < szOf l + 2
          · simp [h1, h2, h3]
          · rw [if_neg h1, if_neg h2, if_neg h3, if_neg h1, if_neg h2, if_neg h3, ih k' (l.drop (szOf l + 2)) (by simp; omega) (by simp; omega)]

theorem fr_short {l : List Int} (h : l.length < 2) : fr l = ([], l, false) := by
  unfold fr
  cases hk : l.length with
  | zero => simp [frN]
  | succ k => unfold frN; rw [if_pos h]
theorem fr_long {l : List Int} (h : 2 ≤ l.length) (h2 : 5000 < szOf l) : fr l = ([], [], true) := by
  unfold fr
  cases hk : l.length with
  | zero => omega
  | succ k => unfold frN; rw [if_neg (by omega), if_pos h2]
theorem fr_wait {l : List Int} (h : 2 ≤ l.length) (h2 : ¬ 5000 < szOf l) (h3 : l.length < szOf l + 2) : fr l = ([], l, false) := by
  unfold fr
  cases hk : l.length with
  | zero => omega
  | succ k => unfold frN; rw [if_neg (by omega), if_neg h2, if_pos h3]
theorem fr_one {l : List Int} (h : 2 ≤ l.length) (h2 : ¬ 5000 < szOf l) (h3 : ¬ l.length < szOf l + 2) : fr l = ((l.drop 2).take (szOf l) :: (fr (l.drop (szOf l + 2))).1, (fr (l.drop (szOf l + 2))).2) := by
  unfold fr
  cases hk : l.length with
  | zero => omega
  | succ k =>
    rw [frN, if_neg (by omega), if_neg h2, if_neg h3, frN_more k (l.drop (szOf l + 2)).length _ (by simp; omega) (Nat.le_refl _)]

/-- What waits is behind what is gone; the frames' bytes are bytes. -/
theorem fr_rest (l : List Int) : (fr l).2.2 = false → ∃ k, k ≤ l.length ∧ (fr l).2.1 = l.drop k := by
  generalize hn : l.length = n
  induction n using Nat.strongRecOn generalizing l with
  | ind n ih =>
    intro hb
    by_cases h1 : l.length < 2
    · rw [fr_short h1]; exact ⟨0, by omega, by simp⟩
    · by_cases h2 : 5000 < szOf l
      · rw [fr_long (by omega) h2] at hb; cases hb
      · by_cases h3 : l.length < szOf l + 2
        · rw [fr_wait (by omega) h2 h3]; exact ⟨0, by omega, by simp⟩
        · rw [fr_one (by omega) h2 h3] at hb ⊢
          obtain ⟨k, hk, he⟩ := ih (l.drop (szOf l + 2)).length (by simp; omega) _ rfl hb
          exact ⟨szOf l + 2 + k, by simp at hk; omega, by simp only [he, List.drop_drop]⟩
theorem fr_bad (l : List Int) : (fr l).2.2 = true → (fr l).2.1 = [] := by
  generalize hn : l.length = n
  induction n using Nat.strongRecOn generalizing l with
  | ind n ih =>
    intro hb
    by_cases h1 : l.length < 2
    · rw [fr_short h1] at hb; cases hb
    · by_cases h2 : 5000 < szOf l
      · rw [fr_long (by omega) h2]
      · by_cases h3 : l.length < szOf l + 2
        · rw [fr_wait (by omega) h2 h3] at hb; cases hb
        · rw [fr_one (by omega) h2 h3] at hb ⊢
          exact ih (l.drop (szOf l + 2)).length (by simp; omega) _ rfl hb
theorem fr_mem (l : List Int) (P : Int → Prop) (hl : ∀ z ∈ l, P z) : (∀ x ∈ (fr l).1, ∀ z ∈ x, P z) ∧ ∀ z ∈ (fr l).2.1, P z := by
  generalize hn : l.length = n
  induction n using Nat.strongRecOn generalizing l with
  | ind n ih =>
    by_cases h1 : l.length < 2
    · rw [fr_short h1]; exact ⟨by simp, hl⟩
    · by_cases h2 : 5000 < szOf l
      · rw [fr_long (by omega) h2]; simp
      · by_cases h3 : l.length < szOf l + 2
        · rw [fr_wait (by omega) h2 h3]; exact ⟨by simp, hl⟩
        · rw [fr_one (by omega) h2 h3]
          obtain ⟨h4, h5⟩ := ih (l.drop (szOf l + 2)).length (by simp; omega) (l.drop (szOf l + 2)) (fun z hz => hl z (List.mem_of_mem_drop hz)) rfl
          refine ⟨fun x hx z hz => ?_, h5⟩
          rcases List.mem_cons.1 hx with rfl | hx
          · exact hl z (List.mem_of_mem_drop (List.mem_of_mem_take hz))
          · exact h4 x hx z hz
theorem fr_restLen (l : List Int) : (fr l).2.1.length ≤ l.length ∧ (fr l).2.1.length ≤ 5001 := by
  generalize hn : l.length = n
  induction n using Nat.strongRecOn generalizing l with
  | ind n ih =>
    by_cases h1 : l.length < 2
    · rw [fr_short h1]; exact ⟨by simp [hn], by simp; omega⟩
    · by_cases h2 : 5000 < szOf l
      · rw [fr_long (by omega) h2]; simp
      · by_cases h3 : l.length < szOf l + 2
        · rw [fr_wait (by omega) h2 h3]; exact ⟨by simp [hn], by simp; omega⟩
        · rw [fr_one (by omega) h2 h3]
          have := ih (l.drop (szOf l + 2)).length (by simp; omega) (l.drop (szOf l + 2)) rfl
          simp at this ⊢
          omega

theorem fr_frames (l : List Int) : (fr l).1.length ≤ l.length := by
  generalize hn : l.length = n
  induction n using Nat.strongRecOn generalizing l with
  | ind n ih =>
    by_cases h1 : l.length < 2
    · rw [fr_short h1]; simp
    · by_cases h2 : 5000 < szOf l
      · rw [fr_long (by omega) h2]; simp
      · by_cases h3 : l.length < szOf l + 2
        · rw [fr_wait (by omega) h2 h3]; simp
        · rw [fr_one (by omega) h2 h3]
          have := ih (l.drop (szOf l + 2)).length (by simp; omega) (l.drop (szOf l + 2)) rfl
          simp at this ⊢
          omega
/-- Bytes that come behind. -/
theorem szOf_app {a b : List Int} (h : 2 ≤ a.length) : szOf (a ++ b) = szOf a := by
  unfold szOf
  simp only [List.getD_eq_getElem?_getD]
  rw [List.getElem?_append_left (by omega), List.getElem?_append_left (by omega)]
theorem fr_app (a b : List Int) : fr (a ++ b) = if (fr a).2.2 then ((fr a).1, [], true) else ((fr a).1 ++ (fr ((fr a).2.1 ++ b)).1, (fr ((fr a).2.1 ++ b)).2) := by
  generalize hn : a.length = n
  induction n using Nat.strongRecOn generalizing a with
  | ind n ih =>
    by_cases h1 : a.length < 2
    · rw [fr_short h1]; simp
    · by_cases h2 : 5000 < szOf a
      · rw [fr_long (l := a) (by omega) h2, fr_long (by simp; omega) (by rw [szOf_app (by omega)]; exact h2)]; simp
      · by_cases h3 : a.length < szOf a + 2
        · rw [fr_wait (l := a) (by omega) h2 h3]; simp
        · rw [fr_one (l := a) (by omega) h2 h3, fr_one (l := a ++ b) (by simp; omega) (by rw [szOf_app (by omega)]; exact h2) (by rw [szOf_app (by omega)]; simp; omega)]
          rw [szOf_app (by omega), List.drop_append_of_le_length (by omega), List.drop_append_of_le_length (by omega), List.take_append_of_le_length (by simp; omega)]
          rw [ih (a.drop (szOf a + 2)).length (by simp; omega) (a.drop (szOf a + 2)) rfl]
          split <;> simp_all

/-- A frame as bytes. -/
def enF (l : List Int) : List Int := [((l.length / 256 : Nat) : Int), ((l.length % 256 : Nat) : Int)] ++ l
theorem szOf_enF (l b : List Int) : szOf (enF l ++ b) = l.length := by
  simp [szOf, enF]; omega
theorem fr_enF (l b : List Int) (h : l.length ≤ 5000) : fr (enF l ++ b) = (l :: (fr b).1, (fr b).2) := by
  rw [fr_one (by simp [enF]) (by rw [szOf_enF]; omega) (by rw [szOf_enF]; simp [enF]), szOf_enF]
  simp [enF]
theorem fr_nil : fr [] = ([], [], false) := rfl
/-- The first k bytes of a frame, k fewer than all. -/
theorem fr_part (l : List Int) (h : l.length ≤ 5000) (k : Nat) (hk : k < l.length + 2) : fr ((enF l).take k) = ([], (enF l).take k, false) := by
  have hl : (enF l).length = l.length + 2 := by simp [enF]
  by_cases h1 : k < 2
  · exact fr_short (by simp; omega)
  · have hz : szOf ((enF l).take k) = l.length := by
      have := szOf_app (a := (enF l).take k) (b := (enF l).drop k) (by simp; omega)
      rw [List.take_append_drop] at this
      rw [← this]
      have := szOf_enF l []
      rwa [List.append_nil] at this
    exact fr_wait (by simp; omega) (by rw [hz]; omega) (by rw [hz]; simp; omega)
/-- All frames, one behind the other. -/
def enAll (ls : List (List Int)) : List Int := (ls.map enF).flatten
theorem fr_all (ls : List (List Int)) (h : ∀ l ∈ ls, l.length ≤ 5000) : fr (enAll ls) = (ls, [], false) := by
  induction ls with
  | nil => rfl
  | cons l ls ih =>
    have : enAll (l :: ls) = enF l ++ enAll ls := rfl
    rw [this, fr_enF l _ (h l (by simp)), ih (fun x hx => h x (by simp [hx]))]
end Go.Proofs.Ytcblpnojilfidaa
