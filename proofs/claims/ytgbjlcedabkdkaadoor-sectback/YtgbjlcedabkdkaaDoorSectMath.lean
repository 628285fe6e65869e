/- Sections, as plain functions of bytes. No function of the program. -/
import Derived.Test.YtgbjlcedabkdkaaDoorParseMath
import Derived.Test.YtgbjlcedabkdkaaDoorUtf8Math
namespace Go.Proofs.YtgbjlcedabkdkaaDoor
open Go.RowKit
set_option maxRecDepth 100000
set_option linter.unusedVariables false

/-- The IDs that have a place, in their order. -/
def secOrder : List Int := [1, 2, 3, 4, 5, 6, 7, 8, 9, 12, 10, 11]
/-- Behind which place an ID stands that may come when k places are used. -/
def placeIn (k : Nat) (id : Int) : Option Nat := ((secOrder.drop k).findIdx? (· == id)).map fun p => k + p + 1
/-- A length, and as many bytes. -/
def pSized : PR (List Int) := seq (pU 32) fun n => pBytes n.toNat
def nameOk (b : List Int) : Bool := match pSized b with
  | .ok r => vd r.1
  | .error _ => false
/-- A section's ID, and how many places are used then. -/
def pId (k : Nat) : PR (Int × Nat) := seq pByte fun id l => if id = 0 then .ok ((0, k), l) else match placeIn k id with
  | none => .error 2
  | some k' => .ok ((id, k'), l)
/-- A section. -/
abbrev Sec := Int × List Int
def pSec (k : Nat) : PR (Sec × Nat) := seq (pId k) fun q => seq pSized fun b l => if q.1 = 0 ∧ nameOk b = false then .error 2 else .ok (((q.1, b), q.2), l)
def pSecs : Nat → Nat → List Sec → PR (List Sec)
  | 0, _, acc => fun l => .ok (acc, l)
  | n + 1, k, acc => fun l => if l = [] then .ok (acc, []) else bd (pSec k l) fun r => pSecs n r.1.2 (acc ++ [r.1.1]) r.2
def secFront : List Int := [0, 97, 115, 109, 1, 0, 0, 0]
def pFront (l : List Int) : St := if l.length < 8 then .error 3 else if l.take 8 = secFront then .ok (l.drop 8) else .error 2
/-- The sections that bytes are. -/
def split (b : List Int) : Except Int (List Sec) := bd (pFront b) fun l => bd (pSecs l.length 0 [] l) fun r => .ok r.1
def spL (r : Except Int (List Sec)) : List Sec := match r with
  | .ok q => q
  | .error _ => []
def spE (r : Except Int (List Sec)) : Int := match r with
  | .ok _ => 0
  | .error e => e

theorem placeIn_le {k k' : Nat} {id : Int} (hk : k ≤ 12) (h : placeIn k id = some k') : k < k' ∧ k' ≤ 12 ∧ secOrder.getD (k' - 1) 0 = id := by
  unfold placeIn at h
  obtain ⟨p, hp, rfl⟩ := Option.map_eq_some_iff.1 h
  obtain ⟨h1, h2, _⟩ := List.findIdx?_eq_some_iff_getElem.1 hp
  have hl : (secOrder.drop k).length = 12 - k := by simp [secOrder]
  refine ⟨by omega, by omega, ?_⟩
  simp only [beq_iff_eq, List.getElem_drop] at h2
  rw [show k + p + 1 - 1 = k + p from by omega, List.getD_eq_getElem?_getD, List.getElem?_eq_getElem (by simp [secOrder]; omega)]
  exact h2
theorem pByte_lt {l l' : List Int} {x : Int} (h : pByte l = .ok (x, l')) : l'.length < l.length := by
  cases l with
  | nil => cases h
  | cons y t => simp [pByte] at h; obtain ⟨rfl, rfl⟩ := h; simp
theorem pU_le {bits : Int} {l l' : List Int} {x : Int} (h : pU bits l = .ok (x, l')) : l'.length ≤ l.length := by
  unfold pU at h
  split at h
  · injection h with h; injection h with _ h; subst h; simp
  · cases h
theorem pBytes_le {n : Nat} {l l' x : List Int} (h : pBytes n l = .ok (x, l')) : l'.length ≤ l.length ∧ x = l.take n ∧ l' = l.drop n ∧ n ≤ l.length := by
  unfold pBytes at h
  split at h
  · rename_i hn; injection h with h; injection h with h1 h; subst h; exact ⟨by simp, h1.symm, rfl, hn⟩
  · cases h
theorem seq_ok {α β : Type} {p : PR α} {f : α → PR β} {l l' : List Int} {b : β} (h : seq p f l = .ok (b, l')) : ∃ a l1, p l = .ok (a, l1) ∧ f a l1 = .ok (b, l') := by
  unfold seq at h
  cases hp : p l with
  | error e => rw [hp] at h; cases h
  | ok r => rw [hp] at h; exact ⟨r.1, r.2, rfl, h⟩
theorem pSized_le {l l' x : List Int} (h : pSized l = .ok (x, l')) : l'.length ≤ l.length ∧ x.length ≤ l.length ∧ (IsBytes l → IsBytes x) := by
  obtain ⟨n, l1, h1, h2⟩ := seq_ok h
  obtain ⟨h3, h4, h5, h6⟩ := pBytes_le h2
  have h7 := pU_le h1
  refine ⟨by omega, by subst h4; simp; omega, fun hl => ?_⟩
  subst h4
  unfold pU at h1
  split at h1
  · injection h1 with h1; injection h1 with _ h1; subst h1
    exact fun z hz => hl z (List.mem_of_mem_drop (List.mem_of_mem_take hz))
  · cases h1
theorem pId_lt {k : Nat} {l l' : List Int} {q : Int × Nat} (hk : k ≤ 12) (h : pId k l = .ok (q, l')) : l'.length < l.length ∧ q.2 ≤ 12 := by
  obtain ⟨id, l1, h1, h2⟩ := seq_ok h
  have h3 := pByte_lt h1
  split at h2
  · injection h2 with h2; injection h2 with h4 h5; subst h4 h5; exact ⟨h3, hk⟩
  · split at h2
    · cases h2
    · rename_i k' hk'
      injection h2 with h2; injection h2 with h4 h5; subst h4 h5; exact ⟨h3, (placeIn_le hk hk').2.1⟩
theorem pSec_lt {k : Nat} {l l' : List Int} {q : Sec × Nat} (hk : k ≤ 12) (h : pSec k l = .ok (q, l')) : l'.length < l.length ∧ q.2 ≤ 12 := by
  obtain ⟨a, l1, h1, h2⟩ := seq_ok h
  obtain ⟨b, l2, h3, h4⟩ := seq_ok h2
  obtain ⟨h5, h6⟩ := pId_lt hk h1
  have h7 := (pSized_le h3).1
  split at h4
  · cases h4
  · injection h4 with h4; injection h4 with h8 h9; subst h8 h9; exact ⟨by omega, h6⟩
/-- Fuel beyond the bytes makes no difference. -/
theorem pSecs_fuel : ∀ (n m k : Nat) (acc : List Sec) (l : List Int), k ≤ 12 → l.length ≤ n → l.length ≤ m → pSecs n k acc l = pSecs m k acc l := by
  intro n
  induction n with
  | zero =>
    intro m k acc l hk h1 h2
    obtain rfl : l = [] := List.eq_nil_of_length_eq_zero (by omega)
    cases m <;> simp [pSecs]
  | succ n ih =>
    intro m k acc l hk h1 h2
    cases m with
    | zero =>
      obtain rfl : l = [] := List.eq_nil_of_length_eq_zero (by omega)
      simp [pSecs]
    | succ m =>
      simp only [pSecs]
      by_cases hl : l = []
      · simp [hl]
      · simp only [hl, if_false]
        cases hp : pSec k l with
        | error e => rfl
        | ok r =>
          have := pSec_lt (q := r.1) (l' := r.2) hk (by rw [hp])
          exact ih m _ _ _ this.2 (by omega) (by omega)
/-- What is left from a state on. -/
def goSecs (k : Nat) (acc : List Sec) (s : St) : Except Int (List Sec) := bd s fun l => bd (pSecs l.length k acc l) fun r => .ok r.1
theorem goSecs_nil (k : Nat) (acc : List Sec) : goSecs k acc (.ok []) = .ok acc := rfl
theorem goSecs_error (k : Nat) (acc : List Sec) (e : Int) : goSecs k acc (.error e) = .error e := rfl
theorem goSecs_step {k : Nat} (hk : k ≤ 12) (acc : List Sec) {l : List Int} (hl : l ≠ []) {x : Sec} {k' : Nat} (h : ∀ r l', pSec k l = .ok (r, l') → r = (x, k')) : goSecs k acc (.ok l) = goSecs k' (acc ++ [x]) (nx (pSec k) (.ok l)) := by
  unfold goSecs
  rw [bd_ok, nx_ok]
  obtain ⟨n, hn⟩ : ∃ n, l.length = n + 1 := ⟨l.length - 1, by have := List.length_pos_iff.2 hl; omega⟩
  rw [hn]
  simp only [pSecs, hl, if_false]
  cases hp : pSec k l with
  | error e => rfl
  | ok r =>
    have e := h r.1 r.2 (by rw [hp])
    have hlt := pSec_lt (q := r.1) (l' := r.2) hk (by rw [hp])
    simp only [bd_ok]
    rw [e, ← pSecs_fuel r.2.length n k' _ r.2 (by have := hlt.2; rw [e] at this; exact this) (Nat.le_refl _) (by omega)]
theorem split_eq (b : List Int) : split b = goSecs 0 [] (pFront b) := by
  unfold split goSecs
  cases pFront b <;> rfl
end Go.Proofs.YtgbjlcedabkdkaaDoor
