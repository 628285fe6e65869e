/- Reading on, as plain functions of bytes. No function of the program. -/
import Derived.Test.YtfmncljcogijhaaLebMath2
import Derived.Test.YtfmncljcogijhaaBytes
namespace Go.Proofs.Ytfmncljcogijhaa
open Go.RowKit
set_option maxRecDepth 100000
set_option linter.unusedVariables false

/-- What is left to read, or the first error. -/
abbrev St := Except Int (List Int)
abbrev PR (α : Type) := List Int → Except Int (α × List Int)
def bd {α β : Type} (x : Except Int α) (f : α → Except Int β) : Except Int β := match x with
  | .error e => .error e
  | .ok a => f a
@[simp] theorem bd_ok {α β : Type} (a : α) (f : α → Except Int β) : bd (.ok a) f = f a := rfl
@[simp] theorem bd_error {α β : Type} (e : Int) (f : α → Except Int β) : bd (.error e : Except Int α) f = .error e := rfl
theorem bd_bd {α β γ : Type} (x : Except Int α) (f : α → Except Int β) (g : β → Except Int γ) : bd (bd x f) g = bd x fun a => bd (f a) g := by cases x <;> rfl
/-- The state behind. -/
def nx {α : Type} (p : PR α) (s : St) : St := bd (bd s p) fun r => .ok r.2
@[simp] theorem nx_error {α : Type} (p : PR α) (e : Int) : nx p (.error e) = .error e := rfl
theorem nx_ok {α : Type} (p : PR α) (l : List Int) : nx p (.ok l) = bd (p l) fun r => .ok r.2 := rfl
/-- One reads, then another one. -/
def seq {α β : Type} (p : PR α) (f : α → PR β) : PR β := fun l => bd (p l) fun r => f r.1 r.2

def failS (e : Int) (s : St) : St := match s with
  | .error e' => .error e'
  | .ok _ => .error e
def lenS (s : St) : Nat := match s with
  | .error _ => 0
  | .ok l => l.length
def endS (s : St) : Int := match s with
  | .error e => e
  | .ok [] => 0
  | .ok _ => 2

def pByte : PR Int
  | [] => .error 3
  | x :: t => .ok (x, t)
def pU (bits : Int) : PR Int := fun l => if (rdU bits l).2.2 = 0 then .ok ((rdU bits l).1 % 2 ^ bits.toNat, l.drop (rdU bits l).2.1.toNat) else .error (rdU bits l).2.2
def pBytes (n : Nat) : PR (List Int) := fun l => if n ≤ l.length then .ok (l.take n, l.drop n) else .error 3
def pCount (most : Int) : PR Int := seq (pU 32) fun v l => if most < v then .error 4 else .ok (v, l)
/-- n bytes more, the highest first. -/
def pW : Nat → Int → PR Int
  | 0, v => fun l => .ok (v, l)
  | n + 1, v => seq pByte fun b => pW n (v * 256 + b)
/-- n numbers more. -/
def pN : Nat → List Int → PR (List Int)
  | 0, acc => fun l => .ok (acc, l)
  | n + 1, acc => seq (pU 64) fun x => pN n (acc ++ [x])
def pName (most : Int) : PR (List Int) := seq (pCount most) fun n => pBytes n.toNat
def pList (most : Int) : PR (List Int) := seq (pCount most) fun n => pN n.toNat []
def pWord : PR Int := pW 8 0

theorem pU_ok {bits : Int} {l : List Int} {u m : Int} (h : rdU bits l = (u, m, 0)) : pU bits l = .ok (u % 2 ^ bits.toNat, l.drop m.toNat) := by simp [pU, h]
theorem pU_no {bits : Int} {l : List Int} {u m e : Int} (h : rdU bits l = (u, m, e)) (he : e ≠ 0) : pU bits l = .error e := by simp [pU, h, he]
theorem rdU_cases (bits : Int) (h0 : 1 ≤ bits) (hb : bits ≤ 64) (l : List Int) : rdU bits l = (0, 0, 3) ∨ rdU bits l = (0, 0, 2) ∨
    ∃ (u : Int) (m : Nat), rdU bits l = (u, (m : Int), 0) ∧ 0 ≤ u ∧ u < 18446744073709551616 ∧ 1 ≤ m ∧ m ≤ 10 ∧ m ≤ l.length := by
  rcases dec_cases bits fitU (by omega) l 0 0 (by omega) with h | h | ⟨u, m, h, h1, h2, h3, h4, h5⟩
  · exact .inl h
  · exact .inr (.inl h)
  · exact .inr (.inr ⟨u, m, h, h1, h2, h3, by omega, by omega⟩)

theorem pW_eq (n : Nat) : ∀ (v : Int) (l : List Int), pW n v l = if n ≤ l.length then .ok ((l.take n).foldl (fun a b => a * 256 + b) v, l.drop n) else .error 3 := by
  induction n with
  | zero => intro v l; simp [pW]
  | succ n ih =>
    intro v l
    cases l with
    | nil => simp [pW, seq, pByte]
    | cons x t => simp [pW, seq, pByte, ih]
theorem foldBE_bd (l : List Int) : ∀ (v : Int) (k : Nat), 0 ≤ v → v < 256 ^ k → (∀ z ∈ l, 0 ≤ z ∧ z ≤ 255) → 0 ≤ l.foldl (fun a b => a * 256 + b) v ∧ l.foldl (fun a b => a * 256 + b) v < 256 ^ (k + l.length) := by
  induction l with
  | nil => intro v k h0 h1 _; simpa using ⟨h0, h1⟩
  | cons x t ih =>
    intro v k h0 h1 hz
    have hx := hz x (by simp)
    have := ih (v * 256 + x) (k + 1) (by omega) (by rw [Int.pow_succ]; omega) (fun z h => hz z (by simp [h]))
    rw [show k + (x :: t).length = k + 1 + t.length from by simp; omega]
    simpa using this
/-- A number in eight bytes. -/
def be8 (x : Int) : List Int := [x / 72057594037927936 % 256, x / 281474976710656 % 256, x / 1099511627776 % 256, x / 4294967296 % 256, x / 16777216 % 256, x / 65536 % 256, x / 256 % 256, x % 256]
theorem be8_len (x : Int) : (be8 x).length = 8 := rfl
theorem be8_is (x : Int) : ∀ z ∈ be8 x, 0 ≤ z ∧ z ≤ 255 := by
  intro z hz; simp [be8] at hz; omega
theorem be8_get (x : Int) (k : Nat) (hk : k < 8) : (be8 x).getD k 0 = x / 2 ^ (8 * (7 - k)) % 256 := by
  rcases show k = 0 ∨ k = 1 ∨ k = 2 ∨ k = 3 ∨ k = 4 ∨ k = 5 ∨ k = 6 ∨ k = 7 from by omega with h | h | h | h | h | h | h | h <;> subst h <;> simp [be8]
theorem pWord_be8 (x : Int) (h0 : 0 ≤ x) (h1 : x < 18446744073709551616) (l : List Int) : pWord (be8 x ++ l) = .ok (x, l) := by
  unfold pWord
  rw [pW_eq, if_pos (by simp [be8])]
  simp only [be8, List.cons_append, List.nil_append, List.take_succ_cons, List.take_zero, List.drop_succ_cons, List.drop_zero, List.foldl]
  congr 2
  omega
end Go.Proofs.Ytfmncljcogijhaa
