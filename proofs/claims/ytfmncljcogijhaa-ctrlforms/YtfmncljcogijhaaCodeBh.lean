/- code's source: what stands behind an instruction. -/
import Derived.Test.YtfmncljcogijhaaCodeSrc3
namespace Go.Proofs.Ytfmncljcogijhaa
open Go.RowKit
set_option maxRecDepth 100000
set_option linter.unusedVariables false

/-- An instruction's cells. -/
def insC (x : Ins) (A : Option Addr) (c : Nat) : List Value := [.int .i64 x.op, .int .u32 x.a, .int .u32 x.b, .int .u64 x.n, .slice A x.l.length c, .int .i64 x.t]
/-- An instruction whose numbers fit. -/
structure InsOk (x : Ins) : Prop where
  a0 : 0 ≤ x.a
  a1 : x.a < 4294967296
  b0 : 0 ≤ x.b
  b1 : x.b < 4294967296
  n0 : 0 ≤ x.n
  n1 : x.n < 18446744073709551616
  t0 : -9223372036854775808 ≤ x.t
  t1 : x.t ≤ 9223372036854775807
  l : IsU32 x.l
  m : x.l.length ≤ 1000
/-- The labels of an instruction, read in blocks of X. -/
def LabX (X : Nat → Prop) (w : World) (x : Ins) (A : Option Addr) (c : Nat) : Prop := RdV X w A (x.l.map (Value.int .u32)) ∧ x.l.length ≤ c ∧ c ≤ maxLen
theorem LabX.nil (X : Nat → Prop) (w : World) {x : Ins} (h : x.l = []) : LabX X w x none 0 := ⟨by rw [h]; exact RdV.nil _ _ _, by rw [h]; exact Nat.le_refl _, Nat.zero_le _⟩
theorem LabX.chg {X S : Nat → Prop} {w w' : World} {x : Ins} {A : Option Addr} {c : Nat} (h : LabX X w x A c) (hc : Chg S w w') (hs : ∀ k, k < w.heap.size → X k → ¬ S k) : LabX X w' x A c := ⟨h.1.chg hc hs, h.2⟩
theorem LabX.later {X : Nat → Prop} {w w' : World} {x : Ins} {A : Option Addr} {c : Nat} (h : LabX X w x A c) (hb : Below w.heap.size w w') : LabX X w' x A c := ⟨h.1.later hb, h.2⟩
theorem LabX.mono {X Y : Nat → Prop} {w : World} {x : Ins} {A : Option Addr} {c : Nat} (h : LabX X w x A c) (hx : ∀ k, k < w.heap.size → X k → Y k) : LabX Y w x A c := ⟨h.1.mono hx, h.2⟩

/-- A reader in g, an instruction's cells in gx. -/
def BhAt (w : World) (g : Nat) (t : TypeId) (tl : RTl) (s : St) (gx : Nat) (Q : List Value) : Prop := RdrAt w g t tl s ∧ Own w gx 30 Q ∧ g < gx
theorem BhAt.step {w w' : World} {g gx : Nat} {t : TypeId} {tl : RTl} {s s' : St} {Q : List Value} (h : BhAt w g t tl s gx Q) (h1 : RdrAt w' g t tl s') (hc : Chg (fun k => k = g) w w') : BhAt w' g t tl s' gx Q :=
  ⟨h1, h.2.1.chg hc (by have := h.2.2; omega), h.2.2⟩
theorem BhAt.set {w : World} {g gx : Nat} {t : TypeId} {tl : RTl} {s : St} {Q : List Value} (h : BhAt w g t tl s gx Q) (j : Nat) (u : Value) : BhAt (w.setCell ⟨gx, j, none⟩ u) g t tl s gx (Q.set j u) :=
  ⟨h.1.chg (chgSet w gx j u) (fun k hk e => by have := h.2.2; omega), h.2.1.set j u, h.2.2⟩
theorem own_cells6 {w : World} {g : Nat} {t : TypeId} {a b c d e f : Value} {tl : List Value} (h : Own w g t (a :: b :: c :: d :: e :: f :: tl)) : w.cell? ⟨g, 0, none⟩ = some a ∧ w.cell? ⟨g, 1, none⟩ = some b ∧ w.cell? ⟨g, 2, none⟩ = some c ∧ w.cell? ⟨g, 3, none⟩ = some d ∧ w.cell? ⟨g, 4, none⟩ = some e ∧ w.cell? ⟨g, 5, none⟩ = some f ∧ w.frozen? ⟨g, 0, none⟩ = false ∧ w.frozen? ⟨g, 1, none⟩ = false ∧ w.frozen? ⟨g, 2, none⟩ = false ∧ w.frozen? ⟨g, 3, none⟩ = false ∧ w.frozen? ⟨g, 4, none⟩ = false ∧ w.frozen? ⟨g, 5, none⟩ = false :=
  ⟨h.cell 0, h.cell 1, h.cell 2, h.cell 3, h.cell 4, h.cell 5, h.frozen 0, h.frozen 1, h.frozen 2, h.frozen 3, h.frozen 4, h.frozen 5⟩

def BhPost (p : PR Ins) (op : Int) (g : Nat) (t : TypeId) (tl : RTl) (s : St) (gx : Nat) (w : World) (e : Ending) (w' : World) : Prop :=
  ∃ u x A c, e = .returned u ∧ BhAt w' g t tl (nx p s) gx (insC x A c) ∧ LabX (fun k => w.heap.size ≤ k) w' x A c ∧ InsOk x ∧ x.op = op ∧ (∀ a l', bd s p = .ok (a, l') → x = a) ∧ Chg (fun k => k = g ∨ k = gx) w w'
theorem chgG {w w' : World} {g gx : Nat} (h : Chg (fun k => k = g) w w') : Chg (fun k => k = g ∨ k = gx) w w' := h.mono fun k _ e => .inl e
theorem chgX {w : World} {g gx : Nat} (j : Nat) (u : Value) : Chg (fun k => k = g ∨ k = gx) w (w.setCell ⟨gx, j, none⟩ u) := (chgSet w gx j u).mono fun k _ e => .inr e
theorem chgT {a b c : World} {g gx : Nat} (h : Chg (fun k => k = g ∨ k = gx) a b) (k : Chg (fun k => k = g ∨ k = gx) b c) : Chg (fun k => k = g ∨ k = gx) a c := h.trans k fun _ _ e => e

/-- One is read, and laid. -/
theorem bh_one {α : Type} {p : PR α} {f : α → Ins} {s : St} {a : α} (h : ∀ b l', bd s p = .ok (b, l') → a = b) : nx (seq p fun a l => .ok (f a, l)) s = nx p s ∧ ∀ x l', bd s (seq p fun a l => .ok (f a, l)) = .ok (x, l') → f a = x := by
  obtain ⟨k1, k2⟩ := nx_seq p (fun a l => .ok (f a, l)) s a h
  rw [k1, k2]
  cases nx p s with
  | error e => exact ⟨rfl, fun x l' h => by cases h⟩
  | ok l => exact ⟨rfl, fun x l' h => by simp only [bd_ok] at h; injection h with h; injection h⟩
theorem bh_two {α β : Type} {p : PR α} {q : PR β} {f : α → β → Ins} {s : St} {a : α} {b : β} (h : ∀ b l', bd s p = .ok (b, l') → a = b) (h2 : ∀ c l', bd (nx p s) q = .ok (c, l') → b = c) :
    nx (seq p fun a => seq q fun b l => .ok (f a b, l)) s = nx q (nx p s) ∧ ∀ x l', bd s (seq p fun a => seq q fun b l => .ok (f a b, l)) = .ok (x, l') → f a b = x := by
  obtain ⟨k1, k2⟩ := nx_seq p (fun a => seq q fun b l => .ok (f a b, l)) s a h
  rw [k1, k2]
  exact bh_one h2

theorem pBh1 (op : Int) : pBh 1 op = seq (pNm op 0) fun a l => .ok (⟨op, a, 0, 0, [], 0⟩, l) := by unfold pBh; simp
theorem pBh2 (op : Int) : pBh 2 op = seq (pNm op 0) fun a => seq (pNm op 1) fun b l => .ok (⟨op, a, b, 0, [], 0⟩, l) := by unfold pBh; simp
theorem pBh3 (op : Int) : pBh 3 op = seq (pS 32) fun x l => .ok (⟨op, 0, 0, x % 4294967296, [], 0⟩, l) := by unfold pBh; simp
theorem pBh4 (op : Int) : pBh 4 op = seq (pS 64) fun x l => .ok (⟨op, 0, 0, x % 18446744073709551616, [], 0⟩, l) := by unfold pBh; simp
theorem pBh5 (op : Int) : pBh 5 op = seq pAl fun a => seq (pU 32) fun b l => .ok (⟨op, a, b, 0, [], 0⟩, l) := by unfold pBh; simp
theorem pBh6 (op : Int) : pBh 6 op = seq pBl fun t l => .ok (⟨op, 0, 0, 0, [], t⟩, l) := by unfold pBh; simp
theorem pBh7 (op : Int) : pBh 7 op = seq pLabels fun ls => seq (pU 32) fun a l => .ok (⟨op, a, 0, 0, ls, 0⟩, l) := by unfold pBh; simp
theorem pBh8 (op : Int) : pBh 8 op = seq (pTy op) fun a l => .ok (⟨op, a, 0, 0, [], 0⟩, l) := by unfold pBh; simp
/-- One is read as another, and laid. -/
theorem bh_rel {p : PR Int} {f : Int → Ins} {R : Int → Int → Prop} {s : St} {y : Ins} {x : Int} (h : ∀ b l', bd s p = .ok (b, l') → R x b) (hf : ∀ b, R x b → y = f b) : nx (seq p fun a l => .ok (f a, l)) s = nx p s ∧ ∀ z l', bd s (seq p fun a l => .ok (f a, l)) = .ok (z, l') → y = z := by
  cases s with
  | error e => exact ⟨rfl, fun z l' h => by cases h⟩
  | ok l =>
    simp only [nx_ok, bd_ok, seq] at h ⊢
    cases hp : p l with
    | error e => exact ⟨rfl, fun z l' h => by cases h⟩
    | ok r =>
      refine ⟨rfl, fun z l' h2 => ?_⟩
      simp only [bd_ok] at h2
      injection h2 with h2
      injection h2 with h2 _
      rw [← h2]
      exact hf _ (h r.1 r.2 (by rw [hp]))

theorem z1 : ∀ op, insC ⟨op, 0, 0, 0, [], 0⟩ none 0 = [.int .i64 op, .int .u32 0, .int .u32 0, .int .u64 0, .slice none 0 0, .int .i64 0] := fun _ => rfl
section
variable (op : Int) (g : Nat) (t : TypeId) (tl : RTl) (s : St) (gx : Nat) (w : World) (h : BhAt w g t tl s gx (insC ⟨op, 0, 0, 0, [], 0⟩ none 0))
include h
set_option maxHeartbeats 1000000
end
end Go.Proofs.Ytfmncljcogijhaa
