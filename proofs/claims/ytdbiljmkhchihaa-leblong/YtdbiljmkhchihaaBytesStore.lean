/- A slice of bytes of the call's own: a byte read, a byte stored. -/
import Derived.Test.YtdbiljmkhchihaaBytesApp
namespace Go.Proofs.Ytdbiljmkhchihaa
open Go.RowKit
set_option linter.unusedVariables false

/-- A slice of the call's own that is not empty: where it lies. -/
theorem OwnB.spot {w : World} {base : Nat} {v : Value} {l : List Int} (h : OwnB w base v l) (hp : 0 < l.length) : ∃ g c, v = .slice (some ⟨g, 0, none⟩) l.length c ∧ base ≤ g ∧ l.length ≤ c ∧ c ≤ maxLen ∧ (∀ i, i < l.length → w.cell? ⟨g, i, none⟩ = some (.int .u8 (l.getD i 0)) ∧ w.frozen? ⟨g, i, none⟩ = false) := by
  rcases h.2 with ⟨_, h0⟩ | ⟨g, cap, cur, rfl, hg, hh, hn, hm, hs, ht⟩
  · omega
  · refine ⟨g, cap, rfl, hg, hn, hm, fun i hi => ⟨?_, World.ownsRow.frozenAt h i⟩⟩
    rw [World.ownsRow.cellAt h i (by omega), List.getElem?_map, List.getElem?_eq_getElem hi]
    simp [List.getD_eq_getElem?_getD, List.getElem?_eq_getElem hi]
/-- One byte stored. -/
theorem OwnB.store {w : World} {base g c : Nat} {l : List Int} (h : OwnB w base (.slice (some ⟨g, 0, none⟩) l.length c) l) (j : Nat) (z : Int) : OwnB (w.setCell ⟨g, j, none⟩ (.int .u8 z)) base (.slice (some ⟨g, 0, none⟩) l.length c) (l.set j z) := by
  have := World.ownsRow.stored h j (.int .u8 z)
  unfold OwnB
  rw [List.length_set, List.map_set]
  exact this.1

/-- append(s, z), the size of memory under a name. -/
theorem wpList_app1n {ops : Array Oper} {rest : List Oper} {o : Oper} {a : Act} {Q : Exit → Act → World → Prop} {w : World} (hgd : o.guard = none) (s x : Operand)
    (ho : o.op = .call { callee := .builtin .append, args := #[s, x], argTypes := #[22, 22] }) (base : Nat) (v : Value) (l : List Int) (hs : a.eval s = v) (hown : OwnB w base v l)
    (z : Int) (H : Nat) (hH : w.heap.size = H) (hx : a.eval x = .slice (some ⟨H, 0, none⟩) 1 1) (hz0 : 0 ≤ z) (hz1 : z ≤ 255) (hlen : l.length + 1 ≤ 1000000000) (hbase : base ≤ w.heap.size)
    (h : ∀ v' w', OwnB w' base v' (l ++ [z]) → Below base w w' → wpList Try.prog ops Q rest (a.put o.dst v') w') : wpList Try.prog ops Q (o :: rest) a (w.alloc (.cells #[.int .u8 z] 5)) := by
  subst hH
  exact wpList_app1 hgd s x ho base v l hs hown z hx hz0 hz1 hlen hbase h
end Go.Proofs.Ytdbiljmkhchihaa
