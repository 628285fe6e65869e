/- code's source: what blocks are open. -/
import Derived.Test.YtfmncljcogijhaaCodeBh
import Derived.Test.YtfmncljcogijhaaInts
namespace Go.Proofs.Ytfmncljcogijhaa
open Go.RowKit
set_option maxRecDepth 100000
set_option linter.unusedVariables false

def nstS (op : Int) (o : List Int) (s : St) : St := match nestP op o with
  | .error e => failS e s
  | .ok _ => s
theorem RdrAt.own {w : World} {g : Nat} {t : TypeId} {tl : RTl} {s : St} (h : RdrAt w g t tl s) : ∃ A n c r e, Own w g t (.slice A n c :: .int .i64 r :: .int .i64 e :: tl.2) := by
  cases s with
  | ok l => obtain ⟨A, c, r, h1, _⟩ := h; exact ⟨A, _, c, r, 0, h1⟩
  | error e => exact ⟨none, 0, 0, 0, e, h.1⟩
theorem RdrAt.tail {w : World} {g N : Nat} {t : TypeId} {L L' : List Value} {s : St} (h : RdrAt w g t (N, L) s) (j : Nat) (u : Value) (hL : L' = L.set j u) : RdrAt (w.setCell ⟨g, 3 + j, none⟩ u) g t (N, L') s := by
  have hc := chgSet w g (3 + j) u
  have e : ∀ a b c : Value, (a :: b :: c :: L).set (3 + j) u = a :: b :: c :: L' := fun a b c => by
    rw [hL, show 3 + j = j + 1 + 1 + 1 from by omega]; rfl
  cases s with
  | ok l =>
    obtain ⟨A, c, r, h1, h2, h5⟩ := h
    refine ⟨A, c, r, ?_, h2.chg hc fun k _ hk e => by omega, h5⟩
    have := h1.set (3 + j) u
    rwa [e] at this
  | error x =>
    refine ⟨?_, h.2⟩
    have := h.1.set (3 + j) u
    rwa [e] at this
theorem own_cells5 {w : World} {g : Nat} {t : TypeId} {a b c d e : Value} {tl : List Value} (h : Own w g t (a :: b :: c :: d :: e :: tl)) : w.cell? ⟨g, 3, none⟩ = some d ∧ w.cell? ⟨g, 4, none⟩ = some e ∧ w.frozen? ⟨g, 3, none⟩ = false ∧ w.frozen? ⟨g, 4, none⟩ = false :=
  ⟨h.cell 3, h.cell 4, h.frozen 3, h.frozen 4⟩
theorem nst_ok {op : Int} {o : List Int} {s : St} {r : List Int × Bool} (h : nestP op o = .ok r) : nstS op o s = s := by unfold nstS; rw [h]
theorem nst_no {op : Int} {o : List Int} {s : St} {e : Int} (h : nestP op o = .error e) : nstS op o s = failS e s := by unfold nstS; rw [h]

/-- A slice of ints of the call's own that is not empty: where it lies. -/
theorem OwnI.spot {w : World} {base : Nat} {v : Value} {l : List Int} (h : OwnI w base v l) (hp : 0 < l.length) : ∃ g c, v = .slice (some ⟨g, 0, none⟩) l.length c ∧ base ≤ g ∧ g < w.heap.size ∧ l.length ≤ c ∧ c ≤ maxLen ∧ (∀ i, i < l.length → w.cell? ⟨g, i, none⟩ = some (.int .i64 (l.getD i 0)) ∧ w.frozen? ⟨g, i, none⟩ = false) := by
  have hlt := fun g hg => owns_lt (g := g) h hg
  rcases h.2 with ⟨_, h0⟩ | ⟨g, cap, cur, rfl, hg, hh, hn, hm, hs, ht⟩
  · omega
  · refine ⟨g, cap, rfl, hg, hlt g rfl, hn, hm, fun i hi => ⟨?_, World.ownsRow.frozenAt h i⟩⟩
    rw [World.ownsRow.cellAt h i (by omega), List.getElem?_map, List.getElem?_eq_getElem hi]
    simp [List.getD_eq_getElem?_getD, List.getElem?_eq_getElem hi]
theorem OwnI.store {w : World} {base g c : Nat} {l : List Int} (h : OwnI w base (.slice (some ⟨g, 0, none⟩) l.length c) l) (j : Nat) (z : Int) : OwnI (w.setCell ⟨g, j, none⟩ (.int .i64 z)) base (.slice (some ⟨g, 0, none⟩) l.length c) (l.set j z) := by
  have := World.ownsRow.stored h j (.int .i64 z)
  unfold OwnI
  rw [List.length_set, List.map_set]
  exact this.1
theorem OwnI.pop {w : World} {base g c : Nat} {l : List Int} {z : Int} (h : OwnI w base (.slice (some ⟨g, 0, none⟩) (l ++ [z]).length c) (l ++ [z])) : OwnI w base (.slice (some ⟨g, 0, none⟩) l.length c) l := by
  unfold OwnI at h ⊢
  rw [List.length_append, List.length_singleton, List.map_append] at h
  exact ownsRow_pop (by simp) h
theorem cutI_h (b n cap : Nat) (hi : Int) (h : Nat) (hh : hi = h) (h2 : h ≤ cap) (hc : 0 < cap) (W : World) : (Instr.sliceAt 25 (.slice (some ⟨b, 0, none⟩) n cap) none (some (.int .i64 hi)) none).run Try.prog W = .ok (.slice (some ⟨b, 0, none⟩) h cap) W := by
  subst hh
  have hu := under_ints
  have hu' : Try.prog.underlying 25 = some (.slice (Try.prog.elem 25)) := by rw [elem_of hu]; exact hu
  rw [run_sliceAt_slice W 25 _ _ _ _ hu', run_slice_h W 25 (some ⟨b, 0, none⟩) n cap hu' .i64 h (by omega) (by omega), run_sz hu (sz := 1) (by kernel_rfl)]
  simp [Result.andThen, sliced, show ¬ cap = 0 from by omega, Addr.add]

theorem last_of (o : List Int) : o = [] ∨ ∃ p z, o = p ++ [z] := by
  rcases List.eq_nil_or_concat o with h | ⟨p, z, h⟩
  · exact .inl h
  · exact .inr ⟨p, z, by rw [h]; simp⟩
theorem last_get (p : List Int) (z : Int) : (p ++ [z]).getD p.length 0 = z := by simp [List.getD_eq_getElem?_getD]
theorem set_last (p : List Int) (z y : Int) : (p ++ [z]).set p.length y = p ++ [y] := by simp

theorem OwnI.far {w w' : World} {g : Nat} {v : Value} {l : List Int} (h : OwnI w (g + 1) v l) (hc : Chg (fun k => k = g) w w') : OwnI w' (g + 1) v l := h.chg hc fun k hk e => by have := owns_ge h hk; omega
end Go.Proofs.Ytfmncljcogijhaa
