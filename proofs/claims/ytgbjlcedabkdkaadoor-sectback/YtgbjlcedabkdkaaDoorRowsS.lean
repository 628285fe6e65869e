/- From a slice of sections that came in to what it reads as. -/
import Derived.Test.YtgbjlcedabkdkaaDoorRowsB
import Derived.Test.YtgbjlcedabkdkaaDoorSecL
namespace Go.Proofs.YtgbjlcedabkdkaaDoor
open Go.RowKit Go.ChangeShapes Go.WideShapes
set_option maxRecDepth 100000
set_option linter.unusedVariables false

/-- A section's bytes, of whatever length, in blocks of X. -/
def SecY (X : Nat → Prop) (w : World) (i : SV) : Prop := 0 ≤ i.id ∧ i.id ≤ 255 ∧ RdX X w i.A i.y ∧ i.y.length ≤ i.c ∧ i.c ≤ maxLen
/-- Sections that came in. -/
def RdA (X : Nat → Prop) (w : World) (v : Value) (is : List SV) : Prop :=
  ∃ A c, v = .slice A is.length c ∧ is.length ≤ c ∧ c ≤ maxLen ∧ RdV X w A (flatS is) ∧ ∀ i ∈ is, SecY X w i
section
variable {X Y S : Nat → Prop} {w w' : World} {v : Value} {is : List SV} {i : SV}
theorem SecY.chg (h : SecY X w i) (hc : Chg S w w') (hs : ∀ k, k < w.heap.size → X k → ¬ S k) : SecY X w' i := ⟨h.1, h.2.1, h.2.2.1.chg hc hs, h.2.2.2⟩
theorem SecY.later (h : SecY X w i) (hb : Below w.heap.size w w') : SecY X w' i := h.chg (S := fun _ => False) (Chg.of_below hb) fun _ _ _ => id
theorem RdA.chg (h : RdA X w v is) (hc : Chg S w w') (hs : ∀ k, k < w.heap.size → X k → ¬ S k) : RdA X w' v is := by
  obtain ⟨A, c, h1, h2, h3, h4, h5⟩ := h
  exact ⟨A, c, h1, h2, h3, h4.chg hc hs, fun i hi => (h5 i hi).chg hc hs⟩
theorem RdA.later (h : RdA X w v is) (hb : Below w.heap.size w w') : RdA X w' v is := h.chg (S := fun _ => False) (Chg.of_below hb) fun _ _ _ => id
theorem RdA.at_ {A : Option Addr} {c n : Nat} (h : RdA X w (.slice A n c) is) {j : Nat} {i : SV} (hj : is[j]? = some i) : ∃ b o, A = some ⟨b, o, none⟩ ∧ X b ∧ b < w.heap.size ∧ w.cell? ⟨b, o + j * 2, none⟩ = some (.int .u8 i.id) ∧ w.cell? ⟨b, o + j * 2 + 1, none⟩ = some (.slice i.A i.y.length i.c) ∧ SecY X w i := by
  obtain ⟨A', c', h1, h2, h3, h4, h5⟩ := h
  injection h1 with e1 e2 e3
  subst e1
  have hlt : j < is.length := (List.getElem?_eq_some_iff.1 hj).1
  obtain ⟨b, o, rfl, hX, hb, hc⟩ := h4.spot (by rw [flatS_len]; omega)
  have g := fun k hk => flatS_get is j i hj k hk
  refine ⟨b, o, rfl, hX, hb, ?_, ?_, h5 i (List.mem_of_getElem? hj)⟩
  · exact hc (j * 2) _ (by have := g 0 (by omega); rw [Nat.add_zero] at this; rw [this]; rfl)
  · rw [Nat.add_assoc]; exact hc _ _ (by rw [g 1 (by omega)]; rfl)
end
theorem under_asecs : Tryd.prog.underlying 36 = some (.slice 37) := Tryd.underlying36
theorem addAdd (a : Addr) (i j : Nat) : (a.add i).add j = a.add (i + j) := by
  by_cases hi : i = 0 <;> by_cases hj : j = 0 <;> simp [Addr.add, hi, hj, Nat.add_assoc]
theorem flatS_pair (is : List SV) : ∀ (j : Nat) (u : Value), ((flatS is)[j]? = some u) = ∃ k i, is[k]? = some i ∧ ((j = k * 2 ∧ u = .int .u8 i.id) ∨ (j = k * 2 + 1 ∧ u = .slice i.A i.y.length i.c)) := by
  intro j u
  refine propext ⟨fun h => ?_, fun ⟨k, i, hk, h⟩ => ?_⟩
  · have hj : j < is.length * 2 := by rw [← flatS_len]; exact (List.getElem?_eq_some_iff.1 h).1
    have hk : j / 2 < is.length := by omega
    refine ⟨j / 2, is[j / 2], List.getElem?_eq_getElem hk, ?_⟩
    have hg := flatS_get is (j / 2) _ (List.getElem?_eq_getElem hk) (j % 2) (by omega)
    rw [show j / 2 * 2 + j % 2 = j from by omega, h] at hg
    rcases Nat.mod_two_eq_zero_or_one j with e | e
    · rw [e] at hg; simp [SV.cells] at hg; exact .inl ⟨by omega, hg⟩
    · rw [e] at hg; simp [SV.cells] at hg; exact .inr ⟨by omega, hg⟩
  · rcases h with ⟨rfl, rfl⟩ | ⟨rfl, rfl⟩
    · have := flatS_get is k i hk 0 (by omega); rw [Nat.add_zero] at this; rw [this]; rfl
    · rw [flatS_get is k i hk 1 (by omega)]; rfl
theorem choose_list {α : Type} {P : Nat → α → Prop} : ∀ (n : Nat), (∀ i, i < n → ∃ a, P i a) → ∃ l : List α, l.length = n ∧ ∀ i a, l[i]? = some a → P i a
  | 0, _ => ⟨[], rfl, fun i a h => by simp at h⟩
  | n + 1, h => by
    obtain ⟨l, hl, hp⟩ := choose_list n fun i hi => h i (by omega)
    obtain ⟨a, ha⟩ := h n (by omega)
    refine ⟨l ++ [a], by simp [hl], fun i b hb => ?_⟩
    by_cases hi : i < n
    · rw [List.getElem?_append_left (by omega)] at hb; exact hp i b hb
    · rw [List.getElem?_append_right (by omega)] at hb
      have hi0 : i - l.length = 0 := by
        rcases Nat.eq_zero_or_pos (i - l.length) with h0 | h0
        · exact h0
        · rw [List.getElem?_eq_none (by simp; omega)] at hb; cases hb
      rw [hi0] at hb
      simp at hb
      obtain rfl : i = n := by omega
      subst hb; exact ha
section
variable {H : Type} {enc : TypeId × Value → H} {W : World}
theorem open_sec {fuel : Nat} {cs : List Value} {x : DataW H × List MemPlace} (h : DataW.trod enc Tryd.prog W 0 (fun _ => true) true fuel 37 cs = some x) : ∃ i : SV, cs = i.cells ∧ SecY (· < W.heap.size) W i := by
  obtain ⟨xs, n, _, _, hcl, hlen, hg⟩ := DataW.trod_struct Tryd.underlying37 h
  have hc2 : cs.length = 2 := hcl.trans (by kernel_rfl)
  match cs, hc2 with
  | [c0, c1], _ =>
  have h0 : DataW.trod enc Tryd.prog W 0 (fun _ => true) true n 5 (List.take (Tryd.prog.cellsOf 5) (List.drop 0 [c0, c1])) = xs[0]? := hg 0 _ rfl
  have h1 : DataW.trod enc Tryd.prog W 0 (fun _ => true) true n 22 (List.take (Tryd.prog.cellsOf 22) (List.drop 1 [c0, c1])) = xs[1]? := hg 1 _ rfl
  have k8 : Tryd.prog.cellsOf 5 = 1 := by kernel_rfl
  have kb : Tryd.prog.cellsOf 22 = 1 := by kernel_rfl
  simp only [k8, kb, List.drop_zero, List.drop_succ_cons, List.take_succ_cons, List.take_zero, List.take_nil] at h0 h1
  have hl2 : xs.length = 2 := hlen
  rw [List.getElem?_eq_getElem (show 0 < xs.length by omega)] at h0
  rw [List.getElem?_eq_getElem (show 1 < xs.length by omega)] at h1
  obtain ⟨k, e0, _, w0⟩ := DataW.trod_int Tryd.underlying5 h0
  obtain ⟨A, c, l, e1, hc1, hc2, hA⟩ := open_byt1 h1
  injection e0 with e0
  subst e0 e1
  exact ⟨⟨k, l, A, c⟩, rfl, (u8_of_wf w0).1, (u8_of_wf w0).2, hA, hc1, hc2⟩
theorem open_secs {b0 : Nat} {v : Value} {d : DataW H} {p : List MemPlace} (hv : Value.okWide Tryd.prog W .any b0 36 v) (h : DataW.Trod enc Tryd.prog W 0 (fun _ => true) true 36 v d p) :
    ∃ is, RdA (· < W.heap.size) W v is := by
  obtain ⟨a0, len0, cap0, rfl⟩ := okWide_slice Tryd.underlying36 hv
  obtain ⟨fuel, hf⟩ := h
  have k2 : Tryd.prog.cellsOf 37 = 2 := by kernel_rfl
  rcases DataW.trod_slice Tryd.underlying36 hf with ⟨hcs, _⟩ | ⟨a, len, cap, elems, rest, n, _, hcs, _, _, hl, hm, hel, hget, _⟩
  · simp [Value.cells] at hcs
    obtain ⟨rfl, rfl, rfl⟩ := hcs
    exact ⟨[], none, 0, rfl, by simp, by simp, RdV.nil _ _ _, fun i hi => by simp at hi⟩
  · simp [Value.cells] at hcs
    obtain ⟨rfl, rfl, rfl⟩ := hcs
    rw [k2] at hget
    obtain ⟨is, hil, hp⟩ := choose_list (P := fun j (i : SV) => W.cells? 0 (a.add (j * 2)) 2 = some i.cells ∧ SecY (· < W.heap.size) W i) len0 fun j hj => by
      have hj2 := hget j hj
      rw [List.getElem?_eq_getElem (by omega)] at hj2
      obtain ⟨cs, hcs, ht⟩ := Option.bind_eq_some_iff.1 hj2
      obtain ⟨i, rfl, hi⟩ := open_sec ht
      exact ⟨i, hcs, hi⟩
    refine ⟨is, some a, cap0, by rw [hil], by omega, hm, fun j u hu => ?_, fun i hi => ?_⟩
    · rw [flatS_pair is j u] at hu
      obtain ⟨k, i, hk, hu⟩ := hu
      obtain ⟨_, hcl, hcell⟩ := World.cells?_some (hp k i hk).1
      rcases hu with ⟨rfl, rfl⟩ | ⟨rfl, rfl⟩
      · have := hcell 0 (by omega)
        have hc : W.cell? (a.add (k * 2)) = some (.int .u8 i.id) := by simpa [SV.cells, addZero] using this
        exact ⟨a, rfl, by have := World.block_lt_of_cell? W _ hc; rwa [addBlock] at this, hc⟩
      · have := hcell 1 (by omega)
        have hc : W.cell? (a.add (k * 2 + 1)) = some (.slice i.A i.y.length i.c) := by rw [← addAdd]; simpa [SV.cells] using this
        exact ⟨a, rfl, by have := World.block_lt_of_cell? W _ hc; rwa [addBlock] at this, hc⟩
    · obtain ⟨j, hj⟩ := List.getElem?_of_mem hi
      exact (hp j i hj).2
end
end Go.Proofs.YtgbjlcedabkdkaaDoor
