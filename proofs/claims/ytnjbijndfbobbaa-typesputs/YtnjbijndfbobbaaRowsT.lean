/- From types of functions and limits that came in to what they read as. -/
import Derived.Test.YtnjbijndfbobbaaRowsR
import Derived.Test.YtnjbijndfbobbaaTypesMath
import Derived.SizedLaws
namespace Go.Proofs.Ytnjbijndfbobbaa
open Go.RowKit Go.ChangeShapes Go.WideShapes Go.Joins Go.Deep
set_option maxRecDepth 100000
set_option linter.unusedVariables false

theorem agg2 (cs : Array Value) (h : cs.size = 2) : cs = #[cs.getD 0 undef, cs.getD 1 undef] := by
  obtain ⟨l⟩ := cs
  match l, h with
  | [a0, a1], _ => rfl
theorem agg3 (cs : Array Value) (h : cs.size = 3) : cs = #[cs.getD 0 undef, cs.getD 1 undef, cs.getD 2 undef] := by
  obtain ⟨l⟩ := cs
  match l, h with
  | [a0, a1, a2], _ => rfl
section
variable {H : Type} {enc : TypeId × Value → H} {W : World}
theorem open_fields_s {b0 : Nat} {t : TypeId} {fs : Array Field} {v : Value} {d : DataW H} {p : List MemPlace} (hs : Try.prog.underlying t = some (.struct fs)) (hone : oneCellFields Try.prog fs = true) (hC : Try.prog.cellsOf t = fs.size)
    (hv : Value.okWide Try.prog W .any b0 t v) (h : DataW.Trod enc Try.prog W 0 (fun _ => true) true t v d p) :
    ∃ cs : Array Value, v = .agg cs ∧ cs.size = fs.size ∧ ∃ n, ∀ (i : Nat) (f : Field), fs[i]? = some f → ∃ x, DataW.trod enc Try.prog W 0 (fun _ => true) true n f.type [cs.getD i undef] = some x ∧ ∀ k ∈ x.1.weights Try.prog f.type, k ∈ d.weights Try.prog t := by
  obtain ⟨cs, rfl, hsz⟩ := okWide_struct hs hv
  obtain ⟨fuel, hf⟩ := h
  obtain ⟨xs, n, _, hx, _, hlen, hg⟩ := DataW.trod_struct hs hf
  rw [hC] at hsz
  refine ⟨cs, rfl, hsz, n, fun i f hi => ?_⟩
  obtain ⟨ho, hk⟩ := hone_of hone i f hi
  have hil : i < fs.size := (Array.getElem?_eq_some_iff.1 hi).1
  have h1 := hg i f hi
  rw [ho, hk] at h1
  have hcs : (List.drop i (Value.agg cs).cells.toList).take 1 = [cs.getD i undef] := by
    have : (Value.agg cs).cells.toList = cs.toList := rfl
    rw [this, List.drop_eq_getElem_cons (by simp; omega)]
    simp [Array.getD, show i < cs.size by omega]
  rw [hcs] at h1
  refine ⟨xs[i]'(by omega), h1.trans (List.getElem?_eq_getElem (by omega)), fun k hk => ?_⟩
  obtain ⟨rfl, -⟩ := Prod.mk.inj hx
  have e : DataW.weights Try.prog t (.agg (xs.map (·.1))) = DataW.weightsEach Try.prog (fs.toList.map (·.type)) (xs.map (·.1)) := by simp [DataW.weights, hs]
  rw [e]
  refine DataW.weights_mem_each (j := i) (t := f.type) (d := (xs[i]'(by omega)).1) ?_ ?_ k hk
  · rw [List.getElem?_map, Array.getElem?_toList, hi]; rfl
  · rw [List.getElem?_map, List.getElem?_eq_getElem (by omega)]; rfl
theorem open_bytes1_s {fuel : Nat} {v : Value} {x : DataW H × List MemPlace} (h : DataW.trod enc Try.prog W 0 (fun _ => true) true fuel 23 [v] = some x) (hz : ∀ k ∈ x.1.weights Try.prog 23, k ≤ reachBytes) :
    ∃ A c l, v = .slice A l.length c ∧ l.length ≤ c ∧ c ≤ maxLen ∧ RdX (· < W.heap.size) W A l ∧ l.length ≤ reachBytes := by
  obtain ⟨A, c, l, e, h1, h2, h3⟩ := open_bytes1 h
  refine ⟨A, c, l, e, h1, h2, h3, ?_⟩
  rcases open_ints Try.underlying23 Try.underlying5 (by kernel_rfl) h with ⟨hcs, _⟩ | ⟨y, l', c', zs, hcs, _, hl, hm, hz', hx, hcell, hwz⟩
  · rw [e] at hcs
    simp at hcs
    obtain ⟨-, h0, -⟩ := hcs
    rw [h0]; exact Nat.zero_le _
  · rw [e] at hcs
    simp at hcs
    have hk := hz (((lits .u8 (zs.take l') : List (DataW H)).length + (lits .u8 (zs.drop l') : List (DataW H)).length) * Try.prog.bytesOf 5) (by rw [hx]; simp [DataW.weights, Try.underlying23])
    rw [show Try.prog.bytesOf 5 = 1 from by kernel_rfl] at hk
    have hzl : zs.length = c' := by simpa using hz'
    have e2 : (lits .u8 (zs.take l') : List (DataW H)).length + (lits .u8 (zs.drop l') : List (DataW H)).length = zs.length := by simp [lits]; omega
    rw [e2] at hk
    omega
theorem open_fn_s {b0 : Nat} {v : Value} {d : DataW H} {p : List MemPlace} (hv : Value.okWide Try.prog W .any b0 52 v) (h : DataW.Trod enc Try.prog W 0 (fun _ => true) true 52 v d p) (hz : ∀ k ∈ d.weights Try.prog 52, k ≤ reachBytes) :
    ∃ f : Fn, FnV (· < W.heap.size) W v f ∧ f.1.length ≤ reachBytes ∧ f.2.length ≤ reachBytes := by
  obtain ⟨cs, rfl, hsz, n, hg⟩ := open_fields_s Try.underlying52 (by kernel_rfl) (by kernel_rfl) hv h
  obtain ⟨x0, h0, s0⟩ := hg 0 _ rfl
  obtain ⟨x1, h1, s1⟩ := hg 1 _ rfl
  obtain ⟨A, c, l, e0, hc1, hc2, hA, r0⟩ := open_bytes1_s h0 fun k hk => hz k (s0 k hk)
  obtain ⟨B, dd, l2, e1, hd1, hd2, hB, r1⟩ := open_bytes1_s h1 fun k hk => hz k (s1 k hk)
  have hagg := agg2 cs (by rw [hsz]; rfl)
  rw [e0, e1] at hagg
  exact ⟨(l, l2), ⟨A, c, B, dd, by rw [hagg], hA, hc1, hc2, hB, hd1, hd2⟩, r0, r1⟩
theorem open_fn {b0 : Nat} {v : Value} {d : DataW H} {p : List MemPlace} (hv : Value.okWide Try.prog W .any b0 52 v) (h : DataW.Trod enc Try.prog W 0 (fun _ => true) true 52 v d p) :
    ∃ f, FnV (· < W.heap.size) W v f := by
  obtain ⟨cs, rfl, hsz, n, hg⟩ := open_fields Try.underlying52 (by kernel_rfl) (by kernel_rfl) hv h
  obtain ⟨x0, h0⟩ := hg 0 _ rfl
  obtain ⟨x1, h1⟩ := hg 1 _ rfl
  obtain ⟨A, c, l, e0, hc1, hc2, hA⟩ := open_bytes1 h0
  obtain ⟨B, dd, l2, e1, hd1, hd2, hB⟩ := open_bytes1 h1
  have hagg := agg2 cs (by rw [hsz]; rfl)
  rw [e0, e1] at hagg
  exact ⟨(l, l2), A, c, B, dd, by rw [hagg], hA, hc1, hc2, hB, hd1, hd2⟩
theorem open_lim {b0 : Nat} {v : Value} {d : DataW H} {p : List MemPlace} (hv : Value.okWide Try.prog W .any b0 57 v) (h : DataW.Trod enc Try.prog W 0 (fun _ => true) true 57 v d p) :
    ∃ l : Lim, v = limV l ∧ l.Ok := by
  obtain ⟨cs, rfl, hsz, n, hg⟩ := open_fields Try.underlying57 (by kernel_rfl) (by kernel_rfl) hv h
  obtain ⟨x0, h0⟩ := hg 0 _ rfl
  obtain ⟨x1, h1⟩ := hg 1 _ rfl
  obtain ⟨x2, h2⟩ := hg 2 _ rfl
  obtain ⟨k, e0, _, w0⟩ := DataW.trod_int Try.underlying55 h0
  obtain ⟨tk, e1, _, w1⟩ := DataW.trod_int Try.underlying55 h1
  obtain ⟨hd, e2, _⟩ := DataW.trod_bool Try.underlying4 h2
  have hagg := agg3 cs (by rw [hsz]; rfl)
  injection e0 with e0
  injection e1 with e1
  injection e2 with e2
  rw [e0, e1, e2] at hagg
  exact ⟨⟨k, tk, hd⟩, by rw [hagg]; rfl, ⟨(u32_of_wf w0).1, by have := (u32_of_wf w0).2; simp only []; omega⟩, ⟨(u32_of_wf w1).1, by have := (u32_of_wf w1).2; simp only []; omega⟩⟩
end
end Go.Proofs.Ytnjbijndfbobbaa
