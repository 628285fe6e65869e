/- From requests and replies that came in to what they read as. -/
import Derived.Test.YtnjbijndfbobbaaBegun3
import Derived.Test.YtnjbijndfbobbaaRows1
import Derived.OpenShut
import Derived.Deep.Fields
import Derived.Lib.SmallJoins
namespace Go.Proofs.Ytnjbijndfbobbaa
open Go.RowKit Go.ChangeShapes Go.WideShapes Go.Joins Go.Deep
set_option maxRecDepth 100000
set_option linter.unusedVariables false

theorem nums_str (s : ByteArray) : strOfNums (s.data.toList.map fun b => (b.toNat : Int)) = s := by
  have h : (strOfNums (s.data.toList.map fun b => (b.toNat : Int))).data = s.data := by
    apply Array.ext'
    rw [strOfNums_data, List.map_map]
    conv => rhs; rw [← List.map_id s.data.toList]
    apply List.map_congr_left
    intro b _
    simp
  cases s with
  | mk d => cases hh : strOfNums _ with
    | mk e => rw [hh] at h; simp only at h; rw [h]
section
variable {H : Type} {enc : TypeId × Value → H} {W : World}
theorem open_nums {fuel : Nat} {v : Value} {x : DataW H × List MemPlace} (h : DataW.trod enc Try.prog W 0 (fun _ => true) true fuel 24 [v] = some x) :
    ∃ A c l, v = .slice A l.length c ∧ l.length ≤ c ∧ c ≤ maxLen ∧ RdU (· < W.heap.size) W A l := by
  rcases open_ints Try.underlying24 Try.underlying22 (by kernel_rfl) h with ⟨hcs, _⟩ | ⟨x, l, c, zs, hcs, _, hl, hm, hz, _, hcell, hwz⟩
  · simp at hcs
    subst hcs
    exact ⟨none, 0, [], rfl, by simp, by simp, RdU.nil _ _ _⟩
  · simp at hcs
    subst hcs
    have hzl : zs.length = c := by simpa using hz
    refine ⟨some x, c, zs.take l, by rw [List.length_take, hzl, Nat.min_eq_left hl], by rw [List.length_take]; omega, hm, fun z hzz => u64_of_wf (hwz z (List.mem_of_mem_take hzz)), fun j u hu => ?_⟩
    rw [List.getElem?_map] at hu
    obtain ⟨z, hz', rfl⟩ := Option.map_eq_some_iff.1 hu
    have hjl : j < l := by have := (List.getElem?_eq_some_iff.1 hz').1; rw [List.length_take] at this; omega
    have hc := hcell j (by omega)
    rw [List.getElem?_take_of_lt hjl] at hz'
    rw [List.getD_eq_getElem?_getD, hz'] at hc
    exact ⟨x, rfl, by have := lt_of_cell hc; rwa [addBlock] at this, hc⟩
theorem open_bytes1 {fuel : Nat} {v : Value} {x : DataW H × List MemPlace} (h : DataW.trod enc Try.prog W 0 (fun _ => true) true fuel 23 [v] = some x) :
    ∃ A c l, v = .slice A l.length c ∧ l.length ≤ c ∧ c ≤ maxLen ∧ RdX (· < W.heap.size) W A l := by
  rcases open_ints Try.underlying23 Try.underlying5 (by kernel_rfl) h with ⟨hcs, _⟩ | ⟨x, l, c, zs, hcs, _, hl, hm, hz, _, hcell, hwz⟩
  · simp at hcs
    subst hcs
    exact ⟨none, 0, [], rfl, by simp, by simp, RdX.nil _ _ _⟩
  · simp at hcs
    subst hcs
    have hzl : zs.length = c := by simpa using hz
    refine ⟨some x, c, zs.take l, by rw [List.length_take, hzl, Nat.min_eq_left hl], by rw [List.length_take]; omega, hm, fun z hzz => u8_of_wf (hwz z (List.mem_of_mem_take hzz)), fun j u hu => ?_⟩
    rw [List.getElem?_map] at hu
    obtain ⟨z, hz', rfl⟩ := Option.map_eq_some_iff.1 hu
    have hjl : j < l := by have := (List.getElem?_eq_some_iff.1 hz').1; rw [List.length_take] at this; omega
    have hc := hcell j (by omega)
    rw [List.getElem?_take_of_lt hjl] at hz'
    rw [List.getD_eq_getElem?_getD, hz'] at hc
    exact ⟨x, rfl, by have := lt_of_cell hc; rwa [addBlock] at this, hc⟩
theorem open_bytes2 {b0 : Nat} {v : Value} {d : DataW H} {p : List MemPlace} (hv : Value.okWide Try.prog W .any b0 23 v) (h : DataW.Trod enc Try.prog W 0 (fun _ => true) true 23 v d p) :
    ∃ A c l, v = .slice A l.length c ∧ l.length ≤ c ∧ c ≤ maxLen ∧ RdX (· < W.heap.size) W A l := by
  obtain ⟨a0, len0, cap0, rfl⟩ := okWide_slice Try.underlying23 hv
  obtain ⟨fuel, hf⟩ := h
  exact open_bytes1 (by simpa [Value.cells] using hf)
end
section
variable {H : Type} {enc : TypeId × Value → H} {W : World}
/-- A struct of one-cell fields: each field's reading. -/
theorem open_fields {b0 : Nat} {t : TypeId} {fs : Array Field} {v : Value} {d : DataW H} {p : List MemPlace} (hs : Try.prog.underlying t = some (.struct fs)) (hone : oneCellFields Try.prog fs = true) (hC : Try.prog.cellsOf t = fs.size)
    (hv : Value.okWide Try.prog W .any b0 t v) (h : DataW.Trod enc Try.prog W 0 (fun _ => true) true t v d p) :
    ∃ cs : Array Value, v = .agg cs ∧ cs.size = fs.size ∧ ∃ n, ∀ (i : Nat) (f : Field), fs[i]? = some f → ∃ x, DataW.trod enc Try.prog W 0 (fun _ => true) true n f.type [cs.getD i undef] = some x := by
  obtain ⟨cs, rfl, hsz⟩ := okWide_struct hs hv
  obtain ⟨fuel, hf⟩ := h
  obtain ⟨xs, n, _, _, _, hlen, hg⟩ := DataW.trod_struct hs hf
  rw [hC] at hsz
  refine ⟨cs, rfl, hsz, n, fun i f hi => ?_⟩
  obtain ⟨ho, hk⟩ := hone_of hone i f hi
  have hil : i < fs.size := (Array.getElem?_eq_some_iff.1 hi).1
  have h1 := hg i f hi
  rw [ho, hk] at h1
  have hcs : (List.drop i (Value.agg cs).cells.toList).take 1 = [cs.getD i undef] := by
    have : (Value.agg cs).cells.toList = cs.toList := rfl
    rw [this, List.drop_eq_getElem_cons (by simp; omega)]
    simp [Array.getD, show i < cs.size by omega]
  rw [hcs] at h1
  exact ⟨xs[i]'(by omega), h1.trans (List.getElem?_eq_getElem (by omega))⟩
theorem agg8 (cs : Array Value) (h : cs.size = 8) : cs = #[cs.getD 0 undef, cs.getD 1 undef, cs.getD 2 undef, cs.getD 3 undef, cs.getD 4 undef, cs.getD 5 undef, cs.getD 6 undef, cs.getD 7 undef] := by
  obtain ⟨l⟩ := cs
  match l, h with
  | [a0, a1, a2, a3, a4, a5, a6, a7], _ => rfl
theorem agg4 (cs : Array Value) (h : cs.size = 4) : cs = #[cs.getD 0 undef, cs.getD 1 undef, cs.getD 2 undef, cs.getD 3 undef] := by
  obtain ⟨l⟩ := cs
  match l, h with
  | [a0, a1, a2, a3], _ => rfl
theorem isBytes_nums (s : ByteArray) : IsBytes (s.data.toList.map fun b => (b.toNat : Int)) := fun z hz => by
  obtain ⟨b, _, rfl⟩ := List.mem_map.1 hz
  have := b.toNat_lt
  omega

set_option maxRecDepth 100000 in
theorem open_req {b0 : Nat} {v : Value} {d : DataW H} {p : List MemPlace} (hv : Value.okWide Try.prog W .any b0 26 v) (h : DataW.Trod enc Try.prog W 0 (fun _ => true) true 26 v d p) :
    ∃ q, ReqV (· < W.heap.size) W v q := by
  obtain ⟨cs, rfl, hsz, n, hg⟩ := open_fields Try.underlying26 (by kernel_rfl) (by kernel_rfl) hv h
  have h0 := hg 0 _ rfl
  have h1 := hg 1 _ rfl
  have h2 := hg 2 _ rfl
  have h3 := hg 3 _ rfl
  have h4 := hg 4 _ rfl
  have h5 := hg 5 _ rfl
  have h6 := hg 6 _ rfl
  have h7 := hg 7 _ rfl
  obtain ⟨x0, h0⟩ := h0
  obtain ⟨x1, h1⟩ := h1
  obtain ⟨x2, h2⟩ := h2
  obtain ⟨x3, h3⟩ := h3
  obtain ⟨x4, h4⟩ := h4
  obtain ⟨x5, h5⟩ := h5
  obtain ⟨x6, h6⟩ := h6
  obtain ⟨x7, h7⟩ := h7
  obtain ⟨k, e0, _, w0⟩ := DataW.trod_int Try.underlying3 h0
  obtain ⟨tk, e1, _, w1⟩ := DataW.trod_int Try.underlying22 h1
  obtain ⟨hd, e2, _, w2⟩ := DataW.trod_int Try.underlying22 h2
  obtain ⟨s, e3, _, w3⟩ := DataW.trod_string Try.underlying9 h3
  obtain ⟨A, c, l, e4, hc1, hc2, hA⟩ := open_bytes1 h4
  obtain ⟨B, dd, l2, e5, hd1, hd2, hB⟩ := open_nums h5
  obtain ⟨ti, e6, _, w6⟩ := DataW.trod_int Try.underlying22 h6
  obtain ⟨ot, e7, _, w7⟩ := DataW.trod_int Try.underlying22 h7
  have hagg := agg8 cs (by rw [hsz]; rfl)
  injection e0 with e0
  injection e1 with e1
  injection e2 with e2
  injection e3 with e3
  injection e6 with e6
  injection e7 with e7
  rw [e0, e1, e2, e3, e4, e5, e6, e7] at hagg
  refine ⟨⟨k, tk, hd, s.data.toList.map fun b => (b.toNat : Int), l, l2, ti, ot⟩, A, c, B, dd, ?_, hA, hc1, hc2, hB, hd1, hd2, i64_of_wf w0, u64_of_wf w1, u64_of_wf w2, isBytes_nums s, u64_of_wf w6, u64_of_wf w7⟩
  rw [hagg]
  simp only [nums_str]
theorem open_rep {b0 : Nat} {v : Value} {d : DataW H} {p : List MemPlace} (hv : Value.okWide Try.prog W .any b0 41 v) (h : DataW.Trod enc Try.prog W 0 (fun _ => true) true 41 v d p) :
    ∃ q, RepV (· < W.heap.size) W v q := by
  obtain ⟨cs, rfl, hsz, n, hg⟩ := open_fields Try.underlying41 (by kernel_rfl) (by kernel_rfl) hv h
  obtain ⟨x0, h0⟩ := hg 0 _ rfl
  obtain ⟨x1, h1⟩ := hg 1 _ rfl
  obtain ⟨x2, h2⟩ := hg 2 _ rfl
  obtain ⟨x3, h3⟩ := hg 3 _ rfl
  obtain ⟨k, e0, _, w0⟩ := DataW.trod_int Try.underlying22 h0
  obtain ⟨tk, e1, _, w1⟩ := DataW.trod_int Try.underlying29 h1
  obtain ⟨hd, e2, _, w2⟩ := DataW.trod_int Try.underlying22 h2
  obtain ⟨B, dd, l2, e3, hd1, hd2, hB⟩ := open_nums h3
  have hagg := agg4 cs (by rw [hsz]; rfl)
  injection e0 with e0
  injection e1 with e1
  injection e2 with e2
  rw [e0, e1, e2, e3] at hagg
  exact ⟨⟨k, tk, hd, l2⟩, B, dd, by rw [hagg], hB, hd1, hd2, u64_of_wf w0, i64_of_wf w1, u64_of_wf w2⟩
end
end Go.Proofs.Ytnjbijndfbobbaa
