/- Maps keyed by integers, whatever their elements: what they hold, as a function of the key. No function of the program. -/
import Derived.Test.YtfmncljcogijhaaMem
import Derived.Maps.OwnSet
import Derived.Maps.OwnOps
namespace Go.Proofs.Ytfmncljcogijhaa
open Go.RowKit
set_option maxRecDepth 100000
open Go.Maps (Keyed int_keyed keyOf_int_mk)
open Go.ChangeMaps (setBlock heap_setBlock_same heap_setBlock_other)
open Go.MapKept (Stamped stamped_empty stamped_push stamped_modify)
set_option linter.unusedVariables false

/-- Block b is a map of n entries: at i stands f i. -/
def MapAt (w : World) (b : Nat) (q : IntKind) (f : Int → Option Value) (n : Nat) : Prop :=
  ∃ es clock, w.heap[b]? = some (.map es clock) ∧ Stamped es clock ∧ es.size = n ∧ n ≤ maxLen ∧
    (∀ x ∈ es.toList, ∃ i, x.key = .int q i ∧ (Lit.int q i).wf = true ∧ f i = some x.val) ∧ ∀ i v, f i = some v → ∃ x ∈ es.toList, x.key = .int q i ∧ x.val = v
def upd (f : Int → Option Value) (i : Int) (v : Value) (j : Int) : Option Value := if j = i then some v else f j
def updN (f : Int → Option Value) (i : Int) (n : Nat) : Nat := if (f i).isSome then n else n + 1

section
variable {w w' : World} {b n : Nat} {q : IntKind} {f : Int → Option Value} {S : Nat → Prop}
theorem MapAt.lt (h : MapAt w b q f n) : b < w.heap.size := by
  obtain ⟨es, clock, hb, _⟩ := h
  exact (Array.getElem?_eq_some_iff.1 hb).1
theorem MapAt.chg (h : MapAt w b q f n) (hc : Chg S w w') (hs : ¬ S b) : MapAt w' b q f n := by
  have hl := h.lt
  obtain ⟨es, clock, hb, r⟩ := h
  exact ⟨es, clock, (hc.block b hl hs).trans hb, r⟩
theorem MapAt.later (h : MapAt w b q f n) (hb : Below w.heap.size w w') : MapAt w' b q f n := h.chg (S := fun _ => False) (Chg.of_below hb) id
theorem MapAt.drewN (h : MapAt w b q f n) (m : Nat) : MapAt (w.drewN m) b q f n := h
theorem MapAt.drew (h : MapAt w b q f n) : MapAt w.drew b q f n := h
theorem MapAt.made (w : World) (q : IntKind) : MapAt (w.alloc (.map #[] 0)) w.heap.size q (fun _ => none) 0 :=
  ⟨#[], 0, (MapKept.heap_alloc w _).1, stamped_empty 0, rfl, Nat.zero_le _, fun x hx => by simp at hx, fun i v h => by cases h⟩
theorem MapAt.ne {g : Nat} {t : TypeId} {L : List Value} (h : MapAt w b q f n) (h' : Own w g t L) : b ≠ g := by
  rintro rfl
  obtain ⟨es, clock, hb, _⟩ := h
  unfold Own at h'
  rw [hb] at h'; injection h' with h'; cases h'
/-- Two entries of one key are one. -/
theorem MapAt.keys (h : MapAt w b q f n) {es : Array MapEntry} {clock : Nat} (hb : w.heap[b]? = some (.map es clock)) : ∀ x ∈ es.toList, ∃ i, x.key = .int q i ∧ (Lit.int q i).wf = true ∧ f i = some x.val := by
  obtain ⟨es', clock', hb', _, _, _, h1, _⟩ := h
  rw [hb] at hb'; injection hb' with hb'; injection hb' with e1 e2; subst e1; exact h1

variable {t k e : TypeId}
/-- m[i], with 'ok' and without. -/
theorem MapAt.look (h : MapAt w b q f n) (hk : Try.prog.underlying k = some (.int q)) (ht : Try.prog.underlying t = some (.map k e)) {z : Value} (hz : (zeroValue e).run Try.prog w = .ok z w) (i : Int) (hi : (Lit.int q i).wf = true) (c : Bool) :
    (Instr.lookup t (.map (some b)) (.int q i) c).run Try.prog w = .ok (if c then .tuple #[(f i).getD z, .bool (f i).isSome] else (f i).getD z) w := by
  have K : Keyed Try.prog k := int_keyed hk
  have hkey : keyOf Try.prog k (.int q i) = some (.int q i) := keyOf_int_mk hk hi
  obtain ⟨es, clock, hb, hst, hsz, hn, h1, h2⟩ := h
  have hkeys : ∀ x ∈ es.toList, ∃ l, keyOf Try.prog k x.key = some l := fun x hx => by
    obtain ⟨j, e1, e2, _⟩ := h1 x hx
    exact ⟨_, by rw [e1]; exact keyOf_int_mk hk e2⟩
  rcases K.find w hkey es.toList hkeys with ⟨r1, r2⟩ | ⟨j, e0, r1, r2, r3⟩
  · have hf : f i = none := by
      cases hfi : f i with
      | none => rfl
      | some v => obtain ⟨x, hx, e1, _⟩ := h2 i v hfi; exact absurd e1 (r2 x hx)
    rw [hf]
    simp [Instr.lookup, run_underlying ht, MapKept.run_getObj_map hb, K.check w _ hkey, r1, hz, Result.andThen]
  · have hm0 : e0 ∈ es.toList := List.mem_of_getElem? r2
    obtain ⟨i', e1, _, e3⟩ := h1 e0 hm0
    rw [r3] at e1; injection e1 with _ e1; subst e1
    rw [e3]
    simp [Instr.lookup, run_underlying ht, MapKept.run_getObj_map hb, K.check w _ hkey, r1, Result.andThen]
/-- m[i] = v. -/
theorem MapAt.store (h : MapAt w b q f n) (hk : Try.prog.underlying k = some (.int q)) (ht : Try.prog.underlying t = some (.map k e)) (hn : n < maxLen) (i : Int) (hi : (Lit.int q i).wf = true) (v : Value) :
    ∃ w', (Instr.mapUpdate t (.map (some b)) (.int q i) v).run Try.prog w = .ok () w' ∧ MapAt w' b q (upd f i v) (updN f i n) ∧ Chg (fun k => k = b) w w' ∧ w'.heap.size = w.heap.size := by
  have K : Keyed Try.prog k := int_keyed hk
  have hkey : keyOf Try.prog k (.int q i) = some (.int q i) := keyOf_int_mk hk hi
  obtain ⟨es, clock, hb, hst, hsz, hn2, h1, h2⟩ := h
  have hkeys : ∀ x ∈ es.toList, ∃ l, keyOf Try.prog k x.key = some l := fun x hx => by
    obtain ⟨j, e1, e2, _⟩ := h1 x hx
    exact ⟨_, by rw [e1]; exact keyOf_int_mk hk e2⟩
  have hchg : ∀ es' clock', Chg (fun k => k = b) w (setBlock w b (.map es' clock')) := fun es' clock' =>
    ⟨rfl, rfl, rfl, by simp [setBlock], fun j _ hj => heap_setBlock_other hb _ hj⟩
  rcases K.find w hkey es.toList hkeys with ⟨r1, r2⟩ | ⟨j, e0, r1, r2, r3⟩
  · have hf : f i = none := by
      cases hfi : f i with
      | none => rfl
      | some v => obtain ⟨x, hx, e1, _⟩ := h2 i v hfi; exact absurd e1 (r2 x hx)
    refine ⟨_, ?_, ⟨es.push ⟨.int q i, v, clock⟩, clock + 1, heap_setBlock_same hb _, stamped_push hst r2, ?_, ?_, ?_, ?_⟩, hchg _ _, by simp [setBlock]⟩
    · simp [Instr.mapUpdate, run_underlying ht, MapKept.run_getObj_map hb, K.check w false hkey, r1, MapKept.run_setObj_map _ hb, Result.andThen, setBlock]
    · simp [updN, hf, hsz]
    · simp [updN, hf]; omega
    · intro x hx
      simp only [Array.toList_push, List.mem_append, List.mem_singleton] at hx
      rcases hx with hx | rfl
      · obtain ⟨j, e1, e2, e3⟩ := h1 x hx
        refine ⟨j, e1, e2, ?_⟩
        have hne : j ≠ i := fun e => by subst e; rw [hf] at e3; cases e3
        rw [upd, if_neg hne]; exact e3
      · exact ⟨i, rfl, hi, by simp [upd]⟩
    · intro j u hu
      unfold upd at hu
      simp only [Array.toList_push, List.mem_append, List.mem_singleton]
      split at hu
      · injection hu with hu; subst hu; rename_i hji; subst hji; exact ⟨_, .inr rfl, rfl, rfl⟩
      · obtain ⟨x, hx, e1, e2⟩ := h2 j u hu
        exact ⟨x, .inl hx, e1, e2⟩
  · have hj : es[j]? = some e0 := by simpa using r2
    have hm0 : e0 ∈ es.toList := List.mem_of_getElem? r2
    obtain ⟨i', q1, _, q3⟩ := h1 e0 hm0
    rw [r3] at q1; injection q1 with _ q1; subst q1
    have hkeyf : ∀ e', es[j]? = some e' → ({ e' with key := .int q i, val := v } : MapEntry).key = e'.key := fun e' he' => by rw [hj] at he'; cases he'; exact r3.symm
    have hlist : (es.modify j (fun e' => { e' with key := .int q i, val := v })).toList = es.toList.set j { e0 with key := .int q i, val := v } := by rw [Array.toList_modify, Go.ChangeMaps.modify_eq_set _ _ _ _ r2]
    have hjl : j < es.toList.length := (List.getElem?_eq_some_iff.1 r2).1
    refine ⟨_, ?_, ⟨es.modify j (fun e' => { e' with key := .int q i, val := v }), clock, heap_setBlock_same hb _, stamped_modify hst _ _ (fun _ _ => rfl) (fun e' _ he' => hkeyf e' he'), ?_, ?_, ?_, ?_⟩, hchg _ _, by simp [setBlock]⟩
    · simp [Instr.mapUpdate, run_underlying ht, MapKept.run_getObj_map hb, K.check w false hkey, r1, hj, r3, K.stays w hkey, MapKept.run_setObj_map _ hb, Result.andThen, setBlock]
    · simp [updN, q3, hsz]
    · simp [updN, q3]; exact hn2
    · intro x hx
      rw [hlist] at hx
      obtain ⟨jj, hjl2, hjj⟩ := List.getElem_of_mem hx
      have hjl3 : jj < es.toList.length := by simpa using hjl2
      rw [List.getElem_set] at hjj
      split at hjj
      · subst hjj; exact ⟨i, rfl, hi, by simp [upd]⟩
      · rename_i hne
        have hx1 : x ∈ es.toList := by rw [← hjj]; exact List.getElem_mem hjl3
        obtain ⟨j2, e1, e2, e3⟩ := h1 x hx1
        by_cases hji : j2 = i
        · subst hji
          exfalso
          have hd : es.toList.Pairwise (fun x y => x.key ≠ y.key) := ((MapKept.stamped_iff es clock).1 hst).2.2
          have g2 := (List.getElem?_eq_some_iff.1 r2).2
          rcases Nat.lt_or_gt_of_ne hne with hlt | hgt
          · exact (List.pairwise_iff_getElem.1 hd j jj hjl hjl3 hlt) (by rw [hjj, g2, r3, e1])
          · exact (List.pairwise_iff_getElem.1 hd jj j hjl3 hjl hgt) (by rw [hjj, g2, r3, e1])
        · exact ⟨j2, e1, e2, by rw [upd, if_neg hji]; exact e3⟩
    · intro j2 u hu
      rw [hlist]
      unfold upd at hu
      split at hu
      · injection hu with hu; subst hu; rename_i hji; subst hji
        exact ⟨{ e0 with key := .int q j2, val := v }, List.mem_iff_getElem.2 ⟨j, by simpa using hjl, by simp⟩, rfl, rfl⟩
      · rename_i hji
        obtain ⟨x, hx, e1, e2⟩ := h2 j2 u hu
        obtain ⟨jj, hjl2, hjj⟩ := List.getElem_of_mem hx
        have hne : j ≠ jj := fun e => by
          subst e
          have g2 := (List.getElem?_eq_some_iff.1 r2).2
          rw [hjj] at g2; subst g2
          rw [r3] at e1; injection e1 with _ e1; exact hji e1.symm
        exact ⟨x, List.mem_iff_getElem.2 ⟨jj, by simpa using hjl2, by rw [List.getElem_set, if_neg hne]; exact hjj⟩, e1, e2⟩
theorem MapAt.len (h : MapAt w b q f n) (ht : Try.prog.underlying t = some (.map k e)) (ty : TypeId) : (Builtin.len_ #[t] ty #[.map (some b)]).run Try.prog w = .ok (.int .i64 n) w := by
  obtain ⟨es, clock, hb, _, rfl, _⟩ := h
  simp [Builtin.len_, run_underlying ht, MapKept.run_getObj_map hb, goInt, Result.andThen]
theorem nil_len (ht : Try.prog.underlying t = some (.map k e)) (ty : TypeId) : (Builtin.len_ #[t] ty #[.map none]).run Try.prog w = .ok (.int .i64 0) w := Go.Maps.len_nil ht ty
theorem nil_look (hk : Try.prog.underlying k = some (.int q)) (ht : Try.prog.underlying t = some (.map k e)) {z : Value} (hz : (zeroValue e).run Try.prog w = .ok z w) (i : Int) (hi : (Lit.int q i).wf = true) (c : Bool) :
    (Instr.lookup t (.map none) (.int q i) c).run Try.prog w = .ok (if c then .tuple #[z, .bool false] else z) w := by
  have K : Keyed Try.prog k := int_keyed hk
  have hkey : keyOf Try.prog k (.int q i) = some (.int q i) := keyOf_int_mk hk hi
  rcases K.find w hkey [] (fun e he => by cases he) with ⟨f1, _⟩ | ⟨j, e0, _, f2, _⟩
  · simp [Instr.lookup, run_underlying ht, K.check w _ hkey, f1, hz, Result.andThen]
  · simp at f2
end
/-- m[i] = v, at the operation. -/
theorem wpList_store {w : World} {ops : Array Oper} {rest : List Oper} {o : Oper} {a : Act} {Q : Exit → Act → World → Prop} (hg : o.guard = none) (m x v : Operand) (t k e : TypeId) (hop : o.op = Op.mapUpdate t m x v) (q : IntKind)
    (hk : Try.prog.underlying k = some (.int q)) (ht : Try.prog.underlying t = some (.map k e)) (b n : Nat) (f : Int → Option Value) (hm : a.eval m = .map (some b)) (h : MapAt w b q f n) (hn : n < maxLen) (i : Int) (hx : a.eval x = .int q i) (hi : (Lit.int q i).wf = true) (u : Value) (hv : a.eval v = u)
    (hK : ∀ w', MapAt w' b q (upd f i u) (updN f i n) → Chg (fun k => k = b) w w' → w'.heap.size = w.heap.size → wpList Try.prog ops Q rest (a.put o.dst undef) w') : wpList Try.prog ops Q (o :: rest) a w := by
  refine wpList_plain hg fun K' hK' => ?_
  obtain ⟨w', hrun, r1, r2, r3⟩ := h.store hk ht hn i hi u
  unfold Oper.wp
  simp [execOp, hop, hm, hx, hv, hrun, Result.andThen]
  exact hK' _ _ (hK w' r1 r2 r3)
end Go.Proofs.Ytfmncljcogijhaa
