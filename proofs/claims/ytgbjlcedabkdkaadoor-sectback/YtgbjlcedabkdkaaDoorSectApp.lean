/- append to the bytes of a constant: they are full, so a new block is made. No function of the program. -/
import Derived.Test.YtgbjlcedabkdkaaDoorNums
import Derived.Lib.SlBytesConst
namespace Go.Proofs.YtgbjlcedabkdkaaDoor
open Go.RowKit
set_option maxRecDepth 100000
set_option linter.unusedVariables false

theorem ownB_lits (w : World) (l : List Int) (hl : l.length ≤ maxLen) : OwnB (w.alloc (.cells (l.map (Value.int .u8)).toArray 5)) w.heap.size (.slice (some ⟨w.heap.size, 0, none⟩) l.length l.length) l :=
  ⟨by simp, .inr ⟨w.heap.size, l.length, (l.map (Value.int .u8)).toArray, rfl, Nat.le_refl _, heap_alloc_new w _, Nat.le_refl _, hl, by simp, by simp [List.take_of_length_le]⟩⟩
/-- The block of a constant's bytes. -/
theorem rd_marked (w : World) (l : List Int) (hl : IsBytes l) (fr : Nat × Nat) : RdX (fun k => k = w.heap.size) (w.alloc (.cells (l.map (Value.int .u8)).toArray 5 fr)) (some ⟨w.heap.size, 0, none⟩) l := ⟨hl, fun j u hu => by
  refine ⟨_, rfl, rfl, ?_⟩
  rw [addPlain, Nat.zero_add, World.cell?_alloc_mark]
  simpa using hu⟩
theorem run_appFull {X Y : Nat → Prop} (w : World) (g n : Nat) (l : List Int) (hl : n = l.length) (hr : RdX X w (some ⟨g, 0, none⟩) l) (A : Option Addr) (m c : Nat) (news : List Int) (hm : m = news.length) (hm0 : 0 < m) (hn : RdX Y w A news) (hlen : n + m ≤ 1000000000) (ty : TypeId) :
    ∃ v' w', (Builtin.append_ #[22, 22] ty #[.slice (some ⟨g, 0, none⟩) n n, .slice A m c]).run Tryd.prog w = .ok v' w' ∧ OwnB w' w.heap.size v' (l ++ news) ∧ Below w.heap.size w w' := by
  subst hl hm
  obtain ⟨i, hi, hz, hs, hb⟩ := info_parts byte_info
  obtain ⟨b, o, rfl, -, -, hc⟩ := hn.2.spot (by simpa using hm0)
  have holds : ∀ j u, (l.map (Value.int .u8))[j]? = some u → w.cell? ((⟨g, 0, none⟩ : Addr).add j) = some u := fun j u hu => by
    obtain ⟨ad, e, _, hcc⟩ := hr.2 j u hu
    injection e with e; subst e
    exact hcc
  have hnews : ∀ j u, (news.map (Value.int .u8))[j]? = some u → w.cell? ((⟨b, o, none⟩ : Addr).add j) = some u := fun j u hu => by
    rw [addPlain]; exact hc j u hu
  have hr := run_append_grow (P := Tryd.prog) w 22 ty 5 i (.int .u8 0) under_bytes hi hz ⟨g, 0, none⟩ l.length l.length (l.map (Value.int .u8)) (by simp [hs]) holds ⟨b, o, none⟩ news.length c (news.map (Value.int .u8)) (by simp [hs]) hnews (by omega) (by omega) (growslice_fits (by omega) (by rw [hb]; omega))
  refine ⟨_, _, hr, ?_, ?_⟩
  · have hge := grownCap_ge w (l.length + news.length) l.length 5
    have hcm2 : grownCap w (l.length + news.length) l.length 5 ≤ maxLen := grownCap_le_maxLen w _ _ _ (by simp only [maxLen]; omega)
    generalize grownCap w (l.length + news.length) l.length 5 = gc at *
    refine ⟨by simp, .inr ⟨w.heap.size, gc, _, by rw [List.length_append], Nat.le_refl _, heap_alloc_new w.drew _, by rw [List.length_append]; exact hge, hcm2, ?_, ?_⟩⟩
    · simp [Array.size_append, size_zeroCells, Value.cells]; omega
    · simp only [Array.toList_append, List.map_append, Nat.mul_one]
      exact List.take_left' (by simp)
  · exact (Below.refl _ _).drew.alloc (Nat.le_refl _) _
/-- append(s, x...), of bytes, where s is full: a constant's. -/
theorem wpList_appFull {X Y : Nat → Prop} {ops : Array Oper} {rest : List Oper} {o : Oper} {a : Act} {Q : Exit → Act → World → Prop} {w : World} (hgd : o.guard = none) (s x : Operand)
    (ho : o.op = .call { callee := .builtin .append, args := #[s, x], argTypes := #[22, 22] }) (g n : Nat) (l : List Int) (hs : a.eval s = .slice (some ⟨g, 0, none⟩) n n) (hl : n = l.length) (hr : RdX X w (some ⟨g, 0, none⟩) l)
    (A : Option Addr) (m c : Nat) (news : List Int) (hx : a.eval x = .slice A m c) (hm : m = news.length) (hm0 : 0 < m) (hn : RdX Y w A news) (hlen : n + m ≤ 1000000000)
    (h : ∀ v' w', OwnB w' w.heap.size v' (l ++ news) → Below w.heap.size w w' → wpList Tryd.prog ops Q rest (a.put o.dst v') w') : wpList Tryd.prog ops Q (o :: rest) a w := by
  obtain ⟨v', w', hrun, h2, h3⟩ := run_appFull w g n l hl hr A m c news hm hm0 hn hlen o.type
  exact Lib.wpList_append_run w hgd s x _ _ ho _ _ hs hx v' w' hrun (h v' w' h2 h3)
end Go.Proofs.YtgbjlcedabkdkaaDoor
