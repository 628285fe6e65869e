/- Slices of numbers of 32 bits: what the walks lean on. No function of the program. -/
import Derived.Test.YtfmncljcogijhaaNums
namespace Go.Proofs.Ytfmncljcogijhaa
open Go.RowKit
set_option maxRecDepth 100000
set_option linter.unusedVariables false

theorem under_nums32 : Try.prog.underlying 28 = some (.slice 26) := Try.underlying28
theorem num32_info : (Try.prog.info? 26).map (fun i => (i.zero, i.size, i.bytes)) = some (some (.int .u32 0), 1, 4) := by kernel_rfl
theorem num32_size : (Try.prog.info? 26).map (·.size) = some 1 := by kernel_rfl
def IsU32 (l : List Int) : Prop := ∀ z ∈ l, 0 ≤ z ∧ z < 4294967296
theorem IsU32.nil : IsU32 [] := fun z hz => by simp at hz
theorem IsU32.app {a b : List Int} (ha : IsU32 a) (hb : IsU32 b) : IsU32 (a ++ b) := fun z hz => by
  rcases List.mem_append.1 hz with h | h
  · exact ha z h
  · exact hb z h
theorem IsU32.one {z : Int} (h0 : 0 ≤ z) (h1 : z < 4294967296) : IsU32 [z] := fun y hy => by simp at hy; subst hy; exact ⟨h0, h1⟩
/-- A slice of numbers in a block of the call's own. -/
def OwnQ (w : World) (base : Nat) (v : Value) (l : List Int) : Prop := w.ownsRow base 26 1 v l.length (l.map (Value.int .u32))
/-- Numbers that are read, in blocks of X. -/
def RdQ (X : Nat → Prop) (w : World) (A : Option Addr) (l : List Int) : Prop := IsU32 l ∧ RdV X w A (l.map (Value.int .u32))
section
variable {X : Nat → Prop} {w w' : World} {A : Option Addr} {l : List Int} {B : Nat}
theorem RdQ.chg {S : Nat → Prop} (h : RdQ X w A l) (hc : Chg S w w') (hs : ∀ k, k < w.heap.size → X k → ¬ S k) : RdQ X w' A l := ⟨h.1, h.2.chg hc hs⟩
theorem RdQ.drewN (h : RdQ X w A l) (n : Nat) : RdQ X (w.drewN n) A l := ⟨h.1, h.2.drewN n⟩
theorem RdQ.later (h : RdQ X w A l) (hc : Below w.heap.size w w') : RdQ X w' A l := ⟨h.1, h.2.later hc⟩
theorem RdQ.mono {Y : Nat → Prop} (h : RdQ X w A l) (hx : ∀ k, k < w.heap.size → X k → Y k) : RdQ Y w A l := ⟨h.1, h.2.mono hx⟩
theorem RdQ.nil (X : Nat → Prop) (w : World) (A : Option Addr) : RdQ X w A [] := ⟨IsU32.nil, RdV.nil _ _ _⟩
theorem map_u32_get {j : Nat} (hj : j < l.length) : (l.map (Value.int .u32))[j]? = some (.int .u32 (l.getD j 0)) := by
  simp [List.getElem?_eq_getElem hj, List.getD_eq_getElem?_getD]
theorem RdQ.at_ (h : RdQ X w A l) {j : Nat} (hj : j < l.length) : ∃ b o, A = some ⟨b, o, none⟩ ∧ w.cell? ⟨b, o + j, none⟩ = some (.int .u32 (l.getD j 0)) ∧ 0 ≤ l.getD j 0 ∧ l.getD j 0 < 4294967296 := by
  obtain ⟨b, o, hA, hX, hlt, hc⟩ := h.2.spot (by simp; omega)
  refine ⟨b, o, hA, hc j _ (map_u32_get hj), h.1 _ ?_⟩
  rw [List.getD_eq_getElem?_getD, List.getElem?_eq_getElem hj]; exact List.getElem_mem hj
end
theorem OwnQ.nil (w : World) (base : Nat) : OwnQ w base (.slice none 0 0) [] := World.ownsRow_nil w base _ _
theorem OwnQ.rdQ {w : World} {base : Nat} {v : Value} {l : List Int} (h : OwnQ w base v l) (hl : IsU32 l) : ∃ A c, v = .slice A l.length c ∧ l.length ≤ c ∧ c ≤ maxLen ∧ RdQ (fun k => v.ownBlock = some k) w A l := by
  obtain ⟨A, c, h1, h2, h3, h4⟩ := RdV.of_own h
  exact ⟨A, c, h1, h2, h3, hl, h4⟩
theorem OwnQ.chg {S : Nat → Prop} {w w' : World} {base : Nat} {v : Value} {l : List Int} (h : OwnQ w base v l) (hc : Chg S w w') (hg : ∀ g, v.ownBlock = some g → ¬ S g) : OwnQ w' base v l := owns_chg h hc hg
theorem OwnQ.later {w w' : World} {base : Nat} {v : Value} {l : List Int} (h : OwnQ w base v l) (hb : Below w.heap.size w w') : OwnQ w' base v l := h.chg (S := fun _ => False) (Chg.of_below hb) fun _ _ => id
theorem OwnQ.base {w : World} {base base' : Nat} {v : Value} {l : List Int} (h : OwnQ w base v l) (hb : base' ≤ base) : OwnQ w base' v l := owns_base h hb

/-- The block that was just built for some numbers. -/
theorem rdQ_lit (w : World) (l : List Int) (hl : IsU32 l) : RdQ (fun k => k = w.heap.size) (w.alloc (.cells (l.map (Value.int .u32)).toArray 26)) (some ⟨w.heap.size, 0, none⟩) l := by
  refine ⟨hl, fun j u hu => ⟨_, rfl, by simp, ?_⟩⟩
  have h := (Own.new w 26 (l.map (Value.int .u32))).cell j
  rw [addPlain, Nat.zero_add, h, hu]

/-- append(s, z): one number more, out of the block that was just built for it. -/
theorem wpList_appQ1 {ops : Array Oper} {rest : List Oper} {o : Oper} {a : Act} {Q : Exit → Act → World → Prop} {w : World} (hgd : o.guard = none) (s x : Operand)
    (ho : o.op = .call { callee := .builtin .append, args := #[s, x], argTypes := #[28, 28] }) (base : Nat) (v : Value) (l : List Int) (hs : a.eval s = v) (hown : OwnQ w base v l)
    (z : Int) (hx : a.eval x = .slice (some ⟨w.heap.size, 0, none⟩) 1 1) (hz0 : 0 ≤ z) (hz1 : z < 4294967296) (hlen : l.length + 1 ≤ 1000000000) (hbase : base ≤ w.heap.size)
    (h : ∀ v' w', OwnQ w' base v' (l ++ [z]) → Below base w w' → wpList Try.prog ops Q rest (a.put o.dst v') w') : wpList Try.prog ops Q (o :: rest) a (w.alloc (.cells #[.int .u32 z] 26)) := by
  have hb : Below w.heap.size w (w.alloc (.cells #[.int .u32 z] 26)) := (Below.refl _ _).alloc (Nat.le_refl _) _
  have hr := rdQ_lit w [z] (IsU32.one hz0 hz1)
  have hown' := hown.later hb
  refine wpList_appG under_nums32 num32_info rfl (by omega) hgd s x ho base v l.length _ hs hown' _ 1 1 ([z].map (Value.int .u32)) hx (by simp) hr.2 (fun u hu => by obtain ⟨y, _, rfl⟩ := List.mem_map.1 hu; rfl) (by simp only [maxLen]; omega) (by omega) (by simp; omega) fun v' w' h1 h2 h3 => h v' w' ?_ ?_
  · unfold OwnQ; simpa using h1
  · exact (hb.mono hbase).trans ((Chg.of_grown h2).below (by simp; omega) fun i hi e => by have := owns_ge hown' e.symm; omega)
end Go.Proofs.Ytfmncljcogijhaa
