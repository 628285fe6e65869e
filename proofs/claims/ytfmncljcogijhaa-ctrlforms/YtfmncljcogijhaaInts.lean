/- Slices of ints of the call's own, and what is appended to them: what the walks lean on. No function of the program. -/
import Derived.Test.YtfmncljcogijhaaNums
namespace Go.Proofs.Ytfmncljcogijhaa
open Go.RowKit
set_option maxRecDepth 100000
set_option linter.unusedVariables false

theorem under_ints : Try.prog.underlying 25 = some (.slice 3) := Try.underlying25
theorem int_info : (Try.prog.info? 3).map (fun i => (i.zero, i.size, i.bytes)) = some (some (.int .i64 0), 1, 8) := by kernel_rfl
/-- A slice of ints in a block of the call's own. -/
def OwnI (w : World) (base : Nat) (v : Value) (l : List Int) : Prop := w.ownsRow base 3 1 v l.length (l.map (Value.int .i64))
/-- Ints that are read, in blocks of X. -/
def RdI (X : Nat → Prop) (w : World) (A : Option Addr) (l : List Int) : Prop := RdV X w A (l.map (Value.int .i64))
section
variable {X : Nat → Prop} {w w' : World} {A : Option Addr} {l : List Int} {B : Nat}
theorem RdI.chg {S : Nat → Prop} (h : RdI X w A l) (hc : Chg S w w') (hs : ∀ k, k < w.heap.size → X k → ¬ S k) : RdI X w' A l := RdV.chg h hc hs
theorem RdI.drewN (h : RdI X w A l) (n : Nat) : RdI X (w.drewN n) A l := RdV.drewN h n
theorem RdI.later (h : RdI X w A l) (hc : Below w.heap.size w w') : RdI X w' A l := RdV.later h hc
theorem RdI.mono {Y : Nat → Prop} (h : RdI X w A l) (hx : ∀ k, k < w.heap.size → X k → Y k) : RdI Y w A l := RdV.mono h hx
theorem RdI.nil (X : Nat → Prop) (w : World) (A : Option Addr) : RdI X w A [] := RdV.nil _ _ _
theorem map_i64_get {j : Nat} (hj : j < l.length) : (l.map (Value.int .i64))[j]? = some (.int .i64 (l.getD j 0)) := by
  simp [List.getElem?_eq_getElem hj, List.getD_eq_getElem?_getD]
theorem RdI.spot (h : RdI X w A l) (hp : 0 < l.length) : ∃ b o, A = some ⟨b, o, none⟩ ∧ ∀ j, j < l.length → w.cell? ⟨b, o + j, none⟩ = some (.int .i64 (l.getD j 0)) := by
  obtain ⟨b, o, hA, -, -, hc⟩ := RdV.spot h (by simpa using hp)
  exact ⟨b, o, hA, fun j hj => hc j _ (map_i64_get hj)⟩
end
theorem OwnI.nil (w : World) (base : Nat) : OwnI w base (.slice none 0 0) [] := World.ownsRow_nil w base _ _
theorem OwnI.rdI {w : World} {base : Nat} {v : Value} {l : List Int} (h : OwnI w base v l) : ∃ A c, v = .slice A l.length c ∧ l.length ≤ c ∧ c ≤ maxLen ∧ RdI (fun k => v.ownBlock = some k) w A l := RdV.of_own h
theorem OwnI.chg {S : Nat → Prop} {w w' : World} {base : Nat} {v : Value} {l : List Int} (h : OwnI w base v l) (hc : Chg S w w') (hg : ∀ g, v.ownBlock = some g → ¬ S g) : OwnI w' base v l := owns_chg h hc hg
theorem OwnI.later {w w' : World} {base : Nat} {v : Value} {l : List Int} (h : OwnI w base v l) (hb : Below w.heap.size w w') : OwnI w' base v l := h.chg (S := fun _ => False) (Chg.of_below hb) fun _ _ => id
theorem OwnI.base {w : World} {base base' : Nat} {v : Value} {l : List Int} (h : OwnI w base v l) (hb : base' ≤ base) : OwnI w base' v l := owns_base h hb

/-- The block that was just built for some ints. -/
theorem rdI_lit (w : World) (l : List Int) : RdI (fun k => k = w.heap.size) (w.alloc (.cells (l.map (Value.int .i64)).toArray 3)) (some ⟨w.heap.size, 0, none⟩) l := by
  refine fun j u hu => ⟨_, rfl, by simp, ?_⟩
  have h := (Own.new w 3 (l.map (Value.int .i64))).cell j
  rw [addPlain, Nat.zero_add, h, hu]
/-- append(s, x...), of ints. -/
theorem wpList_appI {X : Nat → Prop} {ops : Array Oper} {rest : List Oper} {o : Oper} {a : Act} {Q : Exit → Act → World → Prop} {w : World} (hgd : o.guard = none) (s x : Operand)
    (ho : o.op = .call { callee := .builtin .append, args := #[s, x], argTypes := #[25, 25] }) (base : Nat) (v : Value) (l : List Int) (hs : a.eval s = v) (hown : OwnI w base v l)
    (A : Option Addr) (m c : Nat) (news : List Int) (hx : a.eval x = .slice A m c) (hm : m = news.length) (hr : RdI X w A news) (hlen : l.length + m ≤ 1000000000) (hbase : base ≤ w.heap.size)
    (h : ∀ v' w', OwnI w' base v' (l ++ news) → Grew v w v' w' → wpList Try.prog ops Q rest (a.put o.dst v') w') : wpList Try.prog ops Q (o :: rest) a w := by
  subst hm
  refine wpList_appG under_ints int_info rfl (by omega) hgd s x ho base v l.length _ hs hown A news.length c (news.map (Value.int .i64)) hx (by simp) hr (fun u hu => by obtain ⟨z, _, rfl⟩ := List.mem_map.1 hu; rfl) (by simp only [maxLen]; omega) (by omega) hbase fun v' w' h1 h2 h3 => h v' w' ?_ (Grew.of_grown h2 h3)
  unfold OwnI
  simpa using h1
/-- append(s, z): one int more, out of the block that was just built for it. -/
theorem wpList_appI1 {ops : Array Oper} {rest : List Oper} {o : Oper} {a : Act} {Q : Exit → Act → World → Prop} {w : World} (hgd : o.guard = none) (s x : Operand)
    (ho : o.op = .call { callee := .builtin .append, args := #[s, x], argTypes := #[25, 25] }) (base : Nat) (v : Value) (l : List Int) (hs : a.eval s = v) (hown : OwnI w base v l)
    (z : Int) (hx : a.eval x = .slice (some ⟨w.heap.size, 0, none⟩) 1 1) (hlen : l.length + 1 ≤ 1000000000) (hbase : base ≤ w.heap.size)
    (h : ∀ v' w', OwnI w' base v' (l ++ [z]) → Grew v w v' w' → wpList Try.prog ops Q rest (a.put o.dst v') w') : wpList Try.prog ops Q (o :: rest) a (w.alloc (.cells #[.int .i64 z] 3)) := by
  have hb : Below w.heap.size w (w.alloc (.cells #[.int .i64 z] 3)) := (Below.refl _ _).alloc (Nat.le_refl _) _
  refine wpList_appI hgd s x ho base v l hs (hown.later hb) _ 1 1 [z] hx rfl (rdI_lit w [z]) hlen (by simp; omega) fun v' w' h1 h2 => h v' w' h1 (h2.before hb fun k hk => owns_lt hown hk)
end Go.Proofs.Ytfmncljcogijhaa
