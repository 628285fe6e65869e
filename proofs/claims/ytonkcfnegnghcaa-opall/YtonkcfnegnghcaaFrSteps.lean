/- The same tests over a frame of which only one number and the last answer are known: each step costs what it says, whatever the frame's size. No function of the program. -/
import Derived.Test.YtonkcfnegnghcaaOrSteps
namespace Go.Proofs.Ytonkcfnegnghcaa
open Go.RowKit
set_option maxRecDepth 100000
set_option linter.unusedVariables false

/-- A frame of n slots, nothing deferred, that holds the number x in slot 0. -/
def Fr (n : Nat) (x : Int) (a : Act) : Prop := a.tmps.size = n ∧ a.defers = [] ∧ a.eval (.tmp 0) = .int .i64 x
theorem Fr.put {n : Nat} {x : Int} {T : Array Value} {D : List Deferred} (h : Fr n x ⟨T, D⟩) {d : Nat} (v : Value) (hd : 0 < d) : Fr n x ⟨T.setIfInBounds d v, D⟩ :=
  ⟨by simpa using h.1, h.2.1, by rw [ev_ne (by omega)]; exact h.2.2⟩
theorem calls_fr {f : FuncId} {fn : Func} {c : Code} {w : World} {R : Ending → World → Prop} {n : Nat} {x : Int} (hf : Try.prog.funcs[f]? = some fn) (hb : fn.body = some c) (hn : fn.ntmps = n) (h0 : 0 < n)
    (h : ∀ a, Fr n x a → c.wp Try.prog (bodyPost Try.prog fn R) a w) : Calls Try.prog f #[.int .i64 x] w R := by
  refine calls_of_wp hf hb (h _ ⟨?_, rfl, ?_⟩)
  · simp [hn]; omega
  · simp only [Act.eval, Array.getD_eq_getD_getElem?]
    rw [Array.getElem?_append_left (by simp)]
    rfl
/-- A function with a body is entered. -/
theorem run_cf {f : FuncId} {fn : Func} {c : Code} (hf : Try.prog.funcs[f]? = some fn) (hn : (fn.name == "runtime.NumGoroutine") = false) (hb : fn.body = some c) (args : Array Value) (w : World) : (callFunc f args).run Try.prog w = .ok (.enter f args) w := by
  have hn' : ¬ fn.name = "runtime.NumGoroutine" := by simpa using hn
  simp [callFunc, hf, hn', hb, go_sem]
section
variable {ops : Array Oper} {rest : List Oper} {a : Act} {Q : Exit → Act → World → Prop} {w : World} {n : Nat} {x : Int}
/-- x ∘ c, ahead of all. -/
theorem fr_cmp (o1 o2 : Oper) (d1 d2 : Nat) (k : Cmp) (t : TypeId) (c : Int) (h1 : o1.op = .move (.tmp 0) ∧ o1.guard = none ∧ o1.dst = some d1) (h2 : o2.op = .binOp k.bin 3 (.tmp d1) (.const (.int .i64 c)) t ∧ o2.guard = none ∧ o2.dst = some d2)
    (hd : 0 < d1 ∧ d1 < d2 ∧ d2 < n) (F : Fr n x a) (h : ∀ a', Fr n x a' → a'.eval (.tmp d2) = .bool (k.tell x c) → wpList Try.prog ops Q rest a' w) : wpList Try.prog ops Q (o1 :: o2 :: rest) a w := by
  obtain ⟨q1, q2, q3⟩ := hd
  obtain ⟨T, D⟩ := a
  have hs := F.1
  simp only at hs
  refine st_move _ _ _ h1.1 h1.2.2 (wanted_none h1.2.1) ?_
  rw [F.2.2]
  refine st_cmp _ k _ _ x c _ h2.1 (ev_eq (by simp only; omega)) h2.2.2 (wanted_none h2.2.1) ?_
  exact h _ ((F.put _ q1).put _ (by omega)) (ev_eq (by simp; omega))
theorem fr_or (o1 o2 o3 o4 : Oper) (i d0 d1 d2 d3 d4 : Nat) (k : Cmp) (t : TypeId) (c : Int) (p : Bool)
    (h1 : o1.op = .move (.tmp d0) ∧ o1.guard = none ∧ o1.dst = some d1) (h2 : o2.op = .move (.tmp 0) ∧ o2.guard = some (i, false) ∧ o2.dst = some d2)
    (h3 : o3.op = .binOp k.bin 3 (.tmp d2) (.const (.int .i64 c)) t ∧ o3.guard = some (i, false) ∧ o3.dst = some d3)
    (h4 : o4.op = .pick (.tmp d1) (.const (.bool true)) (.tmp d3) ∧ o4.guard = none ∧ o4.dst = some d4)
    (hi : ops[i]? = some o1) (hd : 0 < d1 ∧ d1 < d2 ∧ d2 < d3 ∧ d3 < d4 ∧ d4 < n) (F : Fr n x a) (hp : a.eval (.tmp d0) = .bool p)
    (h : ∀ a', Fr n x a' → a'.eval (.tmp d4) = .bool (p || k.tell x c) → wpList Try.prog ops Q rest a' w) : wpList Try.prog ops Q (o1 :: o2 :: o3 :: o4 :: rest) a w := by
  obtain ⟨q1, q2, q3, q4, q5⟩ := hd
  obtain ⟨T, D⟩ := a
  have hs := F.1
  simp only at hs
  exact or_cmp o1 o2 o3 o4 i d1 d2 d3 d4 0 _ k t c x p h1 h2 h3 h4 hi ⟨q1, q2, q3, q4, by simp only; omega⟩ hp F.2.2 fun u v => h _ ((((F.put _ q1).put _ (by omega)).put _ (by omega)).put _ (by omega)) (ev_eq (by simp; omega))
theorem fr_and (o1 o2 o3 o4 : Oper) (i d0 d1 d2 d3 d4 : Nat) (k : Cmp) (t : TypeId) (c : Int) (p : Bool)
    (h1 : o1.op = .move (.tmp d0) ∧ o1.guard = none ∧ o1.dst = some d1) (h2 : o2.op = .move (.tmp 0) ∧ o2.guard = some (i, true) ∧ o2.dst = some d2)
    (h3 : o3.op = .binOp k.bin 3 (.tmp d2) (.const (.int .i64 c)) t ∧ o3.guard = some (i, true) ∧ o3.dst = some d3)
    (h4 : o4.op = .pick (.tmp d1) (.tmp d3) (.const (.bool false)) ∧ o4.guard = none ∧ o4.dst = some d4)
    (hi : ops[i]? = some o1) (hd : 0 < d1 ∧ d1 < d2 ∧ d2 < d3 ∧ d3 < d4 ∧ d4 < n) (F : Fr n x a) (hp : a.eval (.tmp d0) = .bool p)
    (h : ∀ a', Fr n x a' → a'.eval (.tmp d4) = .bool (p && k.tell x c) → wpList Try.prog ops Q rest a' w) : wpList Try.prog ops Q (o1 :: o2 :: o3 :: o4 :: rest) a w := by
  obtain ⟨q1, q2, q3, q4, q5⟩ := hd
  obtain ⟨T, D⟩ := a
  have hs := F.1
  simp only at hs
  exact and_cmp o1 o2 o3 o4 i d1 d2 d3 d4 0 _ k t c x p h1 h2 h3 h4 hi ⟨q1, q2, q3, q4, by simp only; omega⟩ hp F.2.2 fun u v => h _ ((((F.put _ q1).put _ (by omega)).put _ (by omega)).put _ (by omega)) (ev_eq (by simp; omega))
theorem fr_rng (o1 o2 o3 o4 o5 o6 o7 o8 : Oper) (i j d0 d1 d2 d3 d4 d5 d6 d7 d8 : Nat) (t t' : TypeId) (lo hi : Int) (p : Bool)
    (h1 : o1.op = .move (.tmp d0) ∧ o1.guard = none ∧ o1.dst = some d1) (h2 : o2.op = .move (.tmp 0) ∧ o2.guard = some (i, false) ∧ o2.dst = some d2)
    (h3 : o3.op = .binOp .geq 3 (.tmp d2) (.const (.int .i64 lo)) t ∧ o3.guard = some (i, false) ∧ o3.dst = some d3)
    (h4 : o4.op = .move (.tmp d3) ∧ o4.guard = some (i, false) ∧ o4.dst = some d4)
    (h5 : o5.op = .move (.tmp 0) ∧ o5.guard = some (j, true) ∧ o5.dst = some d5)
    (h6 : o6.op = .binOp .leq 3 (.tmp d5) (.const (.int .i64 hi)) t' ∧ o6.guard = some (j, true) ∧ o6.dst = some d6)
    (h7 : o7.op = .pick (.tmp d4) (.tmp d6) (.const (.bool false)) ∧ o7.guard = some (i, false) ∧ o7.dst = some d7)
    (h8 : o8.op = .pick (.tmp d1) (.const (.bool true)) (.tmp d7) ∧ o8.guard = none ∧ o8.dst = some d8)
    (hi1 : ops[i]? = some o1) (hj : ops[j]? = some o4) (hd : 0 < d1 ∧ d1 < d2 ∧ d2 < d3 ∧ d3 < d4 ∧ d4 < d5 ∧ d5 < d6 ∧ d6 < d7 ∧ d7 < d8 ∧ d8 < n) (F : Fr n x a) (hp : a.eval (.tmp d0) = .bool p)
    (h : ∀ a', Fr n x a' → a'.eval (.tmp d8) = .bool (p || (decide (lo ≤ x) && decide (x ≤ hi))) → wpList Try.prog ops Q rest a' w) : wpList Try.prog ops Q (o1 :: o2 :: o3 :: o4 :: o5 :: o6 :: o7 :: o8 :: rest) a w := by
  obtain ⟨q1, q2, q3, q4, q5, q6, q7, q8, q9⟩ := hd
  obtain ⟨T, D⟩ := a
  have hs := F.1
  simp only at hs
  exact or_rng o1 o2 o3 o4 o5 o6 o7 o8 i j d1 d2 d3 d4 d5 d6 d7 d8 0 _ t t' lo hi x p h1 h2 h3 h4 h5 h6 h7 h8 hi1 hj ⟨q1, q2, q3, q4, q5, q6, q7, q8, by simp only; omega⟩ hp F.2.2 fun u2 u3 u4 u5 u6 u7 => h _ ((((((((F.put _ q1).put _ (by omega)).put _ (by omega)).put _ (by omega)).put _ (by omega)).put _ (by omega)).put _ (by omega)).put _ (by omega)) (ev_eq (by simp; omega))
/-- The answer is laid aside. -/
theorem fr_as (o : Oper) (d0 d : Nat) (v : Value) (h1 : o.op = .assign (.tmp d0) ∧ o.guard = none ∧ o.dst = some d) (hd : 0 < d ∧ d < n) (F : Fr n x a) (hp : a.eval (.tmp d0) = v)
    (h : ∀ a', Fr n x a' → a'.eval (.tmp d) = v → wpList Try.prog ops Q rest a' w) : wpList Try.prog ops Q (o :: rest) a w := by
  obtain ⟨T, D⟩ := a
  have hs := F.1
  simp only at hs
  refine st_assign _ _ _ h1.1 h1.2.2 (wanted_none h1.2.1) ?_
  rw [hp]
  exact h _ (F.put _ hd.1) (ev_eq (by simp only; omega))
/-- m ∘ c, of a number that was just found. -/
theorem fr_cm1 (o : Oper) (d0 d : Nat) (k : Cmp) (t : TypeId) (m c : Int) (h1 : o.op = .binOp k.bin 3 (.tmp d0) (.const (.int .i64 c)) t ∧ o.guard = none ∧ o.dst = some d) (hd : 0 < d ∧ d < n) (F : Fr n x a) (hp : a.eval (.tmp d0) = .int .i64 m)
    (h : ∀ a', Fr n x a' → a'.eval (.tmp d) = .bool (k.tell m c) → wpList Try.prog ops Q rest a' w) : wpList Try.prog ops Q (o :: rest) a w := by
  obtain ⟨T, D⟩ := a
  have hs := F.1
  simp only at hs
  refine st_cmp _ k _ _ m c _ h1.1 hp h1.2.2 (wanted_none h1.2.1) ?_
  exact h _ (F.put _ hd.1) (ev_eq (by simp only; omega))
/-- Two constants for an answer. -/
theorem fr_two (o1 o2 : Oper) (v1 v2 : Value) (h1 : o1.op = .assign (.const v1) ∧ o1.guard = none ∧ o1.dst = some 2) (h2 : o2.op = .assign (.const v2) ∧ o2.guard = none ∧ o2.dst = some 3) (hn : 3 < n) (F : Fr n x a)
    (h : ∀ a', Fr n x a' → a'.eval (.tmp 2) = v1 → a'.eval (.tmp 3) = v2 → wpList Try.prog ops Q rest a' w) : wpList Try.prog ops Q (o1 :: o2 :: rest) a w := by
  obtain ⟨T, D⟩ := a
  have hs := F.1
  simp only at hs
  refine st_assign _ _ _ h1.1 h1.2.2 (wanted_none h1.2.1) ?_
  refine st_assign _ _ _ h2.1 h2.2.2 (wanted_none h2.2.1) ?_
  rw [ev_const, ev_const]
  exact h _ ((F.put _ (by omega)).put _ (by omega)) (by rw [ev_ne (by omega)]; exact ev_eq (by simp only; omega)) (ev_eq (by simp; omega))
/-- A constant for an answer. -/
theorem fr_one (o : Oper) (d : Nat) (v : Value) (h1 : o.op = .assign (.const v) ∧ o.guard = none ∧ o.dst = some d) (hd : 0 < d ∧ d < n) (F : Fr n x a)
    (h : ∀ a', Fr n x a' → a'.eval (.tmp d) = v → wpList Try.prog ops Q rest a' w) : wpList Try.prog ops Q (o :: rest) a w := by
  obtain ⟨T, D⟩ := a
  have hs := F.1
  simp only at hs
  refine st_assign _ _ _ h1.1 h1.2.2 (wanted_none h1.2.1) ?_
  rw [ev_const]
  exact h _ (F.put _ hd.1) (ev_eq (by simp only; omega))
/-- f(x) -/
theorem fr_call (o1 o2 : Oper) (d1 d2 : Nat) (f : FuncId) (t : TypeId) (v : Value) (h1 : o1.op = .move (.tmp 0) ∧ o1.guard = none ∧ o1.dst = some d1)
    (h2 : o2.op = .call { callee := .value (.func f), args := #[.tmp d1], argTypes := #[t] } ∧ o2.guard = none ∧ o2.dst = some d2) (hd : 0 < d1 ∧ d1 < d2 ∧ d2 < n) (F : Fr n x a)
    (hrun : (callFunc f #[.int .i64 x]).run Try.prog w = .ok (.enter f #[.int .i64 x]) w) (hc : Calls Try.prog f #[.int .i64 x] w fun e w' => e = .returned v ∧ w = w') (h : ∀ a', Fr n x a' → a'.eval (.tmp d2) = v → wpList Try.prog ops Q rest a' w) : wpList Try.prog ops Q (o1 :: o2 :: rest) a w := by
  obtain ⟨q1, q2, q3⟩ := hd
  obtain ⟨T, D⟩ := a
  have hs := F.1
  simp only at hs
  refine st_move _ _ _ h1.1 h1.2.2 (wanted_none h1.2.1) ?_
  rw [F.2.2]
  refine wpList_step fun K hK => ?_
  rw [if_pos (wanted_none h2.2.1)]
  have gen : ∀ ρ : Operand → Value, ρ (.tmp d1) = .int .i64 x → ρ (.func f) = .func (.func f) #[] #[] → (execOp ρ o2).run Try.prog w = .ok (.enter f #[.int .i64 x]) w := by
    intro ρ hρ hf
    simp [execOp, h2.1, hρ, hf, go_sem, hrun]
  have e := gen (⟨T.setIfInBounds d1 (.int .i64 x), D⟩ : Act).eval (ev_eq (by omega)) rfl
  rw [Oper.wp, e, Oper.upon_enter]
  refine hc.mono ?_
  rintro e w' ⟨rfl, rfl⟩
  refine hK _ _ ?_
  rw [h2.2.2]
  exact h _ ((F.put _ q1).put _ (by omega)) (ev_eq (by simp; omega))
end
end Go.Proofs.Ytonkcfnegnghcaa
