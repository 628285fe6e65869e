/- Tests of one number, joined by || and &&: one step a test, whatever the tests before have told. No function of the program. -/
import Derived.Test.YtonkcfnegnghcaaInts
namespace Go.Proofs.Ytonkcfnegnghcaa
open Go.RowKit
set_option maxRecDepth 100000
set_option linter.unusedVariables false

theorem under_int : Try.prog.underlying 3 = some (.int .i64) := Try.underlying3

section
variable {ops : Array Oper} {rest : List Oper} {a : Act} {Q : Exit → Act → World → Prop} {w : World}

theorem st_move (o : Oper) (x : Operand) (d : Nat) (h : o.op = .move x) (hd : o.dst = some d) (hw : Region.wanted o (yielded ops a.tmps) = true)
    (hr : wpList Try.prog ops Q rest ⟨a.tmps.setIfInBounds d (a.eval x), a.defers⟩ w) : wpList Try.prog ops Q (o :: rest) a w := by
  refine wpList_step fun K hK => ?_
  rw [if_pos hw]
  have e : (execOp a.eval o).run Try.prog w = .ok (.value (a.eval x)) w := by
    simp [execOp, h, go_sem]
  rw [Oper.wp, e, Oper.upon_value]
  refine hK _ _ ?_
  rw [hd]; exact hr
theorem st_assign (o : Oper) (x : Operand) (d : Nat) (h : o.op = .assign x) (hd : o.dst = some d) (hw : Region.wanted o (yielded ops a.tmps) = true)
    (hr : wpList Try.prog ops Q rest ⟨a.tmps.setIfInBounds d (a.eval x), a.defers⟩ w) : wpList Try.prog ops Q (o :: rest) a w := by
  refine wpList_step fun K hK => ?_
  rw [if_pos hw]
  have e : (execOp a.eval o).run Try.prog w = .ok (.value (a.eval x)) w := by
    simp [execOp, h, go_sem]
  rw [Oper.wp, e, Oper.upon_value]
  refine hK _ _ ?_
  rw [hd]; exact hr
theorem st_skip (o : Oper) (d : Nat) (hd : o.dst = some d) (hw : Region.wanted o (yielded ops a.tmps) = false)
    (hr : wpList Try.prog ops Q rest ⟨a.tmps.setIfInBounds d undef, a.defers⟩ w) : wpList Try.prog ops Q (o :: rest) a w := by
  refine wpList_step fun K hK => ?_
  rw [if_neg (by simp [hw])]
  refine hK _ _ ?_
  rw [hd]; exact hr
theorem st_pick (o : Oper) (c x y : Operand) (b : Bool) (d : Nat) (h : o.op = .pick c x y) (hc : a.eval c = .bool b) (hd : o.dst = some d) (hw : Region.wanted o (yielded ops a.tmps) = true)
    (hr : wpList Try.prog ops Q rest ⟨a.tmps.setIfInBounds d (if b then a.eval x else a.eval y), a.defers⟩ w) : wpList Try.prog ops Q (o :: rest) a w := by
  refine wpList_step fun K hK => ?_
  rw [if_pos hw]
  have gen : ∀ ρ : Operand → Value, ρ c = .bool b → (execOp ρ o).run Try.prog w = .ok (.value (if b then ρ x else ρ y)) w := by
    intro ρ hρ
    simp [execOp, h, hρ, go_sem]
  have e := gen a.eval hc
  rw [Oper.wp, e, Oper.upon_value]
  refine hK _ _ ?_
  rw [hd]; exact hr
/-- Which number tests there are. -/
inductive Cmp where
  | eq | ge | le | gt
def Cmp.bin : Cmp → BinOp
  | .eq => .eql | .ge => .geq | .le => .leq | .gt => .gtr
def Cmp.tell : Cmp → Int → Int → Bool
  | .eq, x, y => x == y | .ge, x, y => decide (y ≤ x) | .le, x, y => decide (x ≤ y) | .gt, x, y => decide (y < x)
theorem st_cmp (o : Oper) (k : Cmp) (x : Operand) (t : TypeId) (m n : Int) (d : Nat) (h : o.op = .binOp k.bin 3 x (.const (.int .i64 n)) t) (hx : a.eval x = .int .i64 m) (hd : o.dst = some d) (hw : Region.wanted o (yielded ops a.tmps) = true)
    (hr : wpList Try.prog ops Q rest ⟨a.tmps.setIfInBounds d (.bool (k.tell m n)), a.defers⟩ w) : wpList Try.prog ops Q (o :: rest) a w := by
  refine wpList_step fun K hK => ?_
  rw [if_pos hw]
  have gen : ∀ ρ : Operand → Value, ρ x = .int .i64 m → ρ (.const (.int .i64 n)) = .int .i64 n → (execOp ρ o).run Try.prog w = .ok (.value (.bool (k.tell m n))) w := by
    intro ρ hρ hn
    cases k <;> simp [execOp, h, hρ, hn, Cmp.bin, Cmp.tell, go_sem]
  have e := gen a.eval hx rfl
  rw [Oper.wp, e, Oper.upon_value]
  refine hK _ _ ?_
  rw [hd]; exact hr
theorem wanted_none {o : Oper} {y : Nat → Option Bool} (h : o.guard = none) : Region.wanted o y = true := by simp [Region.wanted, h]
theorem wanted_at {o o1 : Oper} {T : Array Value} {i d : Nat} {b p : Bool} (h : o.guard = some (i, b)) (hi : ops[i]? = some o1) (hd : o1.dst = some d) (ht : T[d]? = some (.bool p)) : Region.wanted o (yielded ops T) = (p == b) := by
  simp [Region.wanted, h, yielded, hi, hd, ht]
theorem wanted_un {o o1 : Oper} {T : Array Value} {i d : Nat} {b : Bool} (h : o.guard = some (i, b)) (hi : ops[i]? = some o1) (hd : o1.dst = some d) (ht : T[d]? = some undef) : Region.wanted o (yielded ops T) = false := by
  simp [Region.wanted, h, yielded, hi, hd, ht, undef]
theorem ev_ne {T : Array Value} {D : List Deferred} {s d : Nat} {v : Value} (h : s ≠ d) : (⟨T.setIfInBounds d v, D⟩ : Act).eval (.tmp s) = (⟨T, D⟩ : Act).eval (.tmp s) := by
  simp [Act.eval, Ne.symm h]
theorem ev_eq {T : Array Value} {D : List Deferred} {d : Nat} {v : Value} (h : d < T.size) : (⟨T.setIfInBounds d v, D⟩ : Act).eval (.tmp d) = v := by
  simp [Act.eval, h]
theorem ev_const (a : Act) (v : Value) : a.eval (.const v) = v := rfl
theorem at_ne {T : Array Value} {s d : Nat} {v : Value} (h : s ≠ d) : (T.setIfInBounds d v)[s]? = T[s]? := by simp [Ne.symm h]
theorem at_eq {T : Array Value} {d : Nat} {v : Value} (h : d < T.size) : (T.setIfInBounds d v)[d]? = some v := by simp [h]
/-- p || x ∘ c -/
theorem or_cmp (o1 o2 o3 o4 : Oper) (i d1 d2 d3 d4 s : Nat) (sp : Operand) (k : Cmp) (t : TypeId) (c x : Int) (p : Bool)
    (h1 : o1.op = .move sp ∧ o1.guard = none ∧ o1.dst = some d1) (h2 : o2.op = .move (.tmp s) ∧ o2.guard = some (i, false) ∧ o2.dst = some d2)
    (h3 : o3.op = .binOp k.bin 3 (.tmp d2) (.const (.int .i64 c)) t ∧ o3.guard = some (i, false) ∧ o3.dst = some d3)
    (h4 : o4.op = .pick (.tmp d1) (.const (.bool true)) (.tmp d3) ∧ o4.guard = none ∧ o4.dst = some d4)
    (hi : ops[i]? = some o1) (hd : s < d1 ∧ d1 < d2 ∧ d2 < d3 ∧ d3 < d4 ∧ d4 < a.tmps.size) (hp : a.eval sp = .bool p) (hx : a.eval (.tmp s) = .int .i64 x)
    (h : ∀ u v, wpList Try.prog ops Q rest ⟨(((a.tmps.setIfInBounds d1 (.bool p)).setIfInBounds d2 u).setIfInBounds d3 v).setIfInBounds d4 (.bool (p || k.tell x c)), a.defers⟩ w) : wpList Try.prog ops Q (o1 :: o2 :: o3 :: o4 :: rest) a w := by
  obtain ⟨q1, q2, q3, q4, q5⟩ := hd
  obtain ⟨T, D⟩ := a
  simp only at *
  refine st_move _ _ _ h1.1 h1.2.2 (wanted_none h1.2.1) ?_
  rw [hp]
  dsimp only
  cases p with
  | true =>
    refine st_skip _ _ h2.2.2 (wanted_at (p := true) h2.2.1 hi h1.2.2 (at_eq (by omega))) ?_
    refine st_skip _ _ h3.2.2 (wanted_at (p := true) h3.2.1 hi h1.2.2 (by simp (disch := ((try simp only [Array.size_setIfInBounds]); omega)) only [at_ne, at_eq])) ?_
    refine st_pick _ _ _ _ true _ h4.1 (by simp (disch := ((try simp only [Array.size_setIfInBounds]); omega)) only [ev_ne, ev_eq]) h4.2.2 (wanted_none h4.2.1) ?_
    exact h _ _
  | false =>
    refine st_move _ _ _ h2.1 h2.2.2 (wanted_at (p := false) h2.2.1 hi h1.2.2 (at_eq (by omega))) ?_
    simp (disch := ((try simp only [Array.size_setIfInBounds]); omega)) only [ev_ne, hx]
    refine st_cmp _ k _ _ x c _ h3.1 (by simp (disch := ((try simp only [Array.size_setIfInBounds]); omega)) only [ev_eq]) h3.2.2 (wanted_at (p := false) h3.2.1 hi h1.2.2 (by simp (disch := ((try simp only [Array.size_setIfInBounds]); omega)) only [at_ne, at_eq])) ?_
    refine st_pick _ _ _ _ false _ h4.1 (by simp (disch := ((try simp only [Array.size_setIfInBounds]); omega)) only [ev_ne, ev_eq]) h4.2.2 (wanted_none h4.2.1) ?_
    rw [if_neg (by simp)]
    simp (disch := ((try simp only [Array.size_setIfInBounds]); omega)) only [ev_eq]
    exact h _ _
/-- p && x ∘ c -/
theorem and_cmp (o1 o2 o3 o4 : Oper) (i d1 d2 d3 d4 s : Nat) (sp : Operand) (k : Cmp) (t : TypeId) (c x : Int) (p : Bool)
    (h1 : o1.op = .move sp ∧ o1.guard = none ∧ o1.dst = some d1) (h2 : o2.op = .move (.tmp s) ∧ o2.guard = some (i, true) ∧ o2.dst = some d2)
    (h3 : o3.op = .binOp k.bin 3 (.tmp d2) (.const (.int .i64 c)) t ∧ o3.guard = some (i, true) ∧ o3.dst = some d3)
    (h4 : o4.op = .pick (.tmp d1) (.tmp d3) (.const (.bool false)) ∧ o4.guard = none ∧ o4.dst = some d4)
    (hi : ops[i]? = some o1) (hd : s < d1 ∧ d1 < d2 ∧ d2 < d3 ∧ d3 < d4 ∧ d4 < a.tmps.size) (hp : a.eval sp = .bool p) (hx : a.eval (.tmp s) = .int .i64 x)
    (h : ∀ u v, wpList Try.prog ops Q rest ⟨(((a.tmps.setIfInBounds d1 (.bool p)).setIfInBounds d2 u).setIfInBounds d3 v).setIfInBounds d4 (.bool (p && k.tell x c)), a.defers⟩ w) : wpList Try.prog ops Q (o1 :: o2 :: o3 :: o4 :: rest) a w := by
  obtain ⟨q1, q2, q3, q4, q5⟩ := hd
  obtain ⟨T, D⟩ := a
  simp only at *
  refine st_move _ _ _ h1.1 h1.2.2 (wanted_none h1.2.1) ?_
  rw [hp]
  dsimp only
  cases p with
  | false =>
    refine st_skip _ _ h2.2.2 (wanted_at (p := false) h2.2.1 hi h1.2.2 (at_eq (by omega))) ?_
    refine st_skip _ _ h3.2.2 (wanted_at (p := false) h3.2.1 hi h1.2.2 (by simp (disch := ((try simp only [Array.size_setIfInBounds]); omega)) only [at_ne, at_eq])) ?_
    refine st_pick _ _ _ _ false _ h4.1 (by simp (disch := ((try simp only [Array.size_setIfInBounds]); omega)) only [ev_ne, ev_eq]) h4.2.2 (wanted_none h4.2.1) ?_
    rw [if_neg (by simp), ev_const]
    exact h undef undef
  | true =>
    refine st_move _ _ _ h2.1 h2.2.2 (wanted_at (p := true) h2.2.1 hi h1.2.2 (at_eq (by omega))) ?_
    simp (disch := ((try simp only [Array.size_setIfInBounds]); omega)) only [ev_ne, hx]
    refine st_cmp _ k _ _ x c _ h3.1 (by simp (disch := ((try simp only [Array.size_setIfInBounds]); omega)) only [ev_eq]) h3.2.2 (wanted_at (p := true) h3.2.1 hi h1.2.2 (by simp (disch := ((try simp only [Array.size_setIfInBounds]); omega)) only [at_ne, at_eq])) ?_
    refine st_pick _ _ _ _ true _ h4.1 (by simp (disch := ((try simp only [Array.size_setIfInBounds]); omega)) only [ev_ne, ev_eq]) h4.2.2 (wanted_none h4.2.1) ?_
    rw [if_pos rfl]
    simp (disch := ((try simp only [Array.size_setIfInBounds]); omega)) only [ev_eq]
    exact h _ _
set_option maxHeartbeats 1000000 in
/-- p || lo ≤ x && x ≤ hi -/
theorem or_rng (o1 o2 o3 o4 o5 o6 o7 o8 : Oper) (i j d1 d2 d3 d4 d5 d6 d7 d8 s : Nat) (sp : Operand) (t t' : TypeId) (lo hi x : Int) (p : Bool)
    (h1 : o1.op = .move sp ∧ o1.guard = none ∧ o1.dst = some d1) (h2 : o2.op = .move (.tmp s) ∧ o2.guard = some (i, false) ∧ o2.dst = some d2)
    (h3 : o3.op = .binOp .geq 3 (.tmp d2) (.const (.int .i64 lo)) t ∧ o3.guard = some (i, false) ∧ o3.dst = some d3)
    (h4 : o4.op = .move (.tmp d3) ∧ o4.guard = some (i, false) ∧ o4.dst = some d4)
    (h5 : o5.op = .move (.tmp s) ∧ o5.guard = some (j, true) ∧ o5.dst = some d5)
    (h6 : o6.op = .binOp .leq 3 (.tmp d5) (.const (.int .i64 hi)) t' ∧ o6.guard = some (j, true) ∧ o6.dst = some d6)
    (h7 : o7.op = .pick (.tmp d4) (.tmp d6) (.const (.bool false)) ∧ o7.guard = some (i, false) ∧ o7.dst = some d7)
    (h8 : o8.op = .pick (.tmp d1) (.const (.bool true)) (.tmp d7) ∧ o8.guard = none ∧ o8.dst = some d8)
    (hi1 : ops[i]? = some o1) (hj : ops[j]? = some o4) (hd : s < d1 ∧ d1 < d2 ∧ d2 < d3 ∧ d3 < d4 ∧ d4 < d5 ∧ d5 < d6 ∧ d6 < d7 ∧ d7 < d8 ∧ d8 < a.tmps.size) (hp : a.eval sp = .bool p) (hx : a.eval (.tmp s) = .int .i64 x)
    (h : ∀ u2 u3 u4 u5 u6 u7, wpList Try.prog ops Q rest ⟨(((((((a.tmps.setIfInBounds d1 (.bool p)).setIfInBounds d2 u2).setIfInBounds d3 u3).setIfInBounds d4 u4).setIfInBounds d5 u5).setIfInBounds d6 u6).setIfInBounds d7 u7).setIfInBounds d8 (.bool (p || (decide (lo ≤ x) && decide (x ≤ hi)))), a.defers⟩ w) : wpList Try.prog ops Q (o1 :: o2 :: o3 :: o4 :: o5 :: o6 :: o7 :: o8 :: rest) a w := by
  obtain ⟨q1, q2, q3, q4, q5, q6, q7, q8, q9⟩ := hd
  obtain ⟨T, D⟩ := a
  simp only at *
  refine st_move _ _ _ h1.1 h1.2.2 (wanted_none h1.2.1) ?_
  rw [hp]
  dsimp only
  cases p with
  | true =>
    refine st_skip _ _ h2.2.2 (wanted_at (p := true) h2.2.1 hi1 h1.2.2 (at_eq (by omega))) ?_
    refine st_skip _ _ h3.2.2 (wanted_at (p := true) h3.2.1 hi1 h1.2.2 (by simp (disch := ((try simp only [Array.size_setIfInBounds]); omega)) only [at_ne, at_eq])) ?_
    refine st_skip _ _ h4.2.2 (wanted_at (p := true) h4.2.1 hi1 h1.2.2 (by simp (disch := ((try simp only [Array.size_setIfInBounds]); omega)) only [at_ne, at_eq])) ?_
    refine st_skip _ _ h5.2.2 (wanted_un h5.2.1 hj h4.2.2 (by simp (disch := ((try simp only [Array.size_setIfInBounds]); omega)) only [at_eq])) ?_
    refine st_skip _ _ h6.2.2 (wanted_un h6.2.1 hj h4.2.2 (by simp (disch := ((try simp only [Array.size_setIfInBounds]); omega)) only [at_ne, at_eq])) ?_
    refine st_skip _ _ h7.2.2 (wanted_at (p := true) h7.2.1 hi1 h1.2.2 (by simp (disch := ((try simp only [Array.size_setIfInBounds]); omega)) only [at_ne, at_eq])) ?_
    refine st_pick _ _ _ _ true _ h8.1 (by simp (disch := ((try simp only [Array.size_setIfInBounds]); omega)) only [ev_ne, ev_eq]) h8.2.2 (wanted_none h8.2.1) ?_
    have h' := h undef undef undef undef undef undef
    rw [Bool.true_or] at h'
    rw [if_pos rfl, ev_const]
    dsimp only
    exact h'
  | false =>
    refine st_move _ _ _ h2.1 h2.2.2 (wanted_at (p := false) h2.2.1 hi1 h1.2.2 (at_eq (by omega))) ?_
    simp (disch := ((try simp only [Array.size_setIfInBounds]); omega)) only [ev_ne, hx]
    refine st_cmp _ .ge _ _ x lo _ h3.1 (by simp (disch := ((try simp only [Array.size_setIfInBounds]); omega)) only [ev_eq]) h3.2.2 (wanted_at (p := false) h3.2.1 hi1 h1.2.2 (by simp (disch := ((try simp only [Array.size_setIfInBounds]); omega)) only [at_ne, at_eq])) ?_
    refine st_move _ _ _ h4.1 h4.2.2 (wanted_at (p := false) h4.2.1 hi1 h1.2.2 (by simp (disch := ((try simp only [Array.size_setIfInBounds]); omega)) only [at_ne, at_eq])) ?_
    simp (disch := ((try simp only [Array.size_setIfInBounds]); omega)) only [ev_eq]
    generalize hq : Cmp.ge.tell x lo = q
    have hq' : decide (lo ≤ x) = q := hq
    rw [hq'] at h
    cases q with
    | true =>
      refine st_move _ _ _ h5.1 h5.2.2 (wanted_at (p := true) h5.2.1 hj h4.2.2 (by simp (disch := ((try simp only [Array.size_setIfInBounds]); omega)) only [at_eq])) ?_
      simp (disch := ((try simp only [Array.size_setIfInBounds]); omega)) only [ev_ne, hx]
      refine st_cmp _ .le _ _ x hi _ h6.1 (by simp (disch := ((try simp only [Array.size_setIfInBounds]); omega)) only [ev_eq]) h6.2.2 (wanted_at (p := true) h6.2.1 hj h4.2.2 (by simp (disch := ((try simp only [Array.size_setIfInBounds]); omega)) only [at_ne, at_eq])) ?_
      refine st_pick _ _ _ _ true _ h7.1 (by simp (disch := ((try simp only [Array.size_setIfInBounds]); omega)) only [ev_ne, ev_eq]) h7.2.2 (wanted_at (p := false) h7.2.1 hi1 h1.2.2 (by simp (disch := ((try simp only [Array.size_setIfInBounds]); omega)) only [at_ne, at_eq])) ?_
      rw [if_pos rfl]
      simp (disch := ((try simp only [Array.size_setIfInBounds]); omega)) only [ev_eq]
      refine st_pick _ _ _ _ false _ h8.1 (by simp (disch := ((try simp only [Array.size_setIfInBounds]); omega)) only [ev_ne, ev_eq]) h8.2.2 (wanted_none h8.2.1) ?_
      rw [if_neg (by simp)]
      simp (disch := ((try simp only [Array.size_setIfInBounds]); omega)) only [ev_eq]
      refine (cast ?_ (h (.int .i64 x) (.bool true) (.bool true) (.int .i64 x) (.bool (decide (x ≤ hi))) (.bool (decide (x ≤ hi)))))
      simp only [Bool.false_or, Bool.true_and, Cmp.tell]
    | false =>
      refine st_skip _ _ h5.2.2 (wanted_at (p := false) h5.2.1 hj h4.2.2 (by simp (disch := ((try simp only [Array.size_setIfInBounds]); omega)) only [at_eq])) ?_
      refine st_skip _ _ h6.2.2 (wanted_at (p := false) h6.2.1 hj h4.2.2 (by simp (disch := ((try simp only [Array.size_setIfInBounds]); omega)) only [at_ne, at_eq])) ?_
      refine st_pick _ _ _ _ false _ h7.1 (by simp (disch := ((try simp only [Array.size_setIfInBounds]); omega)) only [ev_ne, ev_eq]) h7.2.2 (wanted_at (p := false) h7.2.1 hi1 h1.2.2 (by simp (disch := ((try simp only [Array.size_setIfInBounds]); omega)) only [at_ne, at_eq])) ?_
      rw [if_neg (by simp), ev_const]
      refine st_pick _ _ _ _ false _ h8.1 (by simp (disch := ((try simp only [Array.size_setIfInBounds]); omega)) only [ev_ne, ev_eq]) h8.2.2 (wanted_none h8.2.1) ?_
      rw [if_neg (by simp)]
      simp (disch := ((try simp only [Array.size_setIfInBounds]); omega)) only [ev_eq]
      refine (cast ?_ (h (.int .i64 x) (.bool false) (.bool false) undef undef (.bool false)))
      simp only [Bool.false_or, Bool.false_and]
end
end Go.Proofs.Ytonkcfnegnghcaa
