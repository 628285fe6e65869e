/- Texts joined: FrSteps, RefOp. -/
import Derived.Test.YtdbbcbffmbcjiaaJoin12
import Derived.Test.YtdbbcbffmbcjiaaJoin5
/- The same tests over a frame of which only one number and the last answer are known: each step costs what it says, whatever the frame's size. No function of the program. -/
namespace Go.Proofs.Ytdbbcbffmbcjiaa
open Go.RowKit
set_option maxRecDepth 100000
set_option linter.unusedVariables false

/-- A frame of n slots, nothing deferred, that holds the number x in slot 0. -/
def Fr (n : Nat) (x : Int) (a : Act) : Prop := a.tmps.size = n ∧ a.defers = [] ∧ a.eval (.tmp 0) = .int .i64 x
theorem Fr.put {n : Nat} {x : Int} {T : Array Value} {D : List Deferred} (h : Fr n x ⟨T, D⟩) {d : Nat} (v : Value) (hd : 0 < d) : Fr n x ⟨T.setIfInBounds d v, D⟩ :=
  ⟨by simpa using h.1, h.2.1, by rw [ev_ne (by omega)]; exact h.2.2⟩
theorem calls_fr {f : FuncId} {fn : Func} {c : Code} {w : World} {R : Ending → World → Prop} {n : Nat} {x : Int} (hf : Try.prog.funcs[f]? = some fn) (hb : fn.body = some c) (hn : fn.ntmps = n) (h0 : 0 < n)
    (h : ∀ a, Fr n x a → c.wp Try.prog (bodyPost Try.prog fn R) a w) : Calls Try.prog f #[.int .i64 x] w R := by
  refine calls_of_wp hf hb (h _ ⟨?_, rfl, ?_⟩)
  · simp [hn]; omega
  · simp only [Act.eval, Array.getD_eq_getD_getElem?]
    rw [Array.getElem?_append_left (by simp)]
    rfl
/-- A function with a body is entered. -/
theorem run_cf {f : FuncId} {fn : Func} {c : Code} (hf : Try.prog.funcs[f]? = some fn) (hn : (fn.name == "runtime.NumGoroutine") = false) (hb : fn.body = some c) (args : Array Value) (w : World) : (callFunc f args).run Try.prog w = .ok (.enter f args) w := by
  have hn' : ¬ fn.name = "runtime.NumGoroutine" := by simpa using hn
  simp [callFunc, hf, hn', hb, go_sem]
section
variable {ops : Array Oper} {rest : List Oper} {a : Act} {Q : Exit → Act → World → Prop} {w : World} {n : Nat} {x : Int}
/-- x ∘ c, ahead of all. -/
theorem fr_cmp (o1 o2 : Oper) (d1 d2 : Nat) (k : Cmp) (t : TypeId) (c : Int) (h1 : o1.op = .move (.tmp 0) ∧ o1.guard = none ∧ o1.dst = some d1) (h2 : o2.op = .binOp k.bin 3 (.tmp d1) (.const (.int .i64 c)) t ∧ o2.guard = none ∧ o2.dst = some d2)
    (hd : 0 < d1 ∧ d1 < d2 ∧ d2 < n) (F : Fr n x a) (h : ∀ a', Fr n x a' → a'.eval (.tmp d2) = .bool (k.tell x c) → wpList Try.prog ops Q rest a' w) : wpList Try.prog ops Q (o1 :: o2 :: rest) a w := by
  obtain ⟨q1, q2, q3⟩ := hd
  obtain ⟨T, D⟩ := a
  have hs := F.1
  simp only at hs
  refine st_move _ _ _ h1.1 h1.2.2 (wanted_none h1.2.1) ?_
  rw [F.2.2]
  refine st_cmp _ k _ _ x c _ h2.1 (ev_eq (by simp only; omega)) h2.2.2 (wanted_none h2.2.1) ?_
  exact h _ ((F.put _ q1).put _ (by omega)) (ev_eq (by simp; omega))
theorem fr_or (o1 o2 o3 o4 : Oper) (i d0 d1 d2 d3 d4 : Nat) (k : Cmp) (t : TypeId) (c : Int) (p : Bool)
    (h1 : o1.op = .move (.tmp d0) ∧ o1.guard = none ∧ o1.dst = some d1) (h2 : o2.op = .move (.tmp 0) ∧ o2.guard = some (i, false) ∧ o2.dst = some d2)
    (h3 : o3.op = .binOp k.bin 3 (.tmp d2) (.const (.int .i64 c)) t ∧ o3.guard = some (i, false) ∧ o3.dst = some d3)
    (h4 : o4.op = .pick (.tmp d1) (.const (.bool true)) (.tmp d3) ∧ o4.guard = none ∧ o4.dst = some d4)
    (hi : ops[i]? = some o1) (hd : 0 < d1 ∧ d1 < d2 ∧ d2 < d3 ∧ d3 < d4 ∧ d4 < n) (F : Fr n x a) (hp : a.eval (.tmp d0) = .bool p)
    (h : ∀ a', Fr n x a' → a'.eval (.tmp d4) = .bool (p || k.tell x c) → wpList Try.prog ops Q rest a' w) : wpList Try.prog ops Q (o1 :: o2 :: o3 :: o4 :: rest) a w := by
  obtain ⟨q1, q2, q3, q4, q5⟩ := hd
  obtain ⟨T, D⟩ := a
  have hs := F.1
  simp only at hs
  exact or_cmp o1 o2 o3 o4 i d1 d2 d3 d4 0 _ k t c x p h1 h2 h3 h4 hi ⟨q1, q2, q3, q4, by simp only; omega⟩ hp F.2.2 fun u v => h _ ((((F.put _ q1).put _ (by omega)).put _ (by omega)).put _ (by omega)) (ev_eq (by simp; omega))
theorem fr_and (o1 o2 o3 o4 : Oper) (i d0 d1 d2 d3 d4 : Nat) (k : Cmp) (t : TypeId) (c : Int) (p : Bool)
    (h1 : o1.op = .move (.tmp d0) ∧ o1.guard = none ∧ o1.dst = some d1) (h2 : o2.op = .move (.tmp 0) ∧ o2.guard = some (i, true) ∧ o2.dst = some d2)
    (h3 : o3.op = .binOp k.bin 3 (.tmp d2) (.const (.int .i64 c)) t ∧ o3.guard = some (i, true) ∧ o3.dst = some d3)
    (h4 : o4.op = .pick (.tmp d1) (.tmp d3) (.const (.bool false)) ∧ o4.guard = none ∧ o4.dst = some d4)
    (hi : ops[i]? = some o1) (hd : 0 < d1 ∧ d1 < d2 ∧ d2 < d3 ∧ d3 < d4 ∧ d4 < n) (F : Fr n x a) (hp : a.eval (.tmp d0) = .bool p)
    (h : ∀ a', Fr n x a' → a'.eval (.tmp d4) = .bool (p && k.tell x c) → wpList Try.prog ops Q rest a' w) : wpList Try.prog ops Q (o1 :: o2 :: o3 :: o4 :: rest) a w := by
  obtain ⟨q1, q2, q3, q4, q5⟩ := hd
  obtain ⟨T, D⟩ := a
  have hs := F.1
  simp only at hs
  exact and_cmp o1 o2 o3 o4 i d1 d2 d3 d4 0 _ k t c x p h1 h2 h3 h4 hi ⟨q1, q2, q3, q4, by simp only; omega⟩ hp F.2.2 fun u v => h _ ((((F.put _ q1).put _ (by omega)).put _ (by omega)).put _ (by omega)) (ev_eq (by simp; omega))
theorem fr_rng (o1 o2 o3 o4 o5 o6 o7 o8 : Oper) (i j d0 d1 d2 d3 d4 d5 d6 d7 d8 : Nat) (t t' : TypeId) (lo hi : Int) (p : Bool)
    (h1 : o1.op = .move (.tmp d0) ∧ o1.guard = none ∧ o1.dst = some d1) (h2 : o2.op = .move (.tmp 0) ∧ o2.guard = some (i, false) ∧ o2.dst = some d2)
    (h3 : o3.op = .binOp .geq 3 (.tmp d2) (.const (.int .i64 lo)) t ∧ o3.guard = some (i, false) ∧ o3.dst = some d3)
    (h4 : o4.op = .move (.tmp d3) ∧ o4.guard = some (i, false) ∧ o4.dst = some d4)
    (h5 : o5.op = .move (.tmp 0) ∧ o5.guard = some (j, true) ∧ o5.dst = some d5)
    (h6 : o6.op = .binOp .leq 3 (.tmp d5) (.const (.int .i64 hi)) t' ∧ o6.guard = some (j, true) ∧ o6.dst = some d6)
    (h7 : o7.op = .pick (.tmp d4) (.tmp d6) (.const (.bool false)) ∧ o7.guard = some (i, false) ∧ o7.dst = some d7)
    (h8 : o8.op = .pick (.tmp d1) (.const (.bool true)) (.tmp d7) ∧ o8.guard = none ∧ o8.dst = some d8)
    (hi1 : ops[i]? = some o1) (hj : ops[j]? = some o4) (hd : 0 < d1 ∧ d1 < d2 ∧ d2 < d3 ∧ d3 < d4 ∧ d4 < d5 ∧ d5 < d6 ∧ d6 < d7 ∧ d7 < d8 ∧ d8 < n) (F : Fr n x a) (hp : a.eval (.tmp d0) = .bool p)
    (h : ∀ a', Fr n x a' → a'.eval (.tmp d8) = .bool (p || (decide (lo ≤ x) && decide (x ≤ hi))) → wpList Try.prog ops Q rest a' w) : wpList Try.prog ops Q (o1 :: o2 :: o3 :: o4 :: o5 :: o6 :: o7 :: o8 :: rest) a w := by
  obtain ⟨q1, q2, q3, q4, q5, q6, q7, q8, q9⟩ := hd
  obtain ⟨T, D⟩ := a
  have hs := F.1
  simp only at hs
  exact or_rng o1 o2 o3 o4 o5 o6 o7 o8 i j d1 d2 d3 d4 d5 d6 d7 d8 0 _ t t' lo hi x p h1 h2 h3 h4 h5 h6 h7 h8 hi1 hj ⟨q1, q2, q3, q4, q5, q6, q7, q8, by simp only; omega⟩ hp F.2.2 fun u2 u3 u4 u5 u6 u7 => h _ ((((((((F.put _ q1).put _ (by omega)).put _ (by omega)).put _ (by omega)).put _ (by omega)).put _ (by omega)).put _ (by omega)).put _ (by omega)) (ev_eq (by simp; omega))
/-- The answer is laid aside. -/
theorem fr_as (o : Oper) (d0 d : Nat) (v : Value) (h1 : o.op = .assign (.tmp d0) ∧ o.guard = none ∧ o.dst = some d) (hd : 0 < d ∧ d < n) (F : Fr n x a) (hp : a.eval (.tmp d0) = v)
    (h : ∀ a', Fr n x a' → a'.eval (.tmp d) = v → wpList Try.prog ops Q rest a' w) : wpList Try.prog ops Q (o :: rest) a w := by
  obtain ⟨T, D⟩ := a
  have hs := F.1
  simp only at hs
  refine st_assign _ _ _ h1.1 h1.2.2 (wanted_none h1.2.1) ?_
  rw [hp]
  exact h _ (F.put _ hd.1) (ev_eq (by simp only; omega))
/-- m ∘ c, of a number that was just found. -/
theorem fr_cm1 (o : Oper) (d0 d : Nat) (k : Cmp) (t : TypeId) (m c : Int) (h1 : o.op = .binOp k.bin 3 (.tmp d0) (.const (.int .i64 c)) t ∧ o.guard = none ∧ o.dst = some d) (hd : 0 < d ∧ d < n) (F : Fr n x a) (hp : a.eval (.tmp d0) = .int .i64 m)
    (h : ∀ a', Fr n x a' → a'.eval (.tmp d) = .bool (k.tell m c) → wpList Try.prog ops Q rest a' w) : wpList Try.prog ops Q (o :: rest) a w := by
  obtain ⟨T, D⟩ := a
  have hs := F.1
  simp only at hs
  refine st_cmp _ k _ _ m c _ h1.1 hp h1.2.2 (wanted_none h1.2.1) ?_
  exact h _ (F.put _ hd.1) (ev_eq (by simp only; omega))
/-- Two constants for an answer. -/
theorem fr_two (o1 o2 : Oper) (v1 v2 : Value) (h1 : o1.op = .assign (.const v1) ∧ o1.guard = none ∧ o1.dst = some 2) (h2 : o2.op = .assign (.const v2) ∧ o2.guard = none ∧ o2.dst = some 3) (hn : 3 < n) (F : Fr n x a)
    (h : ∀ a', Fr n x a' → a'.eval (.tmp 2) = v1 → a'.eval (.tmp 3) = v2 → wpList Try.prog ops Q rest a' w) : wpList Try.prog ops Q (o1 :: o2 :: rest) a w := by
  obtain ⟨T, D⟩ := a
  have hs := F.1
  simp only at hs
  refine st_assign _ _ _ h1.1 h1.2.2 (wanted_none h1.2.1) ?_
  refine st_assign _ _ _ h2.1 h2.2.2 (wanted_none h2.2.1) ?_
  rw [ev_const, ev_const]
  exact h _ ((F.put _ (by omega)).put _ (by omega)) (by rw [ev_ne (by omega)]; exact ev_eq (by simp only; omega)) (ev_eq (by simp; omega))
/-- A constant for an answer. -/
theorem fr_one (o : Oper) (d : Nat) (v : Value) (h1 : o.op = .assign (.const v) ∧ o.guard = none ∧ o.dst = some d) (hd : 0 < d ∧ d < n) (F : Fr n x a)
    (h : ∀ a', Fr n x a' → a'.eval (.tmp d) = v → wpList Try.prog ops Q rest a' w) : wpList Try.prog ops Q (o :: rest) a w := by
  obtain ⟨T, D⟩ := a
  have hs := F.1
  simp only at hs
  refine st_assign _ _ _ h1.1 h1.2.2 (wanted_none h1.2.1) ?_
  rw [ev_const]
  exact h _ (F.put _ hd.1) (ev_eq (by simp only; omega))
/-- f(x) -/
theorem fr_call (o1 o2 : Oper) (d1 d2 : Nat) (f : FuncId) (t : TypeId) (v : Value) (h1 : o1.op = .move (.tmp 0) ∧ o1.guard = none ∧ o1.dst = some d1)
    (h2 : o2.op = .call { callee := .value (.func f), args := #[.tmp d1], argTypes := #[t] } ∧ o2.guard = none ∧ o2.dst = some d2) (hd : 0 < d1 ∧ d1 < d2 ∧ d2 < n) (F : Fr n x a)
    (hrun : (callFunc f #[.int .i64 x]).run Try.prog w = .ok (.enter f #[.int .i64 x]) w) (hc : Calls Try.prog f #[.int .i64 x] w fun e w' => e = .returned v ∧ w = w') (h : ∀ a', Fr n x a' → a'.eval (.tmp d2) = v → wpList Try.prog ops Q rest a' w) : wpList Try.prog ops Q (o1 :: o2 :: rest) a w := by
  obtain ⟨q1, q2, q3⟩ := hd
  obtain ⟨T, D⟩ := a
  have hs := F.1
  simp only at hs
  refine st_move _ _ _ h1.1 h1.2.2 (wanted_none h1.2.1) ?_
  rw [F.2.2]
  refine wpList_step fun K hK => ?_
  rw [if_pos (wanted_none h2.2.1)]
  have gen : ∀ ρ : Operand → Value, ρ (.tmp d1) = .int .i64 x → ρ (.func f) = .func (.func f) #[] #[] → (execOp ρ o2).run Try.prog w = .ok (.enter f #[.int .i64 x]) w := by
    intro ρ hρ hf
    simp [execOp, h2.1, hρ, hf, go_sem, hrun]
  have e := gen (⟨T.setIfInBounds d1 (.int .i64 x), D⟩ : Act).eval (ev_eq (by omega)) rfl
  rw [Oper.wp, e, Oper.upon_enter]
  refine hc.mono ?_
  rintro e w' ⟨rfl, rfl⟩
  refine hK _ _ ?_
  rw [h2.2.2]
  exact h _ ((F.put _ q1).put _ (by omega)) (ev_eq (by simp; omega))
end
end Go.Proofs.Ytdbbcbffmbcjiaa

/- The document's answer to what an instruction is. -/
namespace Go.Proofs.Ytdbbcbffmbcjiaa
open Go.RowKit
set_option maxRecDepth 100000
set_option linter.unusedVariables false

set_option maxHeartbeats 1000000 in
theorem refWidth_any (x : Int) (w : World) : Calls Try.prog 86 #[.int .i64 x] w fun e w' => e = .returned (.int .i64 (wd x)) ∧ w = w' := by
  go_enter Try.func86, Try.ntmps86
  go_wp2
  all_goals (go_ret; refine ⟨?_, rfl⟩; simp_all [wd])
def fb (x : Int) : Bool := ((((((((((((Cmp.eq.tell x 42 || Cmp.eq.tell x 43) || Cmp.eq.tell x 56) || Cmp.eq.tell x 57) || Cmp.eq.tell x 67) || Cmp.eq.tell x 68) || (decide ((91 : Int) ≤ x) && decide (x ≤ 102))) || (decide ((139 : Int) ≤ x) && decide (x ≤ 166))) || (decide ((168 : Int) ≤ x) && decide (x ≤ 171))) || (decide ((174 : Int) ≤ x) && decide (x ≤ 191))) || (decide ((64512 : Int) ≤ x) && decide (x ≤ 64519))) || Cmp.eq.tell x 253) || (decide ((64768 : Int) ≤ x) && decide (x ≤ 65023)))
def b0 (x : Int) : Bool := (((((((((((((Cmp.eq.tell x 0 || Cmp.eq.tell x 1) || Cmp.eq.tell x 5) || Cmp.eq.tell x 11) || Cmp.eq.tell x 15) || Cmp.eq.tell x 26) || Cmp.eq.tell x 27) || (decide ((69 : Int) ≤ x) && decide (x ≤ 90))) || (decide ((103 : Int) ≤ x) && decide (x ≤ 138))) || Cmp.eq.tell x 167) || Cmp.eq.tell x 172) || Cmp.eq.tell x 173) || (decide ((192 : Int) ≤ x) && decide (x ≤ 196))) || Cmp.eq.tell x 209)
def b1 (x : Int) : Bool := ((((((((((Cmp.eq.tell x 12 || Cmp.eq.tell x 13) || Cmp.eq.tell x 16) || (decide ((32 : Int) ≤ x) && decide (x ≤ 38))) || Cmp.eq.tell x 210) || Cmp.eq.tell x 63) || Cmp.eq.tell x 64) || Cmp.eq.tell x 64521) || Cmp.eq.tell x 64523) || Cmp.eq.tell x 64525) || (decide ((64527 : Int) ≤ x) && decide (x ≤ 64529)))
def b2 (x : Int) : Bool := ((((Cmp.eq.tell x 17 || Cmp.eq.tell x 64520) || Cmp.eq.tell x 64522) || Cmp.eq.tell x 64524) || Cmp.eq.tell x 64526)
def b3 (x : Int) : Bool := Cmp.eq.tell x 65
def b4 (x : Int) : Bool := Cmp.eq.tell x 66
def b7 (x : Int) : Bool := Cmp.eq.tell x 14
def b8 (x : Int) : Bool := (Cmp.eq.tell x 28 || Cmp.eq.tell x 208)
def b5 (x : Int) : Bool := Cmp.gt.tell (wd x) 0
def b6 (x : Int) : Bool := Cmp.ge.tell x 2 && Cmp.le.tell x 4
def b9 (x : Int) : Bool := decide (fl x)
def rk (x : Int) : Int × Int := if b0 x = true then (0, 0) else if b1 x = true then (1, 0) else if b2 x = true then (2, 0) else if b3 x = true then (3, 0) else if b4 x = true then (4, 0) else if b5 x = true then (5, 0) else if b6 x = true then (6, 0) else if b7 x = true then (7, 0) else if b8 x = true then (8, 0) else if b9 x = true then (0, 5) else (0, 2)

theorem fb_low : ∀ n : Fin 256, fb (n.val : Int) = decide (fl (n.val : Int)) := by decide +kernel
theorem fb_high : ∀ n : Fin 512, fb ((n.val : Int) + 64512) = decide (fl ((n.val : Int) + 64512)) := by decide +kernel
theorem rk_low : ∀ n : Fin 256, rk (n.val : Int) = kd (n.val : Int) := by decide +kernel
theorem rk_high : ∀ n : Fin 512, rk ((n.val : Int) + 64512) = kd ((n.val : Int) + 64512) := by decide +kernel
/-- Numbers that are none: below 0, between one byte and those behind 0xfc, above those behind 0xfd. -/
theorem out_kd {x : Int} (h : x < 0 ∨ (256 ≤ x ∧ x < 64512) ∨ 65024 ≤ x) : kd x = (0, 2) ∧ wd x = 0 ∧ ¬ fl x := by
  have h1 : ¬ fl x := by unfold fl; omega
  have h2 : ¬ nu x := by unfold nu; omega
  have h3 : wd x = 0 := by unfold wd; rw [if_neg (by omega), if_neg (by omega), if_neg (by omega), if_neg (by omega)]
  refine ⟨?_, h3, h1⟩
  unfold kd
  rw [if_neg h1, if_neg h2, if_neg (by omega)]
  by_cases h4 : 64512 ≤ x
  · rw [if_pos h4]; unfold kf; rw [if_neg (by omega), if_neg (by omega)]
  · rw [if_neg h4]; unfold kb; rw [if_neg (by omega), if_neg (by omega), if_neg (by omega), if_neg (by omega), if_neg (by omega), if_neg (by omega), if_neg (by omega), if_neg (by omega)]
theorem fb_eq (x : Int) : fb x = decide (fl x) := by
  by_cases h : 0 ≤ x ∧ x < 256
  · have := fb_low ⟨x.toNat, by omega⟩
    rwa [show ((⟨x.toNat, by omega⟩ : Fin 256).val : Int) = x by simp; omega] at this
  by_cases h' : 64512 ≤ x ∧ x < 65024
  · have := fb_high ⟨(x - 64512).toNat, by omega⟩
    rwa [show ((⟨(x - 64512).toNat, by omega⟩ : Fin 512).val : Int) + 64512 = x by simp; omega] at this
  rw [decide_eq_false (out_kd (by omega)).2.2]
  simp [fb, Cmp.tell]
  omega
theorem rk_eq (x : Int) : rk x = kd x := by
  by_cases h : 0 ≤ x ∧ x < 256
  · have := rk_low ⟨x.toNat, by omega⟩
    rwa [show ((⟨x.toNat, by omega⟩ : Fin 256).val : Int) = x by simp; omega] at this
  by_cases h' : 64512 ≤ x ∧ x < 65024
  · have := rk_high ⟨(x - 64512).toNat, by omega⟩
    rwa [show ((⟨(x - 64512).toNat, by omega⟩ : Fin 512).val : Int) + 64512 = x by simp; omega] at this
  obtain ⟨e1, e2, e3⟩ := out_kd (x := x) (by omega)
  rw [e1]
  have c0 : b0 x = false := by simp [b0, Cmp.tell]; omega
  have c1 : b1 x = false := by simp [b1, Cmp.tell]; omega
  have c2 : b2 x = false := by simp [b2, Cmp.tell]; omega
  have c3 : b3 x = false := by simp [b3, Cmp.tell]; omega
  have c4 : b4 x = false := by simp [b4, Cmp.tell]; omega
  have c6 : b6 x = false := by simp [b6, Cmp.tell]; omega
  have c7 : b7 x = false := by simp [b7, Cmp.tell]; omega
  have c8 : b8 x = false := by simp [b8, Cmp.tell]; omega
  have c5 : b5 x = false := by simp [b5, Cmp.tell, e2]
  have c9 : b9 x = false := by simp [b9, e3]
  simp [rk, c0, c1, c2, c3, c4, c5, c6, c7, c8, c9]
set_option maxHeartbeats 1000000 in
theorem refFloats_any (x : Int) (w : World) : Calls Try.prog 87 #[.int .i64 x] w fun e w' => e = .returned (.bool (decide (fl x))) ∧ w = w' := by
  rw [← fb_eq]
  refine calls_fr Try.func87 rfl Try.ntmps87 (by decide) fun a F => ?_
  refine wp_seq ?_
  refine wp_region_lit ?_
  try simp only [List.cons_append, List.nil_append]
  refine fr_one _ _ _ ⟨rfl, rfl, rfl⟩ (by decide) F ?_
  clear F
  intro a F hp
  refine wpList_nil ?_
  change Code.wp _ _ _ _ _
  clear hp
  refine wp_seq ?_
  refine wp_region_lit ?_
  try simp only [List.cons_append, List.nil_append]
  refine fr_cmp _ _ _ _ .eq _ _ ⟨rfl, rfl, rfl⟩ ⟨rfl, rfl, rfl⟩ (by decide) F ?_
  clear F
  intro a F hp
  refine fr_or _ _ _ _ _ _ _ _ _ _ .eq _ _ _ ⟨rfl, rfl, rfl⟩ ⟨rfl, rfl, rfl⟩ ⟨rfl, rfl, rfl⟩ ⟨rfl, rfl, rfl⟩ rfl (by decide) F hp ?_
  clear F hp
  intro a F hp
  refine fr_or _ _ _ _ _ _ _ _ _ _ .eq _ _ _ ⟨rfl, rfl, rfl⟩ ⟨rfl, rfl, rfl⟩ ⟨rfl, rfl, rfl⟩ ⟨rfl, rfl, rfl⟩ rfl (by decide) F hp ?_
  clear F hp
  intro a F hp
  refine fr_or _ _ _ _ _ _ _ _ _ _ .eq _ _ _ ⟨rfl, rfl, rfl⟩ ⟨rfl, rfl, rfl⟩ ⟨rfl, rfl, rfl⟩ ⟨rfl, rfl, rfl⟩ rfl (by decide) F hp ?_
  clear F hp
  intro a F hp
  refine fr_or _ _ _ _ _ _ _ _ _ _ .eq _ _ _ ⟨rfl, rfl, rfl⟩ ⟨rfl, rfl, rfl⟩ ⟨rfl, rfl, rfl⟩ ⟨rfl, rfl, rfl⟩ rfl (by decide) F hp ?_
  clear F hp
  intro a F hp
  refine fr_or _ _ _ _ _ _ _ _ _ _ .eq _ _ _ ⟨rfl, rfl, rfl⟩ ⟨rfl, rfl, rfl⟩ ⟨rfl, rfl, rfl⟩ ⟨rfl, rfl, rfl⟩ rfl (by decide) F hp ?_
  clear F hp
  intro a F hp
  refine fr_rng _ _ _ _ _ _ _ _ _ _ _ _ _ _ _ _ _ _ _ _ _ _ _ _ ⟨rfl, rfl, rfl⟩ ⟨rfl, rfl, rfl⟩ ⟨rfl, rfl, rfl⟩ ⟨rfl, rfl, rfl⟩ ⟨rfl, rfl, rfl⟩ ⟨rfl, rfl, rfl⟩ ⟨rfl, rfl, rfl⟩ ⟨rfl, rfl, rfl⟩ rfl rfl (by decide) F hp ?_
  clear F hp
  intro a F hp
  refine fr_rng _ _ _ _ _ _ _ _ _ _ _ _ _ _ _ _ _ _ _ _ _ _ _ _ ⟨rfl, rfl, rfl⟩ ⟨rfl, rfl, rfl⟩ ⟨rfl, rfl, rfl⟩ ⟨rfl, rfl, rfl⟩ ⟨rfl, rfl, rfl⟩ ⟨rfl, rfl, rfl⟩ ⟨rfl, rfl, rfl⟩ ⟨rfl, rfl, rfl⟩ rfl rfl (by decide) F hp ?_
  clear F hp
  intro a F hp
  refine fr_rng _ _ _ _ _ _ _ _ _ _ _ _ _ _ _ _ _ _ _ _ _ _ _ _ ⟨rfl, rfl, rfl⟩ ⟨rfl, rfl, rfl⟩ ⟨rfl, rfl, rfl⟩ ⟨rfl, rfl, rfl⟩ ⟨rfl, rfl, rfl⟩ ⟨rfl, rfl, rfl⟩ ⟨rfl, rfl, rfl⟩ ⟨rfl, rfl, rfl⟩ rfl rfl (by decide) F hp ?_
  clear F hp
  intro a F hp
  refine fr_rng _ _ _ _ _ _ _ _ _ _ _ _ _ _ _ _ _ _ _ _ _ _ _ _ ⟨rfl, rfl, rfl⟩ ⟨rfl, rfl, rfl⟩ ⟨rfl, rfl, rfl⟩ ⟨rfl, rfl, rfl⟩ ⟨rfl, rfl, rfl⟩ ⟨rfl, rfl, rfl⟩ ⟨rfl, rfl, rfl⟩ ⟨rfl, rfl, rfl⟩ rfl rfl (by decide) F hp ?_
  clear F hp
  intro a F hp
  refine fr_rng _ _ _ _ _ _ _ _ _ _ _ _ _ _ _ _ _ _ _ _ _ _ _ _ ⟨rfl, rfl, rfl⟩ ⟨rfl, rfl, rfl⟩ ⟨rfl, rfl, rfl⟩ ⟨rfl, rfl, rfl⟩ ⟨rfl, rfl, rfl⟩ ⟨rfl, rfl, rfl⟩ ⟨rfl, rfl, rfl⟩ ⟨rfl, rfl, rfl⟩ rfl rfl (by decide) F hp ?_
  clear F hp
  intro a F hp
  refine fr_or _ _ _ _ _ _ _ _ _ _ .eq _ _ _ ⟨rfl, rfl, rfl⟩ ⟨rfl, rfl, rfl⟩ ⟨rfl, rfl, rfl⟩ ⟨rfl, rfl, rfl⟩ rfl (by decide) F hp ?_
  clear F hp
  intro a F hp
  refine fr_rng _ _ _ _ _ _ _ _ _ _ _ _ _ _ _ _ _ _ _ _ _ _ _ _ ⟨rfl, rfl, rfl⟩ ⟨rfl, rfl, rfl⟩ ⟨rfl, rfl, rfl⟩ ⟨rfl, rfl, rfl⟩ ⟨rfl, rfl, rfl⟩ ⟨rfl, rfl, rfl⟩ ⟨rfl, rfl, rfl⟩ ⟨rfl, rfl, rfl⟩ rfl rfl (by decide) F hp ?_
  clear F hp
  intro a F hp
  refine fr_as _ _ _ _ ⟨rfl, rfl, rfl⟩ (by decide) F hp ?_
  clear F hp
  intro a F hp
  refine wpList_nil ?_
  change Code.wp _ _ _ _ _
  refine wp_ret ?_
  change bodyPost _ _ _ .ret _ _
  refine bodyPost_ret (results_tmp rfl _ _ _) F.2.1 ⟨?_, rfl⟩
  rw [show a.tmps.getD 2 undef = .bool (fb x) from hp]
set_option maxHeartbeats 4000000 in
theorem refKind_any (x : Int) (w : World) : Calls Try.prog 51 #[.int .i64 x] w fun e w' => e = .returned (pr (kd x)) ∧ w = w' := by
  rw [← rk_eq]
  refine calls_fr Try.func51 rfl Try.ntmps51 (by decide) fun a F => ?_
  refine wp_seq ?_
  refine wp_region_lit ?_
  try simp only [List.cons_append, List.nil_append]
  refine fr_two _ _ _ _ ⟨rfl, rfl, rfl⟩ ⟨rfl, rfl, rfl⟩ (by decide) F ?_
  clear F
  intro a F e1 e2
  clear e1 e2
  refine wpList_nil ?_
  change Code.wp _ _ _ _ _
  refine wp_seq ?_
  refine wp_block ?_
  refine wp_seq ?_
  refine wp_region_lit ?_
  try simp only [List.cons_append, List.nil_append]
  refine fr_cmp _ _ _ _ .eq _ _ ⟨rfl, rfl, rfl⟩ ⟨rfl, rfl, rfl⟩ (by decide) F ?_
  clear F
  intro a F hp
  refine fr_or _ _ _ _ _ _ _ _ _ _ .eq _ _ _ ⟨rfl, rfl, rfl⟩ ⟨rfl, rfl, rfl⟩ ⟨rfl, rfl, rfl⟩ ⟨rfl, rfl, rfl⟩ rfl (by decide) F hp ?_
  clear F hp
  intro a F hp
  refine fr_or _ _ _ _ _ _ _ _ _ _ .eq _ _ _ ⟨rfl, rfl, rfl⟩ ⟨rfl, rfl, rfl⟩ ⟨rfl, rfl, rfl⟩ ⟨rfl, rfl, rfl⟩ rfl (by decide) F hp ?_
  clear F hp
  intro a F hp
  refine fr_or _ _ _ _ _ _ _ _ _ _ .eq _ _ _ ⟨rfl, rfl, rfl⟩ ⟨rfl, rfl, rfl⟩ ⟨rfl, rfl, rfl⟩ ⟨rfl, rfl, rfl⟩ rfl (by decide) F hp ?_
  clear F hp
  intro a F hp
  refine fr_or _ _ _ _ _ _ _ _ _ _ .eq _ _ _ ⟨rfl, rfl, rfl⟩ ⟨rfl, rfl, rfl⟩ ⟨rfl, rfl, rfl⟩ ⟨rfl, rfl, rfl⟩ rfl (by decide) F hp ?_
  clear F hp
  intro a F hp
  refine fr_or _ _ _ _ _ _ _ _ _ _ .eq _ _ _ ⟨rfl, rfl, rfl⟩ ⟨rfl, rfl, rfl⟩ ⟨rfl, rfl, rfl⟩ ⟨rfl, rfl, rfl⟩ rfl (by decide) F hp ?_
  clear F hp
  intro a F hp
  refine fr_or _ _ _ _ _ _ _ _ _ _ .eq _ _ _ ⟨rfl, rfl, rfl⟩ ⟨rfl, rfl, rfl⟩ ⟨rfl, rfl, rfl⟩ ⟨rfl, rfl, rfl⟩ rfl (by decide) F hp ?_
  clear F hp
  intro a F hp
  refine fr_rng _ _ _ _ _ _ _ _ _ _ _ _ _ _ _ _ _ _ _ _ _ _ _ _ ⟨rfl, rfl, rfl⟩ ⟨rfl, rfl, rfl⟩ ⟨rfl, rfl, rfl⟩ ⟨rfl, rfl, rfl⟩ ⟨rfl, rfl, rfl⟩ ⟨rfl, rfl, rfl⟩ ⟨rfl, rfl, rfl⟩ ⟨rfl, rfl, rfl⟩ rfl rfl (by decide) F hp ?_
  clear F hp
  intro a F hp
  refine fr_rng _ _ _ _ _ _ _ _ _ _ _ _ _ _ _ _ _ _ _ _ _ _ _ _ ⟨rfl, rfl, rfl⟩ ⟨rfl, rfl, rfl⟩ ⟨rfl, rfl, rfl⟩ ⟨rfl, rfl, rfl⟩ ⟨rfl, rfl, rfl⟩ ⟨rfl, rfl, rfl⟩ ⟨rfl, rfl, rfl⟩ ⟨rfl, rfl, rfl⟩ rfl rfl (by decide) F hp ?_
  clear F hp
  intro a F hp
  refine fr_or _ _ _ _ _ _ _ _ _ _ .eq _ _ _ ⟨rfl, rfl, rfl⟩ ⟨rfl, rfl, rfl⟩ ⟨rfl, rfl, rfl⟩ ⟨rfl, rfl, rfl⟩ rfl (by decide) F hp ?_
  clear F hp
  intro a F hp
  refine fr_or _ _ _ _ _ _ _ _ _ _ .eq _ _ _ ⟨rfl, rfl, rfl⟩ ⟨rfl, rfl, rfl⟩ ⟨rfl, rfl, rfl⟩ ⟨rfl, rfl, rfl⟩ rfl (by decide) F hp ?_
  clear F hp
  intro a F hp
  refine fr_or _ _ _ _ _ _ _ _ _ _ .eq _ _ _ ⟨rfl, rfl, rfl⟩ ⟨rfl, rfl, rfl⟩ ⟨rfl, rfl, rfl⟩ ⟨rfl, rfl, rfl⟩ rfl (by decide) F hp ?_
  clear F hp
  intro a F hp
  refine fr_rng _ _ _ _ _ _ _ _ _ _ _ _ _ _ _ _ _ _ _ _ _ _ _ _ ⟨rfl, rfl, rfl⟩ ⟨rfl, rfl, rfl⟩ ⟨rfl, rfl, rfl⟩ ⟨rfl, rfl, rfl⟩ ⟨rfl, rfl, rfl⟩ ⟨rfl, rfl, rfl⟩ ⟨rfl, rfl, rfl⟩ ⟨rfl, rfl, rfl⟩ rfl rfl (by decide) F hp ?_
  clear F hp
  intro a F hp
  refine fr_or _ _ _ _ _ _ _ _ _ _ .eq _ _ _ ⟨rfl, rfl, rfl⟩ ⟨rfl, rfl, rfl⟩ ⟨rfl, rfl, rfl⟩ ⟨rfl, rfl, rfl⟩ rfl (by decide) F hp ?_
  clear F hp
  intro a F hp
  refine fr_as _ _ _ _ ⟨rfl, rfl, rfl⟩ (by decide) F hp ?_
  clear F hp
  intro a F hp
  refine wpList_nil ?_
  change Code.wp _ _ _ _ _
  change a.eval _ = .bool (b0 x) at hp
  refine wp_cond_split hp (fun h0 => ?_) (fun h0 => ?_)
  · refine wp_seq ?_
    refine wp_region_lit ?_
    refine fr_two _ _ _ _ ⟨rfl, rfl, rfl⟩ ⟨rfl, rfl, rfl⟩ (by decide) F ?_
    clear F hp
    intro a F e1 e2
    refine wpList_nil ?_
    change Code.wp _ _ _ _ _
    refine wp_ret ?_
    simp only [Exit.inBlock, Exit.then]
    refine bodyPost_ret (results_tmp2 rfl _ _ _) F.2.1 ⟨?_, rfl⟩
    rw [show a.tmps.getD 2 undef = _ from e1, show a.tmps.getD 3 undef = _ from e2]
    simp [pr, rk, h0]
  clear hp
  refine wp_seq ?_
  refine wp_region_lit ?_
  try simp only [List.cons_append, List.nil_append]
  refine fr_cmp _ _ _ _ .eq _ _ ⟨rfl, rfl, rfl⟩ ⟨rfl, rfl, rfl⟩ (by decide) F ?_
  clear F
  intro a F hp
  refine fr_or _ _ _ _ _ _ _ _ _ _ .eq _ _ _ ⟨rfl, rfl, rfl⟩ ⟨rfl, rfl, rfl⟩ ⟨rfl, rfl, rfl⟩ ⟨rfl, rfl, rfl⟩ rfl (by decide) F hp ?_
  clear F hp
  intro a F hp
  refine fr_or _ _ _ _ _ _ _ _ _ _ .eq _ _ _ ⟨rfl, rfl, rfl⟩ ⟨rfl, rfl, rfl⟩ ⟨rfl, rfl, rfl⟩ ⟨rfl, rfl, rfl⟩ rfl (by decide) F hp ?_
  clear F hp
  intro a F hp
  refine fr_rng _ _ _ _ _ _ _ _ _ _ _ _ _ _ _ _ _ _ _ _ _ _ _ _ ⟨rfl, rfl, rfl⟩ ⟨rfl, rfl, rfl⟩ ⟨rfl, rfl, rfl⟩ ⟨rfl, rfl, rfl⟩ ⟨rfl, rfl, rfl⟩ ⟨rfl, rfl, rfl⟩ ⟨rfl, rfl, rfl⟩ ⟨rfl, rfl, rfl⟩ rfl rfl (by decide) F hp ?_
  clear F hp
  intro a F hp
  refine fr_or _ _ _ _ _ _ _ _ _ _ .eq _ _ _ ⟨rfl, rfl, rfl⟩ ⟨rfl, rfl, rfl⟩ ⟨rfl, rfl, rfl⟩ ⟨rfl, rfl, rfl⟩ rfl (by decide) F hp ?_
  clear F hp
  intro a F hp
  refine fr_or _ _ _ _ _ _ _ _ _ _ .eq _ _ _ ⟨rfl, rfl, rfl⟩ ⟨rfl, rfl, rfl⟩ ⟨rfl, rfl, rfl⟩ ⟨rfl, rfl, rfl⟩ rfl (by decide) F hp ?_
  clear F hp
  intro a F hp
  refine fr_or _ _ _ _ _ _ _ _ _ _ .eq _ _ _ ⟨rfl, rfl, rfl⟩ ⟨rfl, rfl, rfl⟩ ⟨rfl, rfl, rfl⟩ ⟨rfl, rfl, rfl⟩ rfl (by decide) F hp ?_
  clear F hp
  intro a F hp
  refine fr_or _ _ _ _ _ _ _ _ _ _ .eq _ _ _ ⟨rfl, rfl, rfl⟩ ⟨rfl, rfl, rfl⟩ ⟨rfl, rfl, rfl⟩ ⟨rfl, rfl, rfl⟩ rfl (by decide) F hp ?_
  clear F hp
  intro a F hp
  refine fr_or _ _ _ _ _ _ _ _ _ _ .eq _ _ _ ⟨rfl, rfl, rfl⟩ ⟨rfl, rfl, rfl⟩ ⟨rfl, rfl, rfl⟩ ⟨rfl, rfl, rfl⟩ rfl (by decide) F hp ?_
  clear F hp
  intro a F hp
  refine fr_or _ _ _ _ _ _ _ _ _ _ .eq _ _ _ ⟨rfl, rfl, rfl⟩ ⟨rfl, rfl, rfl⟩ ⟨rfl, rfl, rfl⟩ ⟨rfl, rfl, rfl⟩ rfl (by decide) F hp ?_
  clear F hp
  intro a F hp
  refine fr_rng _ _ _ _ _ _ _ _ _ _ _ _ _ _ _ _ _ _ _ _ _ _ _ _ ⟨rfl, rfl, rfl⟩ ⟨rfl, rfl, rfl⟩ ⟨rfl, rfl, rfl⟩ ⟨rfl, rfl, rfl⟩ ⟨rfl, rfl, rfl⟩ ⟨rfl, rfl, rfl⟩ ⟨rfl, rfl, rfl⟩ ⟨rfl, rfl, rfl⟩ rfl rfl (by decide) F hp ?_
  clear F hp
  intro a F hp
  refine fr_as _ _ _ _ ⟨rfl, rfl, rfl⟩ (by decide) F hp ?_
  clear F hp
  intro a F hp
  refine wpList_nil ?_
  change Code.wp _ _ _ _ _
  change a.eval _ = .bool (b1 x) at hp
  refine wp_cond_split hp (fun h1 => ?_) (fun h1 => ?_)
  · refine wp_seq ?_
    refine wp_region_lit ?_
    refine fr_two _ _ _ _ ⟨rfl, rfl, rfl⟩ ⟨rfl, rfl, rfl⟩ (by decide) F ?_
    clear F hp
    intro a F e1 e2
    refine wpList_nil ?_
    change Code.wp _ _ _ _ _
    refine wp_ret ?_
    simp only [Exit.inBlock, Exit.then]
    refine bodyPost_ret (results_tmp2 rfl _ _ _) F.2.1 ⟨?_, rfl⟩
    rw [show a.tmps.getD 2 undef = _ from e1, show a.tmps.getD 3 undef = _ from e2]
    simp [pr, rk, h0, h1]
  clear hp
  refine wp_seq ?_
  refine wp_region_lit ?_
  try simp only [List.cons_append, List.nil_append]
  refine fr_cmp _ _ _ _ .eq _ _ ⟨rfl, rfl, rfl⟩ ⟨rfl, rfl, rfl⟩ (by decide) F ?_
  clear F
  intro a F hp
  refine fr_or _ _ _ _ _ _ _ _ _ _ .eq _ _ _ ⟨rfl, rfl, rfl⟩ ⟨rfl, rfl, rfl⟩ ⟨rfl, rfl, rfl⟩ ⟨rfl, rfl, rfl⟩ rfl (by decide) F hp ?_
  clear F hp
  intro a F hp
  refine fr_or _ _ _ _ _ _ _ _ _ _ .eq _ _ _ ⟨rfl, rfl, rfl⟩ ⟨rfl, rfl, rfl⟩ ⟨rfl, rfl, rfl⟩ ⟨rfl, rfl, rfl⟩ rfl (by decide) F hp ?_
  clear F hp
  intro a F hp
  refine fr_or _ _ _ _ _ _ _ _ _ _ .eq _ _ _ ⟨rfl, rfl, rfl⟩ ⟨rfl, rfl, rfl⟩ ⟨rfl, rfl, rfl⟩ ⟨rfl, rfl, rfl⟩ rfl (by decide) F hp ?_
  clear F hp
  intro a F hp
  refine fr_or _ _ _ _ _ _ _ _ _ _ .eq _ _ _ ⟨rfl, rfl, rfl⟩ ⟨rfl, rfl, rfl⟩ ⟨rfl, rfl, rfl⟩ ⟨rfl, rfl, rfl⟩ rfl (by decide) F hp ?_
  clear F hp
  intro a F hp
  refine fr_as _ _ _ _ ⟨rfl, rfl, rfl⟩ (by decide) F hp ?_
  clear F hp
  intro a F hp
  refine wpList_nil ?_
  change Code.wp _ _ _ _ _
  change a.eval _ = .bool (b2 x) at hp
  refine wp_cond_split hp (fun h2 => ?_) (fun h2 => ?_)
  · refine wp_seq ?_
    refine wp_region_lit ?_
    refine fr_two _ _ _ _ ⟨rfl, rfl, rfl⟩ ⟨rfl, rfl, rfl⟩ (by decide) F ?_
    clear F hp
    intro a F e1 e2
    refine wpList_nil ?_
    change Code.wp _ _ _ _ _
    refine wp_ret ?_
    simp only [Exit.inBlock, Exit.then]
    refine bodyPost_ret (results_tmp2 rfl _ _ _) F.2.1 ⟨?_, rfl⟩
    rw [show a.tmps.getD 2 undef = _ from e1, show a.tmps.getD 3 undef = _ from e2]
    simp [pr, rk, h0, h1, h2]
  clear hp
  refine wp_seq ?_
  refine wp_region_lit ?_
  try simp only [List.cons_append, List.nil_append]
  refine fr_cmp _ _ _ _ .eq _ _ ⟨rfl, rfl, rfl⟩ ⟨rfl, rfl, rfl⟩ (by decide) F ?_
  clear F
  intro a F hp
  refine fr_as _ _ _ _ ⟨rfl, rfl, rfl⟩ (by decide) F hp ?_
  clear F hp
  intro a F hp
  refine wpList_nil ?_
  change Code.wp _ _ _ _ _
  change a.eval _ = .bool (b3 x) at hp
  refine wp_cond_split hp (fun h3 => ?_) (fun h3 => ?_)
  · refine wp_seq ?_
    refine wp_region_lit ?_
    refine fr_two _ _ _ _ ⟨rfl, rfl, rfl⟩ ⟨rfl, rfl, rfl⟩ (by decide) F ?_
    clear F hp
    intro a F e1 e2
    refine wpList_nil ?_
    change Code.wp _ _ _ _ _
    refine wp_ret ?_
    simp only [Exit.inBlock, Exit.then]
    refine bodyPost_ret (results_tmp2 rfl _ _ _) F.2.1 ⟨?_, rfl⟩
    rw [show a.tmps.getD 2 undef = _ from e1, show a.tmps.getD 3 undef = _ from e2]
    simp [pr, rk, h0, h1, h2, h3]
  clear hp
  refine wp_seq ?_
  refine wp_region_lit ?_
  try simp only [List.cons_append, List.nil_append]
  refine fr_cmp _ _ _ _ .eq _ _ ⟨rfl, rfl, rfl⟩ ⟨rfl, rfl, rfl⟩ (by decide) F ?_
  clear F
  intro a F hp
  refine fr_as _ _ _ _ ⟨rfl, rfl, rfl⟩ (by decide) F hp ?_
  clear F hp
  intro a F hp
  refine wpList_nil ?_
  change Code.wp _ _ _ _ _
  change a.eval _ = .bool (b4 x) at hp
  refine wp_cond_split hp (fun h4 => ?_) (fun h4 => ?_)
  · refine wp_seq ?_
    refine wp_region_lit ?_
    refine fr_two _ _ _ _ ⟨rfl, rfl, rfl⟩ ⟨rfl, rfl, rfl⟩ (by decide) F ?_
    clear F hp
    intro a F e1 e2
    refine wpList_nil ?_
    change Code.wp _ _ _ _ _
    refine wp_ret ?_
    simp only [Exit.inBlock, Exit.then]
    refine bodyPost_ret (results_tmp2 rfl _ _ _) F.2.1 ⟨?_, rfl⟩
    rw [show a.tmps.getD 2 undef = _ from e1, show a.tmps.getD 3 undef = _ from e2]
    simp [pr, rk, h0, h1, h2, h3, h4]
  clear hp
  refine wp_seq ?_
  refine wp_region_lit ?_
  try simp only [List.cons_append, List.nil_append]
  refine fr_call _ _ _ _ _ _ _ ⟨rfl, rfl, rfl⟩ ⟨rfl, rfl, rfl⟩ (by decide) F (run_cf Try.func86 (by decide) rfl _ _) (refWidth_any x w) ?_
  clear F
  intro a F hp
  refine fr_cm1 _ _ _ .gt _ _ _ ⟨rfl, rfl, rfl⟩ (by decide) F hp ?_
  clear F hp
  intro a F hp
  refine fr_as _ _ _ _ ⟨rfl, rfl, rfl⟩ (by decide) F hp ?_
  clear F hp
  intro a F hp
  refine wpList_nil ?_
  change Code.wp _ _ _ _ _
  change a.eval _ = .bool (b5 x) at hp
  refine wp_cond_split hp (fun h5 => ?_) (fun h5 => ?_)
  · refine wp_seq ?_
    refine wp_region_lit ?_
    refine fr_two _ _ _ _ ⟨rfl, rfl, rfl⟩ ⟨rfl, rfl, rfl⟩ (by decide) F ?_
    clear F hp
    intro a F e1 e2
    refine wpList_nil ?_
    change Code.wp _ _ _ _ _
    refine wp_ret ?_
    simp only [Exit.inBlock, Exit.then]
    refine bodyPost_ret (results_tmp2 rfl _ _ _) F.2.1 ⟨?_, rfl⟩
    rw [show a.tmps.getD 2 undef = _ from e1, show a.tmps.getD 3 undef = _ from e2]
    simp [pr, rk, h0, h1, h2, h3, h4, h5]
  clear hp
  refine wp_seq ?_
  refine wp_region_lit ?_
  try simp only [List.cons_append, List.nil_append]
  refine fr_cmp _ _ _ _ .ge _ _ ⟨rfl, rfl, rfl⟩ ⟨rfl, rfl, rfl⟩ (by decide) F ?_
  clear F
  intro a F hp
  refine fr_and _ _ _ _ _ _ _ _ _ _ .le _ _ _ ⟨rfl, rfl, rfl⟩ ⟨rfl, rfl, rfl⟩ ⟨rfl, rfl, rfl⟩ ⟨rfl, rfl, rfl⟩ rfl (by decide) F hp ?_
  clear F hp
  intro a F hp
  refine fr_as _ _ _ _ ⟨rfl, rfl, rfl⟩ (by decide) F hp ?_
  clear F hp
  intro a F hp
  refine wpList_nil ?_
  change Code.wp _ _ _ _ _
  change a.eval _ = .bool (b6 x) at hp
  refine wp_cond_split hp (fun h6 => ?_) (fun h6 => ?_)
  · refine wp_seq ?_
    refine wp_region_lit ?_
    refine fr_two _ _ _ _ ⟨rfl, rfl, rfl⟩ ⟨rfl, rfl, rfl⟩ (by decide) F ?_
    clear F hp
    intro a F e1 e2
    refine wpList_nil ?_
    change Code.wp _ _ _ _ _
    refine wp_ret ?_
    simp only [Exit.inBlock, Exit.then]
    refine bodyPost_ret (results_tmp2 rfl _ _ _) F.2.1 ⟨?_, rfl⟩
    rw [show a.tmps.getD 2 undef = _ from e1, show a.tmps.getD 3 undef = _ from e2]
    simp [pr, rk, h0, h1, h2, h3, h4, h5, h6]
  clear hp
  refine wp_seq ?_
  refine wp_region_lit ?_
  try simp only [List.cons_append, List.nil_append]
  refine fr_cmp _ _ _ _ .eq _ _ ⟨rfl, rfl, rfl⟩ ⟨rfl, rfl, rfl⟩ (by decide) F ?_
  clear F
  intro a F hp
  refine fr_as _ _ _ _ ⟨rfl, rfl, rfl⟩ (by decide) F hp ?_
  clear F hp
  intro a F hp
  refine wpList_nil ?_
  change Code.wp _ _ _ _ _
  change a.eval _ = .bool (b7 x) at hp
  refine wp_cond_split hp (fun h7 => ?_) (fun h7 => ?_)
  · refine wp_seq ?_
    refine wp_region_lit ?_
    refine fr_two _ _ _ _ ⟨rfl, rfl, rfl⟩ ⟨rfl, rfl, rfl⟩ (by decide) F ?_
    clear F hp
    intro a F e1 e2
    refine wpList_nil ?_
    change Code.wp _ _ _ _ _
    refine wp_ret ?_
    simp only [Exit.inBlock, Exit.then]
    refine bodyPost_ret (results_tmp2 rfl _ _ _) F.2.1 ⟨?_, rfl⟩
    rw [show a.tmps.getD 2 undef = _ from e1, show a.tmps.getD 3 undef = _ from e2]
    simp [pr, rk, h0, h1, h2, h3, h4, h5, h6, h7]
  clear hp
  refine wp_seq ?_
  refine wp_region_lit ?_
  try simp only [List.cons_append, List.nil_append]
  refine fr_cmp _ _ _ _ .eq _ _ ⟨rfl, rfl, rfl⟩ ⟨rfl, rfl, rfl⟩ (by decide) F ?_
  clear F
  intro a F hp
  refine fr_or _ _ _ _ _ _ _ _ _ _ .eq _ _ _ ⟨rfl, rfl, rfl⟩ ⟨rfl, rfl, rfl⟩ ⟨rfl, rfl, rfl⟩ ⟨rfl, rfl, rfl⟩ rfl (by decide) F hp ?_
  clear F hp
  intro a F hp
  refine fr_as _ _ _ _ ⟨rfl, rfl, rfl⟩ (by decide) F hp ?_
  clear F hp
  intro a F hp
  refine wpList_nil ?_
  change Code.wp _ _ _ _ _
  change a.eval _ = .bool (b8 x) at hp
  refine wp_cond_split hp (fun h8 => ?_) (fun h8 => ?_)
  · refine wp_seq ?_
    refine wp_region_lit ?_
    refine fr_two _ _ _ _ ⟨rfl, rfl, rfl⟩ ⟨rfl, rfl, rfl⟩ (by decide) F ?_
    clear F hp
    intro a F e1 e2
    refine wpList_nil ?_
    change Code.wp _ _ _ _ _
    refine wp_ret ?_
    simp only [Exit.inBlock, Exit.then]
    refine bodyPost_ret (results_tmp2 rfl _ _ _) F.2.1 ⟨?_, rfl⟩
    rw [show a.tmps.getD 2 undef = _ from e1, show a.tmps.getD 3 undef = _ from e2]
    simp [pr, rk, h0, h1, h2, h3, h4, h5, h6, h7, h8]
  clear hp
  refine wp_seq ?_
  refine wp_region_lit ?_
  try simp only [List.cons_append, List.nil_append]
  refine fr_call _ _ _ _ _ _ _ ⟨rfl, rfl, rfl⟩ ⟨rfl, rfl, rfl⟩ (by decide) F (run_cf Try.func87 (by decide) rfl _ _) (refFloats_any x w) ?_
  clear F
  intro a F hp
  refine fr_as _ _ _ _ ⟨rfl, rfl, rfl⟩ (by decide) F hp ?_
  clear F hp
  intro a F hp
  refine wpList_nil ?_
  change Code.wp _ _ _ _ _
  change a.eval _ = .bool (b9 x) at hp
  refine wp_cond_split hp (fun h9 => ?_) (fun h9 => ?_)
  · refine wp_seq ?_
    refine wp_region_lit ?_
    refine fr_two _ _ _ _ ⟨rfl, rfl, rfl⟩ ⟨rfl, rfl, rfl⟩ (by decide) F ?_
    clear F hp
    intro a F e1 e2
    refine wpList_nil ?_
    change Code.wp _ _ _ _ _
    refine wp_ret ?_
    simp only [Exit.inBlock, Exit.then]
    refine bodyPost_ret (results_tmp2 rfl _ _ _) F.2.1 ⟨?_, rfl⟩
    rw [show a.tmps.getD 2 undef = _ from e1, show a.tmps.getD 3 undef = _ from e2]
    simp [pr, rk, h0, h1, h2, h3, h4, h5, h6, h7, h8, h9]
  clear hp
  refine wp_skip ?_
  simp only [Exit.inBlock, Exit.then]
  refine wp_seq ?_
  refine wp_region_lit ?_
  refine fr_two _ _ _ _ ⟨rfl, rfl, rfl⟩ ⟨rfl, rfl, rfl⟩ (by decide) F ?_
  clear F
  intro a F e1 e2
  refine wpList_nil ?_
  change Code.wp _ _ _ _ _
  refine wp_ret ?_
  try simp only [Exit.inBlock, Exit.then]
  refine bodyPost_ret (results_tmp2 rfl _ _ _) F.2.1 ⟨?_, rfl⟩
  rw [show a.tmps.getD 2 undef = _ from e1, show a.tmps.getD 3 undef = _ from e2]
  simp [pr, rk, h0, h1, h2, h3, h4, h5, h6, h7, h8, h9]
end Go.Proofs.Ytdbbcbffmbcjiaa
