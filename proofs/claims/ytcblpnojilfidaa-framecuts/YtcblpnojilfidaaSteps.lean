/- Appends as steps of a region that draws its order. -/
import Derived.Test.YtcblpnojilfidaaLists
import Derived.Deep.RegionLaw
namespace Go.Proofs.Ytcblpnojilfidaa
open Go.RowKit
set_option linter.unusedVariables false

theorem wp_appLL {X : Nat → Prop} {o : Oper} {a : Act} {K : Act → World → Prop} {Q : Exit → Act → World → Prop} {w : World} (s x : Operand)
    (ho : o.op = .call { callee := .builtin .append, args := #[s, x], argTypes := #[22, 22] }) (v : Value) (ls ms : List (List Int)) (hs : a.eval s = v) (hown : OwnL X w v ls)
    (u : Value) (hx : a.eval x = u) (hu : OwnL X w u ms) (hX : ∀ k, w.heap.size ≤ k → X k) (hlen : ls.length + ms.length ≤ 1000000000)
    (h : ∀ v' w', OwnL X w' v' (ls ++ ms) → Chg (fun k => some k = v.ownBlock) w w' → K (a.put o.dst v') w') : o.wp Try.prog a w K Q := by
  obtain ⟨vs, h1, h2, h3⟩ := hown
  obtain ⟨us, k1, k2, k3⟩ := hu
  obtain ⟨A, c, rfl, hn, hm, hr⟩ := RdV.of_own k1
  have hlv : vs.length + us.length ≤ 1000000000 := by rw [h3.1, k3.1]; exact hlen
  have h1c : ∀ y ∈ us, y.oneCell' = true := fun y hy => by
    obtain ⟨j, hj⟩ := List.mem_iff_getElem?.1 hy
    have hjl : j < us.length := (List.getElem?_eq_some_iff.1 hj).1
    obtain ⟨y', m, hy', _, p, _⟩ := k3.get (j := j) (by rw [← k3.1]; exact hjl)
    rw [hj] at hy'; injection hy' with hy'; subst hy'
    obtain ⟨_, _, e, _⟩ := RdV.of_own p
    rw [e]; rfl
  obtain ⟨v', w', hrun, g1, g2, g3⟩ := run_appG (ty := o.type) under_lists bytes_info rfl (by omega) w 0 v vs.length vs h1 A us.length c us (by simp) hr h1c (by simp only [maxLen]; omega) (by omega) (by omega)
  have hc : Chg (fun k => some k = v.ownBlock) w w' := Chg.of_grown g2
  refine Lib.wp_append_run w s x _ _ ho _ _ hs hx v' w' hrun (h v' w' ⟨vs ++ us, by simpa using g1, fun g hg => ?_, All2.app (h3.mono fun y m ⟨p, q, r⟩ => ⟨OwnB.chg p hc fun g hg e => owns_ne2 p h1 (by decide) hg e.symm, q, r⟩) (k3.mono fun y m ⟨p, q, r⟩ => ⟨OwnB.chg p hc fun g hg e => owns_ne2 p h1 (by decide) hg e.symm, q, r⟩)⟩ hc)
  rcases g3 with g3 | g3
  · exact h2 g (by rw [← g3]; exact hg)
  · rw [g3] at hg; injection hg with hg; subst hg; exact hX _ (Nat.le_refl _)
theorem step_appLL {X : Nat → Prop} {ops : Array Oper} {o : Oper} {a : Act} {K : Act → World → Prop} {Q : Exit → Act → World → Prop} {E : Prop} {w : World} (hgd : o.guard = none) (s x : Operand)
    (ho : o.op = .call { callee := .builtin .append, args := #[s, x], argTypes := #[22, 22] }) (v : Value) (ls ms : List (List Int)) (hs : a.eval s = v) (hown : OwnL X w v ls)
    (u : Value) (hx : a.eval x = u) (hu : OwnL X w u ms) (hX : ∀ k, w.heap.size ≤ k → X k) (hlen : ls.length + ms.length ≤ 1000000000)
    (h : ∀ v' w', OwnL X w' v' (ls ++ ms) → Chg (fun k => some k = v.ownBlock) w w' → K (a.put o.dst v') w') :
    if Region.wanted o (yielded ops a.tmps) = true then Oper.wp Try.prog o a w K Q else E := by
  have hw : Region.wanted o (yielded ops a.tmps) = true := by simp [Region.wanted, hgd]
  rw [if_pos hw]
  exact wp_appLL s x ho v ls ms hs hown u hx hu hX hlen h
end Go.Proofs.Ytcblpnojilfidaa
