/- types.TakeFunc and types.TakeLimits: which types bytes are. -/
import Derived.Test.YtnjbijndfbobbaaTypesSrc
import Derived.Test.YtnjbijndfbobbaaReqTake
namespace Go.Proofs.Ytnjbijndfbobbaa
open Go.RowKit
set_option maxRecDepth 100000
set_option linter.unusedVariables false

/-- How many bytes were read. -/
def readOf {α : Type} (b : List Int) (x : Except Int (α × List Int)) : Int := match x with
  | .error _ => 0
  | .ok r => (b.length : Int) - r.2.length
def fnOf (x : Except Int (Fn × List Int)) : Fn := match x with
  | .error _ => ([], [])
  | .ok r => r.1
def limOf (x : Except Int (Lim × List Int)) : Lim := match x with
  | .error _ => ⟨0, 0, false⟩
  | .ok r => r.1
def FnV (X : Nat → Prop) (w : World) (v : Value) (f : Fn) : Prop :=
  ∃ A c B d, v = .agg #[.slice A f.1.length c, .slice B f.2.length d] ∧ RdX X w A f.1 ∧ f.1.length ≤ c ∧ c ≤ maxLen ∧ RdX X w B f.2 ∧ f.2.length ≤ d ∧ d ≤ maxLen
def limV (l : Lim) : Value := .agg #[.int .u32 l.min, .int .u32 l.max, .bool l.has]
def FnPost (b : List Int) (w : World) (e : Ending) (w' : World) : Prop :=
  ∃ v, e = .returned (.tuple #[v, .int .i64 (readOf b (pFn b)), .int .i64 (codeOf (pFn b))]) ∧ FnV (fun k => w.heap.size ≤ k) w' v (fnOf (pFn b)) ∧ Below w.heap.size w w'
def LimPost (b : List Int) (w : World) (e : Ending) (w' : World) : Prop :=
  e = .returned (.tuple #[limV (limOf (pLim b)), .int .i64 (readOf b (pLim b)), .int .i64 (codeOf (pLim b))]) ∧ Below w.heap.size w w'
theorem zfn_v (X : Nat → Prop) (w : World) : FnV X w (.agg #[.slice none 0 0, .slice none 0 0]) ([], []) :=
  ⟨none, 0, none, 0, rfl, RdX.nil _ _ _, Nat.le_refl _, Nat.zero_le _, RdX.nil _ _ _, Nat.le_refl _, Nat.zero_le _⟩

def NoByte (Q : List Value) : Prop := ∀ u ∈ Q, ∀ x : Int, u ≠ .int .u8 x
theorem RdX.apart {X : Nat → Prop} {w : World} {A : Option Addr} {l : List Int} {g : Nat} {T : TypeId} {Q : List Value} (h : RdX X w A l) (ho : Own w g T Q) (hq : NoByte Q) : RdX (fun k => X k ∧ k ≠ g) w A l := by
  refine ⟨h.1, fun j u hu => ?_⟩
  obtain ⟨ad, e1, e2, e3⟩ := h.2 j u hu
  refine ⟨ad, e1, ⟨e2, fun hg => ?_⟩, e3⟩
  rw [List.getElem?_map] at hu
  obtain ⟨z, -, rfl⟩ := Option.map_eq_some_iff.1 hu
  obtain ⟨b, o, sp⟩ := ad
  have hs : (Addr.add ⟨b, o, sp⟩ j).block = b := addBlock _ _
  generalize hp : (Addr.add ⟨b, o, sp⟩ j) = p at *
  obtain ⟨pb, po, ps⟩ := p
  have hn : ps = none := by simpa using World.cell?_spot e3
  subst hn
  simp only [] at hs hg
  subst hs hg
  rw [ho.cell] at e3
  exact hq _ (List.mem_of_getElem? e3) z rfl
theorem RdrAt.setOther {w : World} {g g2 : Nat} {t T : TypeId} {tl : RTl} {s : St} {Q : List Value} (h : RdrAt w g t tl s) (ho : Own w g2 T Q) (hq : NoByte Q) (hg : g2 ≠ g) (j : Nat) (u : Value) : RdrAt (w.setCell ⟨g2, j, none⟩ u) g t tl s := by
  have hc := chgSet w g2 j u
  cases s with
  | ok l =>
    obtain ⟨A, c, r, h1, h2, h5⟩ := h
    exact ⟨A, c, r, h1.chg hc (Ne.symm hg), ((h2.apart ho hq).chg hc fun k _ hk => hk.2).mono fun k _ hk => hk.1, h5⟩
  | error e => exact ⟨h.1.chg hc (Ne.symm hg), h.2⟩

/-- Within a Take: the source in g4, the result in g2. -/
def T2 (T : TypeId) (w : World) (g2 g4 N : Nat) (Q : List Value) (s : St) (wr : World) : Prop :=
  RdrAt wr g4 90 (N, []) s ∧ Own wr g2 T Q ∧ g2 < g4 ∧ w.heap.size ≤ g2 ∧ Below w.heap.size w wr
section
variable {T : TypeId} {w : World} {g2 g4 N : Nat} {Q : List Value} {s s' : St} {wr w' : World}
theorem T2.step (h : T2 T w g2 g4 N Q s wr) (h1 : RdrAt w' g4 90 (N, []) s') (hc : Chg (fun k => k = g4) wr w') : T2 T w g2 g4 N Q s' w' := by
  obtain ⟨p1, p2, p4, p5, p7⟩ := h
  exact ⟨h1, p2.chg hc (by omega), p4, p5, p7.trans (hc.below p7.size fun i hi e => by omega)⟩
theorem T2.set (h : T2 T w g2 g4 N Q s wr) (hq : NoByte Q) (j : Nat) (u : Value) : T2 T w g2 g4 N (Q.set j u) s (wr.setCell ⟨g2, j, none⟩ u) := by
  obtain ⟨p1, p2, p4, p5, p7⟩ := h
  have hc := chgSet wr g2 j u
  exact ⟨p1.setOther p2 hq (by omega) j u, p2.set j u, p4, p5, p7.trans (hc.below p7.size fun i hi e => by omega)⟩
theorem T2.below (h : T2 T w g2 g4 N Q s wr) (hb : Below wr.heap.size wr w') : T2 T w g2 g4 N Q s w' := by
  obtain ⟨p1, p2, p4, p5, p7⟩ := h
  exact ⟨p1.later hb, p2.later hb, p4, p5, p7.trans (hb.mono p7.size)⟩
theorem T2.far (h : T2 T w g2 g4 N Q s wr) {v : Value} {y : List Int} {B : Option Addr} (ho : OwnB w' wr.heap.size v y) (hr : RdX (fun k => v.ownBlock = some k) w' B y) : RdX (fun k => g4 < k) w' B y :=
  hr.mono fun k _ e => by have := owns_ge ho e; have := h.1.lt; omega
end
end Go.Proofs.Ytnjbijndfbobbaa
