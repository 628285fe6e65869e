/- Texts joined: Lists, Reader, ReqSrc, ReqTake, Puts. -/
import Derived.Test.YtdbbcbffmbcjiaaJoin1
import Derived.Lib.LazyBuf
import Derived.Test.YtdbbcbffmbcjiaaJoin3
import Derived.Handy
import Derived.Test.YtdbbcbffmbcjiaaJoin2
import Derived.StillTailTactics
import Derived.Deep.RegionWith
/- Lists of lists of bytes in memory. No function of the program but bytes.Clone. -/
namespace Go.Proofs.Ytdbbcbffmbcjiaa
open Go.RowKit
set_option maxRecDepth 100000
set_option linter.unusedVariables false

theorem under_lists : Try.prog.underlying 158 = some (.slice 22) := Try.underlying158
theorem bytes_info : (Try.prog.info? 22).map (fun i => (i.zero, i.size, i.bytes)) = some (some (.slice none 0 0), 1, 24) := by kernel_rfl

def All2 {α : Type} (P : Value → α → Prop) (vs : List Value) (ls : List α) : Prop := vs.length = ls.length ∧ ∀ (j : Nat) (u : Value) (x : α), vs[j]? = some u → ls[j]? = some x → P u x
section
variable {α : Type} {P Q : Value → α → Prop} {vs us : List Value} {ls ms : List α}
theorem All2.nil : All2 P [] ([] : List α) := ⟨rfl, fun j u x h => by simp at h⟩
theorem All2.mono (h : All2 P vs ls) (hp : ∀ u x, P u x → Q u x) : All2 Q vs ls := ⟨h.1, fun j u x hu hx => hp u x (h.2 j u x hu hx)⟩
theorem All2.monoMem (h : All2 P vs ls) (hp : ∀ u x, u ∈ vs → P u x → Q u x) : All2 Q vs ls := ⟨h.1, fun j u x hu hx => hp u x (List.mem_of_getElem? hu) (h.2 j u x hu hx)⟩
theorem All2.app (h : All2 P vs ls) (k : All2 P us ms) : All2 P (vs ++ us) (ls ++ ms) := by
  refine ⟨by simp [h.1, k.1], fun j u x hu hx => ?_⟩
  by_cases hj : j < vs.length
  · rw [List.getElem?_append_left hj] at hu
    rw [List.getElem?_append_left (by rw [← h.1]; exact hj)] at hx
    exact h.2 j u x hu hx
  · rw [List.getElem?_append_right (by omega)] at hu
    rw [List.getElem?_append_right (by rw [← h.1]; omega), ← h.1] at hx
    exact k.2 _ u x hu hx
theorem All2.one {u : Value} {x : α} (h : P u x) : All2 P [u] [x] := ⟨rfl, fun j v y hv hy => by
  cases j with
  | zero => simp at hv hy; subst hv; subst hy; exact h
  | succ j => simp at hv⟩
theorem All2.get (h : All2 P vs ls) {j : Nat} (hj : j < ls.length) : ∃ u x, vs[j]? = some u ∧ ls[j]? = some x ∧ P u x := by
  have h1 : vs[j]? = some (vs[j]'(by rw [h.1]; exact hj)) := List.getElem?_eq_getElem _
  have h2 : ls[j]? = some ls[j] := List.getElem?_eq_getElem hj
  exact ⟨_, _, h1, h2, h.2 j _ _ h1 h2⟩
end

/-- A list of lists of bytes in rows of the call's own, in blocks of X. -/
def OwnL (X : Nat → Prop) (w : World) (v : Value) (ls : List (List Int)) : Prop :=
  ∃ vs, w.ownsRow 0 22 1 v vs.length vs ∧ (∀ g, v.ownBlock = some g → X g) ∧ All2 (fun u l => OwnB w 0 u l ∧ IsBytes l ∧ ∀ g, u.ownBlock = some g → X g) vs ls
/-- A list of lists of bytes that is read. -/
def RdL (X : Nat → Prop) (w : World) (v : Value) (ls : List (List Int)) : Prop :=
  ∃ A c vs, v = .slice A ls.length c ∧ ls.length ≤ c ∧ c ≤ maxLen ∧ RdV X w A vs ∧ All2 (fun u l => ∃ B d, u = .slice B l.length d ∧ l.length ≤ d ∧ d ≤ maxLen ∧ RdX X w B l) vs ls

section
variable {X Y : Nat → Prop} {w w' : World} {v : Value} {ls : List (List Int)}
theorem OwnL.nil (X : Nat → Prop) (w : World) : OwnL X w (.slice none 0 0) [] := ⟨[], World.ownsRow_nil w 0 _ _, fun g h => by simp [Value.ownBlock] at h, All2.nil⟩
theorem OwnL.mono (h : OwnL X w v ls) (hx : ∀ k, k < w.heap.size → X k → Y k) : OwnL Y w v ls := by
  obtain ⟨vs, h1, h2, h3⟩ := h
  exact ⟨vs, h1, fun g hg => hx g (owns_lt h1 hg) (h2 g hg), h3.mono fun u l ⟨a, b, c⟩ => ⟨a, b, fun g hg => hx g (owns_lt a hg) (c g hg)⟩⟩
theorem OwnL.chg {S : Nat → Prop} (h : OwnL X w v ls) (hc : Chg S w w') (hs : ∀ k, k < w.heap.size → X k → ¬ S k) : OwnL X w' v ls := by
  obtain ⟨vs, h1, h2, h3⟩ := h
  exact ⟨vs, owns_chg h1 hc fun g hg => hs g (owns_lt h1 hg) (h2 g hg), h2, h3.mono fun u l ⟨a, b, c⟩ => ⟨OwnB.chg a hc fun g hg => hs g (owns_lt a hg) (c g hg), b, c⟩⟩
theorem OwnL.later (h : OwnL X w v ls) (hc : Below w.heap.size w w') : OwnL X w' v ls := h.chg (S := fun _ => False) (Chg.of_below hc) fun _ _ _ => id
theorem OwnL.rd (h : OwnL X w v ls) : RdL X w v ls := by
  obtain ⟨vs, h1, h2, h3⟩ := h
  obtain ⟨A, c, hv, hn, hm, hr⟩ := RdV.of_own h1
  refine ⟨A, c, vs, by rw [hv, h3.1], by rw [← h3.1]; exact hn, hm, hr.mono fun k _ hk => h2 k hk, h3.mono fun u l ⟨a, b, d⟩ => ?_⟩
  obtain ⟨B, e, hu, hl, hm, hx⟩ := a.rdX b
  exact ⟨B, e, hu, hl, hm, hx.mono fun k _ hk => d k hk⟩
theorem OwnL.ne {g : Nat} {t : TypeId} {L : List Value} (h : OwnL X w v ls) (hg : Own w g t L) (hne : 22 ≠ t) : v.ownBlock ≠ some g := by
  obtain ⟨vs, h1, _⟩ := h
  exact owns_ne h1 hg hne
theorem OwnL.neB {base : Nat} {u : Value} {l : List Int} (h : OwnL X w v ls) (hu : OwnB w base u l) {k : Nat} (hk : u.ownBlock = some k) : v.ownBlock ≠ some k := by
  obtain ⟨vs, h1, _⟩ := h
  exact owns_ne2 hu h1 (by decide) hk
theorem RdL.mono (h : RdL X w v ls) (hx : ∀ k, k < w.heap.size → X k → Y k) : RdL Y w v ls := by
  obtain ⟨A, c, vs, h1, h2, h3, h4, h5⟩ := h
  exact ⟨A, c, vs, h1, h2, h3, h4.mono hx, h5.mono fun u l ⟨B, d, a, b, e, f⟩ => ⟨B, d, a, b, e, f.mono hx⟩⟩
theorem RdL.chg {S : Nat → Prop} (h : RdL X w v ls) (hc : Chg S w w') (hs : ∀ k, k < w.heap.size → X k → ¬ S k) : RdL X w' v ls := by
  obtain ⟨A, c, vs, h1, h2, h3, h4, h5⟩ := h
  exact ⟨A, c, vs, h1, h2, h3, h4.chg hc hs, h5.mono fun u l ⟨B, d, a, b, e, f⟩ => ⟨B, d, a, b, e, f.chg hc hs⟩⟩
theorem RdL.later (h : RdL X w v ls) (hc : Below w.heap.size w w') : RdL X w' v ls := h.chg (S := fun _ => False) (Chg.of_below hc) fun _ _ _ => id
theorem RdL.drewN (h : RdL X w v ls) (n : Nat) : RdL X (w.drewN n) v ls := h.later (below_drewN' (Below.refl _ _) n)
theorem OwnL.drewN (h : OwnL X w v ls) (n : Nat) : OwnL X (w.drewN n) v ls := h.later (below_drewN' (Below.refl _ _) n)
/-- One element, where the walk wants it. -/
theorem RdL.at_ {A : Option Addr} {c n : Nat} (h : RdL X w (.slice A n c) ls) {j : Nat} (hj : j < ls.length) : ∃ b o B d, A = some ⟨b, o, none⟩ ∧ X b ∧ b < w.heap.size ∧ w.cell? ⟨b, o + j, none⟩ = some (.slice B (ls.getD j []).length d) ∧ (ls.getD j []).length ≤ d ∧ d ≤ maxLen ∧ RdX X w B (ls.getD j []) := by
  obtain ⟨A', c', vs, h1, h2, h3, h4, h5⟩ := h
  injection h1 with e1 e2 e3
  subst e1
  obtain ⟨u, x, hu, hx, B, d, rfl, hl, hm, hr⟩ := h5.get hj
  obtain ⟨b, o, rfl, hX, hb, hc⟩ := h4.spot (by rw [h5.1]; omega)
  have : ls.getD j [] = x := by rw [List.getD_eq_getElem?_getD, hx]; rfl
  rw [this]
  exact ⟨b, o, B, d, rfl, hX, hb, hc j _ hu, hl, hm, hr⟩
end

/-- append(s, x) of lists: one list more. -/
theorem wpList_appL1 {X : Nat → Prop} {ops : Array Oper} {rest : List Oper} {o : Oper} {a : Act} {Q : Exit → Act → World → Prop} {w : World} (hgd : o.guard = none) (s x : Operand)
    (ho : o.op = .call { callee := .builtin .append, args := #[s, x], argTypes := #[158, 158] }) (v : Value) (ls : List (List Int)) (hs : a.eval s = v) (hown : OwnL X w v ls)
    (u : Value) (l : List Int) (hu : OwnB w 0 u l) (hl : IsBytes l) (huX : ∀ g, u.ownBlock = some g → X g) (hX : ∀ k, w.heap.size ≤ k → X k)
    (hx : a.eval x = .slice (some ⟨w.heap.size, 0, none⟩) 1 1) (hlen : ls.length + 1 ≤ 1000000000)
    (h : ∀ v' w', OwnL X w' v' (ls ++ [l]) → Chg (fun k => some k = v.ownBlock) w w' → wpList Try.prog ops Q rest (a.put o.dst v') w') : wpList Try.prog ops Q (o :: rest) a (w.alloc (.cells #[u] 22)) := by
  obtain ⟨vs, h1, h2, h3⟩ := hown
  have hsl : ∃ A c, u = .slice A l.length c := by obtain ⟨A, c, e, _⟩ := RdV.of_own hu; exact ⟨A, c, e⟩
  obtain ⟨A, c, rfl⟩ := hsl
  have hr : RdV (fun _ => True) (w.alloc (.cells #[.slice A l.length c] 22)) (some ⟨w.heap.size, 0, none⟩) [.slice A l.length c] := fun j y hy => by
    cases j with
    | zero => simp at hy; subst hy; refine ⟨_, rfl, trivial, ?_⟩; rw [addPlain, cell_of_row _ _ _ _ _ _ (heap_alloc_new w _)]; rfl
    | succ j => simp at hy
  have hlv : vs.length + 1 ≤ 1000000000 := by rw [h3.1]; exact hlen
  refine wpList_appG under_lists bytes_info rfl (by omega) hgd s x ho 0 v vs.length vs hs (h1.alloc _) _ 1 1 [.slice A l.length c] hx rfl hr (by simp [Value.oneCell']) (by simp only [maxLen]; omega) (by omega) (by omega) fun v' w' g1 g2 g3 => ?_
  have hc1 : Chg (fun k => some k = v.ownBlock) (w.alloc (.cells #[.slice A l.length c] 22)) w' := Chg.of_grown g2
  have hc : Chg (fun k => some k = v.ownBlock) w w' := (Chg.alloc (S := fun k => some k = v.ownBlock) w (.cells #[.slice A l.length c] 22)).trans hc1 fun _ _ e => e
  refine h v' w' ⟨vs ++ [.slice A l.length c], by simpa using g1, fun g hg => ?_, All2.app ?_ (All2.one ⟨OwnB.chg hu hc fun g hg e => owns_ne2 hu h1 (by decide) hg e.symm, hl, huX⟩)⟩ hc
  · rcases g3 with g3 | g3
    · exact h2 g (by rw [← g3]; exact hg)
    · rw [g3] at hg; injection hg with hg; subst hg; exact hX _ (by simp)
  · exact h3.mono fun y m ⟨p, q, r⟩ => ⟨OwnB.chg p hc fun g hg e => owns_ne2 p h1 (by decide) hg e.symm, q, r⟩

/-- append(s, x...) of lists: the elements of another list, which stay where they are. -/
theorem wpList_appLL {X : Nat → Prop} {ops : Array Oper} {rest : List Oper} {o : Oper} {a : Act} {Q : Exit → Act → World → Prop} {w : World} (hgd : o.guard = none) (s x : Operand)
    (ho : o.op = .call { callee := .builtin .append, args := #[s, x], argTypes := #[158, 158] }) (v : Value) (ls ms : List (List Int)) (hs : a.eval s = v) (hown : OwnL X w v ls)
    (u : Value) (hx : a.eval x = u) (hu : OwnL X w u ms) (hX : ∀ k, w.heap.size ≤ k → X k) (hlen : ls.length + ms.length ≤ 1000000000)
    (h : ∀ v' w', OwnL X w' v' (ls ++ ms) → Chg (fun k => some k = v.ownBlock) w w' → wpList Try.prog ops Q rest (a.put o.dst v') w') : wpList Try.prog ops Q (o :: rest) a w := by
  obtain ⟨vs, h1, h2, h3⟩ := hown
  obtain ⟨us, k1, k2, k3⟩ := hu
  obtain ⟨A, c, rfl, hn, hm, hr⟩ := RdV.of_own k1
  have hlv : vs.length + us.length ≤ 1000000000 := by rw [h3.1, k3.1]; exact hlen
  have h1c : ∀ y ∈ us, y.oneCell' = true := fun y hy => by
    obtain ⟨j, hj⟩ := List.mem_iff_getElem?.1 hy
    have hjl : j < us.length := (List.getElem?_eq_some_iff.1 hj).1
    obtain ⟨y', m, hy', _, p, _⟩ := k3.get (j := j) (by rw [← k3.1]; exact hjl)
    rw [hj] at hy'; injection hy' with hy'; subst hy'
    obtain ⟨_, _, e, _⟩ := RdV.of_own p
    rw [e]; rfl
  refine wpList_appG under_lists bytes_info rfl (by omega) hgd s x ho 0 v vs.length vs hs h1 A us.length c us hx (by simp) hr h1c (by simp only [maxLen]; omega) (by omega) (by omega) fun v' w' g1 g2 g3 => ?_
  have hc : Chg (fun k => some k = v.ownBlock) w w' := Chg.of_grown g2
  refine h v' w' ⟨vs ++ us, by simpa using g1, fun g hg => ?_, All2.app (h3.mono fun y m ⟨p, q, r⟩ => ⟨OwnB.chg p hc fun g hg e => owns_ne2 p h1 (by decide) hg e.symm, q, r⟩) (k3.mono fun y m ⟨p, q, r⟩ => ⟨OwnB.chg p hc fun g hg e => owns_ne2 p h1 (by decide) hg e.symm, q, r⟩)⟩ hc
  rcases g3 with g3 | g3
  · exact h2 g (by rw [← g3]; exact hg)
  · rw [g3] at hg; injection hg with hg; subst hg; exact hX _ (Nat.le_refl _)

attribute [local go_sem] Lib.run_eql_slice_nil
theorem clone_any (A : Option Addr) (l : List Int) (n c : Nat) (w : World) (h : Rd w w.heap.size A l) (hn : n = l.length) (hl : n ≤ 1000000000) (h0 : True := trivial) :
    Calls Try.prog 26 #[.slice A n c] w fun e w' => ∃ v, e = .returned v ∧ OwnB w' w.heap.size v l ∧ Below w.heap.size w w' := by
  rcases A with _ | ad
  · clear h0
    have : l = [] := by
      cases l with
      | nil => rfl
      | cons z l => obtain ⟨_, e, _⟩ := h.2 0 (by simp); cases e
    subst this
    subst hn
    go_enter Try.func26, Try.ntmps26
    go_wp2
    go_ret
    exact ⟨_, rfl, OwnB.nil _ _, Below.refl _ _⟩
  · have HR := Lib.hid h
    have HN := Lib.hid hn
    clear h hn h0
    go_enter Try.func26, Try.ntmps26
    have hb : Below w.heap.size w (w.alloc (.cells #[] 5)) := (Below.refl _ _).alloc (Nat.le_refl _) _
    go_wp2_with (at_builtin; refine wpList_app rfl (.tmp 5) (.tmp 6) rfl w.heap.size _ [] rfl (ownB_lit0 w) (some ad) n c l rfl HN.out (HR.out.later hb) (by simp; omega) (by simp) ?_; intro v1 w1 hv1 hw1; have HV := Lib.hid (And.intro hv1 (hb.trans hw1)); clear hv1 hw1)
    go_wp2
    go_ret
    exact ⟨_, rfl, HV.out⟩
end Go.Proofs.Ytdbbcbffmbcjiaa

/- Package reader: what its calls come to. -/
namespace Go.Proofs.Ytdbbcbffmbcjiaa
open Go.RowKit
set_option maxRecDepth 100000
set_option linter.unusedVariables false

/-- How many bytes there were, and what stands behind the Reader. -/
abbrev RTl := Nat × List Value
/-- A Reader at the front of block g: what it has still to read, or what it met. -/
def RdrAt (w : World) (g : Nat) (t : TypeId) (tl : RTl) (s : St) : Prop := match s with
  | .ok l => ∃ A c r, Own w g t (.slice A l.length c :: .int .i64 r :: .int .i64 0 :: tl.2) ∧ RdX (· < g) w A l ∧ l.length ≤ c ∧ c ≤ maxLen ∧ l.length ≤ 1000000 ∧ r = (tl.1 : Int) - l.length ∧ l.length ≤ tl.1 ∧ tl.1 ≤ 1000000
  | .error e => Own w g t (.slice none 0 0 :: .int .i64 0 :: .int .i64 e :: tl.2) ∧ 0 < e ∧ e ≤ 100
theorem RdrAt.chg {S : Nat → Prop} {w w' : World} {g : Nat} {t : TypeId} {tl : RTl} {s : St} (h : RdrAt w g t tl s) (hc : Chg S w w') (hs : ∀ k, k ≤ g → ¬ S k) : RdrAt w' g t tl s := by
  cases s with
  | ok l => obtain ⟨A, c, r, h1, h2, h5⟩ := h; exact ⟨A, c, r, h1.chg hc (hs g (Nat.le_refl _)), h2.chg hc fun k _ hk => hs k (by omega), h5⟩
  | error e => exact ⟨h.1.chg hc (hs g (Nat.le_refl _)), h.2⟩
theorem RdrAt.later {w w' : World} {g : Nat} {t : TypeId} {tl : RTl} {s : St} (h : RdrAt w g t tl s) (hc : Below w.heap.size w w') : RdrAt w' g t tl s := h.chg (S := fun _ => False) (Chg.of_below hc) fun _ _ => id
theorem RdrAt.lt {w : World} {g : Nat} {t : TypeId} {tl : RTl} {s : St} (h : RdrAt w g t tl s) : g < w.heap.size := by
  cases s with
  | ok l => obtain ⟨A, c, r, h1, _⟩ := h; exact h1.lt
  | error e => exact h.1.lt

theorem chgSet (w : World) (g i : Nat) (u : Value) : Chg (fun k => k = g) w (w.setCell ⟨g, i, none⟩ u) := Chg.setCell w ⟨g, i, none⟩ u
theorem own_cells2 {w : World} {g : Nat} {t : TypeId} {a b : Value} {tl : List Value} (h : Own w g t (a :: b :: tl)) : w.cell? ⟨g, 0, none⟩ = some a ∧ w.cell? ⟨g, 1, none⟩ = some b ∧ w.frozen? ⟨g, 0, none⟩ = false ∧ w.frozen? ⟨g, 1, none⟩ = false :=
  ⟨h.cell 0, h.cell 1, h.frozen 0, h.frozen 1⟩
theorem own_cells3 {w : World} {g : Nat} {t : TypeId} {a b c : Value} {tl : List Value} (h : Own w g t (a :: b :: c :: tl)) : w.cell? ⟨g, 0, none⟩ = some a ∧ w.cell? ⟨g, 1, none⟩ = some b ∧ w.cell? ⟨g, 2, none⟩ = some c ∧ w.frozen? ⟨g, 0, none⟩ = false ∧ w.frozen? ⟨g, 1, none⟩ = false ∧ w.frozen? ⟨g, 2, none⟩ = false :=
  ⟨h.cell 0, h.cell 1, h.cell 2, h.frozen 0, h.frozen 1, h.frozen 2⟩

theorem rleft_any (g : Nat) (t : TypeId) (tl : RTl) (s : St) (w : World) (h : RdrAt w g t tl s) :
    Calls Try.prog 88 #[.pointer (some ⟨g, 0, none⟩)] w fun e w' => e = .returned (.int .i64 (lenS s)) ∧ w = w' := by
  cases s with
  | ok l =>
    obtain ⟨A, c, r, h1, -⟩ := h
    obtain ⟨hc0, hc1, hc2, hf0, hf1, hf2⟩ := own_cells3 h1
    clear h1
    simp only [lenS]
    generalize l.length = q at *
    go_enter Try.func88, Try.ntmps88
    go_wp2
    go_ret
    exact ⟨rfl, rfl⟩
  | error e =>
    obtain ⟨hc0, hc1, hc2, hf0, hf1, hf2⟩ := own_cells3 h.1
    clear h
    go_enter Try.func88, Try.ntmps88
    go_wp2
    go_ret
    exact ⟨rfl, rfl⟩

def FailPost (g : Nat) (t : TypeId) (tl : RTl) (s : St) (w : World) (e : Ending) (w' : World) : Prop := (∃ u, e = .returned u) ∧ RdrAt w' g t tl s ∧ Chg (fun k => k = g) w w'
theorem rfail_any (g : Nat) (t : TypeId) (tl : RTl) (s : St) (x : Int) (w : World) (h : RdrAt w g t tl s) (hx : 0 < x) (hx2 : x ≤ 100) :
    Calls Try.prog 19 #[.pointer (some ⟨g, 0, none⟩), .int .i64 x] w (FailPost g t tl (failS x s) w) := by
  cases s with
  | ok l =>
    obtain ⟨A, c, r, h1, -⟩ := h
    obtain ⟨hc0, hc1, hc2, hf0, hf1, hf2⟩ := own_cells3 h1
    have H1 := Lib.hid h1
    clear h1
    generalize l.length = q at *
    go_enter Try.func19, Try.ntmps19
    go_wp2
    go_end0
    refine ⟨⟨_, rfl⟩, ⟨((H1.out.set 0 _).set 1 _).set 2 _, hx, hx2⟩, ((chgSet _ _ _ _).trans (chgSet _ _ _ _) fun k _ e => e).trans (chgSet _ _ _ _) fun k _ e => e⟩
  | error e =>
    obtain ⟨h1, he, he2⟩ := h
    obtain ⟨hc0, hc1, hc2, hf0, hf1, hf2⟩ := own_cells3 h1
    have H1 := Lib.hid h1
    clear h1
    have hne : (e == 0) = false := by simp; omega
    go_enter Try.func19, Try.ntmps19
    go_wp2
    go_end0
    exact ⟨⟨_, rfl⟩, ⟨H1.out, he, he2⟩, Chg.refl _ _⟩

theorem rskip_any (g : Nat) (t : TypeId) (tl : RTl) (l : List Int) (m : Nat) (w : World) (h : RdrAt w g t tl (.ok l)) (hm : m ≤ l.length) :
    Calls Try.prog 89 #[.pointer (some ⟨g, 0, none⟩), .int .i64 m] w (FailPost g t tl (.ok (l.drop m)) w) := by
  obtain ⟨A, c, r, h1, hr, hlc, hcm, hlm, hre, hlt, htm⟩ := h
  obtain ⟨hc0, hc1, hc2, hf0, hf1, hf2⟩ := own_cells3 h1
  obtain ⟨A', c', hE, hc', hX⟩ := cutB_l A l.length c (m : Int) m (l.length - m) rfl rfl hm hlc
  have hw : IntKind.i64.wrap (r + m) = r + m := by rw [IntKind.wrap_i64]; omega
  have HH := Lib.hid (And.intro h1 (And.intro (hX _ _ _ hlc hr) (And.intro hlc (And.intro hcm (And.intro hlm (And.intro hre (And.intro hlt (And.intro htm (And.intro hm hc')))))))))
  clear h1 hr hX hlc hcm hc' hm
  generalize hmm : l.length - m = m2 at *
  generalize hq : l.length = q at *
  have HQ := Lib.hid (And.intro hq hmm)
  clear hq hmm hre hlt hlm
  go_enter Try.func89, Try.ntmps89
  go_wp2
  go_end0
  obtain ⟨p1, p2, p3, p4, p5, p6, p7, p8, p9, p10⟩ := HH.out
  obtain ⟨q1, q2⟩ := HQ.out
  have hd : (l.drop m).length = m2 := by rw [List.length_drop]; omega
  refine ⟨⟨_, rfl⟩, ⟨A', c', r + m, ?_, (p2.chg (chgSet _ g _ _) (fun k _ hk e => by omega)).chg (chgSet _ g _ _) (fun k _ hk e => by omega), by omega, by omega, by omega, by omega, by omega, p8⟩, (chgSet _ _ _ _).trans (chgSet _ _ _ _) fun k _ e => e⟩
  rw [hd]
  exact (p1.set 0 _).set 1 _

theorem rskip_dead (g : Nat) (t : TypeId) (tl : RTl) (e0 : Int) (w : World) (h : RdrAt w g t tl (.error e0)) :
    Calls Try.prog 89 #[.pointer (some ⟨g, 0, none⟩), .int .i64 0] w (FailPost g t tl (.error e0) w) := by
  obtain ⟨h1, he, he2⟩ := h
  obtain ⟨hc0, hc1, hc2, hf0, hf1, hf2⟩ := own_cells3 h1
  have H1 := Lib.hid h1
  clear h1
  go_enter Try.func89, Try.ntmps89
  go_wp2
  go_end0
  exact ⟨⟨_, rfl⟩, ⟨(H1.out.set 0 _).set 1 _, he, he2⟩, (chgSet _ _ _ _).trans (chgSet _ _ _ _) fun k _ e => e⟩

/-- How many bytes were read. -/
def readS (n : Nat) (s : St) : Int := match s with
  | .error _ => 0
  | .ok l => (n : Int) - l.length
def errS (s : St) : Int := match s with
  | .error e => e
  | .ok _ => 0
theorem rstop_any (g : Nat) (t : TypeId) (tl : RTl) (s : St) (w : World) (h : RdrAt w g t tl s) :
    Calls Try.prog 21 #[.pointer (some ⟨g, 0, none⟩)] w fun e w' => e = .returned (.tuple #[.int .i64 (readS tl.1 s), .int .i64 (errS s)]) ∧ Below w.heap.size w w' := by
  cases s with
  | ok l =>
    obtain ⟨A, c, r, h1, -, -, -, -, hr, -⟩ := h
    obtain ⟨hc0, hc1, hc2, hf0, hf1, hf2⟩ := own_cells3 h1
    clear h1
    simp only [readS, errS]
    rw [← hr]
    clear hr
    go_enter Try.func21, Try.ntmps21
    go_wp2
    go_region
    go_wp2
    go_returns
    exact ⟨rfl, (Below.refl _ _).drew⟩
  | error e =>
    obtain ⟨hc0, hc1, hc2, hf0, hf1, hf2⟩ := own_cells3 h.1
    clear h
    simp only [readS, errS]
    go_enter Try.func21, Try.ntmps21
    go_wp2
    go_region
    go_wp2
    go_returns
    exact ⟨rfl, (Below.refl _ _).drew⟩

/-- A number that was read. -/
def RPost (K : IntKind) (hi : Int) (p : PR Int) (g : Nat) (t : TypeId) (tl : RTl) (s : St) (w : World) (e : Ending) (w' : World) : Prop :=
  ∃ x, e = .returned (.int K x) ∧ 0 ≤ x ∧ x ≤ hi ∧ RdrAt w' g t tl (nx p s) ∧ (∀ a l', bd s p = .ok (a, l') → x = a) ∧ Chg (fun k => k = g) w w'

set_option maxHeartbeats 1000000 in
theorem rbyte_any (g : Nat) (t : TypeId) (tl : RTl) (s : St) (w : World) (h : RdrAt w g t tl s) :
    Calls Try.prog 55 #[.pointer (some ⟨g, 0, none⟩)] w (RPost .u8 255 pByte g t tl s w) := by
  have HL := Lib.hid (rleft_any g t tl s w h)
  have HF := Lib.hid (rfail_any g t tl s 3 w h (by omega) (by omega))
  have HH := Lib.hid h
  clear h
  go_enter Try.func55, Try.ntmps55
  go_wp2_with fail
  refine HL.out.mono ?_
  rintro e w' ⟨rfl, rfl⟩
  clear HL
  rcases s with e | (_ | ⟨x, l⟩)
  · simp only [lenS]
    go_wp2_with fail
    refine HF.out.mono ?_
    rintro e w' ⟨⟨u, rfl⟩, h2, hc⟩
    have HC := Lib.hid (And.intro h2 hc)
    clear h2 hc
    go_wp2
    go_ret
    exact ⟨0, rfl, by omega, by omega, HC.out.1, (fun a l' h => by cases h), HC.out.2⟩
  · simp only [lenS, List.length_nil]
    go_wp2_with fail
    refine HF.out.mono ?_
    rintro e w' ⟨⟨u, rfl⟩, h2, hc⟩
    have HC := Lib.hid (And.intro h2 hc)
    clear h2 hc
    go_wp2
    go_ret
    exact ⟨0, rfl, by omega, by omega, HC.out.1, (fun a l' h => by cases h), HC.out.2⟩
  · have HS := Lib.hid (rskip_any g t tl (x :: l) 1 w HH.out (by simp))
    obtain ⟨A, c, r, h1, hr, hlc, hcm, hlm, -⟩ := HH.out
    obtain ⟨hc0, hc1, hc2, hf0, hf1, hf2⟩ := own_cells3 h1
    obtain ⟨b, o, rfl, hb, hb2, hcell⟩ := hr.2.spot (by simp)
    have hx0 := hcell 0 (.int .u8 x) (by simp)
    rw [Nat.add_zero] at hx0
    have hq0 : (((x :: l).length : Nat) : Int) = 0 ↔ False := by simp; omega
    have hqp : 0 < (x :: l).length := by simp
    have hxb := hr.1 x (by simp)
    clear hcell hr h1 hlc hcm
    simp only [lenS]
    generalize (x :: l).length = q at *
    go_wp2_with fail
    refine HS.out.mono ?_
    rintro e w' ⟨⟨u, rfl⟩, h2, hc⟩
    have HC := Lib.hid (And.intro h2 hc)
    clear h2 hc
    go_wp2
    go_ret
    refine ⟨x, rfl, by omega, by omega, HC.out.1, (fun a l' h => ?_), HC.out.2⟩
    simp [pByte] at h; exact h.1

set_option maxHeartbeats 1000000 in
theorem rnum32_any (g : Nat) (t : TypeId) (tl : RTl) (s : St) (w : World) (h : RdrAt w g t tl s) :
    Calls Try.prog 90 #[.pointer (some ⟨g, 0, none⟩), .func (.func 91) #[] #[]] w (RPost .u32 4294967295 (pU 32) g t tl s w) := by
  rcases s with e | l
  · have HF := Lib.hid (rfail_any g t tl _ 3 w h (by omega) (by omega))
    obtain ⟨h1, he, he2⟩ := h
    obtain ⟨hc0, hc1, hc2, hf0, hf1, hf2⟩ := own_cells3 h1
    have HU := Lib.hid (U32_any none [] 0 0 w (Rd.nil _ _ _) rfl (by decide))
    clear h1
    go_enter Try.func90, Try.ntmps90
    go_wp2_with fail
    refine HU.out.mono ?_
    rintro e w' ⟨rfl, rfl⟩
    simp only [three, rdU, dec, on1]
    go_wp2_with fail
    refine HF.out.mono ?_
    rintro e w' ⟨⟨u, rfl⟩, h2, hc⟩
    have HC := Lib.hid (And.intro h2 hc)
    clear h2 hc
    go_wp2
    go_ret
    exact ⟨0, rfl, by omega, by omega, HC.out.1, (fun a l' h => by cases h), HC.out.2⟩
  · have HF := Lib.hid (fun x hx hx2 => rfail_any g t tl _ x w h hx hx2)
    have HH := Lib.hid h
    obtain ⟨A, c, r, h1, hr, hlc, hcm, hlm, -⟩ := h
    obtain ⟨hc0, hc1, hc2, hf0, hf1, hf2⟩ := own_cells3 h1
    have HU := Lib.hid (U32_any A l l.length c w hr.rd rfl (by unfold maxLen; omega))
    have bad : ∀ x, rdU 32 l = (0, 0, x) → 0 < x → x ≤ 100 → (x == 0) = false → Calls Try.prog 90 #[.pointer (some ⟨g, 0, none⟩), .func (.func 91) #[] #[]] w (RPost .u32 4294967295 (pU 32) g t tl (.ok l) w) := by
      intro x hd hx hx2 hx3
      have HD := Lib.hid hd
      have HP := Lib.hid (pU_no hd (by omega))
      clear h1 hr hd hlc hcm hlm
      generalize l.length = q at *
      go_enter Try.func90, Try.ntmps90
      go_wp2_with fail
      refine HU.out.mono ?_
      rw [HD.out]
      simp only [three, on1]
      rintro e w' ⟨rfl, rfl⟩
      go_wp2_with fail
      refine (HF.out x hx hx2).mono ?_
      rintro e w' ⟨⟨u, rfl⟩, h2, hc⟩
      have HC := Lib.hid (And.intro h2 hc)
      clear h2 hc
      go_wp2
      go_ret
      refine ⟨0, rfl, by omega, by omega, ?_, (fun a l' h => ?_), HC.out.2⟩
      · rw [nx_ok, HP.out]; exact HC.out.1
      · rw [bd_ok, HP.out] at h; cases h
    rcases rdU_cases 32 (by omega) (by omega) l with hd | hd | ⟨u, m, hd, hu0, hu1, hm1, hm2, hm3⟩
    · exact bad 3 hd (by omega) (by omega) rfl
    · exact bad 2 hd (by omega) (by omega) rfl
    · have HS := Lib.hid (rskip_any g t tl l m w HH.out hm3)
      have HD := Lib.hid hd
      have HP := Lib.hid (pU_ok hd)
      clear h1 hr hd hlc hcm bad hm3
      generalize l.length = q at *
      go_enter Try.func90, Try.ntmps90
      go_wp2_with fail
      refine HU.out.mono ?_
      rw [HD.out]
      simp only [three, on1]
      rintro e w' ⟨rfl, rfl⟩
      go_wp2_with fail
      refine HS.out.mono ?_
      rintro e w' ⟨⟨u2, rfl⟩, h2, hc⟩
      have HC := Lib.hid (And.intro h2 hc)
      clear h2 hc
      go_wp2
      go_ret
      refine ⟨IntKind.u32.wrap u, rfl, by rw [IntKind.wrap_u32]; omega, by rw [IntKind.wrap_u32]; omega, ?_, (fun a l' h => ?_), HC.out.2⟩
      · rw [nx_ok, HP.out]; simpa using HC.out.1
      · rw [bd_ok, HP.out] at h; injection h with h; injection h

theorem rU32_any (g : Nat) (t : TypeId) (tl : RTl) (s : St) (w : World) (h : RdrAt w g t tl s) :
    Calls Try.prog 56 #[.pointer (some ⟨g, 0, none⟩)] w (RPost .u32 4294967295 (pU 32) g t tl s w) := by
  have HN := Lib.hid (rnum32_any g t tl s w h)
  clear h
  go_enter Try.func56, Try.ntmps56
  go_wp2_with fail
  refine HN.out.mono ?_
  rintro e w' ⟨x, rfl, h0, h1, h2⟩
  have H2 := Lib.hid h2
  clear h2
  go_wp2
  go_ret
  exact ⟨x, rfl, h0, h1, H2.out⟩

theorem rcount_any (g : Nat) (t : TypeId) (tl : RTl) (s : St) (most : Int) (w : World) (h : RdrAt w g t tl s) (hm : 0 ≤ most) (hm2 : most ≤ 100000) :
    Calls Try.prog 98 #[.pointer (some ⟨g, 0, none⟩), .int .u32 most] w (RPost .i64 most (pCount most) g t tl s w) := by
  have HN := Lib.hid (rU32_any g t tl s w h)
  clear h
  go_enter Try.func98, Try.ntmps98
  go_wp2_with fail
  refine HN.out.mono ?_
  rintro e w' ⟨x, rfl, h0, h1, h2, h3, h4⟩
  have H2 := Lib.hid (And.intro h2 (And.intro h3 h4))
  clear h2 h3 h4
  by_cases hx : most < x
  · have HF := Lib.hid (rfail_any g t tl _ 4 w' H2.out.1 (by omega) (by omega))
    go_wp2_with fail
    refine HF.out.mono ?_
    rintro e w2 ⟨⟨u, rfl⟩, h2, hc⟩
    have HC := Lib.hid (And.intro h2 hc)
    clear h2 hc
    go_wp2
    go_ret
    have key : nx (pCount most) s = failS 4 (nx (pU 32) s) ∧ ∀ a l', bd s (pCount most) ≠ .ok (a, l') := by
      cases s with
      | error e => exact ⟨rfl, fun a l' h => by cases h⟩
      | ok l =>
        have h3 := H2.out.2.1
        simp only [nx_ok, bd_ok, pCount, seq] at h3 ⊢
        cases hp : pU 32 l with
        | error e => simp [failS]
        | ok r =>
          have := h3 r.1 r.2 (by rw [hp])
          subst this
          simp [hx, failS]
    exact ⟨0, rfl, by omega, by omega, by rw [key.1]; exact HC.out.1, (fun a l' h => (key.2 a l' h).elim), H2.out.2.2.trans HC.out.2 fun k _ e => e⟩
  · go_wp2
    go_ret
    have key : nx (pCount most) s = nx (pU 32) s ∧ ∀ a l', bd s (pCount most) = .ok (a, l') → x = a := by
      cases s with
      | error e => exact ⟨rfl, fun a l' h => by cases h⟩
      | ok l =>
        have h3 := H2.out.2.1
        simp only [nx_ok, bd_ok, pCount, seq] at h3 ⊢
        cases hp : pU 32 l with
        | error e => simp
        | ok r =>
          have := h3 r.1 r.2 (by rw [hp])
          subst this
          rw [bd_ok, if_neg (by omega)]
          exact ⟨rfl, fun a l' h => by injection h with h; injection h⟩
    refine ⟨x, ?_, by omega, by omega, by rw [key.1]; exact H2.out.1, key.2, H2.out.2.2⟩
    rfl

/-- Bytes that were read, into new memory. -/
def BPost (p : PR (List Int)) (g : Nat) (t : TypeId) (tl : RTl) (s : St) (w : World) (e : Ending) (w' : World) : Prop :=
  ∃ v y, e = .returned v ∧ OwnB w' w.heap.size v y ∧ IsBytes y ∧ RdrAt w' g t tl (nx p s) ∧ (∀ a l', bd s p = .ok (a, l') → y = a) ∧ Chg (fun k => k = g) w w' ∧ y.length ≤ 1000000

end Go.Proofs.Ytdbbcbffmbcjiaa

/- req's source: what its calls come to. -/
namespace Go.Proofs.Ytdbbcbffmbcjiaa
open Go.RowKit
set_option maxRecDepth 100000
set_option linter.unusedVariables false

theorem RdrAt.below {B : Nat} {w w' : World} {g : Nat} {t : TypeId} {tl : RTl} {s : St} (h : RdrAt w g t tl s) (hb : Below B w w') (hg : g < B) (hB : B ≤ w.heap.size) : RdrAt w' g t tl s :=
  h.chg (S := fun k => B ≤ k) ⟨hb.os, hb.tape, hb.output, hb.size, fun k _ hk => hb.block k (by omega)⟩ fun k hk => by omega

def pKind : PR Int := seq pByte fun x l => if x < 1 ∨ 6 < x then .error 2 else .ok (x, l)

theorem shl8_or (x y : Int) (h0 : 0 ≤ x) (hy0 : 0 ≤ y) (hy : y ≤ 255) : Go.bits .or .u64 (IntKind.u64.wrap (x * 256)) y = x * 256 % 18446744073709551616 + y := by
  obtain ⟨a, rfl⟩ : ∃ a : Nat, x = a := ⟨x.toNat, by omega⟩
  obtain ⟨b, rfl⟩ : ∃ b : Nat, y = b := ⟨y.toNat, by omega⟩
  rw [IntKind.wrap_u64, show ((a : Int) * 256) % 18446744073709551616 = ((a * 256 % 18446744073709551616 : Nat) : Int) from by omega, u64_or_nat _ _ (by omega) (by omega), nat_join 8 _ b (by omega) (by omega)]
  omega
theorem pow256 (k : Nat) (hk : k < 8) : (256 : Int) ^ (k + 1) = 256 ^ k * 256 ∧ (256 : Int) ^ k ≤ 72057594037927936 := by
  refine ⟨Int.pow_succ _ _, ?_⟩
  rcases show k = 0 ∨ k = 1 ∨ k = 2 ∨ k = 3 ∨ k = 4 ∨ k = 5 ∨ k = 6 ∨ k = 7 from by omega with h | h | h | h | h | h | h | h <;> subst h <;> decide
/-- A text that was read. -/
def SPost (p : PR (List Int)) (g : Nat) (t : TypeId) (tl : RTl) (s : St) (w : World) (e : Ending) (w' : World) : Prop :=
  ∃ y, e = .returned (.string (strOfNums y)) ∧ IsBytes y ∧ RdrAt w' g t tl (nx p s) ∧ (∀ a l', bd s p = .ok (a, l') → y = a) ∧ Chg (fun k => k = g) w w' ∧ y.length ≤ 1000000
theorem nx_seq {α β : Type} (p : PR α) (f : α → PR β) (s : St) (a : α) (h : ∀ b l', bd s p = .ok (b, l') → a = b) : nx (seq p f) s = nx (f a) (nx p s) ∧ bd s (seq p f) = bd (nx p s) (f a) := by
  cases s with
  | error e => exact ⟨rfl, rfl⟩
  | ok l =>
    simp only [nx_ok, bd_ok, seq] at h ⊢
    cases hp : p l with
    | error e => exact ⟨rfl, rfl⟩
    | ok r =>
      have := h r.1 r.2 (by rw [hp])
      subst this
      exact ⟨rfl, rfl⟩
/-- Numbers that were read, into new memory. -/
def LPost (p : PR (List Int)) (g : Nat) (t : TypeId) (tl : RTl) (s : St) (w : World) (e : Ending) (w' : World) : Prop :=
  ∃ v y, e = .returned v ∧ OwnU w' w.heap.size v y ∧ IsU64 y ∧ RdrAt w' g t tl (nx p s) ∧ (∀ a l', bd s p = .ok (a, l') → y = a) ∧ Chg (fun k => k = g) w w' ∧ y.length ≤ 1000
end Go.Proofs.Ytdbbcbffmbcjiaa

/- req.Take: which request bytes are. -/
namespace Go.Proofs.Ytdbbcbffmbcjiaa
open Go.RowKit
set_option maxRecDepth 100000
set_option linter.unusedVariables false

structure Req where
  kind : Int
  token : Int
  handle : Int
  name : List Int
  body : List Int
  args : List Int
  ticks : Int
  other : Int
deriving DecidableEq
def zreq : Req := ⟨0, 0, 0, [], [], [], 0, 0⟩
def pRest (k tok : Int) : PR Req :=
  if k = 1 then fun l => .ok (⟨1, tok, 0, [], l, [], 0, 0⟩, [])
  else if k = 2 then seq (pU 64) fun h => seq (pName 32) fun n l => .ok (⟨2, tok, h, n, [], [], 0, 0⟩, l)
  else if k = 3 then seq (pName 32) fun n l => .ok (⟨3, tok, 0, n, [], [], 0, 0⟩, l)
  else if k = 4 then seq (pU 64) fun h => seq (pName 32) fun n => seq (pList 8) fun xs => seq (pU 64) fun ti l => .ok (⟨4, tok, h, n, [], xs, ti, 0⟩, l)
  else if k = 5 then seq (pU 64) fun h l => .ok (⟨5, tok, h, [], [], [], 0, 0⟩, l)
  else seq pWord fun o l => .ok (⟨6, tok, 0, [], [], [], 0, o⟩, l)
theorem pRest_1 (tok : Int) : pRest 1 tok = fun l => .ok (⟨1, tok, 0, [], l, [], 0, 0⟩, []) := rfl
theorem pRest_2 (tok : Int) : pRest 2 tok = seq (pU 64) fun h => seq (pName 32) fun n l => .ok (⟨2, tok, h, n, [], [], 0, 0⟩, l) := rfl
theorem pRest_3 (tok : Int) : pRest 3 tok = seq (pName 32) fun n l => .ok (⟨3, tok, 0, n, [], [], 0, 0⟩, l) := rfl
theorem pRest_4 (tok : Int) : pRest 4 tok = seq (pU 64) fun h => seq (pName 32) fun n => seq (pList 8) fun xs => seq (pU 64) fun ti l => .ok (⟨4, tok, h, n, [], xs, ti, 0⟩, l) := rfl
theorem pRest_5 (tok : Int) : pRest 5 tok = seq (pU 64) fun h l => .ok (⟨5, tok, h, [], [], [], 0, 0⟩, l) := rfl
theorem pRest_6 (tok : Int) : pRest 6 tok = seq pWord fun o l => .ok (⟨6, tok, 0, [], [], [], 0, o⟩, l) := rfl
def pReq : PR Req := seq pKind fun k => seq pWord fun tok => pRest k tok
def done {α : Type} (r : α × List Int) : Except Int α := if r.2 = [] then .ok r.1 else .error 2
def takeReq (b : List Int) : Except Int Req := bd (bd (.ok b) pReq) done
def codeOf {α : Type} (x : Except Int α) : Int := match x with
  | .error e => e
  | .ok _ => 0
def reqOf (x : Except Int Req) : Req := match x with
  | .error _ => zreq
  | .ok q => q
def Req.Ok (q : Req) : Prop := (-9223372036854775808 ≤ q.kind ∧ q.kind < 9223372036854775808) ∧ (0 ≤ q.token ∧ q.token < 18446744073709551616) ∧ (0 ≤ q.handle ∧ q.handle < 18446744073709551616) ∧ IsBytes q.name ∧ (0 ≤ q.ticks ∧ q.ticks < 18446744073709551616) ∧ (0 ≤ q.other ∧ q.other < 18446744073709551616)
theorem ok_mk {k tok h ti o : Int} {n b a : List Int} (h1 : 0 ≤ k) (h2 : k ≤ 255) (h3 : 0 ≤ tok) (h4 : tok ≤ 18446744073709551615) (h5 : 0 ≤ h) (h6 : h ≤ 18446744073709551615) (h7 : IsBytes n) (h8 : 0 ≤ ti) (h9 : ti ≤ 18446744073709551615) (h10 : 0 ≤ o) (h11 : o ≤ 18446744073709551615) : Req.Ok ⟨k, tok, h, n, b, a, ti, o⟩ :=
  ⟨⟨by simp only []; omega, by simp only []; omega⟩, ⟨h3, by simp only []; omega⟩, ⟨h5, by simp only []; omega⟩, h7, ⟨h8, by simp only []; omega⟩, ⟨h10, by simp only []; omega⟩⟩
/-- A request, as a value. -/
def ReqV (X : Nat → Prop) (w : World) (v : Value) (q : Req) : Prop :=
  ∃ A c B d, v = .agg #[.int .i64 q.kind, .int .u64 q.token, .int .u64 q.handle, .string (strOfNums q.name), .slice A q.body.length c, .slice B q.args.length d, .int .u64 q.ticks, .int .u64 q.other] ∧
    RdX X w A q.body ∧ q.body.length ≤ c ∧ c ≤ maxLen ∧ RdU X w B q.args ∧ q.args.length ≤ d ∧ d ≤ maxLen ∧ q.Ok
def TakePost (b : List Int) (w : World) (e : Ending) (w' : World) : Prop :=
  ∃ v, e = .returned (.tuple #[v, .int .i64 (codeOf (takeReq b))]) ∧ ReqV (fun k => w.heap.size ≤ k) w' v (reqOf (takeReq b)) ∧ Below w.heap.size w w'

theorem zreq_v (X : Nat → Prop) (w : World) : ReqV X w (.agg #[.int .i64 0, .int .u64 0, .int .u64 0, .string ⟨#[]⟩, .slice none 0 0, .slice none 0 0, .int .u64 0, .int .u64 0]) zreq :=
  ⟨none, 0, none, 0, rfl, RdX.nil _ _ _, Nat.le_refl _, Nat.zero_le _, RdU.nil _ _ _, Nat.le_refl _, Nat.zero_le _, ⟨by decide, by decide⟩, ⟨by decide, by decide⟩, ⟨by decide, by decide⟩, IsBytes.nil, ⟨by decide, by decide⟩, ⟨by decide, by decide⟩⟩
theorem kind_zero (b : List Int) (h : ∀ a l', bd (.ok b) pKind = .ok (a, l') → 0 = a) : ∃ e, nx pKind (.ok b) = .error e ∧ pKind b = .error e := by
  rw [bd_ok] at h
  cases hp : pKind b with
  | error e => exact ⟨e, by rw [nx_ok, hp]; rfl, rfl⟩
  | ok r =>
    exfalso
    have := h r.1 r.2 (by rw [hp])
    unfold pKind seq at hp
    cases hq : pByte b with
    | error e => rw [hq] at hp; cases hp
    | ok q =>
      rw [hq, bd_ok] at hp
      simp only [] at hp
      split at hp
      · cases hp
      · injection hp with hp; rw [← hp] at this; simp only [] at this; omega
theorem whole_eq {α : Type} (s : St) (y : List Int) (f : List Int → α) (h : ∀ a l', bd s (pBytes (lenS s)) = .ok (a, l') → y = a) : bd s (fun l => .ok (f l, ([] : List Int))) = bd (nx (pBytes (lenS s)) s) fun l => .ok (f y, l) := by
  cases s with
  | error e => rfl
  | ok l =>
    have hp : pBytes l.length l = .ok (l, []) := by simp [pBytes]
    simp only [lenS, bd_ok, nx_ok, hp] at h ⊢
    rw [h l [] rfl]
theorem fin_cases (s : St) (hs : ∀ e, s = .error e → 0 < e) (rq : Req) :
    (endS s = 0 ∧ codeOf (bd s fun l => done (rq, l)) = 0 ∧ reqOf (bd s fun l => done (rq, l)) = rq) ∨ (endS s ≠ 0 ∧ codeOf (bd s fun l => done (rq, l)) = endS s ∧ reqOf (bd s fun l => done (rq, l)) = zreq) := by
  rcases s with e | (_ | ⟨x, l⟩)
  · have := hs e rfl
    exact .inr ⟨by simp only [endS]; omega, rfl, rfl⟩
  · exact .inl ⟨rfl, rfl, rfl⟩
  · exact .inr ⟨by simp [endS], rfl, rfl⟩
theorem RdrAt.err {w : World} {g : Nat} {t : TypeId} {tl : RTl} {s : St} (h : RdrAt w g t tl s) : ∀ e, s = .error e → 0 < e := fun e he => by subst he; exact h.2.1

theorem rnew_any (A : Option Addr) (n c : Nat) (w : World) : Calls Try.prog 17 #[.slice A n c] w fun e w' => e = .returned (.agg #[.slice A n c, .int .i64 0, .int .i64 0]) ∧ Below w.heap.size w w' := by
  go_enter Try.func17, Try.ntmps17
  go_wp2
  go_returns
  exact ⟨rfl, (Below.refl _ _).alloc (Nat.le_refl _) _⟩

theorem own_cells8 {w : World} {g : Nat} {t : TypeId} {a0 a1 a2 a3 a4 a5 a6 a7 : Value} (h : Own w g t [a0, a1, a2, a3, a4, a5, a6, a7]) :
    w.cell? ⟨g, 0, none⟩ = some a0 ∧ w.cell? ⟨g, 1, none⟩ = some a1 ∧ w.cell? ⟨g, 2, none⟩ = some a2 ∧ w.cell? ⟨g, 3, none⟩ = some a3 ∧ w.cell? ⟨g, 4, none⟩ = some a4 ∧ w.cell? ⟨g, 5, none⟩ = some a5 ∧ w.cell? ⟨g, 6, none⟩ = some a6 ∧ w.cell? ⟨g, 7, none⟩ = some a7 ∧
    w.frozen? ⟨g, 0, none⟩ = false ∧ w.frozen? ⟨g, 1, none⟩ = false ∧ w.frozen? ⟨g, 2, none⟩ = false ∧ w.frozen? ⟨g, 3, none⟩ = false ∧ w.frozen? ⟨g, 4, none⟩ = false ∧ w.frozen? ⟨g, 5, none⟩ = false ∧ w.frozen? ⟨g, 6, none⟩ = false ∧ w.frozen? ⟨g, 7, none⟩ = false :=
  ⟨h.cell 0, h.cell 1, h.cell 2, h.cell 3, h.cell 4, h.cell 5, h.cell 6, h.cell 7, h.frozen 0, h.frozen 1, h.frozen 2, h.frozen 3, h.frozen 4, h.frozen 5, h.frozen 6, h.frozen 7⟩

/-- A result that is stored. -/
def put8 (w : World) (g : Nat) (a : Array Value) : World := ((((((((w.setCell ⟨g, 0, none⟩ (a.getD 0 undef)).setCell ⟨g, 1, none⟩ (a.getD 1 undef)).setCell ⟨g, 2, none⟩ (a.getD 2 undef)).setCell ⟨g, 3, none⟩ (a.getD 3 undef)).setCell ⟨g, 4, none⟩ (a.getD 4 undef)).setCell ⟨g, 5, none⟩ (a.getD 5 undef)).setCell ⟨g, 6, none⟩ (a.getD 6 undef)).setCell ⟨g, 7, none⟩ (a.getD 7 undef))
theorem chg8 (w : World) (g : Nat) (a : Array Value) : Chg (fun k => k = g) w (put8 w g a) :=
  (((((((chgSet w g 0 _).trans (chgSet _ g 1 _) fun _ _ e => e).trans (chgSet _ g 2 _) fun _ _ e => e).trans (chgSet _ g 3 _) fun _ _ e => e).trans (chgSet _ g 4 _) fun _ _ e => e).trans (chgSet _ g 5 _) fun _ _ e => e).trans (chgSet _ g 6 _) fun _ _ e => e).trans (chgSet _ g 7 _) fun _ _ e => e
theorem own_put8 {w : World} {g : Nat} {t : TypeId} {b0 b1 b2 b3 b4 b5 b6 b7 : Value} (h : Own w g t [b0, b1, b2, b3, b4, b5, b6, b7]) (a0 a1 a2 a3 a4 a5 a6 a7 : Value) : Own (put8 w g #[a0, a1, a2, a3, a4, a5, a6, a7]) g t [a0, a1, a2, a3, a4, a5, a6, a7] :=
  (((((((h.set 0 a0).set 1 a1).set 2 a2).set 3 a3).set 4 a4).set 5 a5).set 6 a6).set 7 a7

section
variable {T : TypeId} {N : Nat} {Z : List Value} {w : World} {g2 g4 g5 : Nat} {Q : List Value} {s s' : St} {wr w' : World}
end
theorem RdrAt.len {w : World} {g : Nat} {t : TypeId} {tl : RTl} {s : St} (h : RdrAt w g t tl s) : lenS s ≤ 1000000 := by
  cases s with
  | ok l => obtain ⟨A, c, r, _, _, _, _, h, _⟩ := h; exact h
  | error e => simp [lenS]
end Go.Proofs.Ytdbbcbffmbcjiaa

/- req's writers: what their calls come to. -/
namespace Go.Proofs.Ytdbbcbffmbcjiaa
open Go.RowKit
set_option maxRecDepth 100000
set_option linter.unusedVariables false

/-- Something was appended to v. -/
def GPost (base : Nat) (v : Value) (l : List Int) (w : World) (e : Ending) (w' : World) : Prop := ∃ v', e = .returned v' ∧ OwnB w' base v' l ∧ Grew v w v' w'

theorem shr_byte (x : Int) (k : Nat) (hk : k < 8) : x / 2 ^ (8 * (7 - k)) % 256 = (be8 x).getD k 0 := (be8_get x k hk).symm
theorem be8_take (x : Int) (k : Nat) (hk : k < 8) : (be8 x).take (k + 1) = (be8 x).take k ++ [(be8 x).getD k 0] := by
  rw [List.take_add_one, List.getD_eq_getElem?_getD, List.getElem?_eq_getElem (by rw [be8_len]; exact hk)]
  rfl
/-- The bytes of some numbers. -/
def encs : List Int → List Int
  | [] => []
  | x :: t => encU x ++ encs t
theorem encs_app (a b : List Int) : encs (a ++ b) = encs a ++ encs b := by
  induction a with
  | nil => rfl
  | cons x t ih => simp [encs, ih]
theorem encU_len (v : Int) : 0 < (encU v).length ∧ (encU v).length ≤ 10 := by
  unfold encU; rw [bytesOf_length]; exact ⟨List.length_pos_iff.2 (dgU_ne _ _), dgU_len 9 v⟩
theorem encU_is (v : Int) (h0 : 0 ≤ v) (h1 : v < 18446744073709551616) : IsBytes (encU v) := bytesU_is 9 v h0 (by simp; omega)
theorem encs_is (l : List Int) (h : IsU64 l) : IsBytes (encs l) := by
  induction l with
  | nil => exact IsBytes.nil
  | cons x t ih => exact (encU_is x (h x (by simp)).1 (h x (by simp)).2).app (ih fun z hz => h z (by simp [hz]))
theorem encs_len (l : List Int) : (encs l).length ≤ 10 * l.length := by
  induction l with
  | nil => simp [encs]
  | cons x t ih => have := (encU_len x).2; simp [encs]; omega
theorem Grew.rdU {X : Nat → Prop} {v v' : Value} {w w' : World} {A : Option Addr} {l : List Int} (h : Grew v w v' w') (hr : RdU X w A l) (hx : ∀ k, k < w.heap.size → X k → v.ownBlock ≠ some k) : RdU X w' A l := hr.chg h.1 fun k hk hX e => hx k hk hX e
theorem Grew.rdX {X : Nat → Prop} {v v' : Value} {w w' : World} {A : Option Addr} {l : List Int} (h : Grew v w v' w') (hr : RdX X w A l) (hx : ∀ k, k < w.heap.size → X k → v.ownBlock ≠ some k) : RdX X w' A l := hr.chg h.1 fun k hk hX e => hx k hk hX e

end Go.Proofs.Ytdbbcbffmbcjiaa
