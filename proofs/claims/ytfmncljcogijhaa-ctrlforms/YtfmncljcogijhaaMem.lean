/- Memory by blocks: what may have turned, rows that are read, rows of the call's own. No function of the program. -/
import Derived.Test.YtfmncljcogijhaaBytesApp
import Derived.Deep.Draws
namespace Go.Proofs.Ytfmncljcogijhaa
open Go.RowKit
set_option maxRecDepth 100000
set_option linter.unusedVariables false

/-- Of the blocks that were there, those of S alone may have turned. -/
structure Chg (S : Nat → Prop) (w w' : World) : Prop where
  os : w'.os = w.os
  tape : w'.tape = w.tape
  output : w'.output = w.output
  size : w.heap.size ≤ w'.heap.size
  block : ∀ k, k < w.heap.size → ¬ S k → w'.heap[k]? = w.heap[k]?

section
variable {S S' : Nat → Prop} {w w' a b c : World}
theorem Chg.refl (S : Nat → Prop) (w : World) : Chg S w w := ⟨rfl, rfl, rfl, Nat.le_refl _, fun _ _ _ => rfl⟩
theorem Chg.trans (h : Chg S a b) (k : Chg S' b c) (hs : ∀ i, i < a.heap.size → S' i → S i) : Chg S a c :=
  ⟨k.os.trans h.os, k.tape.trans h.tape, k.output.trans h.output, Nat.le_trans h.size k.size, fun i hi hn =>
    (k.block i (Nat.lt_of_lt_of_le hi h.size) (fun e => hn (hs i hi e))).trans (h.block i hi hn)⟩
theorem Chg.mono (h : Chg S a b) (hs : ∀ i, i < a.heap.size → S i → S' i) : Chg S' a b :=
  ⟨h.os, h.tape, h.output, h.size, fun i hi hn => h.block i hi (fun e => hn (hs i hi e))⟩
theorem Chg.of_below (h : Below w.heap.size w w') : Chg S w w' := ⟨h.os, h.tape, h.output, h.size, fun i hi _ => h.block i hi⟩
theorem Chg.below {B : Nat} (h : Chg S w w') (hB : B ≤ w.heap.size) (hs : ∀ i, i < B → ¬ S i) : Below B w w' :=
  ⟨h.os, h.tape, h.output, h.size, fun i hi => h.block i (by omega) (hs i hi)⟩
theorem Chg.of_grown {row : Option Nat} (h : w.grownBy w' row) : Chg (fun k => some k = row) w w' := ⟨h.os, h.tape, h.output, h.size, h.block⟩
theorem Chg.setCell (w : World) (p : Addr) (u : Value) : Chg (fun k => k = p.block) w (w.setCell p u) :=
  ⟨rfl, rfl, rfl, by simp [World.setCell], fun k _ hn => Below.heap_setCell w p u k hn⟩
theorem Chg.alloc (w : World) (o : Obj) : Chg S w (w.alloc o) := Chg.of_below ((Below.refl _ _).alloc (Nat.le_refl _) _)
theorem Chg.drew (h : Chg S a b) : Chg S a b.drew := ⟨h.os, h.tape, h.output, h.size, h.block⟩
theorem Chg.drewN (h : Chg S a b) (n : Nat) : Chg S a (b.drewN n) := ⟨h.os, h.tape, h.output, h.size, h.block⟩
theorem Chg.undrew (h : Chg S a.drew b) : Chg S a b := ⟨h.os, h.tape, h.output, h.size, h.block⟩
theorem Chg.undrewN {n : Nat} (h : Chg S (a.drewN n) b) : Chg S a b := ⟨h.os, h.tape, h.output, h.size, h.block⟩
theorem Chg.all (h : Chg (fun _ => False) w w') : Below w.heap.size w w' := h.below (Nat.le_refl _) (fun _ _ => id)
/-- What S names and is new here does not count. -/
theorem Chg.fresh (h : Chg S a b) (hs : ∀ i, S i → a.heap.size ≤ i) : Below a.heap.size a b := h.below (Nat.le_refl _) fun i hi e => by have := hs i e; omega
theorem below_drewN' {B : Nat} (h : Below B a b) (n : Nat) : Below B a (b.drewN n) := ⟨h.os, h.tape, h.output, h.size, h.block⟩
theorem below_undrewN {B n : Nat} (h : Below B (a.drewN n) b) : Below B a b := ⟨h.os, h.tape, h.output, h.size, h.block⟩
theorem below_undrew {B : Nat} (h : Below B a.drew b) : Below B a b := ⟨h.os, h.tape, h.output, h.size, h.block⟩
end

section
variable {S : Nat → Prop} {w w' : World} {g : Nat} {t : TypeId} {L : List Value}
theorem Own.chg (h : Own w g t L) (hc : Chg S w w') (hg : ¬ S g) : Own w' g t L := (hc.block g h.lt hg).trans h
theorem Own.new (w : World) (t : TypeId) (L : List Value) : Own (w.alloc (.cells L.toArray t)) w.heap.size t L := heap_alloc_new w _
theorem Own.far (h : Own w g t L) {p : Addr} (hp : g ≠ p.block) (u : Value) : Own (w.setCell p u) g t L := (Below.heap_setCell w p u g hp).trans h
theorem Own.drewN (h : Own w g t L) (n : Nat) : Own (w.drewN n) g t L := h
theorem Own.ne {g' : Nat} {t' : TypeId} {L' : List Value} (h : Own w g t L) (h' : Own w g' t' L') (hne : t ≠ t') : g ≠ g' := by
  rintro rfl
  unfold Own at h h'
  rw [h] at h'
  injection h' with h'
  injection h' with _ ht
  exact hne ht
end

/-- The slice of that address holds the cells vs, each in a block of X. -/
def RdV (X : Nat → Prop) (w : World) (A : Option Addr) (vs : List Value) : Prop :=
  ∀ j u, vs[j]? = some u → ∃ ad, A = some ad ∧ X ad.block ∧ w.cell? (ad.add j) = some u

section
variable {X Y : Nat → Prop} {w w' : World} {A : Option Addr} {vs : List Value}
theorem RdV.nil (X : Nat → Prop) (w : World) (A : Option Addr) : RdV X w A [] := fun j u h => by simp at h
theorem RdV.mono (h : RdV X w A vs) (hx : ∀ k, k < w.heap.size → X k → Y k) : RdV Y w A vs := fun j u hu => by
  obtain ⟨ad, e, hX, hc⟩ := h j u hu
  have hb := World.block_lt_of_cell? w _ hc
  rw [addBlock] at hb
  exact ⟨ad, e, hx _ hb hX, hc⟩
theorem RdV.lt (h : RdV X w A vs) : RdV (fun k => X k ∧ k < w.heap.size) w A vs := h.mono fun k hk hx => ⟨hx, hk⟩
theorem RdV.same (h : RdV X w A vs) (hk : ∀ k, k < w.heap.size → X k → w'.heap[k]? = w.heap[k]?) : RdV X w' A vs := fun j u hu => by
  obtain ⟨ad, e, hX, hc⟩ := h j u hu
  refine ⟨ad, e, hX, ?_⟩
  have hb := World.block_lt_of_cell? w _ hc
  rw [addBlock] at hb
  rw [World.cell?_of_block (w := w) (by rw [addBlock]; exact hk _ hb hX)]
  exact hc
theorem RdV.drewN (h : RdV X w A vs) (n : Nat) : RdV X (w.drewN n) A vs := h
theorem RdV.chg {S : Nat → Prop} (h : RdV X w A vs) (hc : Chg S w w') (hs : ∀ k, k < w.heap.size → X k → ¬ S k) : RdV X w' A vs := h.same fun k hk hx => hc.block k hk (hs k hk hx)
theorem RdV.below {B : Nat} (h : RdV X w A vs) (hc : Below B w w') (hs : ∀ k, k < w.heap.size → X k → k < B) : RdV X w' A vs := h.same fun k hk hx => hc.block k (hs k hk hx)
theorem RdV.later (h : RdV X w A vs) (hc : Below w.heap.size w w') : RdV X w' A vs := h.same fun k hk hx => hc.block k hk
theorem RdV.spot (h : RdV X w A vs) (hp : 0 < vs.length) : ∃ b o, A = some ⟨b, o, none⟩ ∧ X b ∧ b < w.heap.size ∧ ∀ i u, vs[i]? = some u → w.cell? ⟨b, o + i, none⟩ = some u := by
  obtain ⟨⟨b, o, sp⟩, rfl, hX, hc⟩ := h 0 _ (List.getElem?_eq_getElem hp)
  rw [addZero] at hc
  have hs : sp = none := by simpa using World.cell?_spot hc
  subst hs
  refine ⟨b, o, rfl, hX, World.block_lt_of_cell? w _ hc, fun i u hu => ?_⟩
  obtain ⟨ad, e, _, hci⟩ := h i u hu
  have e := Option.some.inj e
  subst e
  rwa [addPlain] at hci
theorem RdV.take (h : RdV X w A vs) (k : Nat) : RdV X w A (vs.take k) := fun j u hu => by
  refine h j u ?_
  rw [List.getElem?_take] at hu
  split at hu
  · exact hu
  · cases hu
theorem RdV.sub {b o : Nat} (h : RdV X w (some ⟨b, o, none⟩) vs) (i n : Nat) : RdV X w (some ⟨b, o + i, none⟩) ((vs.drop i).take n) := fun j u hu => by
  rw [List.getElem?_take] at hu
  split at hu
  · rw [List.getElem?_drop] at hu
    obtain ⟨ad, e, hX, hc⟩ := h _ u hu
    have e := Option.some.inj e
    subst e
    refine ⟨_, rfl, hX, ?_⟩
    rw [addPlain] at hc ⊢
    rw [← hc, Nat.add_assoc]
  · cases hu
theorem RdV.tail {b o : Nat} (h : RdV X w (some ⟨b, o, none⟩) vs) (i : Nat) : RdV X w (some ⟨b, o + i, none⟩) (vs.drop i) := by
  have := h.sub i (vs.length)
  rwa [List.take_of_length_le (by simp)] at this
theorem RdV.of_own {base : Nat} {e : TypeId} {sz n : Nat} {v : Value} (h : w.ownsRow base e sz v n vs) : ∃ A c, v = .slice A n c ∧ n ≤ c ∧ c ≤ maxLen ∧ RdV (fun k => v.ownBlock = some k) w A vs := by
  rcases h.2 with ⟨rfl, rfl⟩ | ⟨g, cap, cur, rfl, hg, hh, hn, hm, hs, ht⟩
  · have : vs = [] := List.eq_nil_of_length_eq_zero (by simpa using h.1)
    subst this
    exact ⟨none, 0, rfl, by simp, by simp, RdV.nil _ _ _⟩
  · exact ⟨_, cap, rfl, hn, hm, fun j u hu => ⟨_, rfl, rfl, h.cells (g := g) rfl j u hu⟩⟩
end

/-- A row of the call's own, carried on. -/
theorem owns_chg {S : Nat → Prop} {w w' : World} {base : Nat} {e : TypeId} {sz n : Nat} {v : Value} {xs : List Value} (h : w.ownsRow base e sz v n xs) (hc : Chg S w w') (hg : ∀ g, v.ownBlock = some g → ¬ S g) : w'.ownsRow base e sz v n xs := by
  obtain ⟨h1, h2⟩ := h
  refine ⟨h1, ?_⟩
  rcases h2 with h2 | ⟨g, cap, cur, rfl, hb, hh, r⟩
  · exact .inl h2
  · refine .inr ⟨g, cap, cur, rfl, hb, ?_, r⟩
    have hlt : g < w.heap.size := by
      rcases Nat.lt_or_ge g w.heap.size with hlt | hge
      · exact hlt
      · rw [Array.getElem?_eq_none hge] at hh; cases hh
    rw [hc.block g hlt (hg g rfl)]; exact hh
theorem owns_base {w : World} {base base' : Nat} {e : TypeId} {sz n : Nat} {v : Value} {xs : List Value} (h : w.ownsRow base e sz v n xs) (hb : base' ≤ base) : w.ownsRow base' e sz v n xs := by
  obtain ⟨h1, h2⟩ := h
  refine ⟨h1, ?_⟩
  rcases h2 with h2 | ⟨g, cap, cur, hv, hg, r⟩
  · exact .inl h2
  · exact .inr ⟨g, cap, cur, hv, by omega, r⟩
theorem owns_ne {w : World} {base g : Nat} {e t : TypeId} {sz n : Nat} {v : Value} {xs L : List Value} (h : w.ownsRow base e sz v n xs) (hg : Own w g t L) (hne : e ≠ t) : v.ownBlock ≠ some g := by
  rcases h.2 with ⟨rfl, _⟩ | ⟨g', cap, cur, rfl, _, hh, _⟩
  · simp [Value.ownBlock]
  · intro he
    have : g' = g := by simpa [Value.ownBlock] using he
    subst this
    exact Own.ne (t := e) (L := cur.toList) (by unfold Own; simpa using hh) hg hne rfl
theorem owns_ne2 {w : World} {base base' : Nat} {e t : TypeId} {sz n sz' n' : Nat} {v v' : Value} {xs L : List Value} (h : w.ownsRow base e sz v n xs) (h' : w.ownsRow base' t sz' v' n' L) (hne : e ≠ t) {g : Nat} (hg : v.ownBlock = some g) : v'.ownBlock ≠ some g := by
  rcases h.2 with ⟨rfl, _⟩ | ⟨g', cap, cur, rfl, _, hh, _⟩
  · simp [Value.ownBlock] at hg
  · have : g' = g := by simpa [Value.ownBlock] using hg
    subst this
    exact owns_ne (L := cur.toList) h' (by unfold Own; simpa using hh) (Ne.symm hne)
theorem owns_lt {w : World} {base : Nat} {e : TypeId} {sz n : Nat} {v : Value} {xs : List Value} (h : w.ownsRow base e sz v n xs) {g : Nat} (hg : v.ownBlock = some g) : g < w.heap.size := (World.ownsRow.lt h g hg).2
theorem owns_ge {w : World} {base : Nat} {e : TypeId} {sz n : Nat} {v : Value} {xs : List Value} (h : w.ownsRow base e sz v n xs) {g : Nat} (hg : v.ownBlock = some g) : base ≤ g := (World.ownsRow.lt h g hg).1

/-- append(s, x...), of whatever elements. -/
theorem run_appG {X : Nat → Prop} {t e ty : TypeId} {z : Value} {sz by' : Nat} (hu : Try.prog.underlying t = some (.slice e)) (hinf : (Try.prog.info? e).map (fun i => (i.zero, i.size, i.bytes)) = some (some z, sz, by')) (hzs : z.cells.size = sz) (hsz : 0 < sz)
    (w : World) (base : Nat) (v : Value) (n : Nat) (xs : List Value) (hown : w.ownsRow base e sz v n xs) (A : Option Addr) (m c : Nat) (news : List Value) (hl : news.length = m * sz) (hr : RdV X w A news) (h1 : ∀ u ∈ news, u.oneCell' = true)
    (hlen : n + m ≤ maxLen) (hby : (n + m) * by' ≤ 140737488355328) (hbase : base ≤ w.heap.size) :
    ∃ v' w', (Builtin.append_ #[t, t] ty #[v, .slice A m c]).run Try.prog w = .ok v' w' ∧ w'.ownsRow base e sz v' (n + m) (xs ++ news) ∧ w.grownBy w' v.ownBlock ∧ (v'.ownBlock = v.ownBlock ∨ v'.ownBlock = some w.heap.size) := by
  obtain ⟨i, hi, hz, hs, hb⟩ := info_parts hinf
  rcases A with _ | ad
  · have hn : news = [] := by
      cases news with
      | nil => rfl
      | cons u news => obtain ⟨_, h, _⟩ := hr 0 u (by simp); cases h
    subst hn
    have hm : m = 0 := by
      rcases Nat.eq_zero_or_pos m with h | h
      · exact h
      · have := Nat.mul_pos h hsz; simp at hl; omega
    subst hm
    refine ⟨v, w, ?_, by simpa using hown, ⟨rfl, rfl, rfl, Nat.le_refl _, fun _ _ _ => rfl⟩, .inl rfl⟩
    rcases hown.2 with ⟨rfl, h0⟩ | ⟨g, cap, cur, rfl, _, _, hnc, _⟩
    · subst h0
      simp [Builtin.append_, run_underlying hu, sizeOf, typeInfo, hi, Builtin.lenOf, Builtin.firstCells]
    · simp [Builtin.append_, run_underlying hu, sizeOf, typeInfo, hi, Builtin.lenOf, Builtin.firstCells, hnc, storeCells]
  · have hnews : ∀ j u, news[j]? = some u → w.cell? (ad.add j) = some u := fun j u hu => by
      obtain ⟨ad', e', _, hc⟩ := hr j u hu
      have e' := Option.some.inj e'
      subst e'
      exact hc
    obtain ⟨v', w', hrun, h2, h3, _, h5⟩ := run_append_own_at (P := Try.prog) w base t ty e i z sz by' hu hi hz hs hb hzs hsz v n xs hown ad m c news hl hnews h1 hlen hby hbase
    exact ⟨v', w', hrun, h2, h3, h5⟩

theorem wpList_appG {X : Nat → Prop} {t e : TypeId} {z : Value} {sz by' : Nat} (hu : Try.prog.underlying t = some (.slice e)) (hinf : (Try.prog.info? e).map (fun i => (i.zero, i.size, i.bytes)) = some (some z, sz, by')) (hzs : z.cells.size = sz) (hsz : 0 < sz)
    {ops : Array Oper} {rest : List Oper} {o : Oper} {a : Act} {Q : Exit → Act → World → Prop} {w : World} (hgd : o.guard = none) (s x : Operand)
    (ho : o.op = .call { callee := .builtin .append, args := #[s, x], argTypes := #[t, t] }) (base : Nat) (v : Value) (n : Nat) (xs : List Value) (hs : a.eval s = v) (hown : w.ownsRow base e sz v n xs)
    (A : Option Addr) (m c : Nat) (news : List Value) (hx : a.eval x = .slice A m c) (hl : news.length = m * sz) (hr : RdV X w A news) (h1 : ∀ u ∈ news, u.oneCell' = true) (hlen : n + m ≤ maxLen) (hby : (n + m) * by' ≤ 140737488355328) (hbase : base ≤ w.heap.size)
    (h : ∀ v' w', w'.ownsRow base e sz v' (n + m) (xs ++ news) → w.grownBy w' v.ownBlock → (v'.ownBlock = v.ownBlock ∨ v'.ownBlock = some w.heap.size) → wpList Try.prog ops Q rest (a.put o.dst v') w') : wpList Try.prog ops Q (o :: rest) a w := by
  obtain ⟨v', w', hrun, h2, h3, h4⟩ := run_appG (ty := o.type) hu hinf hzs hsz w base v n xs hown A m c news hl hr h1 hlen hby hbase
  exact Lib.wpList_append_run w hgd s x _ _ ho _ _ hs hx v' w' hrun (h v' w' h2 h3 h4)

/-- Bytes that are read, in blocks of X. -/
def RdX (X : Nat → Prop) (w : World) (A : Option Addr) (l : List Int) : Prop := IsBytes l ∧ RdV X w A (l.map (Value.int .u8))
theorem map_u8_get {l : List Int} {j : Nat} (hj : j < l.length) : (l.map (Value.int .u8))[j]? = some (.int .u8 (l.getD j 0)) := by
  simp [List.getElem?_eq_getElem hj, List.getD_eq_getElem?_getD]
section
variable {X : Nat → Prop} {w w' : World} {A : Option Addr} {l : List Int} {B : Nat}
theorem RdX.rd (h : RdX X w A l) : Rd w w.heap.size A l := ⟨h.1, fun j hj => by
  obtain ⟨ad, e, _, hc⟩ := h.2 j _ (map_u8_get hj)
  have hb := World.block_lt_of_cell? w _ hc
  rw [addBlock] at hb
  exact ⟨ad, e, hb, hc⟩⟩
theorem Rd.rx (h : Rd w B A l) : RdX (· < B) w A l := ⟨h.1, fun j u hu => by
  rw [List.getElem?_map] at hu
  obtain ⟨y, hy, rfl⟩ := Option.map_eq_some_iff.1 hu
  have hj : j < l.length := (List.getElem?_eq_some_iff.1 hy).1
  obtain ⟨ad, e, hb, hc⟩ := h.2 j hj
  refine ⟨ad, e, hb, ?_⟩
  rw [hc, List.getD_eq_getElem?_getD, hy]; rfl⟩
theorem RdX.chg {S : Nat → Prop} (h : RdX X w A l) (hc : Chg S w w') (hs : ∀ k, k < w.heap.size → X k → ¬ S k) : RdX X w' A l := ⟨h.1, h.2.chg hc hs⟩
theorem RdX.drewN (h : RdX X w A l) (n : Nat) : RdX X (w.drewN n) A l := ⟨h.1, h.2.drewN n⟩
theorem RdX.later (h : RdX X w A l) (hc : Below w.heap.size w w') : RdX X w' A l := ⟨h.1, h.2.later hc⟩
theorem RdX.mono {Y : Nat → Prop} (h : RdX X w A l) (hx : ∀ k, k < w.heap.size → X k → Y k) : RdX Y w A l := ⟨h.1, h.2.mono hx⟩
theorem RdX.nil (X : Nat → Prop) (w : World) (A : Option Addr) : RdX X w A [] := ⟨IsBytes.nil, RdV.nil _ _ _⟩
end
theorem IsBytes.take {l : List Int} (h : IsBytes l) (k : Nat) : IsBytes (l.take k) := fun z hz => h z (List.mem_of_mem_take hz)
theorem IsBytes.drop {l : List Int} (h : IsBytes l) (k : Nat) : IsBytes (l.drop k) := fun z hz => h z (List.mem_of_mem_drop hz)
theorem OwnB.rdX {w : World} {base : Nat} {v : Value} {l : List Int} (h : OwnB w base v l) (hl : IsBytes l) : ∃ A c, v = .slice A l.length c ∧ l.length ≤ c ∧ c ≤ maxLen ∧ RdX (fun k => v.ownBlock = some k) w A l := by
  obtain ⟨A, c, h1, h2, h3, h4⟩ := RdV.of_own h
  exact ⟨A, c, h1, h2, h3, hl, h4⟩
theorem OwnB.chg {S : Nat → Prop} {w w' : World} {base : Nat} {v : Value} {l : List Int} (h : OwnB w base v l) (hc : Chg S w w') (hg : ∀ g, v.ownBlock = some g → ¬ S g) : OwnB w' base v l := owns_chg h hc hg

/-- append(s, x...) of bytes: where the row lies then. -/
theorem wpList_appB {X : Nat → Prop} {ops : Array Oper} {rest : List Oper} {o : Oper} {a : Act} {Q : Exit → Act → World → Prop} {w : World} (hgd : o.guard = none) (s x : Operand)
    (ho : o.op = .call { callee := .builtin .append, args := #[s, x], argTypes := #[22, 22] }) (base : Nat) (v : Value) (l : List Int) (hs : a.eval s = v) (hown : OwnB w base v l)
    (A : Option Addr) (m c : Nat) (news : List Int) (hx : a.eval x = .slice A m c) (hm : m = news.length) (hr : RdX X w A news) (hlen : l.length + m ≤ 1000000000) (hbase : base ≤ w.heap.size)
    (h : ∀ v' w', OwnB w' base v' (l ++ news) → w.grownBy w' v.ownBlock → (v'.ownBlock = v.ownBlock ∨ v'.ownBlock = some w.heap.size) → wpList Try.prog ops Q rest (a.put o.dst v') w') : wpList Try.prog ops Q (o :: rest) a w := by
  subst hm
  refine wpList_appG under_bytes byte_info rfl (by omega) hgd s x ho base v l.length _ hs hown A news.length c (news.map (Value.int .u8)) hx (by simp) hr.2 (fun u hu => by obtain ⟨z, _, rfl⟩ := List.mem_map.1 hu; rfl) (by simp only [maxLen]; omega) (by omega) hbase fun v' w' h1 h2 h3 => h v' w' ?_ h2 h3
  unfold OwnB
  simpa using h1
end Go.Proofs.Ytfmncljcogijhaa
