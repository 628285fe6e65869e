/- Lists of instructions in memory. No function of the program. -/
import Derived.Test.YtfmncljcogijhaaCodeBh
namespace Go.Proofs.Ytfmncljcogijhaa
open Go.RowKit
set_option maxRecDepth 100000
set_option linter.unusedVariables false

theorem under_ins : Try.prog.underlying 24 = some (.slice 30) := Try.underlying24
theorem ins_info : (Try.prog.info? 30).map (fun i => (i.zero, i.size, i.bytes)) = some (some (.agg #[.int .i64 0, .int .u32 0, .int .u32 0, .int .u64 0, .slice none 0 0, .int .i64 0]), 6, 56) := by kernel_rfl
/-- An instruction, and where its labels lie. -/
structure IV where
  x : Ins
  A : Option Addr
  c : Nat
def IV.cells (i : IV) : List Value := insC i.x i.A i.c
def flat : List IV → List Value
  | [] => []
  | i :: is => i.cells ++ flat is
theorem flat_app (a b : List IV) : flat (a ++ b) = flat a ++ flat b := by
  induction a with
  | nil => rfl
  | cons i a ih => simp [flat, ih]
theorem flat_len (a : List IV) : (flat a).length = a.length * 6 := by
  induction a with
  | nil => rfl
  | cons i a ih => simp [flat, ih, IV.cells, insC]; omega
theorem flat_get (a : List IV) : ∀ (j : Nat) (i : IV), a[j]? = some i → ∀ k, k < 6 → (flat a)[j * 6 + k]? = (i.cells)[k]? := by
  induction a with
  | nil => intro j i h; simp at h
  | cons y a ih =>
    intro j i h k hk
    have hl : y.cells.length = 6 := rfl
    cases j with
    | zero =>
      simp at h; subst h
      rw [flat, List.getElem?_append_left (by omega)]
      congr 1; omega
    | succ j =>
      rw [flat, List.getElem?_append_right (by omega), hl, show (j + 1) * 6 + k - 6 = j * 6 + k from by omega]
      exact ih j i (by simpa using h) k hk
theorem flat_one (a : List IV) : ∀ u ∈ flat a, u.oneCell' = true := by
  induction a with
  | nil => intro u hu; simp [flat] at hu
  | cons i a ih =>
    intro u hu
    rw [flat, List.mem_append] at hu
    rcases hu with h | h
    · simp [IV.cells, insC] at h
      rcases h with rfl | rfl | rfl | rfl | rfl | rfl <;> rfl
    · exact ih u h

/-- Instructions in a row of the call's own; their labels in blocks of X, which has not the row's. -/
def OwnN (X : Nat → Prop) (w : World) (base : Nat) (v : Value) (is : List IV) : Prop :=
  w.ownsRow base 30 6 v is.length (flat is) ∧ (∀ i ∈ is, LabX X w i.x i.A i.c ∧ InsOk i.x) ∧ ∀ k, v.ownBlock = some k → ¬ X k
/-- Instructions that are read, in blocks of X. -/
def RdN (X : Nat → Prop) (w : World) (v : Value) (is : List IV) : Prop :=
  ∃ A c, v = .slice A is.length c ∧ is.length ≤ c ∧ c ≤ maxLen ∧ RdV X w A (flat is) ∧ ∀ i ∈ is, LabX X w i.x i.A i.c ∧ InsOk i.x
section
variable {X Y S : Nat → Prop} {w w' : World} {base : Nat} {v : Value} {is : List IV}
theorem OwnN.nil (X : Nat → Prop) (w : World) (base : Nat) : OwnN X w base (.slice none 0 0) [] := ⟨World.ownsRow_nil w base _ _, fun i hi => by simp at hi, fun k hk => by simp [Value.ownBlock] at hk⟩
theorem OwnN.chg (h : OwnN X w base v is) (hc : Chg S w w') (hs : ∀ k, k < w.heap.size → X k → ¬ S k) (hv : ∀ k, v.ownBlock = some k → ¬ S k) : OwnN X w' base v is :=
  ⟨owns_chg h.1 hc hv, fun i hi => ⟨(h.2.1 i hi).1.chg hc hs, (h.2.1 i hi).2⟩, h.2.2⟩
theorem OwnN.later (h : OwnN X w base v is) (hb : Below w.heap.size w w') : OwnN X w' base v is := h.chg (S := fun _ => False) (Chg.of_below hb) (fun _ _ _ => id) fun _ _ => id
theorem OwnN.mono (h : OwnN X w base v is) (hx : ∀ k, k < w.heap.size → X k → Y k) (hv : ∀ k, v.ownBlock = some k → ¬ Y k) : OwnN Y w base v is := ⟨h.1, fun i hi => ⟨(h.2.1 i hi).1.mono hx, (h.2.1 i hi).2⟩, hv⟩
theorem OwnN.rd (h : OwnN X w base v is) : RdN (fun k => X k ∨ v.ownBlock = some k) w v is := by
  obtain ⟨A, c, hv, hn, hm, hr⟩ := RdV.of_own h.1
  exact ⟨A, c, hv, hn, hm, hr.mono fun k _ e => .inr e, fun i hi => ⟨(h.2.1 i hi).1.mono fun k _ e => .inl e, (h.2.1 i hi).2⟩⟩
theorem RdN.mono (h : RdN X w v is) (hx : ∀ k, k < w.heap.size → X k → Y k) : RdN Y w v is := by
  obtain ⟨A, c, h1, h2, h3, h4, h5⟩ := h
  exact ⟨A, c, h1, h2, h3, h4.mono hx, fun i hi => ⟨(h5 i hi).1.mono hx, (h5 i hi).2⟩⟩
theorem RdN.chg (h : RdN X w v is) (hc : Chg S w w') (hs : ∀ k, k < w.heap.size → X k → ¬ S k) : RdN X w' v is := by
  obtain ⟨A, c, h1, h2, h3, h4, h5⟩ := h
  exact ⟨A, c, h1, h2, h3, h4.chg hc hs, fun i hi => ⟨(h5 i hi).1.chg hc hs, (h5 i hi).2⟩⟩
theorem RdN.later (h : RdN X w v is) (hb : Below w.heap.size w w') : RdN X w' v is := h.chg (S := fun _ => False) (Chg.of_below hb) fun _ _ _ => id
theorem RdN.nil (X : Nat → Prop) (w : World) : RdN X w (.slice none 0 0) [] := ⟨none, 0, rfl, Nat.le_refl _, Nat.zero_le _, RdV.nil _ _ _, fun i hi => by simp at hi⟩
/-- One element, where the walk wants it. -/
theorem RdN.at_ {A : Option Addr} {c n : Nat} (h : RdN X w (.slice A n c) is) {j : Nat} {i : IV} (hj : is[j]? = some i) : ∃ b o, A = some ⟨b, o, none⟩ ∧ X b ∧ b < w.heap.size ∧ w.cell? ⟨b, o + j * 6, none⟩ = some (.int .i64 i.x.op) ∧ w.cell? ⟨b, o + j * 6 + 1, none⟩ = some (.int .u32 i.x.a) ∧ w.cell? ⟨b, o + j * 6 + 2, none⟩ = some (.int .u32 i.x.b) ∧ w.cell? ⟨b, o + j * 6 + 3, none⟩ = some (.int .u64 i.x.n) ∧ w.cell? ⟨b, o + j * 6 + 4, none⟩ = some (.slice i.A i.x.l.length i.c) ∧ w.cell? ⟨b, o + j * 6 + 5, none⟩ = some (.int .i64 i.x.t) := by
  obtain ⟨A', c', h1, h2, h3, h4, h5⟩ := h
  injection h1 with e1 e2 e3
  subst e1
  have hlt : j < is.length := (List.getElem?_eq_some_iff.1 hj).1
  obtain ⟨b, o, rfl, hX, hb, hc⟩ := h4.spot (by rw [flat_len]; omega)
  have g := fun k hk => flat_get is j i hj k hk
  refine ⟨b, o, rfl, hX, hb, ?_, ?_, ?_, ?_, ?_, ?_⟩
  · exact hc (j * 6) _ (by have := g 0 (by omega); rw [Nat.add_zero] at this; rw [this]; rfl)
  · rw [Nat.add_assoc]; exact hc _ _ (by rw [g 1 (by omega)]; rfl)
  · rw [Nat.add_assoc]; exact hc _ _ (by rw [g 2 (by omega)]; rfl)
  · rw [Nat.add_assoc]; exact hc _ _ (by rw [g 3 (by omega)]; rfl)
  · rw [Nat.add_assoc]; exact hc _ _ (by rw [g 4 (by omega)]; rfl)
  · rw [Nat.add_assoc]; exact hc _ _ (by rw [g 5 (by omega)]; rfl)
end

/-- The block that was just built for some instructions. -/
theorem rdV_ins (w : World) (is : List IV) : RdV (fun k => k = w.heap.size) (w.alloc (.cells (flat is).toArray 30)) (some ⟨w.heap.size, 0, none⟩) (flat is) := fun j u hu => by
  refine ⟨_, rfl, rfl, ?_⟩
  have h := (Own.new w 30 (flat is)).cell j
  rw [addPlain, Nat.zero_add, h, hu]
/-- append(s, x...), of instructions. -/
theorem wpList_appN {X Y : Nat → Prop} {ops : Array Oper} {rest : List Oper} {o : Oper} {a : Act} {Q : Exit → Act → World → Prop} {w : World} (hgd : o.guard = none) (s x : Operand)
    (ho : o.op = .call { callee := .builtin .append, args := #[s, x], argTypes := #[24, 24] }) (base : Nat) (v : Value) (is : List IV) (hs : a.eval s = v) (hown : OwnN X w base v is)
    (A : Option Addr) (m c : Nat) (js : List IV) (hx : a.eval x = .slice A m c) (hm : m = js.length) (hr : RdV Y w A (flat js)) (hj : ∀ i ∈ js, LabX X w i.x i.A i.c ∧ InsOk i.x) (hlen : is.length + m ≤ 1000000000) (hbase : base ≤ w.heap.size)
    (h : ∀ v' w', OwnN (fun k => X k ∧ k < w.heap.size) w' base v' (is ++ js) → Grew v w v' w' → wpList Try.prog ops Q rest (a.put o.dst v') w') : wpList Try.prog ops Q (o :: rest) a w := by
  subst hm
  refine wpList_appG under_ins ins_info rfl (by omega) hgd s x ho base v is.length _ hs hown.1 A js.length c (flat js) hx (flat_len js) hr (flat_one js) (by simp only [maxLen]; omega) (by omega) hbase fun v' w' h1 h2 h3 => ?_
  have hg := Grew.of_grown h2 h3
  refine h v' w' ⟨by rw [List.length_append, flat_app]; exact h1, fun i hi => ?_, fun k hk => ?_⟩ hg
  · have : LabX X w i.x i.A i.c ∧ InsOk i.x := by
      rcases List.mem_append.1 hi with h | h
      · exact hown.2.1 i h
      · exact hj i h
    refine ⟨?_, this.2⟩
    exact (this.1.mono (Y := fun k => X k ∧ k < w.heap.size) fun k hk hx => ⟨hx, hk⟩).chg hg.1 fun k _ hk e => hown.2.2 k e hk.1
  · rintro ⟨k1, k2⟩
    rcases hg.2 k hk with e | e
    · exact hown.2.2 k e k1
    · omega
/-- append(s, x): one instruction more, out of the block that was just built for it. -/
theorem wpList_appN1 {X : Nat → Prop} {ops : Array Oper} {rest : List Oper} {o : Oper} {a : Act} {Q : Exit → Act → World → Prop} {w : World} (hgd : o.guard = none) (s x : Operand)
    (ho : o.op = .call { callee := .builtin .append, args := #[s, x], argTypes := #[24, 24] }) (base : Nat) (v : Value) (is : List IV) (hs : a.eval s = v) (hown : OwnN X w base v is)
    (i : IV) (hi : LabX X w i.x i.A i.c) (hok : InsOk i.x) (hx : a.eval x = .slice (some ⟨w.heap.size, 0, none⟩) 1 1) (hlen : is.length + 1 ≤ 1000000000) (hbase : base ≤ w.heap.size)
    (h : ∀ v' w', OwnN (fun k => X k ∧ k < w.heap.size) w' base v' (is ++ [i]) → Grew v w v' w' → wpList Try.prog ops Q rest (a.put o.dst v') w') :
    wpList Try.prog ops Q (o :: rest) a (w.alloc (.cells #[.int .i64 i.x.op, .int .u32 i.x.a, .int .u32 i.x.b, .int .u64 i.x.n, .slice i.A i.x.l.length i.c, .int .i64 i.x.t] 30)) := by
  have hb : Below w.heap.size w (w.alloc (.cells #[.int .i64 i.x.op, .int .u32 i.x.a, .int .u32 i.x.b, .int .u64 i.x.n, .slice i.A i.x.l.length i.c, .int .i64 i.x.t] 30)) := (Below.refl _ _).alloc (Nat.le_refl _) _
  have hX : ∀ k, k < w.heap.size → X k → (X k ∧ k < w.heap.size) := fun k hk hx => ⟨hx, hk⟩
  have hown2 : OwnN (fun k => X k ∧ k < w.heap.size) w base v is := hown.mono hX fun k hk e => hown.2.2 k hk e.1
  refine wpList_appN hgd s x ho base v is hs (hown2.later hb) _ 1 1 [i] hx rfl (rdV_ins w [i]) (fun j hj => ?_) hlen (by simp; omega) fun v' w' h1 h2 => h v' w' (h1.mono (fun k _ hk => hk.1) fun k hk e => ?_) (h2.before hb fun k hk => owns_lt hown.1 hk)
  · simp only [List.mem_singleton] at hj; subst hj; exact ⟨(hi.mono hX).later hb, hok⟩
  · exact h1.2.2 k hk ⟨e, by simp; omega⟩
end Go.Proofs.Ytfmncljcogijhaa
