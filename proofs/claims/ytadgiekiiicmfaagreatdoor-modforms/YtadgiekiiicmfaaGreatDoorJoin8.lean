/- Texts joined: InsL, RowE, ReqTake, TypesTake, ModV. -/
import Derived.Test.YtadgiekiiicmfaaGreatDoorJoin7
import Derived.Test.YtadgiekiiicmfaaGreatDoorJoin4
import Derived.Test.YtadgiekiiicmfaaGreatDoorJoin5
import Derived.Test.YtadgiekiiicmfaaGreatDoorJoin6
/- Lists of instructions in memory. No function of the program. -/
namespace Go.Proofs.YtadgiekiiicmfaaGreatDoor
open Go.RowKit
set_option maxRecDepth 100000
set_option linter.unusedVariables false

theorem under_ins : Tryz.prog.underlying 71 = some (.slice 76) := Tryz.underlying71
theorem ins_info : (Tryz.prog.info? 76).map (fun i => (i.zero, i.size, i.bytes)) = some (some (.agg #[.int .i64 0, .int .u32 0, .int .u32 0, .int .u64 0, .slice none 0 0, .int .i64 0]), 6, 56) := by kernel_rfl
/-- An instruction, and where its labels lie. -/
structure IV where
  x : Ins
  A : Option Addr
  c : Nat
def IV.cells (i : IV) : List Value := insC i.x i.A i.c
def flat : List IV → List Value
  | [] => []
  | i :: is => i.cells ++ flat is
theorem flat_app (a b : List IV) : flat (a ++ b) = flat a ++ flat b := by
  induction a with
  | nil => rfl
  | cons i a ih => simp [flat, ih]
theorem flat_len (a : List IV) : (flat a).length = a.length * 6 := by
  induction a with
  | nil => rfl
  | cons i a ih => simp [flat, ih, IV.cells, insC]; omega
theorem flat_get (a : List IV) : ∀ (j : Nat) (i : IV), a[j]? = some i → ∀ k, k < 6 → (flat a)[j * 6 + k]? = (i.cells)[k]? := by
  induction a with
  | nil => intro j i h; simp at h
  | cons y a ih =>
    intro j i h k hk
    have hl : y.cells.length = 6 := rfl
    cases j with
    | zero =>
      simp at h; subst h
      rw [flat, List.getElem?_append_left (by omega)]
      congr 1; omega
    | succ j =>
      rw [flat, List.getElem?_append_right (by omega), hl, show (j + 1) * 6 + k - 6 = j * 6 + k from by omega]
      exact ih j i (by simpa using h) k hk
theorem flat_one (a : List IV) : ∀ u ∈ flat a, u.oneCell' = true := by
  induction a with
  | nil => intro u hu; simp [flat] at hu
  | cons i a ih =>
    intro u hu
    rw [flat, List.mem_append] at hu
    rcases hu with h | h
    · simp [IV.cells, insC] at h
      rcases h with rfl | rfl | rfl | rfl | rfl | rfl <;> rfl
    · exact ih u h

/-- Instructions in a row of the call's own; their labels in blocks of X, which has not the row's. -/
def OwnN (X : Nat → Prop) (w : World) (base : Nat) (v : Value) (is : List IV) : Prop :=
  w.ownsRow base 76 6 v is.length (flat is) ∧ (∀ i ∈ is, LabX X w i.x i.A i.c ∧ InsOk i.x) ∧ ∀ k, v.ownBlock = some k → ¬ X k
/-- Instructions that are read, in blocks of X. -/
def RdN (X : Nat → Prop) (w : World) (v : Value) (is : List IV) : Prop :=
  ∃ A c, v = .slice A is.length c ∧ is.length ≤ c ∧ c ≤ maxLen ∧ RdV X w A (flat is) ∧ ∀ i ∈ is, LabX X w i.x i.A i.c ∧ InsOk i.x
section
variable {X Y S : Nat → Prop} {w w' : World} {base : Nat} {v : Value} {is : List IV}
theorem OwnN.nil (X : Nat → Prop) (w : World) (base : Nat) : OwnN X w base (.slice none 0 0) [] := ⟨World.ownsRow_nil w base _ _, fun i hi => by simp at hi, fun k hk => by simp [Value.ownBlock] at hk⟩
theorem OwnN.chg (h : OwnN X w base v is) (hc : Chg S w w') (hs : ∀ k, k < w.heap.size → X k → ¬ S k) (hv : ∀ k, v.ownBlock = some k → ¬ S k) : OwnN X w' base v is :=
  ⟨owns_chg h.1 hc hv, fun i hi => ⟨(h.2.1 i hi).1.chg hc hs, (h.2.1 i hi).2⟩, h.2.2⟩
theorem OwnN.later (h : OwnN X w base v is) (hb : Below w.heap.size w w') : OwnN X w' base v is := h.chg (S := fun _ => False) (Chg.of_below hb) (fun _ _ _ => id) fun _ _ => id
theorem OwnN.mono (h : OwnN X w base v is) (hx : ∀ k, k < w.heap.size → X k → Y k) (hv : ∀ k, v.ownBlock = some k → ¬ Y k) : OwnN Y w base v is := ⟨h.1, fun i hi => ⟨(h.2.1 i hi).1.mono hx, (h.2.1 i hi).2⟩, hv⟩
theorem OwnN.rd (h : OwnN X w base v is) : RdN (fun k => X k ∨ v.ownBlock = some k) w v is := by
  obtain ⟨A, c, hv, hn, hm, hr⟩ := RdV.of_own h.1
  exact ⟨A, c, hv, hn, hm, hr.mono fun k _ e => .inr e, fun i hi => ⟨(h.2.1 i hi).1.mono fun k _ e => .inl e, (h.2.1 i hi).2⟩⟩
theorem RdN.mono (h : RdN X w v is) (hx : ∀ k, k < w.heap.size → X k → Y k) : RdN Y w v is := by
  obtain ⟨A, c, h1, h2, h3, h4, h5⟩ := h
  exact ⟨A, c, h1, h2, h3, h4.mono hx, fun i hi => ⟨(h5 i hi).1.mono hx, (h5 i hi).2⟩⟩
theorem RdN.chg (h : RdN X w v is) (hc : Chg S w w') (hs : ∀ k, k < w.heap.size → X k → ¬ S k) : RdN X w' v is := by
  obtain ⟨A, c, h1, h2, h3, h4, h5⟩ := h
  exact ⟨A, c, h1, h2, h3, h4.chg hc hs, fun i hi => ⟨(h5 i hi).1.chg hc hs, (h5 i hi).2⟩⟩
theorem RdN.later (h : RdN X w v is) (hb : Below w.heap.size w w') : RdN X w' v is := h.chg (S := fun _ => False) (Chg.of_below hb) fun _ _ _ => id
theorem RdN.nil (X : Nat → Prop) (w : World) : RdN X w (.slice none 0 0) [] := ⟨none, 0, rfl, Nat.le_refl _, Nat.zero_le _, RdV.nil _ _ _, fun i hi => by simp at hi⟩
/-- One element, where the walk wants it. -/
theorem RdN.at_ {A : Option Addr} {c n : Nat} (h : RdN X w (.slice A n c) is) {j : Nat} {i : IV} (hj : is[j]? = some i) : ∃ b o, A = some ⟨b, o, none⟩ ∧ X b ∧ b < w.heap.size ∧ w.cell? ⟨b, o + j * 6, none⟩ = some (.int .i64 i.x.op) ∧ w.cell? ⟨b, o + j * 6 + 1, none⟩ = some (.int .u32 i.x.a) ∧ w.cell? ⟨b, o + j * 6 + 2, none⟩ = some (.int .u32 i.x.b) ∧ w.cell? ⟨b, o + j * 6 + 3, none⟩ = some (.int .u64 i.x.n) ∧ w.cell? ⟨b, o + j * 6 + 4, none⟩ = some (.slice i.A i.x.l.length i.c) ∧ w.cell? ⟨b, o + j * 6 + 5, none⟩ = some (.int .i64 i.x.t) := by
  obtain ⟨A', c', h1, h2, h3, h4, h5⟩ := h
  injection h1 with e1 e2 e3
  subst e1
  have hlt : j < is.length := (List.getElem?_eq_some_iff.1 hj).1
  obtain ⟨b, o, rfl, hX, hb, hc⟩ := h4.spot (by rw [flat_len]; omega)
  have g := fun k hk => flat_get is j i hj k hk
  refine ⟨b, o, rfl, hX, hb, ?_, ?_, ?_, ?_, ?_, ?_⟩
  · exact hc (j * 6) _ (by have := g 0 (by omega); rw [Nat.add_zero] at this; rw [this]; rfl)
  · rw [Nat.add_assoc]; exact hc _ _ (by rw [g 1 (by omega)]; rfl)
  · rw [Nat.add_assoc]; exact hc _ _ (by rw [g 2 (by omega)]; rfl)
  · rw [Nat.add_assoc]; exact hc _ _ (by rw [g 3 (by omega)]; rfl)
  · rw [Nat.add_assoc]; exact hc _ _ (by rw [g 4 (by omega)]; rfl)
  · rw [Nat.add_assoc]; exact hc _ _ (by rw [g 5 (by omega)]; rfl)
end

/-- The block that was just built for some instructions. -/
theorem rdV_ins (w : World) (is : List IV) : RdV (fun k => k = w.heap.size) (w.alloc (.cells (flat is).toArray 76)) (some ⟨w.heap.size, 0, none⟩) (flat is) := fun j u hu => by
  refine ⟨_, rfl, rfl, ?_⟩
  have h := (Own.new w 76 (flat is)).cell j
  rw [addPlain, Nat.zero_add, h, hu]
/-- append(s, x...), of instructions. -/
theorem wpList_appN {X Y : Nat → Prop} {ops : Array Oper} {rest : List Oper} {o : Oper} {a : Act} {Q : Exit → Act → World → Prop} {w : World} (hgd : o.guard = none) (s x : Operand)
    (ho : o.op = .call { callee := .builtin .append, args := #[s, x], argTypes := #[71, 71] }) (base : Nat) (v : Value) (is : List IV) (hs : a.eval s = v) (hown : OwnN X w base v is)
    (A : Option Addr) (m c : Nat) (js : List IV) (hx : a.eval x = .slice A m c) (hm : m = js.length) (hr : RdV Y w A (flat js)) (hj : ∀ i ∈ js, LabX X w i.x i.A i.c ∧ InsOk i.x) (hlen : is.length + m ≤ 1000000000) (hbase : base ≤ w.heap.size)
    (h : ∀ v' w', OwnN (fun k => X k ∧ k < w.heap.size) w' base v' (is ++ js) → Grew v w v' w' → wpList Tryz.prog ops Q rest (a.put o.dst v') w') : wpList Tryz.prog ops Q (o :: rest) a w := by
  subst hm
  refine wpList_appG under_ins ins_info rfl (by omega) hgd s x ho base v is.length _ hs hown.1 A js.length c (flat js) hx (flat_len js) hr (flat_one js) (by simp only [maxLen]; omega) (by omega) hbase fun v' w' h1 h2 h3 => ?_
  have hg := Grew.of_grown h2 h3
  refine h v' w' ⟨by rw [List.length_append, flat_app]; exact h1, fun i hi => ?_, fun k hk => ?_⟩ hg
  · have : LabX X w i.x i.A i.c ∧ InsOk i.x := by
      rcases List.mem_append.1 hi with h | h
      · exact hown.2.1 i h
      · exact hj i h
    refine ⟨?_, this.2⟩
    exact (this.1.mono (Y := fun k => X k ∧ k < w.heap.size) fun k hk hx => ⟨hx, hk⟩).chg hg.1 fun k _ hk e => hown.2.2 k e hk.1
  · rintro ⟨k1, k2⟩
    rcases hg.2 k hk with e | e
    · exact hown.2.2 k e k1
    · omega
/-- append(s, x): one instruction more, out of the block that was just built for it. -/
theorem wpList_appN1 {X : Nat → Prop} {ops : Array Oper} {rest : List Oper} {o : Oper} {a : Act} {Q : Exit → Act → World → Prop} {w : World} (hgd : o.guard = none) (s x : Operand)
    (ho : o.op = .call { callee := .builtin .append, args := #[s, x], argTypes := #[71, 71] }) (base : Nat) (v : Value) (is : List IV) (hs : a.eval s = v) (hown : OwnN X w base v is)
    (i : IV) (hi : LabX X w i.x i.A i.c) (hok : InsOk i.x) (hx : a.eval x = .slice (some ⟨w.heap.size, 0, none⟩) 1 1) (hlen : is.length + 1 ≤ 1000000000) (hbase : base ≤ w.heap.size)
    (h : ∀ v' w', OwnN (fun k => X k ∧ k < w.heap.size) w' base v' (is ++ [i]) → Grew v w v' w' → wpList Tryz.prog ops Q rest (a.put o.dst v') w') :
    wpList Tryz.prog ops Q (o :: rest) a (w.alloc (.cells #[.int .i64 i.x.op, .int .u32 i.x.a, .int .u32 i.x.b, .int .u64 i.x.n, .slice i.A i.x.l.length i.c, .int .i64 i.x.t] 76)) := by
  have hb : Below w.heap.size w (w.alloc (.cells #[.int .i64 i.x.op, .int .u32 i.x.a, .int .u32 i.x.b, .int .u64 i.x.n, .slice i.A i.x.l.length i.c, .int .i64 i.x.t] 76)) := (Below.refl _ _).alloc (Nat.le_refl _) _
  have hX : ∀ k, k < w.heap.size → X k → (X k ∧ k < w.heap.size) := fun k hk hx => ⟨hx, hk⟩
  have hown2 : OwnN (fun k => X k ∧ k < w.heap.size) w base v is := hown.mono hX fun k hk e => hown.2.2 k hk e.1
  refine wpList_appN hgd s x ho base v is hs (hown2.later hb) _ 1 1 [i] hx rfl (rdV_ins w [i]) (fun j hj => ?_) hlen (by simp; omega) fun v' w' h1 h2 => h v' w' (h1.mono (fun k _ hk => hk.1) fun k hk e => ?_) (h2.before hb fun k hk => owns_lt hown.1 hk)
  · simp only [List.mem_singleton] at hj; subst hj; exact ⟨(hi.mono hX).later hb, hok⟩
  · exact h1.2.2 k hk ⟨e, by simp; omega⟩
end Go.Proofs.YtadgiekiiicmfaaGreatDoor

/- Lists of elements of whatever kind in memory. No function of the program. -/
namespace Go.Proofs.YtadgiekiiicmfaaGreatDoor
open Go.RowKit
set_option maxRecDepth 100000
set_option linter.unusedVariables false

/-- A kind of elements: their cells, and what is to hold of them (their memory in blocks of X). -/
structure El (α : Type) where
  n : Nat
  cells : α → List Value
  ok : (Nat → Prop) → World → α → Prop
  pos : 0 < n
  len : ∀ a, (cells a).length = n
  one : ∀ a, ∀ u ∈ cells a, u.oneCell' = true
  chg : ∀ {X S : Nat → Prop} {w w' : World} {a : α}, ok X w a → Chg S w w' → (∀ k, k < w.heap.size → X k → ¬ S k) → ok X w' a
  mono : ∀ {X Y : Nat → Prop} {w : World} {a : α}, ok X w a → (∀ k, k < w.heap.size → X k → Y k) → ok Y w a
section
variable {α : Type}
def flatE (K : El α) : List α → List Value
  | [] => []
  | x :: xs => K.cells x ++ flatE K xs
theorem flatE_app (K : El α) (a b : List α) : flatE K (a ++ b) = flatE K a ++ flatE K b := by
  induction a with
  | nil => rfl
  | cons i a ih => simp [flatE, ih]
theorem flatE_len (K : El α) (a : List α) : (flatE K a).length = a.length * K.n := by
  induction a with
  | nil => simp [flatE]
  | cons i a ih => rw [flatE, List.length_append, ih, K.len, List.length_cons, Nat.add_mul]; omega
theorem flatE_get (K : El α) (a : List α) : ∀ (j : Nat) (i : α), a[j]? = some i → ∀ k, k < K.n → (flatE K a)[j * K.n + k]? = (K.cells i)[k]? := by
  induction a with
  | nil => intro j i h; simp at h
  | cons y a ih =>
    intro j i h k hk
    have hl := K.len y
    cases j with
    | zero =>
      simp at h; subst h
      rw [flatE, List.getElem?_append_left (by omega)]
      congr 1; omega
    | succ j =>
      have e : (j + 1) * K.n = j * K.n + K.n := by rw [Nat.add_mul]; omega
      rw [flatE, List.getElem?_append_right (by omega), hl, show (j + 1) * K.n + k - K.n = j * K.n + k from by omega]
      exact ih j i (by simpa using h) k hk
theorem flatE_one (K : El α) (a : List α) : ∀ u ∈ flatE K a, u.oneCell' = true := by
  induction a with
  | nil => intro u hu; simp [flatE] at hu
  | cons i a ih =>
    intro u hu
    rw [flatE, List.mem_append] at hu
    rcases hu with h | h
    · exact K.one i u h
    · exact ih u h
/-- Elements (of the type e) in a row of the call's own; what they lead to in blocks of X, which has not the row's. -/
def OwnE (K : El α) (e : TypeId) (X : Nat → Prop) (w : World) (base : Nat) (v : Value) (is : List α) : Prop :=
  w.ownsRow base e K.n v is.length (flatE K is) ∧ (∀ i ∈ is, K.ok X w i) ∧ ∀ k, v.ownBlock = some k → ¬ X k
/-- Elements that are read, in blocks of X. -/
def RdE (K : El α) (X : Nat → Prop) (w : World) (v : Value) (is : List α) : Prop :=
  ∃ A c, v = .slice A is.length c ∧ is.length ≤ c ∧ c ≤ maxLen ∧ RdV X w A (flatE K is) ∧ ∀ i ∈ is, K.ok X w i
section
variable {K : El α} {X Y S : Nat → Prop} {w w' : World} {base : Nat} {v : Value} {is : List α} {e : TypeId} {i : α}
theorem El.later (K : El α) (h : K.ok X w i) (hb : Below w.heap.size w w') : K.ok X w' i := K.chg h (S := fun _ => False) (Chg.of_below hb) fun _ _ _ => id
theorem OwnE.nil (K : El α) (e : TypeId) (X : Nat → Prop) (w : World) (base : Nat) : OwnE K e X w base (.slice none 0 0) [] := ⟨World.ownsRow_nil w base _ _, fun i hi => by simp at hi, fun k hk => by simp [Value.ownBlock] at hk⟩
theorem OwnE.chg (h : OwnE K e X w base v is) (hc : Chg S w w') (hs : ∀ k, k < w.heap.size → X k → ¬ S k) (hv : ∀ k, v.ownBlock = some k → ¬ S k) : OwnE K e X w' base v is :=
  ⟨owns_chg h.1 hc hv, fun i hi => K.chg (h.2.1 i hi) hc hs, h.2.2⟩
theorem OwnE.later (h : OwnE K e X w base v is) (hb : Below w.heap.size w w') : OwnE K e X w' base v is := h.chg (S := fun _ => False) (Chg.of_below hb) (fun _ _ _ => id) fun _ _ => id
theorem OwnE.mono (h : OwnE K e X w base v is) (hx : ∀ k, k < w.heap.size → X k → Y k) (hv : ∀ k, v.ownBlock = some k → ¬ Y k) : OwnE K e Y w base v is := ⟨h.1, fun i hi => K.mono (h.2.1 i hi) hx, hv⟩
theorem OwnE.rd (h : OwnE K e X w base v is) : RdE K (fun k => X k ∨ v.ownBlock = some k) w v is := by
  obtain ⟨A, c, hv, hn, hm, hr⟩ := RdV.of_own h.1
  exact ⟨A, c, hv, hn, hm, hr.mono fun k _ e => .inr e, fun i hi => K.mono (h.2.1 i hi) fun k _ e => .inl e⟩
theorem RdE.mono (h : RdE K X w v is) (hx : ∀ k, k < w.heap.size → X k → Y k) : RdE K Y w v is := by
  obtain ⟨A, c, h1, h2, h3, h4, h5⟩ := h
  exact ⟨A, c, h1, h2, h3, h4.mono hx, fun i hi => K.mono (h5 i hi) hx⟩
theorem RdE.chg (h : RdE K X w v is) (hc : Chg S w w') (hs : ∀ k, k < w.heap.size → X k → ¬ S k) : RdE K X w' v is := by
  obtain ⟨A, c, h1, h2, h3, h4, h5⟩ := h
  exact ⟨A, c, h1, h2, h3, h4.chg hc hs, fun i hi => K.chg (h5 i hi) hc hs⟩
theorem RdE.later (h : RdE K X w v is) (hb : Below w.heap.size w w') : RdE K X w' v is := h.chg (S := fun _ => False) (Chg.of_below hb) fun _ _ _ => id
theorem RdE.nil (K : El α) (X : Nat → Prop) (w : World) : RdE K X w (.slice none 0 0) [] := ⟨none, 0, rfl, Nat.le_refl _, Nat.zero_le _, RdV.nil _ _ _, fun i hi => by simp at hi⟩
theorem RdE.form (h : RdE K X w v is) : ∃ A c, v = .slice A is.length c ∧ is.length ≤ c ∧ c ≤ maxLen := by
  obtain ⟨A, c, h1, h2, h3, -, -⟩ := h; exact ⟨A, c, h1, h2, h3⟩
/-- One element, where the walk wants it. -/
theorem RdE.at_ {A : Option Addr} {c n : Nat} (h : RdE K X w (.slice A n c) is) {j : Nat} {i : α} (hj : is[j]? = some i) : ∃ b o, A = some ⟨b, o, none⟩ ∧ X b ∧ b < w.heap.size ∧ K.ok X w i ∧ ∀ k u, (K.cells i)[k]? = some u → w.cell? ⟨b, o + j * K.n + k, none⟩ = some u := by
  obtain ⟨A', c', h1, h2, h3, h4, h5⟩ := h
  injection h1 with e1 e2 e3
  subst e1
  have hlt : j < is.length := (List.getElem?_eq_some_iff.1 hj).1
  have hp := K.pos
  obtain ⟨b, o, rfl, hX, hb, hc⟩ := h4.spot (by rw [flatE_len]; exact Nat.mul_pos (by omega) hp)
  refine ⟨b, o, rfl, hX, hb, h5 i (List.mem_of_getElem? hj), fun k u hu => ?_⟩
  have hk : k < K.n := by rw [← K.len i]; exact (List.getElem?_eq_some_iff.1 hu).1
  rw [Nat.add_assoc]
  exact hc _ _ (by rw [flatE_get K is j i hj k hk]; exact hu)
end
/-- The block that was just built for one element. -/
theorem rdV_one (K : El α) (w : World) (e : TypeId) (i : α) (cs : Array Value) (hcs : cs.toList = K.cells i) : RdV (fun k => k = w.heap.size) (w.alloc (.cells cs e)) (some ⟨w.heap.size, 0, none⟩) (flatE K [i]) := fun j u hu => by
  refine ⟨_, rfl, rfl, ?_⟩
  have h := (Own.new w e (K.cells i)).cell j
  rw [← hcs] at h
  rw [addPlain, Nat.zero_add, h, hcs]
  simpa [flatE] using hu
/-- append(s, x...), of elements. -/
theorem wpList_appE {K : El α} {X Y : Nat → Prop} {t e : TypeId} {z : Value} {by' : Nat} (hu : Tryz.prog.underlying t = some (.slice e)) (hinf : (Tryz.prog.info? e).map (fun i => (i.zero, i.size, i.bytes)) = some (some z, K.n, by')) (hz : z.cells.size = K.n) (hby : by' ≤ 100)
    {ops : Array Oper} {rest : List Oper} {o : Oper} {a : Act} {Q : Exit → Act → World → Prop} {w : World} (hgd : o.guard = none) (s x : Operand)
    (ho : o.op = .call { callee := .builtin .append, args := #[s, x], argTypes := #[t, t] }) (base : Nat) (v : Value) (is : List α) (hs : a.eval s = v) (hown : OwnE K e X w base v is)
    (A : Option Addr) (m c : Nat) (js : List α) (hx : a.eval x = .slice A m c) (hm : m = js.length) (hr : RdV Y w A (flatE K js)) (hj : ∀ i ∈ js, K.ok X w i) (hlen : is.length + m ≤ 1000000000) (hbase : base ≤ w.heap.size)
    (h : ∀ v' w', OwnE K e (fun k => X k ∧ k < w.heap.size) w' base v' (is ++ js) → Grew v w v' w' → wpList Tryz.prog ops Q rest (a.put o.dst v') w') : wpList Tryz.prog ops Q (o :: rest) a w := by
  subst hm
  have hb2 : (is.length + js.length) * by' ≤ 140737488355328 := Nat.le_trans (Nat.mul_le_mul hlen hby) (by omega)
  refine wpList_appG hu hinf hz K.pos hgd s x ho base v is.length _ hs hown.1 A js.length c (flatE K js) hx (flatE_len K js) hr (flatE_one K js) (by simp only [maxLen]; omega) hb2 hbase fun v' w' h1 h2 h3 => ?_
  have hg := Grew.of_grown h2 h3
  refine h v' w' ⟨by rw [List.length_append, flatE_app]; exact h1, fun i hi => ?_, fun k hk => ?_⟩ hg
  · have : K.ok X w i := by
      rcases List.mem_append.1 hi with h | h
      · exact hown.2.1 i h
      · exact hj i h
    exact K.chg (K.mono this (Y := fun k => X k ∧ k < w.heap.size) fun k hk hx => ⟨hx, hk⟩) hg.1 fun k _ hk e => hown.2.2 k e hk.1
  · rintro ⟨k1, k2⟩
    rcases hg.2 k hk with e | e
    · exact hown.2.2 k e k1
    · omega
/-- append(s, x): one element more, out of the block that was just built for it. -/
theorem wpList_appE1 {K : El α} {X : Nat → Prop} {t e : TypeId} {z : Value} {by' : Nat} (hu : Tryz.prog.underlying t = some (.slice e)) (hinf : (Tryz.prog.info? e).map (fun i => (i.zero, i.size, i.bytes)) = some (some z, K.n, by')) (hz : z.cells.size = K.n) (hby : by' ≤ 100)
    {ops : Array Oper} {rest : List Oper} {o : Oper} {a : Act} {Q : Exit → Act → World → Prop} {w : World} (hgd : o.guard = none) (s x : Operand)
    (ho : o.op = .call { callee := .builtin .append, args := #[s, x], argTypes := #[t, t] }) (base : Nat) (v : Value) (is : List α) (hs : a.eval s = v) (hown : OwnE K e X w base v is)
    (i : α) (cs : Array Value) (hcs : cs.toList = K.cells i) (hi : K.ok X w i) (hx : a.eval x = .slice (some ⟨w.heap.size, 0, none⟩) 1 1) (hlen : is.length + 1 ≤ 1000000000) (hbase : base ≤ w.heap.size)
    (h : ∀ v' w', OwnE K e (fun k => X k ∧ k < w.heap.size) w' base v' (is ++ [i]) → Grew v w v' w' → wpList Tryz.prog ops Q rest (a.put o.dst v') w') :
    wpList Tryz.prog ops Q (o :: rest) a (w.alloc (.cells cs e)) := by
  have hb : Below w.heap.size w (w.alloc (.cells cs e)) := (Below.refl _ _).alloc (Nat.le_refl _) _
  have hX : ∀ k, k < w.heap.size → X k → (X k ∧ k < w.heap.size) := fun k hk hx => ⟨hx, hk⟩
  have hown2 : OwnE K e (fun k => X k ∧ k < w.heap.size) w base v is := hown.mono hX fun k hk e => hown.2.2 k hk e.1
  refine wpList_appE hu hinf hz hby hgd s x ho base v is hs (hown2.later hb) _ 1 1 [i] hx rfl (rdV_one K w e i cs hcs) (fun j hj => ?_) hlen (by simp; omega) fun v' w' h1 h2 => h v' w' (h1.mono (fun k _ hk => hk.1) fun k hk e => ?_) (h2.before hb fun k hk => owns_lt hown.1 hk)
  · simp only [List.mem_singleton] at hj; subst hj; exact K.later (K.mono hi hX) hb
  · exact h1.2.2 k hk ⟨e, by simp; omega⟩
end
end Go.Proofs.YtadgiekiiicmfaaGreatDoor

/- req.Take: which request bytes are. -/
namespace Go.Proofs.YtadgiekiiicmfaaGreatDoor
open Go.RowKit
set_option maxRecDepth 100000
set_option linter.unusedVariables false

structure Req where
  kind : Int
  token : Int
  handle : Int
  name : List Int
  body : List Int
  args : List Int
  ticks : Int
  other : Int
deriving DecidableEq
def zreq : Req := ⟨0, 0, 0, [], [], [], 0, 0⟩
def pRest (k tok : Int) : PR Req :=
  if k = 1 then fun l => .ok (⟨1, tok, 0, [], l, [], 0, 0⟩, [])
  else if k = 2 then seq (pU 64) fun h => seq (pName 32) fun n l => .ok (⟨2, tok, h, n, [], [], 0, 0⟩, l)
  else if k = 3 then seq (pName 32) fun n l => .ok (⟨3, tok, 0, n, [], [], 0, 0⟩, l)
  else if k = 4 then seq (pU 64) fun h => seq (pName 32) fun n => seq (pList 8) fun xs => seq (pU 64) fun ti l => .ok (⟨4, tok, h, n, [], xs, ti, 0⟩, l)
  else if k = 5 then seq (pU 64) fun h l => .ok (⟨5, tok, h, [], [], [], 0, 0⟩, l)
  else seq pWord fun o l => .ok (⟨6, tok, 0, [], [], [], 0, o⟩, l)
theorem pRest_1 (tok : Int) : pRest 1 tok = fun l => .ok (⟨1, tok, 0, [], l, [], 0, 0⟩, []) := rfl
theorem pRest_2 (tok : Int) : pRest 2 tok = seq (pU 64) fun h => seq (pName 32) fun n l => .ok (⟨2, tok, h, n, [], [], 0, 0⟩, l) := rfl
theorem pRest_3 (tok : Int) : pRest 3 tok = seq (pName 32) fun n l => .ok (⟨3, tok, 0, n, [], [], 0, 0⟩, l) := rfl
theorem pRest_4 (tok : Int) : pRest 4 tok = seq (pU 64) fun h => seq (pName 32) fun n => seq (pList 8) fun xs => seq (pU 64) fun ti l => .ok (⟨4, tok, h, n, [], xs, ti, 0⟩, l) := rfl
theorem pRest_5 (tok : Int) : pRest 5 tok = seq (pU 64) fun h l => .ok (⟨5, tok, h, [], [], [], 0, 0⟩, l) := rfl
theorem pRest_6 (tok : Int) : pRest 6 tok = seq pWord fun o l => .ok (⟨6, tok, 0, [], [], [], 0, o⟩, l) := rfl
def pReq : PR Req := seq pKind fun k => seq pWord fun tok => pRest k tok
def done {α : Type} (r : α × List Int) : Except Int α := if r.2 = [] then .ok r.1 else .error 2
def takeReq (b : List Int) : Except Int Req := bd (bd (.ok b) pReq) done
def codeOf {α : Type} (x : Except Int α) : Int := match x with
  | .error e => e
  | .ok _ => 0
def reqOf (x : Except Int Req) : Req := match x with
  | .error _ => zreq
  | .ok q => q
def Req.Ok (q : Req) : Prop := (-9223372036854775808 ≤ q.kind ∧ q.kind < 9223372036854775808) ∧ (0 ≤ q.token ∧ q.token < 18446744073709551616) ∧ (0 ≤ q.handle ∧ q.handle < 18446744073709551616) ∧ IsBytes q.name ∧ (0 ≤ q.ticks ∧ q.ticks < 18446744073709551616) ∧ (0 ≤ q.other ∧ q.other < 18446744073709551616)
theorem ok_mk {k tok h ti o : Int} {n b a : List Int} (h1 : 0 ≤ k) (h2 : k ≤ 255) (h3 : 0 ≤ tok) (h4 : tok ≤ 18446744073709551615) (h5 : 0 ≤ h) (h6 : h ≤ 18446744073709551615) (h7 : IsBytes n) (h8 : 0 ≤ ti) (h9 : ti ≤ 18446744073709551615) (h10 : 0 ≤ o) (h11 : o ≤ 18446744073709551615) : Req.Ok ⟨k, tok, h, n, b, a, ti, o⟩ :=
  ⟨⟨by simp only []; omega, by simp only []; omega⟩, ⟨h3, by simp only []; omega⟩, ⟨h5, by simp only []; omega⟩, h7, ⟨h8, by simp only []; omega⟩, ⟨h10, by simp only []; omega⟩⟩
/-- A request, as a value. -/
def ReqV (X : Nat → Prop) (w : World) (v : Value) (q : Req) : Prop :=
  ∃ A c B d, v = .agg #[.int .i64 q.kind, .int .u64 q.token, .int .u64 q.handle, .string (strOfNums q.name), .slice A q.body.length c, .slice B q.args.length d, .int .u64 q.ticks, .int .u64 q.other] ∧
    RdX X w A q.body ∧ q.body.length ≤ c ∧ c ≤ maxLen ∧ RdU X w B q.args ∧ q.args.length ≤ d ∧ d ≤ maxLen ∧ q.Ok
def TakePost (b : List Int) (w : World) (e : Ending) (w' : World) : Prop :=
  ∃ v, e = .returned (.tuple #[v, .int .i64 (codeOf (takeReq b))]) ∧ ReqV (fun k => w.heap.size ≤ k) w' v (reqOf (takeReq b)) ∧ Below w.heap.size w w'

theorem zreq_v (X : Nat → Prop) (w : World) : ReqV X w (.agg #[.int .i64 0, .int .u64 0, .int .u64 0, .string ⟨#[]⟩, .slice none 0 0, .slice none 0 0, .int .u64 0, .int .u64 0]) zreq :=
  ⟨none, 0, none, 0, rfl, RdX.nil _ _ _, Nat.le_refl _, Nat.zero_le _, RdU.nil _ _ _, Nat.le_refl _, Nat.zero_le _, ⟨by decide, by decide⟩, ⟨by decide, by decide⟩, ⟨by decide, by decide⟩, IsBytes.nil, ⟨by decide, by decide⟩, ⟨by decide, by decide⟩⟩
theorem kind_zero (b : List Int) (h : ∀ a l', bd (.ok b) pKind = .ok (a, l') → 0 = a) : ∃ e, nx pKind (.ok b) = .error e ∧ pKind b = .error e := by
  rw [bd_ok] at h
  cases hp : pKind b with
  | error e => exact ⟨e, by rw [nx_ok, hp]; rfl, rfl⟩
  | ok r =>
    exfalso
    have := h r.1 r.2 (by rw [hp])
    unfold pKind seq at hp
    cases hq : pByte b with
    | error e => rw [hq] at hp; cases hp
    | ok q =>
      rw [hq, bd_ok] at hp
      simp only [] at hp
      split at hp
      · cases hp
      · injection hp with hp; rw [← hp] at this; simp only [] at this; omega
theorem whole_eq {α : Type} (s : St) (y : List Int) (f : List Int → α) (h : ∀ a l', bd s (pBytes (lenS s)) = .ok (a, l') → y = a) : bd s (fun l => .ok (f l, ([] : List Int))) = bd (nx (pBytes (lenS s)) s) fun l => .ok (f y, l) := by
  cases s with
  | error e => rfl
  | ok l =>
    have hp : pBytes l.length l = .ok (l, []) := by simp [pBytes]
    simp only [lenS, bd_ok, nx_ok, hp] at h ⊢
    rw [h l [] rfl]
theorem fin_cases (s : St) (hs : ∀ e, s = .error e → 0 < e) (rq : Req) :
    (endS s = 0 ∧ codeOf (bd s fun l => done (rq, l)) = 0 ∧ reqOf (bd s fun l => done (rq, l)) = rq) ∨ (endS s ≠ 0 ∧ codeOf (bd s fun l => done (rq, l)) = endS s ∧ reqOf (bd s fun l => done (rq, l)) = zreq) := by
  rcases s with e | (_ | ⟨x, l⟩)
  · have := hs e rfl
    exact .inr ⟨by simp only [endS]; omega, rfl, rfl⟩
  · exact .inl ⟨rfl, rfl, rfl⟩
  · exact .inr ⟨by simp [endS], rfl, rfl⟩
theorem RdrAt.err {w : World} {g : Nat} {t : TypeId} {tl : RTl} {s : St} (h : RdrAt w g t tl s) : ∀ e, s = .error e → 0 < e := fun e he => by subst he; exact h.2.1

theorem rnew_any (A : Option Addr) (n c : Nat) (w : World) : Calls Tryz.prog 59 #[.slice A n c] w fun e w' => e = .returned (.agg #[.slice A n c, .int .i64 0, .int .i64 0]) ∧ Below w.heap.size w w' := by
  go_enter Tryz.func59, Tryz.ntmps59
  go_wp2
  go_returns
  exact ⟨rfl, (Below.refl _ _).alloc (Nat.le_refl _) _⟩

theorem own_cells8 {w : World} {g : Nat} {t : TypeId} {a0 a1 a2 a3 a4 a5 a6 a7 : Value} (h : Own w g t [a0, a1, a2, a3, a4, a5, a6, a7]) :
    w.cell? ⟨g, 0, none⟩ = some a0 ∧ w.cell? ⟨g, 1, none⟩ = some a1 ∧ w.cell? ⟨g, 2, none⟩ = some a2 ∧ w.cell? ⟨g, 3, none⟩ = some a3 ∧ w.cell? ⟨g, 4, none⟩ = some a4 ∧ w.cell? ⟨g, 5, none⟩ = some a5 ∧ w.cell? ⟨g, 6, none⟩ = some a6 ∧ w.cell? ⟨g, 7, none⟩ = some a7 ∧
    w.frozen? ⟨g, 0, none⟩ = false ∧ w.frozen? ⟨g, 1, none⟩ = false ∧ w.frozen? ⟨g, 2, none⟩ = false ∧ w.frozen? ⟨g, 3, none⟩ = false ∧ w.frozen? ⟨g, 4, none⟩ = false ∧ w.frozen? ⟨g, 5, none⟩ = false ∧ w.frozen? ⟨g, 6, none⟩ = false ∧ w.frozen? ⟨g, 7, none⟩ = false :=
  ⟨h.cell 0, h.cell 1, h.cell 2, h.cell 3, h.cell 4, h.cell 5, h.cell 6, h.cell 7, h.frozen 0, h.frozen 1, h.frozen 2, h.frozen 3, h.frozen 4, h.frozen 5, h.frozen 6, h.frozen 7⟩

/-- A result that is stored. -/
def put8 (w : World) (g : Nat) (a : Array Value) : World := ((((((((w.setCell ⟨g, 0, none⟩ (a.getD 0 undef)).setCell ⟨g, 1, none⟩ (a.getD 1 undef)).setCell ⟨g, 2, none⟩ (a.getD 2 undef)).setCell ⟨g, 3, none⟩ (a.getD 3 undef)).setCell ⟨g, 4, none⟩ (a.getD 4 undef)).setCell ⟨g, 5, none⟩ (a.getD 5 undef)).setCell ⟨g, 6, none⟩ (a.getD 6 undef)).setCell ⟨g, 7, none⟩ (a.getD 7 undef))
theorem chg8 (w : World) (g : Nat) (a : Array Value) : Chg (fun k => k = g) w (put8 w g a) :=
  (((((((chgSet w g 0 _).trans (chgSet _ g 1 _) fun _ _ e => e).trans (chgSet _ g 2 _) fun _ _ e => e).trans (chgSet _ g 3 _) fun _ _ e => e).trans (chgSet _ g 4 _) fun _ _ e => e).trans (chgSet _ g 5 _) fun _ _ e => e).trans (chgSet _ g 6 _) fun _ _ e => e).trans (chgSet _ g 7 _) fun _ _ e => e
theorem own_put8 {w : World} {g : Nat} {t : TypeId} {b0 b1 b2 b3 b4 b5 b6 b7 : Value} (h : Own w g t [b0, b1, b2, b3, b4, b5, b6, b7]) (a0 a1 a2 a3 a4 a5 a6 a7 : Value) : Own (put8 w g #[a0, a1, a2, a3, a4, a5, a6, a7]) g t [a0, a1, a2, a3, a4, a5, a6, a7] :=
  (((((((h.set 0 a0).set 1 a1).set 2 a2).set 3 a3).set 4 a4).set 5 a5).set 6 a6).set 7 a7

section
variable {T : TypeId} {N : Nat} {Z : List Value} {w : World} {g2 g4 g5 : Nat} {Q : List Value} {s s' : St} {wr w' : World}
end
theorem RdrAt.len {w : World} {g : Nat} {t : TypeId} {tl : RTl} {s : St} (h : RdrAt w g t tl s) : lenS s ≤ 1000000 := by
  cases s with
  | ok l => obtain ⟨A, c, r, _, _, _, _, h, _⟩ := h; exact h
  | error e => simp [lenS]
end Go.Proofs.YtadgiekiiicmfaaGreatDoor

/- types.TakeFunc and types.TakeLimits: which types bytes are. -/
namespace Go.Proofs.YtadgiekiiicmfaaGreatDoor
open Go.RowKit
set_option maxRecDepth 100000
set_option linter.unusedVariables false

/-- How many bytes were read. -/
def readOf {α : Type} (b : List Int) (x : Except Int (α × List Int)) : Int := match x with
  | .error _ => 0
  | .ok r => (b.length : Int) - r.2.length
def fnOf (x : Except Int (Fn × List Int)) : Fn := match x with
  | .error _ => ([], [])
  | .ok r => r.1
def limOf (x : Except Int (Lim × List Int)) : Lim := match x with
  | .error _ => ⟨0, 0, false⟩
  | .ok r => r.1
def FnV (X : Nat → Prop) (w : World) (v : Value) (f : Fn) : Prop :=
  ∃ A c B d, v = .agg #[.slice A f.1.length c, .slice B f.2.length d] ∧ RdX X w A f.1 ∧ f.1.length ≤ c ∧ c ≤ maxLen ∧ RdX X w B f.2 ∧ f.2.length ≤ d ∧ d ≤ maxLen
def limV (l : Lim) : Value := .agg #[.int .u32 l.min, .int .u32 l.max, .bool l.has]
def FnPost (b : List Int) (w : World) (e : Ending) (w' : World) : Prop :=
  ∃ v, e = .returned (.tuple #[v, .int .i64 (readOf b (pFn b)), .int .i64 (codeOf (pFn b))]) ∧ FnV (fun k => w.heap.size ≤ k) w' v (fnOf (pFn b)) ∧ Below w.heap.size w w'
def LimPost (b : List Int) (w : World) (e : Ending) (w' : World) : Prop :=
  e = .returned (.tuple #[limV (limOf (pLim b)), .int .i64 (readOf b (pLim b)), .int .i64 (codeOf (pLim b))]) ∧ Below w.heap.size w w'
theorem zfn_v (X : Nat → Prop) (w : World) : FnV X w (.agg #[.slice none 0 0, .slice none 0 0]) ([], []) :=
  ⟨none, 0, none, 0, rfl, RdX.nil _ _ _, Nat.le_refl _, Nat.zero_le _, RdX.nil _ _ _, Nat.le_refl _, Nat.zero_le _⟩

def NoByte (Q : List Value) : Prop := ∀ u ∈ Q, ∀ x : Int, u ≠ .int .u8 x
theorem RdX.apart {X : Nat → Prop} {w : World} {A : Option Addr} {l : List Int} {g : Nat} {T : TypeId} {Q : List Value} (h : RdX X w A l) (ho : Own w g T Q) (hq : NoByte Q) : RdX (fun k => X k ∧ k ≠ g) w A l := by
  refine ⟨h.1, fun j u hu => ?_⟩
  obtain ⟨ad, e1, e2, e3⟩ := h.2 j u hu
  refine ⟨ad, e1, ⟨e2, fun hg => ?_⟩, e3⟩
  rw [List.getElem?_map] at hu
  obtain ⟨z, -, rfl⟩ := Option.map_eq_some_iff.1 hu
  obtain ⟨b, o, sp⟩ := ad
  have hs : (Addr.add ⟨b, o, sp⟩ j).block = b := addBlock _ _
  generalize hp : (Addr.add ⟨b, o, sp⟩ j) = p at *
  obtain ⟨pb, po, ps⟩ := p
  have hn : ps = none := by simpa using World.cell?_spot e3
  subst hn
  simp only [] at hs hg
  subst hs hg
  rw [ho.cell] at e3
  exact hq _ (List.mem_of_getElem? e3) z rfl
theorem RdrAt.setOther {w : World} {g g2 : Nat} {t T : TypeId} {tl : RTl} {s : St} {Q : List Value} (h : RdrAt w g t tl s) (ho : Own w g2 T Q) (hq : NoByte Q) (hg : g2 ≠ g) (j : Nat) (u : Value) : RdrAt (w.setCell ⟨g2, j, none⟩ u) g t tl s := by
  have hc := chgSet w g2 j u
  cases s with
  | ok l =>
    obtain ⟨A, c, r, h1, h2, h5⟩ := h
    exact ⟨A, c, r, h1.chg hc (Ne.symm hg), ((h2.apart ho hq).chg hc fun k _ hk => hk.2).mono fun k _ hk => hk.1, h5⟩
  | error e => exact ⟨h.1.chg hc (Ne.symm hg), h.2⟩

/-- Within a Take: the source in g4, the result in g2. -/
def T2 (T : TypeId) (w : World) (g2 g4 N : Nat) (Q : List Value) (s : St) (wr : World) : Prop :=
  RdrAt wr g4 205 (N, []) s ∧ Own wr g2 T Q ∧ g2 < g4 ∧ w.heap.size ≤ g2 ∧ Below w.heap.size w wr
section
variable {T : TypeId} {w : World} {g2 g4 N : Nat} {Q : List Value} {s s' : St} {wr w' : World}
theorem T2.step (h : T2 T w g2 g4 N Q s wr) (h1 : RdrAt w' g4 205 (N, []) s') (hc : Chg (fun k => k = g4) wr w') : T2 T w g2 g4 N Q s' w' := by
  obtain ⟨p1, p2, p4, p5, p7⟩ := h
  exact ⟨h1, p2.chg hc (by omega), p4, p5, p7.trans (hc.below p7.size fun i hi e => by omega)⟩
theorem T2.set (h : T2 T w g2 g4 N Q s wr) (hq : NoByte Q) (j : Nat) (u : Value) : T2 T w g2 g4 N (Q.set j u) s (wr.setCell ⟨g2, j, none⟩ u) := by
  obtain ⟨p1, p2, p4, p5, p7⟩ := h
  have hc := chgSet wr g2 j u
  exact ⟨p1.setOther p2 hq (by omega) j u, p2.set j u, p4, p5, p7.trans (hc.below p7.size fun i hi e => by omega)⟩
theorem T2.below (h : T2 T w g2 g4 N Q s wr) (hb : Below wr.heap.size wr w') : T2 T w g2 g4 N Q s w' := by
  obtain ⟨p1, p2, p4, p5, p7⟩ := h
  exact ⟨p1.later hb, p2.later hb, p4, p5, p7.trans (hb.mono p7.size)⟩
theorem T2.far (h : T2 T w g2 g4 N Q s wr) {v : Value} {y : List Int} {B : Option Addr} (ho : OwnB w' wr.heap.size v y) (hr : RdX (fun k => v.ownBlock = some k) w' B y) : RdX (fun k => g4 < k) w' B y :=
  hr.mono fun k _ e => by have := owns_ge ho e; have := h.1.lt; omega
end
end Go.Proofs.YtadgiekiiicmfaaGreatDoor

/- Modules in memory. No function of the program. -/
namespace Go.Proofs.YtadgiekiiicmfaaGreatDoor
open Go.RowKit
set_option maxRecDepth 100000
set_option linter.unusedVariables false

/-- A number of 32 bits. -/
def K32 : El Int where
  n := 1
  cells z := [.int .u32 z]
  ok _ _ z := 0 ≤ z ∧ z < 4294967296
  pos := by omega
  len _ := rfl
  one a u hu := by simp at hu; subst hu; rfl
  chg h _ _ := h
  mono h _ := h
/-- A function's type, and where it lies. -/
structure FV where
  ps : List Int
  pA : Option Addr
  pc : Nat
  rs : List Int
  rA : Option Addr
  rc : Nat
def FV.x (f : FV) : Fn := (f.ps, f.rs)
def KFn : El FV where
  n := 2
  cells f := [.slice f.pA f.ps.length f.pc, .slice f.rA f.rs.length f.rc]
  ok X w f := RdX X w f.pA f.ps ∧ f.ps.length ≤ f.pc ∧ f.pc ≤ maxLen ∧ RdX X w f.rA f.rs ∧ f.rs.length ≤ f.rc ∧ f.rc ≤ maxLen
  pos := by omega
  len _ := rfl
  one a u hu := by simp at hu; rcases hu with rfl | rfl <;> rfl
  chg h hc hs := ⟨h.1.chg hc hs, h.2.1, h.2.2.1, h.2.2.2.1.chg hc hs, h.2.2.2.2⟩
  mono h hx := ⟨h.1.mono hx, h.2.1, h.2.2.1, h.2.2.2.1.mono hx, h.2.2.2.2⟩
/-- Limits that stand in 32 bits. -/
def Lim.In (l : Lim) : Prop := 0 ≤ l.min ∧ l.min < 4294967296 ∧ 0 ≤ l.max ∧ l.max < 4294967296
def KLim : El Lim where
  n := 3
  cells l := [.int .u32 l.min, .int .u32 l.max, .bool l.has]
  ok _ _ l := l.In
  pos := by omega
  len _ := rfl
  one a u hu := by simp at hu; rcases hu with rfl | rfl | rfl <;> rfl
  chg h _ _ := h
  mono h _ := h
def KTab : El TabS where
  n := 4
  cells t := [.int .u8 t.1, .int .u32 t.2.min, .int .u32 t.2.max, .bool t.2.has]
  ok _ _ t := 0 ≤ t.1 ∧ t.1 ≤ 255 ∧ t.2.In
  pos := by omega
  len _ := rfl
  one a u hu := by simp at hu; rcases hu with rfl | rfl | rfl | rfl <;> rfl
  chg h _ _ := h
  mono h _ := h
/-- Instructions, and where they lie. -/
structure BV where
  is : List IV
  A : Option Addr
  c : Nat
def BV.v (b : BV) : Value := .slice b.A b.is.length b.c
def BV.x (b : BV) : List Ins := b.is.map IV.x
def BV.ok (X : Nat → Prop) (w : World) (b : BV) : Prop := b.is.length ≤ b.c ∧ b.c ≤ maxLen ∧ RdV X w b.A (flat b.is) ∧ (∀ i ∈ b.is, LabX X w i.x i.A i.c ∧ InsOk i.x) ∧ b.is.length ≤ 600
def bv0 : BV := ⟨[], none, 0⟩
section
variable {X Y S : Nat → Prop} {w w' : World} {b : BV}
theorem BV.ok0 (X : Nat → Prop) (w : World) : BV.ok X w bv0 := ⟨Nat.le_refl _, Nat.zero_le _, RdV.nil _ _ _, fun i hi => by simp [bv0] at hi, by simp [bv0]⟩
theorem BV.ok.chg (h : BV.ok X w b) (hc : Chg S w w') (hs : ∀ k, k < w.heap.size → X k → ¬ S k) : BV.ok X w' b := ⟨h.1, h.2.1, h.2.2.1.chg hc hs, fun i hi => ⟨(h.2.2.2.1 i hi).1.chg hc hs, (h.2.2.2.1 i hi).2⟩, h.2.2.2.2⟩
theorem BV.ok.mono (h : BV.ok X w b) (hx : ∀ k, k < w.heap.size → X k → Y k) : BV.ok Y w b := ⟨h.1, h.2.1, h.2.2.1.mono hx, fun i hi => ⟨(h.2.2.2.1 i hi).1.mono hx, (h.2.2.2.1 i hi).2⟩, h.2.2.2.2⟩
theorem BV.ok.later (h : BV.ok X w b) (hb : Below w.heap.size w w') : BV.ok X w' b := h.chg (S := fun _ => False) (Chg.of_below hb) fun _ _ _ => id
theorem BV.ok.rd (h : BV.ok X w b) : RdN X w b.v b.is := ⟨b.A, b.c, rfl, h.1, h.2.1, h.2.2.1, h.2.2.2.1⟩
theorem BV.of_own {base : Nat} {v : Value} {is : List IV} (h : OwnN X w base v is) (hl : is.length ≤ 600) : ∃ b : BV, v = b.v ∧ b.is = is ∧ BV.ok (fun k => X k ∨ v.ownBlock = some k) w b := by
  obtain ⟨A, c, h1, h2, h3, h4, h5⟩ := h.rd
  exact ⟨⟨is, A, c⟩, h1, rfl, h2, h3, h4, h5, hl⟩
end
def KB : El BV where
  n := 1
  cells b := [b.v]
  ok := BV.ok
  pos := by omega
  len _ := rfl
  one a u hu := by simp at hu; subst hu; rfl
  chg h hc hs := h.chg hc hs
  mono h hx := h.mono hx
/-- A global. -/
structure GV where
  ty : Int
  mu : Bool
  b : BV
def GV.x (g : GV) : GlobS := (g.ty, g.mu, g.b.x)
def KGl : El GV where
  n := 3
  cells g := [.int .u8 g.ty, .bool g.mu, g.b.v]
  ok X w g := 0 ≤ g.ty ∧ g.ty ≤ 255 ∧ g.b.ok X w
  pos := by omega
  len _ := rfl
  one a u hu := by simp at hu; rcases hu with rfl | rfl | rfl <;> rfl
  chg h hc hs := ⟨h.1, h.2.1, h.2.2.chg hc hs⟩
  mono h hx := ⟨h.1, h.2.1, h.2.2.mono hx⟩
def KEx : El ExpS where
  n := 3
  cells x := [.string (strOfNums x.1), .int .u8 x.2.1, .int .u32 x.2.2]
  ok _ _ x := IsBytes x.1 ∧ x.1.length ≤ 1000000 ∧ 0 ≤ x.2.1 ∧ x.2.1 ≤ 255 ∧ 0 ≤ x.2.2 ∧ x.2.2 < 4294967296
  pos := by omega
  len _ := rfl
  one a u hu := by simp at hu; rcases hu with rfl | rfl | rfl <;> rfl
  chg h _ _ := h
  mono h _ := h
/-- A segment of elements. -/
structure EV where
  mode : Int
  ty : Int
  tb : Int
  off : BV
  is : List BV
  iA : Option Addr
  ic : Nat
def EV.iv (e : EV) : Value := .slice e.iA e.is.length e.ic
def EV.x (e : EV) : ElemS := (e.mode, e.ty, e.tb, e.off.x, e.is.map BV.x)
def KElm : El EV where
  n := 5
  cells e := [.int .u8 e.mode, .int .u8 e.ty, .int .u32 e.tb, e.off.v, e.iv]
  ok X w e := (0 ≤ e.mode ∧ e.mode ≤ 255 ∧ 0 ≤ e.ty ∧ e.ty ≤ 255 ∧ 0 ≤ e.tb ∧ e.tb < 4294967296) ∧ e.off.ok X w ∧ RdE KB X w e.iv e.is ∧ e.is.length ≤ 64
  pos := by omega
  len _ := rfl
  one a u hu := by simp at hu; rcases hu with rfl | rfl | rfl | rfl | rfl <;> rfl
  chg h hc hs := ⟨h.1, h.2.1.chg hc hs, h.2.2.1.chg hc hs, h.2.2.2⟩
  mono h hx := ⟨h.1, h.2.1.mono hx, h.2.2.1.mono hx, h.2.2.2⟩
/-- A code. -/
structure CV where
  ls : List Int
  lA : Option Addr
  lc : Nat
  b : BV
def CV.x (c : CV) : CodeS := (c.ls, c.b.x)
def KCd : El CV where
  n := 2
  cells c := [.slice c.lA c.ls.length c.lc, c.b.v]
  ok X w c := RdX X w c.lA c.ls ∧ c.ls.length ≤ c.lc ∧ c.lc ≤ maxLen ∧ c.ls.length ≤ 64 ∧ c.b.ok X w
  pos := by omega
  len _ := rfl
  one a u hu := by simp at hu; rcases hu with rfl | rfl <;> rfl
  chg h hc hs := ⟨h.1.chg hc hs, h.2.1, h.2.2.1, h.2.2.2.1, h.2.2.2.2.chg hc hs⟩
  mono h hx := ⟨h.1.mono hx, h.2.1, h.2.2.1, h.2.2.2.1, h.2.2.2.2.mono hx⟩
/-- A segment of bytes. -/
structure DV where
  mode : Int
  off : BV
  ys : List Int
  yA : Option Addr
  yc : Nat
def DV.x (d : DV) : DataS := (d.mode, d.off.x, d.ys)
def KDt : El DV where
  n := 3
  cells d := [.int .u8 d.mode, d.off.v, .slice d.yA d.ys.length d.yc]
  ok X w d := (0 ≤ d.mode ∧ d.mode ≤ 255) ∧ d.off.ok X w ∧ RdX X w d.yA d.ys ∧ d.ys.length ≤ d.yc ∧ d.yc ≤ maxLen ∧ d.ys.length ≤ 1000000
  pos := by omega
  len _ := rfl
  one a u hu := by simp at hu; rcases hu with rfl | rfl | rfl <;> rfl
  chg h hc hs := ⟨h.1, h.2.1.chg hc hs, h.2.2.1.chg hc hs, h.2.2.2⟩
  mono h hx := ⟨h.1, h.2.1.mono hx, h.2.2.1.mono hx, h.2.2.2⟩
/-- A list in a field: the value, and what it holds. -/
structure LV (α : Type) where
  A : Option Addr
  c : Nat
  l : List α
def LV.v {α : Type} (x : LV α) : Value := .slice x.A x.l.length x.c
def lv0 (α : Type) : LV α := ⟨none, 0, []⟩
/-- A module as it lies. -/
structure MV where
  t : LV FV
  f : LV Int
  b : LV TabS
  m : LV Lim
  g : LV GV
  x : LV ExpS
  s : Bool
  sn : Int
  e : LV EV
  k : Bool
  kn : Int
  c : LV CV
  d : LV DV
def MV.cells (m : MV) : List Value := [m.t.v, m.f.v, m.b.v, m.m.v, m.g.v, m.x.v, .bool m.s, .int .u32 m.sn, m.e.v, .bool m.k, .int .u32 m.kn, m.c.v, m.d.v]
def mv0 : MV := ⟨lv0 _, lv0 _, lv0 _, lv0 _, lv0 _, lv0 _, false, 0, lv0 _, false, 0, lv0 _, lv0 _⟩
def MV.mo (m : MV) : Mo := ⟨m.t.l.map FV.x, m.f.l, m.b.l, m.m.l, m.g.l.map GV.x, m.x.l, m.s, m.sn, m.e.l.map EV.x, m.k, m.kn, m.c.l.map CV.x, m.d.l.map DV.x⟩
structure MV.ok (X : Nat → Prop) (w : World) (M : MV) : Prop where
  t : RdE KFn X w M.t.v M.t.l
  f : RdE K32 X w M.f.v M.f.l
  b : RdE KTab X w M.b.v M.b.l
  m : RdE KLim X w M.m.v M.m.l
  g : RdE KGl X w M.g.v M.g.l
  x : RdE KEx X w M.x.v M.x.l
  sn : 0 ≤ M.sn ∧ M.sn < 4294967296
  e : RdE KElm X w M.e.v M.e.l
  kn : 0 ≤ M.kn ∧ M.kn < 4294967296
  c : RdE KCd X w M.c.v M.c.l
  d : RdE KDt X w M.d.v M.d.l
theorem MV.ok0 (X : Nat → Prop) (w : World) : MV.ok X w mv0 := ⟨RdE.nil _ _ _, RdE.nil _ _ _, RdE.nil _ _ _, RdE.nil _ _ _, RdE.nil _ _ _, RdE.nil _ _ _, by simp [mv0], RdE.nil _ _ _, by simp [mv0], RdE.nil _ _ _, RdE.nil _ _ _⟩
theorem MV.ok.chg {X S : Nat → Prop} {w w' : World} {m : MV} (h : MV.ok X w m) (hc : Chg S w w') (hs : ∀ k, k < w.heap.size → X k → ¬ S k) : MV.ok X w' m :=
  ⟨h.t.chg hc hs, h.f.chg hc hs, h.b.chg hc hs, h.m.chg hc hs, h.g.chg hc hs, h.x.chg hc hs, h.sn, h.e.chg hc hs, h.kn, h.c.chg hc hs, h.d.chg hc hs⟩
theorem MV.ok.mono {X Y : Nat → Prop} {w : World} {m : MV} (h : MV.ok X w m) (hx : ∀ k, k < w.heap.size → X k → Y k) : MV.ok Y w m :=
  ⟨h.t.mono hx, h.f.mono hx, h.b.mono hx, h.m.mono hx, h.g.mono hx, h.x.mono hx, h.sn, h.e.mono hx, h.kn, h.c.mono hx, h.d.mono hx⟩
theorem RdE.lv {α : Type} {K : El α} {X : Nat → Prop} {w : World} {v : Value} {is : List α} (h : RdE K X w v is) : ∃ x : LV α, v = x.v ∧ x.l = is ∧ RdE K X w x.v x.l := by
  obtain ⟨A, c, h1, h2, h3⟩ := h.form
  subst h1
  exact ⟨⟨A, c, is⟩, rfl, rfl, h⟩
/-- A list that was made: its row, and what the elements lead to, in new blocks. -/
theorem OwnE.made {α : Type} {K : El α} {e : TypeId} {w0 w : World} {v : Value} {is : List α} (h : OwnE K e (fun k => w0.heap.size ≤ k ∧ v.ownBlock ≠ some k) w w0.heap.size v is) : ∃ x : LV α, v = x.v ∧ x.l = is ∧ RdE K (fun k => w0.heap.size ≤ k) w x.v x.l := by
  refine (h.rd.mono fun k _ hk => ?_).lv
  rcases hk with hk | hk
  · exact hk.1
  · exact owns_ge h.1 hk
end Go.Proofs.YtadgiekiiicmfaaGreatDoor
