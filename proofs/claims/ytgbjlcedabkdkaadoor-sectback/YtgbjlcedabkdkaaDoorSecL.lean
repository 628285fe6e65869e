/- Lists of sections in memory. No function of the program. -/
import Derived.Test.YtgbjlcedabkdkaaDoorSectMath
import Derived.Test.YtgbjlcedabkdkaaDoorNums
namespace Go.Proofs.YtgbjlcedabkdkaaDoor
open Go.RowKit
set_option maxRecDepth 100000
set_option linter.unusedVariables false

/-- A section, and where its bytes lie. -/
structure SV where
  id : Int
  y : List Int
  A : Option Addr
  c : Nat
def SV.cells (i : SV) : List Value := [.int .u8 i.id, .slice i.A i.y.length i.c]
def SV.sec (i : SV) : Sec := (i.id, i.y)
def flatS : List SV → List Value
  | [] => []
  | i :: is => i.cells ++ flatS is
theorem flatS_app (a b : List SV) : flatS (a ++ b) = flatS a ++ flatS b := by
  induction a with
  | nil => rfl
  | cons i a ih => simp [flatS, ih]
theorem flatS_len (a : List SV) : (flatS a).length = a.length * 2 := by
  induction a with
  | nil => rfl
  | cons i a ih => simp [flatS, ih, SV.cells]; omega
theorem flatS_get (a : List SV) : ∀ (j : Nat) (i : SV), a[j]? = some i → ∀ k, k < 2 → (flatS a)[j * 2 + k]? = (i.cells)[k]? := by
  induction a with
  | nil => intro j i h; simp at h
  | cons y a ih =>
    intro j i h k hk
    have hl : y.cells.length = 2 := rfl
    cases j with
    | zero =>
      simp at h; subst h
      rw [flatS, List.getElem?_append_left (by omega)]
      congr 1; omega
    | succ j =>
      rw [flatS, List.getElem?_append_right (by omega), hl, show (j + 1) * 2 + k - 2 = j * 2 + k from by omega]
      exact ih j i (by simpa using h) k hk
theorem flatS_one (a : List SV) : ∀ u ∈ flatS a, u.oneCell' = true := by
  induction a with
  | nil => intro u hu; simp [flatS] at hu
  | cons i a ih =>
    intro u hu
    rw [flatS, List.mem_append] at hu
    rcases hu with h | h
    · simp [SV.cells] at h
      rcases h with rfl | rfl <;> rfl
    · exact ih u h
/-- A section's bytes, in blocks of X. -/
def SecX (X : Nat → Prop) (w : World) (i : SV) : Prop := 0 ≤ i.id ∧ i.id ≤ 255 ∧ RdX X w i.A i.y ∧ i.y.length ≤ i.c ∧ i.c ≤ maxLen ∧ i.y.length ≤ 1000000
/-- Sections (elements of the type e) in a row of the call's own; their bytes in blocks of X, which has not the row's. -/
def OwnS (e : TypeId) (X : Nat → Prop) (w : World) (base : Nat) (v : Value) (is : List SV) : Prop :=
  w.ownsRow base e 2 v is.length (flatS is) ∧ (∀ i ∈ is, SecX X w i) ∧ ∀ k, v.ownBlock = some k → ¬ X k
/-- Sections that are read, in blocks of X. -/
def RdS (X : Nat → Prop) (w : World) (v : Value) (is : List SV) : Prop :=
  ∃ A c, v = .slice A is.length c ∧ is.length ≤ c ∧ c ≤ maxLen ∧ RdV X w A (flatS is) ∧ ∀ i ∈ is, SecX X w i
section
variable {X Y S : Nat → Prop} {w w' : World} {base : Nat} {v : Value} {is : List SV} {e : TypeId} {i : SV}
theorem SecX.chg (h : SecX X w i) (hc : Chg S w w') (hs : ∀ k, k < w.heap.size → X k → ¬ S k) : SecX X w' i := ⟨h.1, h.2.1, h.2.2.1.chg hc hs, h.2.2.2⟩
theorem SecX.later (h : SecX X w i) (hb : Below w.heap.size w w') : SecX X w' i := h.chg (S := fun _ => False) (Chg.of_below hb) fun _ _ _ => id
theorem SecX.mono (h : SecX X w i) (hx : ∀ k, k < w.heap.size → X k → Y k) : SecX Y w i := ⟨h.1, h.2.1, h.2.2.1.mono hx, h.2.2.2⟩
theorem OwnS.nil (e : TypeId) (X : Nat → Prop) (w : World) (base : Nat) : OwnS e X w base (.slice none 0 0) [] := ⟨World.ownsRow_nil w base _ _, fun i hi => by simp at hi, fun k hk => by simp [Value.ownBlock] at hk⟩
theorem OwnS.chg (h : OwnS e X w base v is) (hc : Chg S w w') (hs : ∀ k, k < w.heap.size → X k → ¬ S k) (hv : ∀ k, v.ownBlock = some k → ¬ S k) : OwnS e X w' base v is :=
  ⟨owns_chg h.1 hc hv, fun i hi => (h.2.1 i hi).chg hc hs, h.2.2⟩
theorem OwnS.later (h : OwnS e X w base v is) (hb : Below w.heap.size w w') : OwnS e X w' base v is := h.chg (S := fun _ => False) (Chg.of_below hb) (fun _ _ _ => id) fun _ _ => id
theorem OwnS.mono (h : OwnS e X w base v is) (hx : ∀ k, k < w.heap.size → X k → Y k) (hv : ∀ k, v.ownBlock = some k → ¬ Y k) : OwnS e Y w base v is := ⟨h.1, fun i hi => (h.2.1 i hi).mono hx, hv⟩
theorem OwnS.rd (h : OwnS e X w base v is) : RdS (fun k => X k ∨ v.ownBlock = some k) w v is := by
  obtain ⟨A, c, hv, hn, hm, hr⟩ := RdV.of_own h.1
  exact ⟨A, c, hv, hn, hm, hr.mono fun k _ e => .inr e, fun i hi => (h.2.1 i hi).mono fun k _ e => .inl e⟩
theorem RdS.mono (h : RdS X w v is) (hx : ∀ k, k < w.heap.size → X k → Y k) : RdS Y w v is := by
  obtain ⟨A, c, h1, h2, h3, h4, h5⟩ := h
  exact ⟨A, c, h1, h2, h3, h4.mono hx, fun i hi => (h5 i hi).mono hx⟩
theorem RdS.chg (h : RdS X w v is) (hc : Chg S w w') (hs : ∀ k, k < w.heap.size → X k → ¬ S k) : RdS X w' v is := by
  obtain ⟨A, c, h1, h2, h3, h4, h5⟩ := h
  exact ⟨A, c, h1, h2, h3, h4.chg hc hs, fun i hi => (h5 i hi).chg hc hs⟩
theorem RdS.later (h : RdS X w v is) (hb : Below w.heap.size w w') : RdS X w' v is := h.chg (S := fun _ => False) (Chg.of_below hb) fun _ _ _ => id
theorem RdS.nil (X : Nat → Prop) (w : World) : RdS X w (.slice none 0 0) [] := ⟨none, 0, rfl, Nat.le_refl _, Nat.zero_le _, RdV.nil _ _ _, fun i hi => by simp at hi⟩
/-- One element, where the walk wants it. -/
theorem RdS.at_ {A : Option Addr} {c n : Nat} (h : RdS X w (.slice A n c) is) {j : Nat} {i : SV} (hj : is[j]? = some i) : ∃ b o, A = some ⟨b, o, none⟩ ∧ X b ∧ b < w.heap.size ∧ w.cell? ⟨b, o + j * 2, none⟩ = some (.int .u8 i.id) ∧ w.cell? ⟨b, o + j * 2 + 1, none⟩ = some (.slice i.A i.y.length i.c) ∧ SecX X w i := by
  obtain ⟨A', c', h1, h2, h3, h4, h5⟩ := h
  injection h1 with e1 e2 e3
  subst e1
  have hlt : j < is.length := (List.getElem?_eq_some_iff.1 hj).1
  obtain ⟨b, o, rfl, hX, hb, hc⟩ := h4.spot (by rw [flatS_len]; omega)
  have g := fun k hk => flatS_get is j i hj k hk
  refine ⟨b, o, rfl, hX, hb, ?_, ?_, h5 i (List.mem_of_getElem? hj)⟩
  · exact hc (j * 2) _ (by have := g 0 (by omega); rw [Nat.add_zero] at this; rw [this]; rfl)
  · rw [Nat.add_assoc]; exact hc _ _ (by rw [g 1 (by omega)]; rfl)
end
/-- The block that was just built for some sections. -/
theorem rdV_sec (w : World) (e : TypeId) (is : List SV) : RdV (fun k => k = w.heap.size) (w.alloc (.cells (flatS is).toArray e)) (some ⟨w.heap.size, 0, none⟩) (flatS is) := fun j u hu => by
  refine ⟨_, rfl, rfl, ?_⟩
  have h := (Own.new w e (flatS is)).cell j
  rw [addPlain, Nat.zero_add, h, hu]
/-- append(s, x...), of sections. -/
theorem wpList_appS {X Y : Nat → Prop} {t e : TypeId} (hu : Tryd.prog.underlying t = some (.slice e)) (hinf : (Tryd.prog.info? e).map (fun i => (i.zero, i.size, i.bytes)) = some (some (.agg #[.int .u8 0, .slice none 0 0]), 2, 32))
    {ops : Array Oper} {rest : List Oper} {o : Oper} {a : Act} {Q : Exit → Act → World → Prop} {w : World} (hgd : o.guard = none) (s x : Operand)
    (ho : o.op = .call { callee := .builtin .append, args := #[s, x], argTypes := #[t, t] }) (base : Nat) (v : Value) (is : List SV) (hs : a.eval s = v) (hown : OwnS e X w base v is)
    (A : Option Addr) (m c : Nat) (js : List SV) (hx : a.eval x = .slice A m c) (hm : m = js.length) (hr : RdV Y w A (flatS js)) (hj : ∀ i ∈ js, SecX X w i) (hlen : is.length + m ≤ 1000000000) (hbase : base ≤ w.heap.size)
    (h : ∀ v' w', OwnS e (fun k => X k ∧ k < w.heap.size) w' base v' (is ++ js) → Grew v w v' w' → wpList Tryd.prog ops Q rest (a.put o.dst v') w') : wpList Tryd.prog ops Q (o :: rest) a w := by
  subst hm
  refine wpList_appG hu hinf rfl (by omega) hgd s x ho base v is.length _ hs hown.1 A js.length c (flatS js) hx (flatS_len js) hr (flatS_one js) (by simp only [maxLen]; omega) (by omega) hbase fun v' w' h1 h2 h3 => ?_
  have hg := Grew.of_grown h2 h3
  refine h v' w' ⟨by rw [List.length_append, flatS_app]; exact h1, fun i hi => ?_, fun k hk => ?_⟩ hg
  · have : SecX X w i := by
      rcases List.mem_append.1 hi with h | h
      · exact hown.2.1 i h
      · exact hj i h
    exact (this.mono (Y := fun k => X k ∧ k < w.heap.size) fun k hk hx => ⟨hx, hk⟩).chg hg.1 fun k _ hk e => hown.2.2 k e hk.1
  · rintro ⟨k1, k2⟩
    rcases hg.2 k hk with e | e
    · exact hown.2.2 k e k1
    · omega
/-- append(s, x): one section more, out of the block that was just built for it. -/
theorem wpList_appS1 {X : Nat → Prop} {t e : TypeId} (hu : Tryd.prog.underlying t = some (.slice e)) (hinf : (Tryd.prog.info? e).map (fun i => (i.zero, i.size, i.bytes)) = some (some (.agg #[.int .u8 0, .slice none 0 0]), 2, 32))
    {ops : Array Oper} {rest : List Oper} {o : Oper} {a : Act} {Q : Exit → Act → World → Prop} {w : World} (hgd : o.guard = none) (s x : Operand)
    (ho : o.op = .call { callee := .builtin .append, args := #[s, x], argTypes := #[t, t] }) (base : Nat) (v : Value) (is : List SV) (hs : a.eval s = v) (hown : OwnS e X w base v is)
    (i : SV) (hi : SecX X w i) (hx : a.eval x = .slice (some ⟨w.heap.size, 0, none⟩) 1 1) (hlen : is.length + 1 ≤ 1000000000) (hbase : base ≤ w.heap.size)
    (h : ∀ v' w', OwnS e (fun k => X k ∧ k < w.heap.size) w' base v' (is ++ [i]) → Grew v w v' w' → wpList Tryd.prog ops Q rest (a.put o.dst v') w') :
    wpList Tryd.prog ops Q (o :: rest) a (w.alloc (.cells #[.int .u8 i.id, .slice i.A i.y.length i.c] e)) := by
  have hb : Below w.heap.size w (w.alloc (.cells #[.int .u8 i.id, .slice i.A i.y.length i.c] e)) := (Below.refl _ _).alloc (Nat.le_refl _) _
  have hX : ∀ k, k < w.heap.size → X k → (X k ∧ k < w.heap.size) := fun k hk hx => ⟨hx, hk⟩
  have hown2 : OwnS e (fun k => X k ∧ k < w.heap.size) w base v is := hown.mono hX fun k hk e => hown.2.2 k hk e.1
  refine wpList_appS hu hinf hgd s x ho base v is hs (hown2.later hb) _ 1 1 [i] hx rfl (rdV_sec w e [i]) (fun j hj => ?_) hlen (by simp; omega) fun v' w' h1 h2 => h v' w' (h1.mono (fun k _ hk => hk.1) fun k hk e => ?_) (h2.before hb fun k hk => owns_lt hown.1 hk)
  · simp only [List.mem_singleton] at hj; subst hj; exact (hi.mono hX).later hb
  · exact h1.2.2 k hk ⟨e, by simp; omega⟩
theorem under_secs : Tryd.prog.underlying 24 = some (.slice 33) := Tryd.underlying24
theorem sec_info : (Tryd.prog.info? 33).map (fun i => (i.zero, i.size, i.bytes)) = some (some (.agg #[.int .u8 0, .slice none 0 0]), 2, 32) := by kernel_rfl
theorem under_rsecs : Tryd.prog.underlying 28 = some (.slice 34) := Tryd.underlying28
theorem rsec_info : (Tryd.prog.info? 34).map (fun i => (i.zero, i.size, i.bytes)) = some (some (.agg #[.int .u8 0, .slice none 0 0]), 2, 32) := by kernel_rfl
end Go.Proofs.YtgbjlcedabkdkaaDoor
