/- Regions that draw their order, by what each operation leaves in its slot. No function of the program. -/
import Derived.Test.YtdngkbagfaeplaaJoin10
import Derived.Orders
namespace Go.Proofs.Ytdngkbagfaeplaa
open Go.RowKit
set_option maxRecDepth 100000
set_option linter.unusedVariables false

/-- How the world may turn meanwhile: below B nothing; cells and shapes stay. -/
structure Rg (B : Nat) (w w' : World) : Prop where
  below : Below B w w'
  cell : ∀ a v, w.cell? a = some v → w'.cell? a = some v
  shape : ∀ k s, w.shape? k = some s → w'.shape? k = some s
theorem Rg.refl (B : Nat) (w : World) : Rg B w w := ⟨Below.refl _ _, fun _ _ h => h, fun _ _ h => h⟩
theorem shape_lt {w : World} {k : Nat} {s : TypeId × Nat} (h : w.shape? k = some s) : k < w.heap.size := by
  unfold World.shape? at h
  rcases Nat.lt_or_ge k w.heap.size with h1 | h1
  · exact h1
  · rw [Array.getElem?_eq_none h1] at h; cases h
theorem Rg.of {B : Nat} {w w' : World} (h : Below w.heap.size w w') (hB : B ≤ w.heap.size) : Rg B w w' :=
  ⟨h.mono hB, fun a v e => by rw [h.cell (World.block_lt_of_cell? _ _ e)]; exact e, fun k s e => by
    have := shape_lt e
    unfold World.shape? at e ⊢
    rw [h.block k this]; exact e⟩
theorem Rg.frz {B g k : Nat} {w : World} (hg : B ≤ g) : Rg B w (w.freeze ⟨g, k, none⟩ 1) :=
  ⟨frz_below (Below.refl _ _) hg, fun a v e => by rw [freeze_cell]; exact e, fun j s e => by
    unfold World.shape? at e ⊢
    unfold World.freeze
    rw [if_neg (by decide)]
    simp only [Array.getElem?_modify]
    by_cases h : g = j
    · rw [if_pos h]
      cases hb : w.heap[j]? with
      | none => rw [hb] at e; cases e
      | some o => rw [hb] at e; cases o <;> first | exact e | cases e
    · rw [if_neg h]; exact e⟩
theorem RdV.rg {X : Nat → Prop} {B : Nat} {w w' : World} {A : Option Addr} {vs : List Value} (h : RdV X w A vs) (hr : Rg B w w') : RdV X w' A vs := fun j u hu => by
  obtain ⟨ad, q1, q2, q3⟩ := h j u hu
  exact ⟨ad, q1, q2, hr.cell _ _ q3⟩
theorem SlV.rg {B : Nat} {w w' : World} {u : Value} {l : List Int} (h : SlV w u l) (hr : Rg B w w') : SlV w' u l := by
  obtain ⟨A, d, e, h1, h2, h3, h4⟩ := h
  exact ⟨A, d, e, h1, h2, h3, h4.rg hr⟩
theorem RdL.rg {X : Nat → Prop} {B : Nat} {w w' : World} {u : Value} {ls : List (List Int)} (h : RdL X w u ls) (hr : Rg B w w') : RdL X w' u ls := by
  obtain ⟨A, c, vs, e, h1, h2, h3, h4⟩ := h
  exact ⟨A, c, vs, e, h1, h2, h3.rg hr, h4.mono fun u l ⟨B, d, q1, q2, q3, q4, q5⟩ => ⟨B, d, q1, q2, q3, q4, q5.rg hr⟩⟩
theorem conv_shape {w : World} {g m : Nat} (h : w.shape? g = some (5, m)) (n c : Nat) : (convert 44 44 (.slice (some ⟨g, 0, none⟩) n c)).run Try.prog w = .ok (.slice (some ⟨g, 0, none⟩) n c) (w.freeze ⟨g, m, none⟩ 1) := by
  simp [convert, run_underlying under_bytes, run_underlying under_byte, markStringish, h]

/-- What one operation does: a value in its slot, D of it. -/
def Leaves (D : Nat → Value → World → Prop) (B : Nat) (o : Oper) (a : Act) (w : World) (a' : Act) (w' : World) : Prop :=
  ∃ v, a' = a.put o.dst v ∧ Rg B w w' ∧ ∀ d, o.dst = some d → D d v w'
/-- The obligation of operation number i. -/
def Ob (D : Nat → Value → World → Prop) (B : Nat) (w1 : World) (N : Nat) (need : Nat → List Nat) (Q : Exit → Act → World → Prop) (i : Nat) (o : Oper) : Prop :=
  ∀ (a : Act) (w : World), Below B w1 w → (∀ s, s ∈ need i → D s (a.eval (.tmp s)) w) → o.wp Try.prog a w (Leaves D B o a w) Q
def Obs (D : Nat → Value → World → Prop) (B : Nat) (w1 : World) (N : Nat) (need : Nat → List Nat) (Q : Exit → Act → World → Prop) : Nat → List Oper → Prop
  | _, [] => True
  | i, o :: r => Ob D B w1 N need Q i o ∧ Obs D B w1 N need Q (i + 1) r
theorem Obs.get {D : Nat → Value → World → Prop} {B : Nat} {w1 : World} {N : Nat} {need : Nat → List Nat} {Q : Exit → Act → World → Prop} : ∀ (l : List Oper) (k i : Nat) (o : Oper), Obs D B w1 N need Q k l → l[i]? = some o → Ob D B w1 N need Q (k + i) o
  | [], k, i, o, _, h => by simp at h
  | x :: r, k, 0, o, hh, h => by simp at h; subst h; exact hh.1
  | x :: r, k, i + 1, o, hh, h => by
    have := Obs.get r (k + 1) i o hh.2 (by simpa using h)
    rwa [show k + 1 + i = k + (i + 1) from by omega] at this
/-- The checks on the text of a region: none is guarded; each writes a slot of its own below N, which was not known; what is needed is known, or was left by one that it waits for. -/
def chk (ops : Array Oper) (N : Nat) (known : List Nat) (need : Nat → List Nat) : Bool :=
  (List.range ops.size).all fun i => match ops[i]? with
    | none => true
    | some o => (o.guard.isNone && o.after.all fun e => decide (e.on < i)) && (match o.dst with
        | none => true
        | some d => decide (d < N) && !known.contains d && (List.range ops.size).all fun j => i == j || ((ops[j]?).bind (·.dst)) != some d) &&
      (need i).all fun s => known.contains s || o.after.any fun e => Region.binds .any e && ((ops[e.on]?).bind (·.dst)) == some s
/-- What holds in the middle. -/
structure Mid (ops : Array Oper) (D : Nat → Value → World → Prop) (B : Nat) (w1 : World) (N : Nat) (known : List Nat) (listed : Array Bool) (a : Act) (w : World) : Prop where
  defers : a.defers = []
  size : a.tmps.size = N
  below : Below B w1 w
  known : ∀ s, s ∈ known → D s (a.eval (.tmp s)) w
  done : ∀ j o d, ops[j]? = some o → listed.getD j false = true → o.dst = some d → D d (a.eval (.tmp d)) w
  lsize : listed.size = ops.size
def undone (listed : Array Bool) : Nat := (listed.toList.filter (! ·)).length
theorem undone_set {listed : Array Bool} {i : Nat} (h : listed.getD i true = false) : undone listed = undone (listed.setIfInBounds i true) + 1 := by
  unfold undone
  rw [Array.toList_setIfInBounds]
  have hl : listed.toList[i]? = some false := by
    rw [Array.getElem?_toList]
    cases hb : listed[i]? with
    | none => rw [Array.getD_eq_getD_getElem?, hb] at h; cases h
    | some b => rw [Array.getD_eq_getD_getElem?, hb] at h; simp at h; rw [h]
  generalize listed.toList = l at hl ⊢
  clear h
  induction l generalizing i with
  | nil => simp at hl
  | cons x l ih =>
    cases i with
    | zero => simp at hl; subst hl; simp
    | succ i =>
      have := ih (i := i) (by simpa using hl)
      simp only [List.set_cons_succ, List.filter_cons]
      split <;> simp_all
theorem eval_put_self {a : Act} {d : Nat} {v : Value} (h : d < a.tmps.size) : (a.put (some d) v).eval (.tmp d) = v := by
  simp [Act.put, Act.eval, h]
theorem wpAny_posts {ops : Array Oper} {D : Nat → Value → World → Prop} {B : Nat} {w1 : World} {N : Nat} {known : List Nat} {need : Nat → List Nat} {Q : Exit → Act → World → Prop}
    (hchk : chk ops N known need = true) (hst : ∀ d v w w', D d v w → Rg B w w' → D d v w') (hob : Obs D B w1 N need Q 0 ops.toList)
    (hend : ∀ a w, a.defers = [] → a.tmps.size = N → Below B w1 w → (∀ s, s ∈ known → D s (a.eval (.tmp s)) w) → (∀ (j : Nat) (o : Oper) (d : Nat), ops[j]? = some o → o.dst = some d → D d (a.eval (.tmp d)) w) → Q .normal a w) :
    ∀ (fuel : Nat) (listed : Array Bool) (a : Act) (w : World), undone listed = fuel → Mid ops D B w1 N known listed a w → wpAny Try.prog .any ops Q fuel listed a w := by
  have hE : ∀ (listed : Array Bool) (a : Act) (w : World), Mid ops D B w1 N known listed a w → (∀ j, j < ops.size → listed.getD j false = true) → Q .normal a w := fun listed a w hm hall =>
    hend a w hm.defers hm.size hm.below hm.known fun j o d hj hd => hm.done j o d hj (hall j (Array.getElem?_eq_some_iff.1 hj).1) hd
  have hcount : ∀ listed : Array Bool, undone listed = 0 → ∀ j, j < listed.size → listed.getD j false = true := fun listed h j hj => by
    unfold undone at h
    have h1 := List.length_eq_zero_iff.1 h
    rw [List.filter_eq_nil_iff] at h1
    have h2 := h1 (listed[j]) (by rw [← Array.getElem_toList]; exact List.getElem_mem _)
    rw [Array.getD_eq_getD_getElem?, Array.getElem?_eq_getElem hj]
    simpa using h2
  intro fuel
  induction fuel with
  | zero =>
    intro listed a w hf hm
    have hall := hcount listed hf
    refine ⟨?_, hE listed a w hm fun j hj => hall j (by rw [hm.lsize]; exact hj)⟩
    rw [List.eq_nil_iff_forall_not_mem]
    intro j hj
    obtain ⟨h1, o, ho, -⟩ := mem_ready.1 hj
    have hlt := (Array.getElem?_eq_some_iff.1 ho).1
    have := hall j (by rw [hm.lsize]; exact hlt)
    rw [Array.getD_eq_getD_getElem?] at this h1
    rw [Array.getElem?_eq_getElem (by rw [hm.lsize]; exact hlt)] at this h1
    simp at this h1
    rw [this] at h1; cases h1
  | succ fuel ih =>
    intro listed a w hf hm
    refine ⟨fun hr => ?_, fun i hi => ?_⟩
    · refine hE listed a w hm fun j => ?_
      induction j using Nat.strongRecOn with
      | ind j ihj =>
        intro hj
        cases hb : listed.getD j false with
        | true => rfl
        | false =>
          exfalso
          have hmem : j ∈ Region.ready .any ops listed := by
            refine mem_ready.2 ⟨?_, ops[j], Array.getElem?_eq_getElem hj, fun e he _ => ?_⟩
            · rw [Array.getD_eq_getD_getElem?, Array.getElem?_eq_getElem (by rw [hm.lsize]; exact hj)] at hb ⊢
              exact hb
            · have hc := List.all_eq_true.1 hchk j (List.mem_range.2 hj)
              rw [Array.getElem?_eq_getElem hj] at hc
              simp only [Bool.and_eq_true] at hc
              have h1 := (Array.all_eq_true_iff_forall_mem.1 hc.1.1.2) e he
              have h2 : e.on < j := by simpa using h1
              exact ihj e.on h2 (by omega)
          rw [hr] at hmem
          cases hmem
    · obtain ⟨h1, o, ho, hafter⟩ := mem_ready.1 hi
      have hlt := (Array.getElem?_eq_some_iff.1 ho).1
      have hc := List.all_eq_true.1 hchk i (List.mem_range.2 hlt)
      rw [ho] at hc
      simp only [Bool.and_eq_true] at hc
      obtain ⟨⟨⟨hg, -⟩, hd⟩, hn⟩ := hc
      have hob' := Obs.get ops.toList 0 i o hob (by rw [Array.getElem?_toList]; exact ho)
      rw [Nat.zero_add] at hob'
      have hneed : ∀ s, s ∈ need i → D s (a.eval (.tmp s)) w := fun s hs => by
        have := List.all_eq_true.1 hn s hs
        rw [Bool.or_eq_true] at this
        rcases this with h | h
        · exact hm.known s (by simpa using h)
        · obtain ⟨e, he, h⟩ := Array.any_eq_true'.1 h
          rw [Bool.and_eq_true] at h
          have hl := hafter e he h.1
          have h2 : ((ops[e.on]?).bind (·.dst)) = some s := by simpa using h.2
          cases hj : ops[e.on]? with
          | none => rw [hj] at h2; cases h2
          | some o' => rw [hj] at h2; exact hm.done e.on o' s hj hl h2
      have hwp := hob' a w hm.below hneed
      have hw : Region.wanted o (yielded ops a.tmps) = true := by
        have : o.guard = none := by simpa using hg
        simp [Region.wanted, this]
      unfold wpOp
      rw [ho]
      simp only []
      rw [if_pos hw]
      refine .inl (Oper.wp_mono (fun a' w' hl => ?_) hwp)
      obtain ⟨v, rfl, hr, hv⟩ := hl
      have hlist : ∀ j, (listed.setIfInBounds i true).getD j false = true → j = i ∨ listed.getD j false = true := fun j hj => by
        by_cases hji : i = j
        · exact .inl hji.symm
        · right
          rw [Array.getD_eq_getD_getElem?, Array.getElem?_setIfInBounds_ne hji] at hj
          rw [Array.getD_eq_getD_getElem?]; exact hj
      refine ih _ _ _ (by have := undone_set h1; omega) ⟨?_, ?_, hm.below.trans hr.below, fun s hs => ?_, fun j o' d hj hl hd' => ?_, by rw [Array.size_setIfInBounds]; exact hm.lsize⟩
      · cases o.dst <;> exact hm.defers
      · cases h : o.dst with
        | none => exact hm.size
        | some d => simp [Act.put, hm.size]
      · have hne : ∀ d, o.dst = some d → Operand.tmp s ≠ .tmp d := fun d e e2 => by
          injection e2 with e2
          subst e2
          rw [e] at hd
          simp only [Bool.and_eq_true] at hd
          have := hd.1.2
          simp at this
          exact this hs
        rw [Act.eval_put hne]
        exact hst _ _ _ _ (hm.known s hs) hr
      · rcases hlist j hl with rfl | hl'
        · rw [ho] at hj
          injection hj with hj
          subst hj
          rw [hd']
          rw [hd'] at hd
          simp only [Bool.and_eq_true, decide_eq_true_eq] at hd
          rw [eval_put_self (by rw [hm.size]; exact hd.1.1)]
          exact hv d hd'
        · by_cases hji : j = i
          · subst hji
            rw [ho] at hj
            injection hj with hj
            subst hj
            rw [hd']
            rw [hd'] at hd
            simp only [Bool.and_eq_true, decide_eq_true_eq] at hd
            rw [eval_put_self (by rw [hm.size]; exact hd.1.1)]
            exact hv d hd'
          · have hne : ∀ d2, o.dst = some d2 → Operand.tmp d ≠ .tmp d2 := fun d2 e e2 => by
              injection e2 with e2
              subst e2
              rw [e] at hd
              simp only [Bool.and_eq_true] at hd
              have := List.all_eq_true.1 hd.2 j (List.mem_range.2 (Array.getElem?_eq_some_iff.1 hj).1)
              rw [hj] at this
              simp [hd'] at this
              exact hji this.symm
            rw [Act.eval_put hne]
            exact hst _ _ _ _ (hm.done j o' d hj hl' hd') hr
/-- A region that draws, by what each of its operations leaves. -/
theorem wp_posts {id : Nat} {ops : Array Oper} {D : Nat → Value → World → Prop} {B : Nat} {N : Nat} {known : List Nat} {need : Nat → List Nat} {Q : Exit → Act → World → Prop} {a0 : Act} {w1 : World}
    (hm : Try.prog.follows .mixedOrders = true) (hchk : chk ops N known need = true) (hst : ∀ d v w w', D d v w → Rg B w w' → D d v w')
    (hd : a0.defers = []) (hs : a0.tmps.size = N) (hk : ∀ s, s ∈ known → D s (a0.eval (.tmp s)) w1) (hob : Obs D B w1 N need Q 0 ops.toList)
    (hend : ∀ a w, a.defers = [] → a.tmps.size = N → Below B w1 w → (∀ s, s ∈ known → D s (a.eval (.tmp s)) w) → (∀ (j : Nat) (o : Oper) (d : Nat), ops[j]? = some o → o.dst = some d → D d (a.eval (.tmp d)) w) → Q .normal a w) :
    (Code.region id ops true).wp Try.prog Q a0 w1 := by
  have hb : Below B w1 w1.drew := (Below.refl _ _).drew
  refine wp_region_any hm (wpAny_posts (w1 := w1) hchk hst hob hend ops.size _ a0 w1.drew ?_ ⟨hd, hs, hb, fun s h => hst s _ _ _ (hk s h) ⟨hb, fun _ _ e => e, fun _ _ e => e⟩, fun j o d _ h => ?_, by simp⟩)
  · simp [undone]
  · exfalso
    rw [Array.getD_eq_getD_getElem?] at h
    by_cases hj : j < ops.size
    · simp [hj] at h
    · simp [hj] at h
section
variable {D : Nat → Value → World → Prop} {B : Nat} {o : Oper} {a : Act} {w w' : World} {Q : Exit → Act → World → Prop} {v : Value}
theorem ob_val (h : (execOp a.eval o).run Try.prog w = .ok (.value v) w') (hr : Rg B w w') (hv : ∀ d, o.dst = some d → D d v w') : o.wp Try.prog a w (Leaves D B o a w) Q := by
  unfold Oper.wp
  rw [h]
  exact ⟨v, rfl, hr, hv⟩
theorem ob_build {t : TypeId} {len : Nat} {parts : Array (Nat × Operand)} {vs : Array (Nat × Value)} (ho : o.op = .buildSlice t len parts) (hp : (parts.map fun (i, x) => (i, a.eval x)) = vs) (h : (Instr.buildSlice t len vs).run Try.prog w = .ok v w')
    (hr : Rg B w w') (hv : ∀ d, o.dst = some d → D d v w') : o.wp Try.prog a w (Leaves D B o a w) Q := by
  subst hp
  refine ob_val ?_ hr hv
  unfold execOp
  simp only [ho, Sem.run_bind, h, Result.andThen_ok]
  rfl
theorem ob_conv {s t : TypeId} {x : Operand} {u : Value} (ho : o.op = .convert s t x) (hx : a.eval x = u) (h : (convert s t u).run Try.prog w = .ok v w') (hr : Rg B w w') (hv : ∀ d, o.dst = some d → D d v w') : o.wp Try.prog a w (Leaves D B o a w) Q := by
  subst hx
  refine ob_val ?_ hr hv
  unfold execOp
  simp only [ho, Sem.run_bind, h, Result.andThen_ok]
  rfl
theorem ob_call {F : Nat} {args : Array Value} {l : List Int} (hrun : (execOp a.eval o).run Try.prog w = .ok (.enter F args) w) (hc : Calls Try.prog F args w (WPost l w)) (hI : IsBytes l) (hB : B ≤ w.heap.size)
    (hv : ∀ (A : Option Addr) (c : Nat) (w' : World), SlV w' (.slice A l.length c) l → Rg B w w' → ∀ d, o.dst = some d → D d (.slice A l.length c) w') : o.wp Try.prog a w (Leaves D B o a w) Q := by
  unfold Oper.wp
  rw [hrun]
  refine hc.mono fun e w' hP => ?_
  obtain ⟨A, c, rfl, -, hS, hb⟩ := hP.sl hI
  exact ⟨_, rfl, Rg.of hb hB, hv A c w' hS (Rg.of hb hB)⟩
end
/-- What stays while the world turns so. -/
def Stab (B : Nat) (P : Value → World → Prop) : Prop := ∀ v w w', P v w → Rg B w w' → P v w'
def AllS (B : Nat) : List (Value → World → Prop) → Prop
  | [] => True
  | P :: r => Stab B P ∧ AllS B r
def poT : Value → World → Prop := fun _ _ => True
def poE (u : Value) : Value → World → Prop := fun v _ => v = u
def poS (l : List Int) : Value → World → Prop := fun v w => SlV w v l
def poM (B n : Nat) (l : List Int) : Value → World → Prop := fun v w => ∃ g, v = .slice (some ⟨g, 0, none⟩) n n ∧ B ≤ g ∧ w.shape? g = some (5, n) ∧ SlV w v l
def poL (n : Nat) (ls : List (List Int)) : Value → World → Prop := fun v w => ∃ A, v = .slice A n n ∧ RdL (fun _ => True) w v ls
theorem stT (B : Nat) : Stab B poT := fun _ _ _ _ _ => trivial
theorem stE (B : Nat) (u : Value) : Stab B (poE u) := fun _ _ _ h _ => h
theorem stS (B : Nat) (l : List Int) : Stab B (poS l) := fun _ _ _ h hr => h.rg hr
theorem stM (B n : Nat) (l : List Int) : Stab B (poM B n l) := fun _ _ _ ⟨g, h1, h2, h3, h4⟩ hr => ⟨g, h1, h2, hr.shape _ _ h3, h4.rg hr⟩
theorem stL (B n : Nat) (ls : List (List Int)) : Stab B (poL n ls) := fun _ _ _ ⟨A, h1, h2⟩ hr => ⟨A, h1, h2.rg hr⟩
theorem AllS.get {B : Nat} : ∀ (L : List (Value → World → Prop)) (h : AllS B L) (d : Nat), Stab B (L.getD d poT)
  | [], _, d => by simp only [List.getD_nil]; exact stT B
  | P :: r, h, 0 => h.1
  | P :: r, h, d + 1 => AllS.get r h.2 d
theorem shape_new (w : World) (C : Array Value) (e : TypeId) : (w.alloc (.cells C e)).shape? w.heap.size = some (e, C.size) := by
  have : (w.alloc (.cells C e)).heap[w.heap.size]? = some (.cells C e) := by
    show (w.heap.push (.cells C e))[w.heap.size]? = _
    simp
  unfold World.shape?
  rw [this]
/-- A literal of bytes, at one stroke. -/
theorem run_byteL (l : List Int) (hp : 0 < l.length) (hs : l.length ≤ 1000) (w : World) :
    (Instr.buildSlice 44 l.length (((l.map (Value.int .u8)).zipIdx 0).map fun x => (x.2, x.1)).toArray).run Try.prog w = .ok (.slice (some ⟨w.heap.size, 0, none⟩) l.length l.length) (w.alloc (.cells (l.map (Value.int .u8)).toArray 5)) := by
  have hb := byte_info
  cases hie : Try.prog.info? 5 with
  | none => simp [hie] at hb
  | some ie =>
    simp only [hie, Option.map_some, Option.some.injEq, Prod.mk.injEq] at hb
    obtain ⟨hz, hsz, -⟩ := hb
    refine run_buildSlice w _ _ l.length _ (l.map (Value.int .u8)).toArray ie _ under_bytes hie hz (by rw [hsz]; omega) (by rw [hsz]; omega) ?_
    rw [hsz]
    exact Great.fill_flat (l.map (Value.int .u8)) _ (fun v hv => by obtain ⟨z, _, rfl⟩ := List.mem_map.1 hv; rfl) (by simp)
theorem poM_new {B : Nat} {w : World} (l : List Int) (hl : IsBytes l) (hm : l.length ≤ maxLen) (hB : B ≤ w.heap.size) : poM B l.length l (.slice (some ⟨w.heap.size, 0, none⟩) l.length l.length) (w.alloc (.cells (l.map (Value.int .u8)).toArray 5)) :=
  ⟨_, rfl, hB, by rw [shape_new]; simp, SlV.lit w l hl hm⟩
/-- Bytes told, to be read. -/
def WPostR (bs : List Int) (w : World) (e : Ending) (w' : World) : Prop := ∃ u, e = .returned u ∧ SlV w' u bs ∧ Below w.heap.size w w'
theorem WPost.r {bs : List Int} {w w' : World} {e : Ending} (h : WPost bs w e w') (hI : IsBytes bs) : WPostR bs w e w' := by
  obtain ⟨u, rfl, ho, hb⟩ := h
  exact ⟨u, rfl, SlV.own ho hI, hb⟩
theorem WPostR.sl {bs : List Int} {w w' : World} {e : Ending} (h : WPostR bs w e w') : ∃ B d, e = .returned (.slice B bs.length d) ∧ SlV w' (.slice B bs.length d) bs ∧ Below w.heap.size w w' := by
  obtain ⟨u, rfl, ⟨B, d, rfl, h1⟩, hb⟩ := h
  exact ⟨B, d, rfl, ⟨B, d, rfl, h1⟩, hb⟩
end Go.Proofs.Ytdngkbagfaeplaa
