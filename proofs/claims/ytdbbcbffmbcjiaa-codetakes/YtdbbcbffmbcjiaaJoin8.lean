/- Texts joined: CodeIn, InsL, CodePut, CodePut2. -/
import Derived.Test.YtdbbcbffmbcjiaaJoin7
import Derived.Test.YtdbbcbffmbcjiaaJoin4
/- code's source: an instruction, with what is open. -/
namespace Go.Proofs.Ytdbbcbffmbcjiaa
open Go.RowKit
set_option maxRecDepth 100000
set_option linter.unusedVariables false

def insV (x : Ins) (A : Option Addr) (c : Nat) : Value := .agg #[.int .i64 x.op, .int .u32 x.a, .int .u32 x.b, .int .u64 x.n, .slice A x.l.length c, .int .i64 x.t]
def InPost (g N : Nat) (s : St) (ov : Value) (o : List Int) (w : World) (e : Ending) (w' : World) : Prop :=
  ∃ x A c ov' o' over', e = .returned (insV x A c) ∧ LabX (fun k => w.heap.size ≤ k ∧ ov'.ownBlock ≠ some k) w' x A c ∧ InsOk x ∧ NsAt w' g N (nx (pSt o) s) ov' o' over' ∧ (∀ r l', bd s (pSt o) = .ok (r, l') → r = (x, o', over')) ∧ Chg (fun k => k = g ∨ ov.ownBlock = some k) w w' ∧ (∀ k, ov'.ownBlock = some k → ov.ownBlock = some k ∨ w.heap.size ≤ k)
def put6 (w : World) (g : Nat) (a : Array Value) : World := ((((((w.setCell ⟨g, 0, none⟩ (a.getD 0 undef)).setCell ⟨g, 1, none⟩ (a.getD 1 undef)).setCell ⟨g, 2, none⟩ (a.getD 2 undef)).setCell ⟨g, 3, none⟩ (a.getD 3 undef)).setCell ⟨g, 4, none⟩ (a.getD 4 undef)).setCell ⟨g, 5, none⟩ (a.getD 5 undef))
theorem chg6 (w : World) (g : Nat) (a : Array Value) : Chg (fun k => k = g) w (put6 w g a) :=
  (((((chgSet w g 0 _).trans (chgSet _ g 1 _) fun _ _ e => e).trans (chgSet _ g 2 _) fun _ _ e => e).trans (chgSet _ g 3 _) fun _ _ e => e).trans (chgSet _ g 4 _) fun _ _ e => e).trans (chgSet _ g 5 _) fun _ _ e => e
theorem own_put6 {w : World} {g : Nat} {t : TypeId} {b0 b1 b2 b3 b4 b5 : Value} (h : Own w g t [b0, b1, b2, b3, b4, b5]) (a0 a1 a2 a3 a4 a5 : Value) : Own (put6 w g #[a0, a1, a2, a3, a4, a5]) g t [a0, a1, a2, a3, a4, a5] :=
  (((((h.set 0 a0).set 1 a1).set 2 a2).set 3 a3).set 4 a4).set 5 a5

theorem kd_imm (x : Int) : 0 ≤ (kd x).1 ∧ (kd x).1 ≤ 8 ∧ 0 ≤ (kd x).2 ∧ (kd x).2 ≤ 5 := by
  unfold kd
  split
  · simp
  · split
    · simp
    · split
      · simp
      · split
        · unfold kf; split
          · simp
          · split <;> simp
        · unfold kb
          split; · simp
          split; · simp
          split; · simp
          split; · simp
          split; · simp
          split; · simp
          split; · simp
          split <;> simp
theorem in_bad {s : St} {op : Int} {o : List Int} (h : ∀ a l', bd s pOp = .ok (a, l') → op = a) (hk : (kd op).2 ≠ 0) : nx (pSt o) s = failS (kd op).2 (nx pOp s) ∧ ∀ r l', bd s (pSt o) ≠ .ok (r, l') := by
  cases s with
  | error e => exact ⟨rfl, fun a l' h => by cases h⟩
  | ok l =>
    simp only [nx_ok, bd_ok, pSt, pIn, seq] at h ⊢
    cases hp : pOp l with
    | error e => simp [failS]
    | ok r =>
      have := h r.1 r.2 (by rw [hp])
      subst this
      simp [hk, failS]
theorem in_good {s : St} {op : Int} {o : List Int} {x : Ins} {o' : List Int} {over' : Bool} (h : ∀ a l', bd s pOp = .ok (a, l') → op = a) (hk : (kd op).2 = 0) (hx : ∀ a l', bd (nx pOp s) (pBh (kd op).1 op) = .ok (a, l') → x = a) (hop : x.op = op) (hn : ∀ r, nestP op o = .ok r → o' = r.1 ∧ over' = r.2) :
    nx (pSt o) s = nstS op o (nx (pBh (kd op).1 op) (nx pOp s)) ∧ ∀ r l', bd s (pSt o) = .ok (r, l') → r = (x, o', over') := by
  subst hop
  cases s with
  | error e => refine ⟨?_, fun a l' h => by cases h⟩; simp only [nx_error]; unfold nstS; split <;> rfl
  | ok l =>
    simp only [nx_ok, bd_ok, pSt, pIn, seq] at h hx ⊢
    cases hp : pOp l with
    | error e => refine ⟨?_, fun a l' h => by cases h⟩; simp only [bd_error, nx_error]; unfold nstS; split <;> rfl
    | ok r =>
      have e := h r.1 r.2 (by rw [hp])
      rw [hp] at hx
      simp only [bd_ok, ← e, hk, if_true, nx_ok] at hx ⊢
      cases hq : pBh (kd x.op).1 x.op r.2 with
      | error e => refine ⟨?_, fun a l' h => by cases h⟩; simp only [bd_error]; unfold nstS; split <;> rfl
      | ok q =>
        have e2 := hx q.1 q.2 (by rw [hq])
        simp only [bd_ok, ← e2]
        unfold nstS
        cases hz : nestP x.op o with
        | error e => exact ⟨rfl, fun a l' h => by cases h⟩
        | ok z =>
          obtain ⟨h1, h2⟩ := hn z hz
          refine ⟨rfl, fun r l' h => ?_⟩
          simp only [bd_ok] at h
          injection h with h
          injection h with h _
          rw [← h, h1, h2]

set_option maxHeartbeats 4000000 in
theorem cinstr_any (g N : Nat) (s : St) (ov : Value) (o : List Int) (w : World) (h : NsAt w g N s ov o false) (hol : o.length ≤ 100000) :
    Calls Try.prog 20 #[.pointer (some ⟨g, 0, none⟩)] w (InPost g N s ov o w) := by
  have HH := Lib.hid h
  have hgw := h.1.lt
  have H1 : Hid (NsAt (w.alloc (.cells #[.int .i64 0, .int .u32 0, .int .u32 0, .int .u64 0, .slice none 0 0, .int .i64 0] 43)) g N s ov o false ∧ Own (w.alloc (.cells #[.int .i64 0, .int .u32 0, .int .u32 0, .int .u64 0, .slice none 0 0, .int .i64 0] 43)) w.heap.size 43 [.int .i64 0, .int .u32 0, .int .u32 0, .int .u64 0, .slice none 0 0, .int .i64 0]) := by
    have hb : Below w.heap.size w (w.alloc (.cells #[.int .i64 0, .int .u32 0, .int .u32 0, .int .u64 0, .slice none 0 0, .int .i64 0] 43)) := (Below.refl _ _).alloc (Nat.le_refl _) _
    exact ⟨⟨h.1.later hb, h.2.1.later hb, h.2.2⟩, Own.new w _ _⟩
  clear h
  go_enter Try.func20, Try.ntmps20
  go_wp2_with fail
  refine (cop_any g _ _ s _ H1.out.1.1).mono ?_
  rintro e w1 ⟨op, rfl, op0, op1, h2, h3, h4⟩
  generalize hgx : w.heap.size = gx at *
  have H2 : Hid (BhAt (w1.setCell ⟨gx, 0, none⟩ (.int .i64 op)) g 49 (N, [ov, .bool false]) (nx pOp s) gx (insC ⟨op, 0, 0, 0, [], 0⟩ none 0) ∧ OwnI (w1.setCell ⟨gx, 0, none⟩ (.int .i64 op)) (g + 1) ov o ∧ Chg (fun k => k = g) w (w1.setCell ⟨gx, 0, none⟩ (.int .i64 op)) ∧ gx ≤ w1.heap.size) := by
    have ho := H1.out.2.chg h4 (by omega)
    have hx : BhAt w1 g 49 (N, [ov, .bool false]) (nx pOp s) gx (insC ⟨0, 0, 0, 0, [], 0⟩ none 0) := ⟨h2, ho, hgw⟩
    have hc : Chg (fun k => k = g) w w1 := (Chg.alloc (S := fun k => k = g) w _).trans h4 fun k _ e => e
    have hc2 := chgSet w1 gx 0 (.int .i64 op)
    have hn : ∀ k, ov.ownBlock = some k → k ≠ gx := fun k hk => by have := owns_lt HH.out.2.1 hk; omega
    exact ⟨hx.set 0 _, ((H1.out.1.2.1.far h4).chg hc2 fun k hk e => hn k hk e), hc.trans hc2 fun k hk e => by omega, by have := hc.size; omega⟩
  have H3 := Lib.hid h3
  have ho := H1.out.2.chg h4 (by omega)
  obtain ⟨c0, c1, c2, c3, c4, c5, f0, f1, f2, f3, f4, f5⟩ := own_cells6 ho
  clear ho h2 h3 h4 H1
  by_cases hk : (kd op).2 = 0
  · have HK := Lib.hid hk
    have hkb := kd_imm op
    go_wp2_with (go_at_call 27; refine (kind_any op _).mono ?_; unfold pr; rintro e w' ⟨rfl, rfl⟩; rw [hk])
    refine (cbehind_any op g _ _ _ gx _ H2.out.1 (kd op).1 (by omega) (by omega)).mono ?_
    rintro e w2 ⟨u, x, A, c, rfl, h2, h3, h4, h5, h6, hc⟩
    have hc2 : Chg (fun k => k = g) w w2 := H2.out.2.2.1.trans hc fun k hk e => by omega
    have hn : ∀ k, ov.ownBlock = some k → g < k ∧ k < gx := fun k hk => by have := owns_lt HH.out.2.1 hk; have := owns_ge HH.out.2.1 hk; omega
    have hN : NsAt w2 g N (nx (pBh (kd op).1 op) (nx pOp s)) ov o false := ⟨h2.1, H2.out.2.1.chg hc fun k hk e => by have := hn k hk; omega, HH.out.2.2⟩
    have hwz : gx < (w1.setCell ⟨gx, 0, none⟩ (.int .i64 op)).heap.size := H2.out.1.2.1.lt
    have HB := Lib.hid (And.intro h2 (And.intro (h3.mono (Y := fun k => gx < k) fun k _ hk => Nat.lt_of_lt_of_le hwz hk) (And.intro h4 (And.intro h6 (And.intro hc2 hN)))))
    obtain ⟨d0, d1, d2, d3, d4, d5, -, -, -, -, -, -⟩ := own_cells6 h2.2.1
    have HX := Lib.hid h5
    clear h2 h3 h4 h6 hc hc2 hN hwz c0 c1 c2 c3 c4 c5 f0 f1 f2 f3 f4 f5 d1 d2 d3 d4 d5
    rw [h5] at d0
    clear h5 hkb hk
    go_wp2_with fail
    refine (cnest_any op g N _ ov o w2 HB.out.2.2.2.2.2 hol).mono ?_
    rintro e w3 ⟨u2, ov', o', over', rfl, n1, n2, n3, n4⟩
    have hlt := HB.out.1.2.1.lt
    have hgn : ¬ (gx = g ∨ ov.ownBlock = some gx) := by rintro (e | e); · omega
                                                        · have := hn gx e; omega
    have ho := HB.out.1.2.1.chg n3 hgn
    have hL := (HB.out.2.1.mono (Y := fun k => gx < k ∧ ov'.ownBlock ≠ some k) fun k hk hx => ⟨hx, fun e => by
      rcases n4 k e with h | h
      · have := hn k h; omega
      · omega⟩).chg n3 fun k _ hk => by
      have := hk.1
      rintro (e | e)
      · omega
      · have := hn k e; omega
    have HD := Lib.hid (And.intro n1 (And.intro n4 (And.intro ((HB.out.2.2.2.2.1.mono fun k _ e => .inl e).trans n3 fun k hk e => e) (And.intro ho hL))))
    have HI := Lib.hid (in_good (o := o) H3.out HK.out HB.out.2.2.2.1 HX.out n2)
    obtain ⟨c0, c1, c2, c3, c4, c5, f0, f1, f2, f3, f4, f5⟩ := own_cells6 ho
    have HN := Lib.hid (And.intro hn hlt)
    have HOK := Lib.hid HB.out.2.2.1
    clear n1 n2 n3 n4 ho hL d0 hlt hgn hn HB H2 HH H3
    generalize hlq : x.l.length = lq at *
    have HLQ := Lib.hid hlq
    clear hlq
    go_wp2
    have hW := own_put6 HD.out.2.2.2.1 (.int .i64 x.op) (.int .u32 x.a) (.int .u32 x.b) (.int .u64 x.n) (.slice A x.l.length c) (.int .i64 x.t)
    have hC := chg6 w3 gx #[.int .i64 x.op, .int .u32 x.a, .int .u32 x.b, .int .u64 x.n, .slice A x.l.length c, .int .i64 x.t]
    obtain rfl := HLQ.out
    show bodyPost _ _ _ _ _ (put6 w3 gx #[.int .i64 x.op, .int .u32 x.a, .int .u32 x.b, .int .u64 x.n, .slice A x.l.length c, .int .i64 x.t])
    generalize put6 w3 gx #[.int .i64 x.op, .int .u32 x.a, .int .u32 x.b, .int .u64 x.n, .slice A x.l.length c, .int .i64 x.t] = W at *
    clear c0 c1 c2 c3 c4 c5 f0 f1 f2 f3 f4 f5
    obtain ⟨k0, k1, k2, k3, k4, k5, -, -, -, -, -, -⟩ := own_cells6 hW
    refine bodyPost_ret (by simp [results, Try.results20, go_sem, k0, k1, k2, k3, k4, k5]; try rfl) rfl ?_
    obtain ⟨q1, q2, q3, q4, q5⟩ := HD.out
    refine ⟨x, A, c, ov', o', over', rfl, ?_, HOK.out, ⟨?_, ?_, q1.2.2⟩, HI.out.2, q3.trans hC fun k hk e => by omega, fun k hk => ?_⟩
    · exact (q5.chg hC fun k _ hk e => by have := hk.1; omega).mono fun k _ hk => ⟨by have := hk.1; omega, hk.2⟩
    · rw [HI.out.1]; exact q1.1.chg hC fun k hk e => by omega
    · exact q1.2.1.chg hC fun k hk e => by
        rcases q2 k hk with h | h
        · have := HN.out.1 k h; omega
        · have := HN.out.2; omega
    · rcases q2 k hk with h | h
      · exact .inl h
      · have := HN.out.2; exact .inr (by omega)
  · have HK := Lib.hid hk
    have hke : ((kd op).2 != 0) = true := by simpa using hk
    have hkb := kd_imm op
    go_wp2_with (go_at_call 27; refine (kind_any op _).mono ?_; unfold pr; rintro e w' ⟨rfl, rfl⟩)
    refine (rfail_any g _ _ _ (kd op).2 _ H2.out.1.1 (by omega) (by omega)).mono ?_
    rintro e w2 ⟨⟨u, rfl⟩, h2, hc⟩
    have HB := Lib.hid (And.intro (H2.out.1.step h2 hc) (And.intro (H2.out.2.1.far hc) hc))
    clear h2 hc c0 c1 c2 c3 c4 c5 f0 f1 f2 f3 f4 f5
    obtain ⟨c0, c1, c2, c3, c4, c5, f0, f1, f2, f3, f4, f5⟩ := own_cells6 HB.out.1.2.1
    have HI := Lib.hid (in_bad (o := o) H3.out hk)
    simp only [List.length_nil] at c4
    clear hkb hk
    generalize (kd op).2 = ke at *
    generalize (kd op).1 = ki at *
    go_wp2
    have hW := own_put6 HB.out.1.2.1 (.int .i64 op) (.int .u32 0) (.int .u32 0) (.int .u64 0) (.slice none 0 0) (.int .i64 0)
    have hC := chg6 w2 gx #[.int .i64 op, .int .u32 0, .int .u32 0, .int .u64 0, .slice none 0 0, .int .i64 0]
    show bodyPost _ _ _ _ _ (put6 w2 gx #[.int .i64 op, .int .u32 0, .int .u32 0, .int .u64 0, .slice none 0 0, .int .i64 0])
    generalize put6 w2 gx #[.int .i64 op, .int .u32 0, .int .u32 0, .int .u64 0, .slice none 0 0, .int .i64 0] = W at *
    clear c0 c1 c2 c3 c4 c5 f0 f1 f2 f3 f4 f5
    obtain ⟨k0, k1, k2, k3, k4, k5, -, -, -, -, -, -⟩ := own_cells6 hW
    refine bodyPost_ret (by simp [results, Try.results20, go_sem, k0, k1, k2, k3, k4, k5]; try rfl) rfl ?_
    have hc2 : Chg (fun k => k = g) w W := (H2.out.2.2.1.trans HB.out.2.2 fun k hk e => e).trans hC fun k hk e => by omega
    refine ⟨⟨op, 0, 0, 0, [], 0⟩, none, 0, ov, o, false, rfl, LabX.nil _ _ rfl, ⟨by simp, by simp, by simp, by simp, by simp, by simp, by simp, by simp, IsU32.nil, by simp⟩, ⟨?_, HB.out.2.1.chg hC fun k hk e => ?_, HH.out.2.2⟩, fun r l' h => (HI.out.2 r l' h).elim, hc2.mono fun k _ e => .inl e, fun k hk => .inl hk⟩
    · rw [HI.out.1]; exact HB.out.1.1.chg hC fun k hk e => by omega
    · have := owns_lt HH.out.2.1 hk; omega
end Go.Proofs.Ytdbbcbffmbcjiaa

/- Lists of instructions in memory. No function of the program. -/
namespace Go.Proofs.Ytdbbcbffmbcjiaa
open Go.RowKit
set_option maxRecDepth 100000
set_option linter.unusedVariables false

theorem under_ins : Try.prog.underlying 25 = some (.slice 43) := Try.underlying25
theorem ins_info : (Try.prog.info? 43).map (fun i => (i.zero, i.size, i.bytes)) = some (some (.agg #[.int .i64 0, .int .u32 0, .int .u32 0, .int .u64 0, .slice none 0 0, .int .i64 0]), 6, 56) := by kernel_rfl
/-- An instruction, and where its labels lie. -/
structure IV where
  x : Ins
  A : Option Addr
  c : Nat
def IV.cells (i : IV) : List Value := insC i.x i.A i.c
def flat : List IV → List Value
  | [] => []
  | i :: is => i.cells ++ flat is
theorem flat_app (a b : List IV) : flat (a ++ b) = flat a ++ flat b := by
  induction a with
  | nil => rfl
  | cons i a ih => simp [flat, ih]
theorem flat_len (a : List IV) : (flat a).length = a.length * 6 := by
  induction a with
  | nil => rfl
  | cons i a ih => simp [flat, ih, IV.cells, insC]; omega
theorem flat_get (a : List IV) : ∀ (j : Nat) (i : IV), a[j]? = some i → ∀ k, k < 6 → (flat a)[j * 6 + k]? = (i.cells)[k]? := by
  induction a with
  | nil => intro j i h; simp at h
  | cons y a ih =>
    intro j i h k hk
    have hl : y.cells.length = 6 := rfl
    cases j with
    | zero =>
      simp at h; subst h
      rw [flat, List.getElem?_append_left (by omega)]
      congr 1; omega
    | succ j =>
      rw [flat, List.getElem?_append_right (by omega), hl, show (j + 1) * 6 + k - 6 = j * 6 + k from by omega]
      exact ih j i (by simpa using h) k hk
theorem flat_one (a : List IV) : ∀ u ∈ flat a, u.oneCell' = true := by
  induction a with
  | nil => intro u hu; simp [flat] at hu
  | cons i a ih =>
    intro u hu
    rw [flat, List.mem_append] at hu
    rcases hu with h | h
    · simp [IV.cells, insC] at h
      rcases h with rfl | rfl | rfl | rfl | rfl | rfl <;> rfl
    · exact ih u h

/-- Instructions in a row of the call's own; their labels in blocks of X, which has not the row's. -/
def OwnN (X : Nat → Prop) (w : World) (base : Nat) (v : Value) (is : List IV) : Prop :=
  w.ownsRow base 43 6 v is.length (flat is) ∧ (∀ i ∈ is, LabX X w i.x i.A i.c ∧ InsOk i.x) ∧ ∀ k, v.ownBlock = some k → ¬ X k
/-- Instructions that are read, in blocks of X. -/
def RdN (X : Nat → Prop) (w : World) (v : Value) (is : List IV) : Prop :=
  ∃ A c, v = .slice A is.length c ∧ is.length ≤ c ∧ c ≤ maxLen ∧ RdV X w A (flat is) ∧ ∀ i ∈ is, LabX X w i.x i.A i.c ∧ InsOk i.x
section
variable {X Y S : Nat → Prop} {w w' : World} {base : Nat} {v : Value} {is : List IV}
theorem OwnN.nil (X : Nat → Prop) (w : World) (base : Nat) : OwnN X w base (.slice none 0 0) [] := ⟨World.ownsRow_nil w base _ _, fun i hi => by simp at hi, fun k hk => by simp [Value.ownBlock] at hk⟩
theorem OwnN.chg (h : OwnN X w base v is) (hc : Chg S w w') (hs : ∀ k, k < w.heap.size → X k → ¬ S k) (hv : ∀ k, v.ownBlock = some k → ¬ S k) : OwnN X w' base v is :=
  ⟨owns_chg h.1 hc hv, fun i hi => ⟨(h.2.1 i hi).1.chg hc hs, (h.2.1 i hi).2⟩, h.2.2⟩
theorem OwnN.later (h : OwnN X w base v is) (hb : Below w.heap.size w w') : OwnN X w' base v is := h.chg (S := fun _ => False) (Chg.of_below hb) (fun _ _ _ => id) fun _ _ => id
theorem OwnN.mono (h : OwnN X w base v is) (hx : ∀ k, k < w.heap.size → X k → Y k) (hv : ∀ k, v.ownBlock = some k → ¬ Y k) : OwnN Y w base v is := ⟨h.1, fun i hi => ⟨(h.2.1 i hi).1.mono hx, (h.2.1 i hi).2⟩, hv⟩
theorem OwnN.rd (h : OwnN X w base v is) : RdN (fun k => X k ∨ v.ownBlock = some k) w v is := by
  obtain ⟨A, c, hv, hn, hm, hr⟩ := RdV.of_own h.1
  exact ⟨A, c, hv, hn, hm, hr.mono fun k _ e => .inr e, fun i hi => ⟨(h.2.1 i hi).1.mono fun k _ e => .inl e, (h.2.1 i hi).2⟩⟩
theorem RdN.mono (h : RdN X w v is) (hx : ∀ k, k < w.heap.size → X k → Y k) : RdN Y w v is := by
  obtain ⟨A, c, h1, h2, h3, h4, h5⟩ := h
  exact ⟨A, c, h1, h2, h3, h4.mono hx, fun i hi => ⟨(h5 i hi).1.mono hx, (h5 i hi).2⟩⟩
theorem RdN.chg (h : RdN X w v is) (hc : Chg S w w') (hs : ∀ k, k < w.heap.size → X k → ¬ S k) : RdN X w' v is := by
  obtain ⟨A, c, h1, h2, h3, h4, h5⟩ := h
  exact ⟨A, c, h1, h2, h3, h4.chg hc hs, fun i hi => ⟨(h5 i hi).1.chg hc hs, (h5 i hi).2⟩⟩
theorem RdN.later (h : RdN X w v is) (hb : Below w.heap.size w w') : RdN X w' v is := h.chg (S := fun _ => False) (Chg.of_below hb) fun _ _ _ => id
theorem RdN.nil (X : Nat → Prop) (w : World) : RdN X w (.slice none 0 0) [] := ⟨none, 0, rfl, Nat.le_refl _, Nat.zero_le _, RdV.nil _ _ _, fun i hi => by simp at hi⟩
/-- One element, where the walk wants it. -/
theorem RdN.at_ {A : Option Addr} {c n : Nat} (h : RdN X w (.slice A n c) is) {j : Nat} {i : IV} (hj : is[j]? = some i) : ∃ b o, A = some ⟨b, o, none⟩ ∧ X b ∧ b < w.heap.size ∧ w.cell? ⟨b, o + j * 6, none⟩ = some (.int .i64 i.x.op) ∧ w.cell? ⟨b, o + j * 6 + 1, none⟩ = some (.int .u32 i.x.a) ∧ w.cell? ⟨b, o + j * 6 + 2, none⟩ = some (.int .u32 i.x.b) ∧ w.cell? ⟨b, o + j * 6 + 3, none⟩ = some (.int .u64 i.x.n) ∧ w.cell? ⟨b, o + j * 6 + 4, none⟩ = some (.slice i.A i.x.l.length i.c) ∧ w.cell? ⟨b, o + j * 6 + 5, none⟩ = some (.int .i64 i.x.t) := by
  obtain ⟨A', c', h1, h2, h3, h4, h5⟩ := h
  injection h1 with e1 e2 e3
  subst e1
  have hlt : j < is.length := (List.getElem?_eq_some_iff.1 hj).1
  obtain ⟨b, o, rfl, hX, hb, hc⟩ := h4.spot (by rw [flat_len]; omega)
  have g := fun k hk => flat_get is j i hj k hk
  refine ⟨b, o, rfl, hX, hb, ?_, ?_, ?_, ?_, ?_, ?_⟩
  · exact hc (j * 6) _ (by have := g 0 (by omega); rw [Nat.add_zero] at this; rw [this]; rfl)
  · rw [Nat.add_assoc]; exact hc _ _ (by rw [g 1 (by omega)]; rfl)
  · rw [Nat.add_assoc]; exact hc _ _ (by rw [g 2 (by omega)]; rfl)
  · rw [Nat.add_assoc]; exact hc _ _ (by rw [g 3 (by omega)]; rfl)
  · rw [Nat.add_assoc]; exact hc _ _ (by rw [g 4 (by omega)]; rfl)
  · rw [Nat.add_assoc]; exact hc _ _ (by rw [g 5 (by omega)]; rfl)
end

/-- The block that was just built for some instructions. -/
theorem rdV_ins (w : World) (is : List IV) : RdV (fun k => k = w.heap.size) (w.alloc (.cells (flat is).toArray 43)) (some ⟨w.heap.size, 0, none⟩) (flat is) := fun j u hu => by
  refine ⟨_, rfl, rfl, ?_⟩
  have h := (Own.new w 43 (flat is)).cell j
  rw [addPlain, Nat.zero_add, h, hu]
/-- append(s, x...), of instructions. -/
theorem wpList_appN {X Y : Nat → Prop} {ops : Array Oper} {rest : List Oper} {o : Oper} {a : Act} {Q : Exit → Act → World → Prop} {w : World} (hgd : o.guard = none) (s x : Operand)
    (ho : o.op = .call { callee := .builtin .append, args := #[s, x], argTypes := #[25, 25] }) (base : Nat) (v : Value) (is : List IV) (hs : a.eval s = v) (hown : OwnN X w base v is)
    (A : Option Addr) (m c : Nat) (js : List IV) (hx : a.eval x = .slice A m c) (hm : m = js.length) (hr : RdV Y w A (flat js)) (hj : ∀ i ∈ js, LabX X w i.x i.A i.c ∧ InsOk i.x) (hlen : is.length + m ≤ 1000000000) (hbase : base ≤ w.heap.size)
    (h : ∀ v' w', OwnN (fun k => X k ∧ k < w.heap.size) w' base v' (is ++ js) → Grew v w v' w' → wpList Try.prog ops Q rest (a.put o.dst v') w') : wpList Try.prog ops Q (o :: rest) a w := by
  subst hm
  refine wpList_appG under_ins ins_info rfl (by omega) hgd s x ho base v is.length _ hs hown.1 A js.length c (flat js) hx (flat_len js) hr (flat_one js) (by simp only [maxLen]; omega) (by omega) hbase fun v' w' h1 h2 h3 => ?_
  have hg := Grew.of_grown h2 h3
  refine h v' w' ⟨by rw [List.length_append, flat_app]; exact h1, fun i hi => ?_, fun k hk => ?_⟩ hg
  · have : LabX X w i.x i.A i.c ∧ InsOk i.x := by
      rcases List.mem_append.1 hi with h | h
      · exact hown.2.1 i h
      · exact hj i h
    refine ⟨?_, this.2⟩
    exact (this.1.mono (Y := fun k => X k ∧ k < w.heap.size) fun k hk hx => ⟨hx, hk⟩).chg hg.1 fun k _ hk e => hown.2.2 k e hk.1
  · rintro ⟨k1, k2⟩
    rcases hg.2 k hk with e | e
    · exact hown.2.2 k e k1
    · omega
/-- append(s, x): one instruction more, out of the block that was just built for it. -/
theorem wpList_appN1 {X : Nat → Prop} {ops : Array Oper} {rest : List Oper} {o : Oper} {a : Act} {Q : Exit → Act → World → Prop} {w : World} (hgd : o.guard = none) (s x : Operand)
    (ho : o.op = .call { callee := .builtin .append, args := #[s, x], argTypes := #[25, 25] }) (base : Nat) (v : Value) (is : List IV) (hs : a.eval s = v) (hown : OwnN X w base v is)
    (i : IV) (hi : LabX X w i.x i.A i.c) (hok : InsOk i.x) (hx : a.eval x = .slice (some ⟨w.heap.size, 0, none⟩) 1 1) (hlen : is.length + 1 ≤ 1000000000) (hbase : base ≤ w.heap.size)
    (h : ∀ v' w', OwnN (fun k => X k ∧ k < w.heap.size) w' base v' (is ++ [i]) → Grew v w v' w' → wpList Try.prog ops Q rest (a.put o.dst v') w') :
    wpList Try.prog ops Q (o :: rest) a (w.alloc (.cells #[.int .i64 i.x.op, .int .u32 i.x.a, .int .u32 i.x.b, .int .u64 i.x.n, .slice i.A i.x.l.length i.c, .int .i64 i.x.t] 43)) := by
  have hb : Below w.heap.size w (w.alloc (.cells #[.int .i64 i.x.op, .int .u32 i.x.a, .int .u32 i.x.b, .int .u64 i.x.n, .slice i.A i.x.l.length i.c, .int .i64 i.x.t] 43)) := (Below.refl _ _).alloc (Nat.le_refl _) _
  have hX : ∀ k, k < w.heap.size → X k → (X k ∧ k < w.heap.size) := fun k hk hx => ⟨hx, hk⟩
  have hown2 : OwnN (fun k => X k ∧ k < w.heap.size) w base v is := hown.mono hX fun k hk e => hown.2.2 k hk e.1
  refine wpList_appN hgd s x ho base v is hs (hown2.later hb) _ 1 1 [i] hx rfl (rdV_ins w [i]) (fun j hj => ?_) hlen (by simp; omega) fun v' w' h1 h2 => h v' w' (h1.mono (fun k _ hk => hk.1) fun k hk e => ?_) (h2.before hb fun k hk => owns_lt hown.1 hk)
  · simp only [List.mem_singleton] at hj; subst hj; exact ⟨(hi.mono hX).later hb, hok⟩
  · exact h1.2.2 k hk ⟨e, by simp; omega⟩
end Go.Proofs.Ytdbbcbffmbcjiaa

/- code's writers: numbers. -/
namespace Go.Proofs.Ytdbbcbffmbcjiaa
open Go.RowKit
set_option maxRecDepth 100000
set_option linter.unusedVariables false

theorem IsU32.u64 {l : List Int} (h : IsU32 l) : IsU64 l := fun z hz => by have := h z hz; omega
theorem encS_len (v : Int) : 0 < (encS v).length ∧ (encS v).length ≤ 10 := by
  unfold encS; rw [bytesOf_length]; exact ⟨List.length_pos_iff.2 (dgS_ne _ _), dgS_len 9 v⟩
theorem encS_is (v : Int) : IsBytes (encS v) := bytesS_is 9 v
theorem encs_take {l : List Int} {k : Nat} (hk : k < l.length) : encs (l.take (k + 1)) = encs (l.take k) ++ encU (l.getD k 0) := by
  rw [List.take_add_one, List.getElem?_eq_getElem hk, encs_app, List.getD_eq_getElem?_getD, List.getElem?_eq_getElem hk]
  simp [encs]
set_option maxHeartbeats 1000000 in
theorem cputNums_any (base : Nat) (v : Value) (l : List Int) (A : Option Addr) (ls : List Int) (n c : Nat) (w : World) (hv : OwnB w base v l) (hI : IsBytes l) (hb : base ≤ w.heap.size) (hr : RdQ (fun k => v.ownBlock ≠ some k) w A ls) (hn : n = ls.length) (hl : l.length + 10 * n ≤ 100000000) :
    Calls Try.prog 49 #[v, .slice A n c] w (GPost base v (l ++ encs ls) w) := by
  have HV := Lib.hid hv
  have HI := Lib.hid (And.intro hI hl)
  have HR := Lib.hid (And.intro hr hn)
  obtain ⟨Av, cv, rfl, -, -, -⟩ := hv.rdX hI
  have hnn : n ≤ 100000000 := by omega
  clear hv hI hr hn hl
  generalize hq : l.length = q at *
  have HQ := Lib.hid hq
  clear hq
  go_enter Try.func49, Try.ntmps49
  go_wp2
  go_loopw [0, 9] (fun u i wr => ∃ (k : Nat), k ≤ n ∧ i = .int .i64 k ∧ base ≤ wr.heap.size ∧ Hid (OwnB wr base u (l ++ encs (ls.take k)) ∧ Grew (.slice Av q cv) w u wr)) (fun _ i _ => n - (intOf i).toNat)
  case atStart => exact ⟨0, by omega, rfl, hb, by simpa [encs] using HV.out, Grew.refl _ _⟩
  case round =>
    obtain ⟨k, hk, rfl, hbr, HX⟩ := hrel
    by_cases hlt : k < n
    · have hlt2 : (k : Int) < n := by omega
      have hkl : k < ls.length := by rw [← HR.out.2]; exact hlt
      have hr2 := HR.out.1.chg HX.out.2.1 fun j _ hx e => hx e
      obtain ⟨ba, oa, rfl, hca, x0, x1⟩ := hr2.at_ hkl
      have HT := Lib.hid (encs_take hkl)
      have HB1 : Hid (IsBytes (l ++ encs (ls.take k)) ∧ (l ++ encs (ls.take k)).length ≤ 100000000) := by
        refine ⟨HI.out.1.app (encs_is _ fun z hz => (HR.out.1.1.u64) z (List.mem_of_mem_take hz)), ?_⟩
        have h1 := encs_len (ls.take k)
        have h2 : (ls.take k).length ≤ n := by rw [HR.out.2]; simp; omega
        have := HI.out.2; have := HQ.out
        simp; omega
      generalize ls.getD k 0 = z at *
      obtain ⟨Au, cu, hu, -, -, -⟩ := HX.out.1.rdX HB1.out.1
      clear hr2 hkl
      have HU := Lib.hid (putU_any none [] 0 0 z wr (Rd.nil _ _ _) rfl (by omega) x0 (by omega))
      subst hu
      generalize hql : (l ++ encs (ls.take k)).length = ql at *
      have HQL := Lib.hid hql
      clear hql
      go_wp2_with fail
      refine HU.out.mono ?_
      rintro e w2 ⟨v2, rfl, ho2, hb2⟩
      rw [List.nil_append] at ho2
      obtain ⟨A2, c2, rfl, -, -, hr2⟩ := ho2.rdX (encU_is z x0 (by omega))
      have H2 : Hid (OwnB w2 base (.slice Au ql cu) (l ++ encs (ls.take k)) ∧ RdX (fun k => (Value.slice A2 (encU z).length c2).ownBlock = some k) w2 A2 (encU z) ∧ Below wr.heap.size wr w2) := ⟨OwnB.later HX.out.1 hb2, hr2, hb2⟩
      have hs2 := hb2.size
      clear ho2 hb2 hr2 hca
      have hel := (encU_len z).2
      generalize hqe : (encU z).length = qe at *
      have HQE := Lib.hid hqe
      clear hqe
      go_wp2_with (at_builtin; refine wpList_appXG rfl (.tmp 13) (.tmp 16) rfl base (.slice Au ql cu) (l ++ encs (ls.take k)) rfl H2.out.1 A2 qe c2 (encU z) rfl HQE.out.symm H2.out.2.1 (by have := HB1.out.2; have := HQL.out; omega) (by omega) ?_; intro v3 w3 hv3 hw3; rw [List.append_assoc, ← HT.out] at hv3; have H3 := Lib.hid (And.intro hv3 (hw3.before H2.out.2.2 (fun k hk => owns_lt HX.out.1 hk))); clear hv3 hw3)
      go_wp2
      refine ⟨⟨k + 1, by omega, by go_num, by have := H3.out.2.1.size; omega, H3.out.1, HX.out.2.trans H3.out.2⟩, ?_⟩
      simp [intOf]; omega
    · obtain rfl : k = n := by omega
      go_wp2
      go_ret
      refine ⟨_, rfl, ?_, HX.out.2⟩
      have := HX.out.1
      rwa [List.take_of_length_le (by rw [← HR.out.2]; omega)] at this
set_option maxHeartbeats 1000000 in
theorem cputSigned_any (base : Nat) (v : Value) (l : List Int) (z : Int) (w : World) (hv : OwnB w base v l) (hI : IsBytes l) (hb : base ≤ w.heap.size) (hl : l.length ≤ 100000000) (z0 : -9223372036854775808 ≤ z) (z1 : z ≤ 9223372036854775807) :
    Calls Try.prog 48 #[v, .int .i64 z] w (GPost base v (l ++ encS z) w) := by
  have HV := Lib.hid hv
  obtain ⟨Av, cv, rfl, -, -, -⟩ := hv.rdX hI
  clear hv hI
  have HU := Lib.hid (putS_any none [] 0 0 z w (Rd.nil _ _ _) rfl (by omega) z0 (by omega))
  generalize hq : l.length = q at *
  have HQ := Lib.hid hq
  clear hq
  go_enter Try.func48, Try.ntmps48
  go_wp2_with fail
  refine HU.out.mono ?_
  rintro e w2 ⟨v2, rfl, ho2, hb2⟩
  rw [List.nil_append] at ho2
  obtain ⟨A2, c2, rfl, -, -, hr2⟩ := ho2.rdX (encS_is z)
  have H2 : Hid (OwnB w2 base (.slice Av q cv) l ∧ RdX (fun k => (Value.slice A2 (encS z).length c2).ownBlock = some k) w2 A2 (encS z) ∧ Below w.heap.size w w2) := ⟨OwnB.later HV.out hb2, hr2, hb2⟩
  have hs2 := hb2.size
  clear ho2 hb2 hr2
  have hel := (encS_len z).2
  generalize hqe : (encS z).length = qe at *
  have HQE := Lib.hid hqe
  clear hqe
  go_wp2_with (at_builtin; refine wpList_appXG rfl (.tmp 5) (.tmp 7) rfl base (.slice Av q cv) l rfl H2.out.1 A2 qe c2 (encS z) rfl HQE.out.symm H2.out.2.1 (by have := HQ.out; omega) (by omega) ?_; intro v3 w3 hv3 hw3; have H3 := Lib.hid (And.intro hv3 (hw3.before H2.out.2.2 (fun k hk => owns_lt HV.out hk))); clear hv3 hw3)
  go_ret
  exact ⟨_, rfl, H3.out.1, H3.out.2⟩
end Go.Proofs.Ytdbbcbffmbcjiaa

/- code's writers: names, an instruction's number. -/
namespace Go.Proofs.Ytdbbcbffmbcjiaa
open Go.RowKit
set_option maxRecDepth 100000
set_option linter.unusedVariables false

/-- The bytes of the first k names. -/
def nmK (op : Int) (ls : List Int) : Nat → List Int
  | 0 => []
  | k + 1 => nmK op ls k ++ (if (k : Int) < nums op then encU (ls.getD k 0) else [0])
theorem nmK_is (op : Int) (ls : List Int) (h : IsU32 ls) (k : Nat) (hk : k ≤ ls.length) : IsBytes (nmK op ls k) ∧ (nmK op ls k).length ≤ 10 * k := by
  induction k with
  | zero => exact ⟨IsBytes.nil, by simp [nmK]⟩
  | succ k ih =>
    obtain ⟨h1, h2⟩ := ih (by omega)
    have hm : ls.getD k 0 ∈ ls := by rw [List.getD_eq_getElem?_getD, List.getElem?_eq_getElem (by omega)]; exact List.getElem_mem (by omega)
    have hz := h _ hm
    simp only [nmK]
    split
    · exact ⟨h1.app (encU_is _ hz.1 (by omega)), by have := (encU_len (ls.getD k 0)).2; rw [List.length_append]; omega⟩
    · exact ⟨h1.app (IsBytes.one (by omega) (by omega)), by simp; omega⟩
theorem lit1_rdQ (w : World) (z : Int) (h0 : 0 ≤ z) (h1 : z < 4294967296) {v : Value} (hv : ∀ k, v.ownBlock = some k → k < w.heap.size) : RdQ (fun k => v.ownBlock ≠ some k) (w.alloc (.cells #[.int .u32 z] 39)) (some ⟨w.heap.size, 0, none⟩) [z] :=
  (rdQ_lit w [z] (IsU32.one h0 h1)).mono fun k _ e h => by have := hv k h; omega
theorem lit2_rdQ (w : World) (z y : Int) (h0 : 0 ≤ z) (h1 : z < 4294967296) (h2 : 0 ≤ y) (h3 : y < 4294967296) {v : Value} (hv : ∀ k, v.ownBlock = some k → k < w.heap.size) : RdQ (fun k => v.ownBlock ≠ some k) (w.alloc (.cells #[.int .u32 z, .int .u32 y] 39)) (some ⟨w.heap.size, 0, none⟩) [z, y] :=
  (rdQ_lit w [z, y] (fun x hx => by simp at hx; omega)).mono fun k _ e h => by have := hv k h; omega
theorem below_a (w : World) (o : Obj) : Below w.heap.size w (w.alloc o) := (Below.refl _ _).alloc (Nat.le_refl _) _
set_option maxHeartbeats 1000000 in
theorem cputNames_any (base : Nat) (v : Value) (l : List Int) (op : Int) (A : Option Addr) (ls : List Int) (n c : Nat) (w : World) (hv : OwnB w base v l) (hI : IsBytes l) (hb : base ≤ w.heap.size) (hr : RdQ (fun k => v.ownBlock ≠ some k) w A ls) (hn : n = ls.length) (hl : l.length + 10 * n ≤ 90000000) :
    Calls Try.prog 47 #[v, .int .i64 op, .slice A n c] w (GPost base v (l ++ nmK op ls n) w) := by
  have HV := Lib.hid hv
  have HI := Lib.hid (And.intro hI hl)
  have HR := Lib.hid (And.intro hr hn)
  obtain ⟨Av, cv, rfl, -, -, -⟩ := hv.rdX hI
  have hnn : n ≤ 100000000 := by omega
  clear hv hI hr hn hl
  generalize hq : l.length = q at *
  have HQ := Lib.hid hq
  clear hq
  go_enter Try.func47, Try.ntmps47
  go_wp2
  go_loopw [0, 11] (fun u i wr => ∃ (k : Nat), k ≤ n ∧ i = .int .i64 k ∧ base ≤ wr.heap.size ∧ Hid (OwnB wr base u (l ++ nmK op ls k) ∧ Grew (.slice Av q cv) w u wr)) (fun _ i _ => n - (intOf i).toNat)
  case atStart => exact ⟨0, by omega, rfl, hb, by simpa [nmK] using HV.out, Grew.refl _ _⟩
  case round =>
    obtain ⟨k, hk, rfl, hbr, HX⟩ := hrel
    by_cases hlt : k < n
    · have hlt2 : (k : Int) < n := by omega
      have hkl : k < ls.length := by rw [← HR.out.2]; exact hlt
      have hr2 := HR.out.1.chg HX.out.2.1 fun j _ hx e => hx e
      obtain ⟨ba, oa, rfl, hca, x0, x1⟩ := hr2.at_ hkl
      have HB1 : Hid (IsBytes (l ++ nmK op ls k) ∧ (l ++ nmK op ls k).length ≤ 90000000) := by
        obtain ⟨h1, h2⟩ := nmK_is op ls HR.out.1.1 k (by omega)
        refine ⟨HI.out.1.app h1, ?_⟩
        have := HI.out.2; have := HQ.out
        simp; omega
      have HNX : Hid (l ++ nmK op ls (k + 1) = l ++ nmK op ls k ++ (if (k : Int) < nums op then encU (ls.getD k 0) else [0])) := by simp [Hid, nmK]
      generalize ls.getD k 0 = z at *
      obtain ⟨Au, cu, hu, -, -, -⟩ := HX.out.1.rdX HB1.out.1
      have HN := Lib.hid (fun W => numbers_any op W)
      clear hr2 hkl
      subst hu
      have hown := fun j hj => owns_lt (g := j) HX.out.1 hj
      have HOL := Lib.hid hown
      clear hown
      generalize hql : (l ++ nmK op ls k).length = ql at *
      have HQL := Lib.hid hql
      clear hql
      by_cases hp : (k : Int) < nums op
      · rw [if_pos hp] at HNX
        generalize nums op = y at *
        go_wp2_with (go_at_call 83; refine (HN.out _).mono ?_; rintro e w' ⟨rfl, rfl⟩)
        have HU := cputNums_any base (.slice Au ql cu) (l ++ nmK op ls k) (some ⟨wr.heap.size, 0, none⟩) [z] 1 1 _ (OwnB.later HX.out.1 (below_a wr _)) HB1.out.1 (by simp; omega) (lit1_rdQ wr z x0 x1 HOL.out) rfl (by have := HB1.out.2; have := HQL.out; omega)
        refine HU.mono ?_
        rintro e w3 ⟨v3, rfl, hv3, hw3⟩
        have H3 : Hid (OwnB w3 base v3 (l ++ nmK op ls (k + 1)) ∧ Grew (.slice Au ql cu) wr v3 w3) := ⟨by rw [HNX.out]; simpa [encs] using hv3, hw3.before (below_a wr _) HOL.out⟩
        obtain ⟨A3, c3, rfl, -, -, -⟩ := hv3.rdX (HB1.out.1.app (encs_is _ (IsU32.one x0 x1).u64))
        clear hv3 hw3
        generalize (l ++ nmK op ls k ++ encs [z]).length = q3 at *
        go_wp2
        refine ⟨⟨k + 1, by omega, by go_num, by have := H3.out.2.1.size; omega, H3.out.1, HX.out.2.trans H3.out.2⟩, ?_⟩
        simp [intOf]; omega
      · rw [if_neg hp] at HNX
        generalize nums op = y at *
        have hlk : (l ++ nmK op ls k).length + 1 ≤ 1000000000 := by have := HB1.out.2; have := HQL.out; omega
        go_wp2_with (first | (go_at_call 83; refine (HN.out _).mono ?_; rintro e w' ⟨rfl, rfl⟩) | (at_builtin; refine wpList_app1G rfl (.tmp 24) (.tmp 25) rfl base (.slice Au ql cu) _ rfl HX.out.1 0 rfl (by omega) (by omega) hlk hbr ?_; intro v1 w1 hv1 hw1; rw [← HNX.out] at hv1; have H1 := Lib.hid (And.intro hv1 hw1); clear hv1 hw1))
        refine ⟨⟨k + 1, by omega, by go_num, by have := H1.out.2.1.size; omega, H1.out.1, HX.out.2.trans H1.out.2⟩, ?_⟩
        simp [intOf]; omega
    · obtain rfl : k = n := by omega
      go_wp2
      go_ret
      exact ⟨_, rfl, HX.out.1, HX.out.2⟩

def encOp (op : Int) : List Int := if op < 64512 then [op % 256] else 252 :: encU (op - 64512)
theorem encOp_is (op : Int) (h0 : 0 ≤ op) (h1 : op ≤ 1000000) : IsBytes (encOp op) ∧ (encOp op).length ≤ 11 := by
  unfold encOp
  split
  · exact ⟨IsBytes.one (by omega) (by omega), by simp⟩
  · refine ⟨(IsBytes.one (z := 252) (by omega) (by omega)).app (encU_is _ (by omega) (by omega)), ?_⟩
    have := (encU_len (op - 64512)).2
    simp; omega
set_option maxHeartbeats 1000000 in
theorem cputOp_any (base : Nat) (v : Value) (l : List Int) (op : Int) (w : World) (hv : OwnB w base v l) (hI : IsBytes l) (hb : base ≤ w.heap.size) (hl : l.length ≤ 80000000) (h0 : 0 ≤ op) (h1 : op ≤ 1000000) :
    Calls Try.prog 29 #[v, .int .i64 op] w (GPost base v (l ++ encOp op) w) := by
  have HV := Lib.hid hv
  have HI := Lib.hid hI
  obtain ⟨Av, cv, rfl, -, -, -⟩ := hv.rdX hI
  have HOL := Lib.hid (fun j hj => owns_lt (g := j) hv hj)
  clear hv hI
  generalize hq : l.length = q at *
  have HQ := Lib.hid hq
  clear hq
  by_cases hop : op < 64512
  · have HE : Hid (encOp op = [op % 256]) := by unfold Hid encOp; rw [if_pos hop]
    go_enter Try.func29, Try.ntmps29
    go_wp2_with (at_builtin; refine wpList_app1G rfl (.tmp 7) (.tmp 10) rfl base (.slice Av q cv) l rfl HV.out (op % 256) rfl (by omega) (by omega) (by have := HQ.out; omega) hb ?_; intro v1 w1 hv1 hw1; rw [← HE.out] at hv1; have H1 := Lib.hid (And.intro hv1 hw1); clear hv1 hw1)
    go_ret
    exact ⟨_, rfl, H1.out.1, H1.out.2⟩
  · have HE : Hid (encOp op = 252 :: encU (op - 64512)) := by unfold Hid encOp; rw [if_neg hop]
    have hw1 : wrap64 (op - 64512) = op - 64512 := by unfold wrap64; omega
    have hw2 : (op - 64512) % 4294967296 = op - 64512 := by omega
    go_enter Try.func29, Try.ntmps29
    go_wp2_with (at_builtin; refine wpList_app1G rfl (.tmp 12) (.tmp 13) rfl base (.slice Av q cv) l rfl HV.out 252 rfl (by omega) (by omega) (by have := HQ.out; omega) hb ?_; intro v1 w1 hv1 hw1; have H1 := Lib.hid (And.intro hv1 hw1); have HL1 := Lib.hid (fun j hj => owns_lt (g := j) hv1 hj); obtain ⟨A1, c1, rfl, -, -, -⟩ := hv1.rdX (HI.out.app (IsBytes.one (by omega) (by omega))); clear hv1 hw1; generalize hq1 : (l ++ [252]).length = q1 at *; have HQ1 := Lib.hid hq1; clear hq1)
    have hs1 := H1.out.2.1.size
    refine (cputNums_any base (.slice A1 q1 c1) (l ++ [252]) (some ⟨w1.heap.size, 0, none⟩) [op - 64512] 1 1 _ (OwnB.later H1.out.1 (below_a w1 _)) (HI.out.app (IsBytes.one (by omega) (by omega))) (by simp; omega) (lit1_rdQ w1 _ (by omega) (by omega) HL1.out) rfl (by have := HQ.out; simp; omega)).mono ?_
    rintro e w3 ⟨v3, rfl, hv3, hw3⟩
    have H3 : Hid (OwnB w3 base v3 (l ++ encOp op) ∧ Grew (.slice Av q cv) w v3 w3) := ⟨by rw [HE.out]; simpa [encs] using hv3, H1.out.2.trans (hw3.before (below_a w1 _) HL1.out)⟩
    clear hv3 hw3
    go_wp2
    go_ret
    exact ⟨_, rfl, H3.out.1, H3.out.2⟩
end Go.Proofs.Ytdbbcbffmbcjiaa
