/- code's source: an instruction, with what is open. -/
import Derived.Test.YtdbbcbffmbcjiaaCodeNest
namespace Go.Proofs.Ytdbbcbffmbcjiaa
open Go.RowKit
set_option maxRecDepth 100000
set_option linter.unusedVariables false

def insV (x : Ins) (A : Option Addr) (c : Nat) : Value := .agg #[.int .i64 x.op, .int .u32 x.a, .int .u32 x.b, .int .u64 x.n, .slice A x.l.length c, .int .i64 x.t]
def InPost (g N : Nat) (s : St) (ov : Value) (o : List Int) (w : World) (e : Ending) (w' : World) : Prop :=
  ∃ x A c ov' o' over', e = .returned (insV x A c) ∧ LabX (fun k => w.heap.size ≤ k ∧ ov'.ownBlock ≠ some k) w' x A c ∧ InsOk x ∧ NsAt w' g N (nx (pSt o) s) ov' o' over' ∧ (∀ r l', bd s (pSt o) = .ok (r, l') → r = (x, o', over')) ∧ Chg (fun k => k = g ∨ ov.ownBlock = some k) w w' ∧ (∀ k, ov'.ownBlock = some k → ov.ownBlock = some k ∨ w.heap.size ≤ k)
def put6 (w : World) (g : Nat) (a : Array Value) : World := ((((((w.setCell ⟨g, 0, none⟩ (a.getD 0 undef)).setCell ⟨g, 1, none⟩ (a.getD 1 undef)).setCell ⟨g, 2, none⟩ (a.getD 2 undef)).setCell ⟨g, 3, none⟩ (a.getD 3 undef)).setCell ⟨g, 4, none⟩ (a.getD 4 undef)).setCell ⟨g, 5, none⟩ (a.getD 5 undef))
theorem chg6 (w : World) (g : Nat) (a : Array Value) : Chg (fun k => k = g) w (put6 w g a) :=
  (((((chgSet w g 0 _).trans (chgSet _ g 1 _) fun _ _ e => e).trans (chgSet _ g 2 _) fun _ _ e => e).trans (chgSet _ g 3 _) fun _ _ e => e).trans (chgSet _ g 4 _) fun _ _ e => e).trans (chgSet _ g 5 _) fun _ _ e => e
theorem own_put6 {w : World} {g : Nat} {t : TypeId} {b0 b1 b2 b3 b4 b5 : Value} (h : Own w g t [b0, b1, b2, b3, b4, b5]) (a0 a1 a2 a3 a4 a5 : Value) : Own (put6 w g #[a0, a1, a2, a3, a4, a5]) g t [a0, a1, a2, a3, a4, a5] :=
  (((((h.set 0 a0).set 1 a1).set 2 a2).set 3 a3).set 4 a4).set 5 a5

theorem kd_imm (x : Int) : 0 ≤ (kd x).1 ∧ (kd x).1 ≤ 8 ∧ 0 ≤ (kd x).2 ∧ (kd x).2 ≤ 5 := by
  unfold kd
  split
  · simp
  · split
    · simp
    · split
      · simp
      · split
        · unfold kf; split
          · simp
          · split <;> simp
        · unfold kb
          split; · simp
          split; · simp
          split; · simp
          split; · simp
          split; · simp
          split; · simp
          split; · simp
          split <;> simp
theorem in_bad {s : St} {op : Int} {o : List Int} (h : ∀ a l', bd s pOp = .ok (a, l') → op = a) (hk : (kd op).2 ≠ 0) : nx (pSt o) s = failS (kd op).2 (nx pOp s) ∧ ∀ r l', bd s (pSt o) ≠ .ok (r, l') := by
  cases s with
  | error e => exact ⟨rfl, fun a l' h => by cases h⟩
  | ok l =>
    simp only [nx_ok, bd_ok, pSt, pIn, seq] at h ⊢
    cases hp : pOp l with
    | error e => simp [failS]
    | ok r =>
      have := h r.1 r.2 (by rw [hp])
      subst this
      simp [hk, failS]
theorem in_good {s : St} {op : Int} {o : List Int} {x : Ins} {o' : List Int} {over' : Bool} (h : ∀ a l', bd s pOp = .ok (a, l') → op = a) (hk : (kd op).2 = 0) (hx : ∀ a l', bd (nx pOp s) (pBh (kd op).1 op) = .ok (a, l') → x = a) (hop : x.op = op) (hn : ∀ r, nestP op o = .ok r → o' = r.1 ∧ over' = r.2) :
    nx (pSt o) s = nstS op o (nx (pBh (kd op).1 op) (nx pOp s)) ∧ ∀ r l', bd s (pSt o) = .ok (r, l') → r = (x, o', over') := by
  subst hop
  cases s with
  | error e => refine ⟨?_, fun a l' h => by cases h⟩; simp only [nx_error]; unfold nstS; split <;> rfl
  | ok l =>
    simp only [nx_ok, bd_ok, pSt, pIn, seq] at h hx ⊢
    cases hp : pOp l with
    | error e => refine ⟨?_, fun a l' h => by cases h⟩; simp only [bd_error, nx_error]; unfold nstS; split <;> rfl
    | ok r =>
      have e := h r.1 r.2 (by rw [hp])
      rw [hp] at hx
      simp only [bd_ok, ← e, hk, if_true, nx_ok] at hx ⊢
      cases hq : pBh (kd x.op).1 x.op r.2 with
      | error e => refine ⟨?_, fun a l' h => by cases h⟩; simp only [bd_error]; unfold nstS; split <;> rfl
      | ok q =>
        have e2 := hx q.1 q.2 (by rw [hq])
        simp only [bd_ok, ← e2]
        unfold nstS
        cases hz : nestP x.op o with
        | error e => exact ⟨rfl, fun a l' h => by cases h⟩
        | ok z =>
          obtain ⟨h1, h2⟩ := hn z hz
          refine ⟨rfl, fun r l' h => ?_⟩
          simp only [bd_ok] at h
          injection h with h
          injection h with h _
          rw [← h, h1, h2]

set_option maxHeartbeats 4000000 in
theorem cinstr_any (g N : Nat) (s : St) (ov : Value) (o : List Int) (w : World) (h : NsAt w g N s ov o false) (hol : o.length ≤ 100000) :
    Calls Try.prog 20 #[.pointer (some ⟨g, 0, none⟩)] w (InPost g N s ov o w) := by
  have HH := Lib.hid h
  have hgw := h.1.lt
  have H1 : Hid (NsAt (w.alloc (.cells #[.int .i64 0, .int .u32 0, .int .u32 0, .int .u64 0, .slice none 0 0, .int .i64 0] 43)) g N s ov o false ∧ Own (w.alloc (.cells #[.int .i64 0, .int .u32 0, .int .u32 0, .int .u64 0, .slice none 0 0, .int .i64 0] 43)) w.heap.size 43 [.int .i64 0, .int .u32 0, .int .u32 0, .int .u64 0, .slice none 0 0, .int .i64 0]) := by
    have hb : Below w.heap.size w (w.alloc (.cells #[.int .i64 0, .int .u32 0, .int .u32 0, .int .u64 0, .slice none 0 0, .int .i64 0] 43)) := (Below.refl _ _).alloc (Nat.le_refl _) _
    exact ⟨⟨h.1.later hb, h.2.1.later hb, h.2.2⟩, Own.new w _ _⟩
  clear h
  go_enter Try.func20, Try.ntmps20
  go_wp2_with fail
  refine (cop_any g _ _ s _ H1.out.1.1).mono ?_
  rintro e w1 ⟨op, rfl, op0, op1, h2, h3, h4⟩
  generalize hgx : w.heap.size = gx at *
  have H2 : Hid (BhAt (w1.setCell ⟨gx, 0, none⟩ (.int .i64 op)) g 49 (N, [ov, .bool false]) (nx pOp s) gx (insC ⟨op, 0, 0, 0, [], 0⟩ none 0) ∧ OwnI (w1.setCell ⟨gx, 0, none⟩ (.int .i64 op)) (g + 1) ov o ∧ Chg (fun k => k = g) w (w1.setCell ⟨gx, 0, none⟩ (.int .i64 op)) ∧ gx ≤ w1.heap.size) := by
    have ho := H1.out.2.chg h4 (by omega)
    have hx : BhAt w1 g 49 (N, [ov, .bool false]) (nx pOp s) gx (insC ⟨0, 0, 0, 0, [], 0⟩ none 0) := ⟨h2, ho, hgw⟩
    have hc : Chg (fun k => k = g) w w1 := (Chg.alloc (S := fun k => k = g) w _).trans h4 fun k _ e => e
    have hc2 := chgSet w1 gx 0 (.int .i64 op)
    have hn : ∀ k, ov.ownBlock = some k → k ≠ gx := fun k hk => by have := owns_lt HH.out.2.1 hk; omega
    exact ⟨hx.set 0 _, ((H1.out.1.2.1.far h4).chg hc2 fun k hk e => hn k hk e), hc.trans hc2 fun k hk e => by omega, by have := hc.size; omega⟩
  have H3 := Lib.hid h3
  have ho := H1.out.2.chg h4 (by omega)
  obtain ⟨c0, c1, c2, c3, c4, c5, f0, f1, f2, f3, f4, f5⟩ := own_cells6 ho
  clear ho h2 h3 h4 H1
  by_cases hk : (kd op).2 = 0
  · have HK := Lib.hid hk
    have hkb := kd_imm op
    go_wp2_with (go_at_call 27; refine (kind_any op _).mono ?_; unfold pr; rintro e w' ⟨rfl, rfl⟩; rw [hk])
    refine (cbehind_any op g _ _ _ gx _ H2.out.1 (kd op).1 (by omega) (by omega)).mono ?_
    rintro e w2 ⟨u, x, A, c, rfl, h2, h3, h4, h5, h6, hc⟩
    have hc2 : Chg (fun k => k = g) w w2 := H2.out.2.2.1.trans hc fun k hk e => by omega
    have hn : ∀ k, ov.ownBlock = some k → g < k ∧ k < gx := fun k hk => by have := owns_lt HH.out.2.1 hk; have := owns_ge HH.out.2.1 hk; omega
    have hN : NsAt w2 g N (nx (pBh (kd op).1 op) (nx pOp s)) ov o false := ⟨h2.1, H2.out.2.1.chg hc fun k hk e => by have := hn k hk; omega, HH.out.2.2⟩
    have hwz : gx < (w1.setCell ⟨gx, 0, none⟩ (.int .i64 op)).heap.size := H2.out.1.2.1.lt
    have HB := Lib.hid (And.intro h2 (And.intro (h3.mono (Y := fun k => gx < k) fun k _ hk => Nat.lt_of_lt_of_le hwz hk) (And.intro h4 (And.intro h6 (And.intro hc2 hN)))))
    obtain ⟨d0, d1, d2, d3, d4, d5, -, -, -, -, -, -⟩ := own_cells6 h2.2.1
    have HX := Lib.hid h5
    clear h2 h3 h4 h6 hc hc2 hN hwz c0 c1 c2 c3 c4 c5 f0 f1 f2 f3 f4 f5 d1 d2 d3 d4 d5
    rw [h5] at d0
    clear h5 hkb hk
    go_wp2_with fail
    refine (cnest_any op g N _ ov o w2 HB.out.2.2.2.2.2 hol).mono ?_
    rintro e w3 ⟨u2, ov', o', over', rfl, n1, n2, n3, n4⟩
    have hlt := HB.out.1.2.1.lt
    have hgn : ¬ (gx = g ∨ ov.ownBlock = some gx) := by rintro (e | e); · omega
                                                        · have := hn gx e; omega
    have ho := HB.out.1.2.1.chg n3 hgn
    have hL := (HB.out.2.1.mono (Y := fun k => gx < k ∧ ov'.ownBlock ≠ some k) fun k hk hx => ⟨hx, fun e => by
      rcases n4 k e with h | h
      · have := hn k h; omega
      · omega⟩).chg n3 fun k _ hk => by
      have := hk.1
      rintro (e | e)
      · omega
      · have := hn k e; omega
    have HD := Lib.hid (And.intro n1 (And.intro n4 (And.intro ((HB.out.2.2.2.2.1.mono fun k _ e => .inl e).trans n3 fun k hk e => e) (And.intro ho hL))))
    have HI := Lib.hid (in_good (o := o) H3.out HK.out HB.out.2.2.2.1 HX.out n2)
    obtain ⟨c0, c1, c2, c3, c4, c5, f0, f1, f2, f3, f4, f5⟩ := own_cells6 ho
    have HN := Lib.hid (And.intro hn hlt)
    have HOK := Lib.hid HB.out.2.2.1
    clear n1 n2 n3 n4 ho hL d0 hlt hgn hn HB H2 HH H3
    generalize hlq : x.l.length = lq at *
    have HLQ := Lib.hid hlq
    clear hlq
    go_wp2
    have hW := own_put6 HD.out.2.2.2.1 (.int .i64 x.op) (.int .u32 x.a) (.int .u32 x.b) (.int .u64 x.n) (.slice A x.l.length c) (.int .i64 x.t)
    have hC := chg6 w3 gx #[.int .i64 x.op, .int .u32 x.a, .int .u32 x.b, .int .u64 x.n, .slice A x.l.length c, .int .i64 x.t]
    obtain rfl := HLQ.out
    show bodyPost _ _ _ _ _ (put6 w3 gx #[.int .i64 x.op, .int .u32 x.a, .int .u32 x.b, .int .u64 x.n, .slice A x.l.length c, .int .i64 x.t])
    generalize put6 w3 gx #[.int .i64 x.op, .int .u32 x.a, .int .u32 x.b, .int .u64 x.n, .slice A x.l.length c, .int .i64 x.t] = W at *
    clear c0 c1 c2 c3 c4 c5 f0 f1 f2 f3 f4 f5
    obtain ⟨k0, k1, k2, k3, k4, k5, -, -, -, -, -, -⟩ := own_cells6 hW
    refine bodyPost_ret (by simp [results, Try.results20, go_sem, k0, k1, k2, k3, k4, k5]; try rfl) rfl ?_
    obtain ⟨q1, q2, q3, q4, q5⟩ := HD.out
    refine ⟨x, A, c, ov', o', over', rfl, ?_, HOK.out, ⟨?_, ?_, q1.2.2⟩, HI.out.2, q3.trans hC fun k hk e => by omega, fun k hk => ?_⟩
    · exact (q5.chg hC fun k _ hk e => by have := hk.1; omega).mono fun k _ hk => ⟨by have := hk.1; omega, hk.2⟩
    · rw [HI.out.1]; exact q1.1.chg hC fun k hk e => by omega
    · exact q1.2.1.chg hC fun k hk e => by
        rcases q2 k hk with h | h
        · have := HN.out.1 k h; omega
        · have := HN.out.2; omega
    · rcases q2 k hk with h | h
      · exact .inl h
      · have := HN.out.2; exact .inr (by omega)
  · have HK := Lib.hid hk
    have hke : ((kd op).2 != 0) = true := by simpa using hk
    have hkb := kd_imm op
    go_wp2_with (go_at_call 27; refine (kind_any op _).mono ?_; unfold pr; rintro e w' ⟨rfl, rfl⟩)
    refine (rfail_any g _ _ _ (kd op).2 _ H2.out.1.1 (by omega) (by omega)).mono ?_
    rintro e w2 ⟨⟨u, rfl⟩, h2, hc⟩
    have HB := Lib.hid (And.intro (H2.out.1.step h2 hc) (And.intro (H2.out.2.1.far hc) hc))
    clear h2 hc c0 c1 c2 c3 c4 c5 f0 f1 f2 f3 f4 f5
    obtain ⟨c0, c1, c2, c3, c4, c5, f0, f1, f2, f3, f4, f5⟩ := own_cells6 HB.out.1.2.1
    have HI := Lib.hid (in_bad (o := o) H3.out hk)
    simp only [List.length_nil] at c4
    clear hkb hk
    generalize (kd op).2 = ke at *
    generalize (kd op).1 = ki at *
    go_wp2
    have hW := own_put6 HB.out.1.2.1 (.int .i64 op) (.int .u32 0) (.int .u32 0) (.int .u64 0) (.slice none 0 0) (.int .i64 0)
    have hC := chg6 w2 gx #[.int .i64 op, .int .u32 0, .int .u32 0, .int .u64 0, .slice none 0 0, .int .i64 0]
    show bodyPost _ _ _ _ _ (put6 w2 gx #[.int .i64 op, .int .u32 0, .int .u32 0, .int .u64 0, .slice none 0 0, .int .i64 0])
    generalize put6 w2 gx #[.int .i64 op, .int .u32 0, .int .u32 0, .int .u64 0, .slice none 0 0, .int .i64 0] = W at *
    clear c0 c1 c2 c3 c4 c5 f0 f1 f2 f3 f4 f5
    obtain ⟨k0, k1, k2, k3, k4, k5, -, -, -, -, -, -⟩ := own_cells6 hW
    refine bodyPost_ret (by simp [results, Try.results20, go_sem, k0, k1, k2, k3, k4, k5]; try rfl) rfl ?_
    have hc2 : Chg (fun k => k = g) w W := (H2.out.2.2.1.trans HB.out.2.2 fun k hk e => e).trans hC fun k hk e => by omega
    refine ⟨⟨op, 0, 0, 0, [], 0⟩, none, 0, ov, o, false, rfl, LabX.nil _ _ rfl, ⟨by simp, by simp, by simp, by simp, by simp, by simp, by simp, by simp, IsU32.nil, by simp⟩, ⟨?_, HB.out.2.1.chg hC fun k hk e => ?_, HH.out.2.2⟩, fun r l' h => (HI.out.2 r l' h).elim, hc2.mono fun k _ e => .inl e, fun k hk => .inl hk⟩
    · rw [HI.out.1]; exact HB.out.1.1.chg hC fun k hk e => by omega
    · have := owns_lt HH.out.2.1 hk; omega
end Go.Proofs.Ytdbbcbffmbcjiaa
