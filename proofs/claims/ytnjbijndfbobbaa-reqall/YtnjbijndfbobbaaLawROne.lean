/- The walk of ReqOne: out of the contracts. -/
import Derived.Test.YtnjbijndfbobbaaMay
import Derived.Deep.RegionWith
import Derived.Deep.RegionHeld3
namespace Go.Proofs.Ytnjbijndfbobbaa
open Go.RowKit
set_option maxRecDepth 100000
set_option linter.unusedVariables false

/-- A request that is boxed in block g. -/
def BoxR (X : Nat → Prop) (w : World) (g : Nat) (v : Value) (q : Req) : Prop := ReqV X w v q ∧ ∃ cs : List Value, v = .agg cs.toArray ∧ Own w g 26 cs
theorem BoxR.later {X : Nat → Prop} {w w' : World} {g : Nat} {v : Value} {q : Req} (h : BoxR X w g v q) (hb : Below w.heap.size w w') : BoxR X w' g v q := by
  obtain ⟨h1, cs, h2, h3⟩ := h
  exact ⟨h1.later hb, cs, h2, h3.later hb⟩
theorem BoxR.open {X : Nat → Prop} {w : World} {g : Nat} {v : Value} {q : Req} (h : BoxR X w g v q) : ∃ A c B d, v = .agg #[.int .i64 q.kind, .int .u64 q.token, .int .u64 q.handle, .string (strOfNums q.name), .slice A q.body.length c, .slice B q.args.length d, .int .u64 q.ticks, .int .u64 q.other] ∧ Own w g 26 [.int .i64 q.kind, .int .u64 q.token, .int .u64 q.handle, .string (strOfNums q.name), .slice A q.body.length c, .slice B q.args.length d, .int .u64 q.ticks, .int .u64 q.other] := by
  obtain ⟨h1, cs, h2, h3⟩ := h
  obtain ⟨A, c, B, d, rfl⟩ := h1.form
  have e : cs = [.int .i64 q.kind, .int .u64 q.token, .int .u64 q.handle, .string (strOfNums q.name), .slice A q.body.length c, .slice B q.args.length d, .int .u64 q.ticks, .int .u64 q.other] := by
    injection h2 with h2
    exact (congrArg Array.toList h2).symm
  subst e
  exact ⟨A, c, B, d, rfl, h3⟩
theorem boxR_new {X : Nat → Prop} {w : World} {q : Req} {A B : Option Addr} {c d : Nat} (h : ReqV X w (.agg #[.int .i64 q.kind, .int .u64 q.token, .int .u64 q.handle, .string (strOfNums q.name), .slice A q.body.length c, .slice B q.args.length d, .int .u64 q.ticks, .int .u64 q.other]) q) :
    BoxR X (w.alloc (.cells #[.int .i64 q.kind, .int .u64 q.token, .int .u64 q.handle, .string (strOfNums q.name), .slice A q.body.length c, .slice B q.args.length d, .int .u64 q.ticks, .int .u64 q.other] 26)) w.heap.size (.agg #[.int .i64 q.kind, .int .u64 q.token, .int .u64 q.handle, .string (strOfNums q.name), .slice A q.body.length c, .slice B q.args.length d, .int .u64 q.ticks, .int .u64 q.other]) q :=
  ⟨h.later ((Below.refl _ _).alloc (Nat.le_refl _) _), [.int .i64 q.kind, .int .u64 q.token, .int .u64 q.handle, .string (strOfNums q.name), .slice A q.body.length c, .slice B q.args.length d, .int .u64 q.ticks, .int .u64 q.other], rfl, Own.new w 26 _⟩

set_option maxHeartbeats 4000000 in
theorem reqOne_core {X Y : Nat → Prop} (va vb : Value) (a b : Req) (w : World) (ha : ReqV X w va a) (hb : ReqV Y w vb b) :
    Calls Try.prog 7 #[va, vb] w fun e w' => e = .returned (.bool true) ∧ Below w.heap.size w w' := by
  obtain ⟨A, c, B, d, rfl⟩ := ha.form
  obtain ⟨A', c', B', d', rfl⟩ := hb.form
  have hbA := boxR_new ha
  have hb1 := (Below.refl w.heap.size w).alloc (Nat.le_refl _) (.cells #[.int .i64 a.kind, .int .u64 a.token, .int .u64 a.handle, .string (strOfNums a.name), .slice A a.body.length c, .slice B a.args.length d, .int .u64 a.ticks, .int .u64 a.other] 26)
  have hbB := boxR_new (hb.later hb1)
  have e1 : (w.alloc (.cells #[.int .i64 a.kind, .int .u64 a.token, .int .u64 a.handle, .string (strOfNums a.name), .slice A a.body.length c, .slice B a.args.length d, .int .u64 a.ticks, .int .u64 a.other] 26)).heap.size = w.heap.size + 1 := by simp
  go_enter Try.func7, Try.ntmps7
  go_upto_region 1 with fail
  generalize w.alloc (.cells #[.int .i64 a.kind, .int .u64 a.token, .int .u64 a.handle, .string (strOfNums a.name), .slice A a.body.length c, .slice B a.args.length d, .int .u64 a.ticks, .int .u64 a.other] 26) = w0 at *
  have hb2 := (Below.refl w0.heap.size w0).alloc (Nat.le_refl _) (.cells #[.int .i64 b.kind, .int .u64 b.token, .int .u64 b.handle, .string (strOfNums b.name), .slice A' b.body.length c', .slice B' b.args.length d', .int .u64 b.ticks, .int .u64 b.other] 26)
  have hbA2 := hbA.later hb2
  have hbb := hb1.trans (hb2.mono (by omega))
  rw [e1] at hbB
  generalize w0.alloc (.cells #[.int .i64 b.kind, .int .u64 b.token, .int .u64 b.handle, .string (strOfNums b.name), .slice A' b.body.length c', .slice B' b.args.length d', .int .u64 b.ticks, .int .u64 b.other] 26) = w00 at *
  have hab := ha.ok
  have hbo := hb.ok
  have hna : (strOfNums a.name).size = a.name.length := strOfNums_size a.name
  have hnb : (strOfNums b.name).size = b.name.length := strOfNums_size b.name
  go_wp2_with fail
  refine (begun3_any w00).mono ?_
  rintro e w1 ⟨rfl, hg1⟩
  have H1 := Lib.hid (And.intro (hbA2.later hg1) (And.intro (hbB.later hg1) (And.intro (hbb.trans (hg1.mono hbb.size)) (And.intro hab hbo))))
  clear ha hb hbA hb1 hbB hb2 hbA2 hbb hg1 hab hbo e1
  have CA : Hid (∀ W, Below w1.heap.size w1 W → Calls Try.prog 19 #[.agg #[.int .i64 a.kind, .int .u64 a.token, .int .u64 a.handle, .string (strOfNums a.name), .slice A a.body.length c, .slice B a.args.length d, .int .u64 a.ticks, .int .u64 a.other]] W fun e w' => e = .returned (.bool (mayB a)) ∧ Below W.heap.size W w') := fun W hW => may_any _ a W (H1.out.1.1.later hW)
  have CB : Hid (∀ W, Below w1.heap.size w1 W → Calls Try.prog 19 #[.agg #[.int .i64 b.kind, .int .u64 b.token, .int .u64 b.handle, .string (strOfNums b.name), .slice A' b.body.length c', .slice B' b.args.length d', .int .u64 b.ticks, .int .u64 b.other]] W fun e w' => e = .returned (.bool (mayB b)) ∧ Below W.heap.size W w') := fun W hW => may_any _ b W (H1.out.2.1.1.later hW)
  have OA : Hid (∀ W, Below w1.heap.size w1 W → Own W w.heap.size 26 [.int .i64 a.kind, .int .u64 a.token, .int .u64 a.handle, .string (strOfNums a.name), .slice A a.body.length c, .slice B a.args.length d, .int .u64 a.ticks, .int .u64 a.other]) := fun W hW => by
    obtain ⟨A2, c2, B2, d2, e2, o2⟩ := H1.out.1.open
    injection e2 with e2
    have e3 := congrArg Array.toList e2
    simp only [List.cons.injEq, Value.slice.injEq, true_and, and_true] at e3
    obtain ⟨⟨rfl, rfl⟩, rfl, rfl⟩ := e3
    exact o2.later hW
  have OB : Hid (∀ W, Below w1.heap.size w1 W → Own W (w.heap.size + 1) 26 [.int .i64 b.kind, .int .u64 b.token, .int .u64 b.handle, .string (strOfNums b.name), .slice A' b.body.length c', .slice B' b.args.length d', .int .u64 b.ticks, .int .u64 b.other]) := fun W hW => by
    obtain ⟨A2, c2, B2, d2, e2, o2⟩ := H1.out.2.1.open
    injection e2 with e2
    have e3 := congrArg Array.toList e2
    simp only [List.cons.injEq, Value.slice.injEq, true_and, and_true] at e3
    obtain ⟨⟨rfl, rfl⟩, rfl, rfl⟩ := e3
    exact o2.later hW
  have BA : ∀ (W : World), Below w1.heap.size w1 W → True := fun _ _ => trivial
  clear BA
  go_upto_region 3 with fail
  go_cut [42] from 9 (fun s42 wx => ∃ bad : Bool, s42 = .bool bad ∧ Hid (Below w1.heap.size w1 wx ∧ (bad = false → May a ∧ May b ∧ a.name.length ≤ 32 ∧ b.name.length ≤ 32 ∧ a.args.length ≤ 8 ∧ b.args.length ≤ 8)))
  case first =>
    obtain ⟨a0, a1, a2, a3, a4, a5, a6, a7, -, -, -, -, -, -, -, -⟩ := own_cells8 (OA.out w1 (Below.refl _ _))
    obtain ⟨b0, b1, b2, b3, b4, b5, b6, b7, -, -, -, -, -, -, -, -⟩ := own_cells8 (OB.out w1 (Below.refl _ _))
    have HA := Lib.hid (mayB_iff a).1
    have HB := Lib.hid (mayB_iff b).1
    generalize mayB a = ma at *
    generalize mayB b = mb at *
    generalize hal : a.args.length = al at *
    generalize hbl : b.args.length = bl at *
    generalize hanl : a.name.length = anl at *
    generalize hbnl : b.name.length = bnl at *
    cases ma
    · go_wp2_with (go_at_call 19; refine (CA.out w1 (Below.refl _ _)).mono ?_; rintro e w2 ⟨rfl, hb2⟩; have H2 := Lib.hid hb2; clear hb2)
      go_meet
      exact ⟨true, rfl, H2.out, fun h => by cases h⟩
    · cases mb
      · go_wp2_with (first | (go_at_call 19; refine (CB.out w2 H2.out).mono ?_; rintro e w3 ⟨rfl, hb3⟩; have H3 := Lib.hid (H2.out.trans (hb3.mono H2.out.size)); clear hb3) | (go_at_call 19; refine (CA.out w1 (Below.refl _ _)).mono ?_; rintro e w2 ⟨rfl, hb2⟩; obtain ⟨p0, p1, p2, p3, p4, p5, p6, p7, -, -, -, -, -, -, -, -⟩ := own_cells8 (OB.out w2 hb2); have H2 := Lib.hid hb2; clear hb2))
        go_meet
        exact ⟨true, rfl, H3.out, fun h => by cases h⟩
      · have fwd : ∀ P : Prop, ((32 : Int) < anl → P) → (¬ (32 : Int) < anl → (32 : Int) < bnl → P) → (¬ (32 : Int) < anl → ¬ (32 : Int) < bnl → (8 : Int) < al → P) → (¬ (32 : Int) < anl → ¬ (32 : Int) < bnl → ¬ (8 : Int) < al → (8 : Int) < bl → P) → (¬ (32 : Int) < anl → ¬ (32 : Int) < bnl → ¬ (8 : Int) < al → ¬ (8 : Int) < bl → P) → P := fun P h1 h2 h3 h4 h5 => by
          by_cases q1 : (32 : Int) < anl
          · exact h1 q1
          · by_cases q2 : (32 : Int) < bnl
            · exact h2 q1 q2
            · by_cases q3 : (8 : Int) < al
              · exact h3 q1 q2 q3
              · by_cases q4 : (8 : Int) < bl
                · exact h4 q1 q2 q3 q4
                · exact h5 q1 q2 q3 q4
        apply fwd
        all_goals intros
        all_goals clear fwd
        all_goals
          go_wp2_with (first | (go_at_call 19; refine (CB.out w2 H2.out).mono ?_; rintro e w3 ⟨rfl, hb3⟩; have hb13 := H2.out.trans (hb3.mono H2.out.size); obtain ⟨m0, m1, m2, m3, m4, m5, m6, m7, -, -, -, -, -, -, -, -⟩ := own_cells8 (OA.out w3 hb13); obtain ⟨n0, n1, n2, n3, n4, n5, n6, n7, -, -, -, -, -, -, -, -⟩ := own_cells8 (OB.out w3 hb13); have H3 := Lib.hid hb13; clear hb3 hb13) | (go_at_call 19; refine (CA.out w1 (Below.refl _ _)).mono ?_; rintro e w2 ⟨rfl, hb2⟩; obtain ⟨p0, p1, p2, p3, p4, p5, p6, p7, -, -, -, -, -, -, -, -⟩ := own_cells8 (OB.out w2 hb2); have H2 := Lib.hid hb2; clear hb2))
          go_meet
        all_goals first | exact ⟨true, rfl, H3.out, fun h => by cases h⟩ | exact ⟨_, rfl, H3.out, fun _ => ⟨HA.out (by first | rfl | trivial), HB.out (by first | rfl | trivial), by omega, by omega, by omega, by omega⟩⟩
  case rest =>
    obtain ⟨bad, rfl, HC⟩ := hcut
    cases bad
    · obtain ⟨hma, hmb, na, nb, xa, xb⟩ := HC.out.2 rfl
      obtain ⟨hA1, hA2⟩ := And.intro H1.out.2.2.2.1 H1.out.2.2.2.2
      have tA := req_back a hA1.1 hma.1 hma.2.1 hA1.2.1 na xa
      have tB := req_back b hA2.1 hmb.1 hmb.2.1 hA2.2.1 nb xb
      have iA := putReq_is a hA1.1 hma.1 hma.2.1 hA1.2.1 hA1.2.2 (by omega) (by omega)
      have iB := putReq_is b hA2.1 hmb.1 hmb.2.1 hA2.2.1 hA2.2.2 (by omega) (by omega)
      obtain ⟨la1, la2⟩ := putReq_len a (by omega) (by omega) (by have := hma.2.2.2.1; omega)
      obtain ⟨lb1, lb2⟩ := putReq_len b (by omega) (by omega) (by have := hmb.2.2.2.1; omega)
      have hal := alike_put a b hA1 hA2 hma hmb na nb xa xb
      have PA : Hid (∀ W, Below w1.heap.size w1 W → Calls Try.prog 20 #[.agg #[.int .i64 a.kind, .int .u64 a.token, .int .u64 a.handle, .string (strOfNums a.name), .slice A a.body.length c, .slice B a.args.length d, .int .u64 a.ticks, .int .u64 a.other]] W (PutPost (putReq a) W)) := fun W hW => put_req _ a W (H1.out.1.1.later hW) ⟨hma.1, hma.2.1⟩ (by omega) (by have := hma.2.2.2.1; omega) (by omega)
      have PB : Hid (∀ W, Below w1.heap.size w1 W → Calls Try.prog 20 #[.agg #[.int .i64 b.kind, .int .u64 b.token, .int .u64 b.handle, .string (strOfNums b.name), .slice A' b.body.length c', .slice B' b.args.length d', .int .u64 b.ticks, .int .u64 b.other]] W (PutPost (putReq b) W)) := fun W hW => put_req _ b W (H1.out.2.1.1.later hW) ⟨hmb.1, hmb.2.1⟩ (by omega) (by have := hmb.2.2.2.1; omega) (by omega)
      have SA : Hid (∀ W, Below w1.heap.size w1 W → Calls Try.prog 22 #[.agg #[.int .i64 a.kind, .int .u64 a.token, .int .u64 a.handle, .string (strOfNums a.name), .slice A a.body.length c, .slice B a.args.length d, .int .u64 a.ticks, .int .u64 a.other], .agg #[.int .i64 a.kind, .int .u64 a.token, .int .u64 a.handle, .string (strOfNums a.name), .slice A a.body.length c, .slice B a.args.length d, .int .u64 a.ticks, .int .u64 a.other]] W fun e w' => e = .returned (.bool true) ∧ Below W.heap.size W w') := fun W hW => by
        have := same_any _ _ a a W (H1.out.1.1.later hW) (H1.out.1.1.later hW)
        rwa [decide_eq_true rfl] at this
      have HT := Lib.hid (And.intro tA (And.intro tB (And.intro iA (And.intro iB (And.intro la2 (And.intro lb2 hal))))))
      have heq := strOfNums_eq iA iB
      rw [← hal] at heq
      generalize norm a = xa0 at *
      generalize norm b = xb0 at *
      have HEQ := Lib.hid heq
      clear tA tB iA iB la1 la2 lb1 lb2 hal hA1 hA2 hma hmb na nb xa xb CA CB heq
      have HW := Lib.hid HC.out.1
      clear HC
      obtain ⟨a0, a1, a2, a3, a4, a5, a6, a7, -, -, -, -, -, -, -, -⟩ := own_cells8 (OA.out wc HW.out)
      go_wp2_with fail
      refine (PA.out wc HW.out).mono ?_
      intro e w2 h
      obtain ⟨A2, k2, rfl, hr2, hk1, hk2, hb2⟩ := h.arg HT.out.2.2.1
      have H2 := Lib.hid (And.intro hr2 (And.intro hk1 (And.intro hk2 (HW.out.trans (hb2.mono HW.out.size)))))
      clear h hr2 hk1 hk2 hb2 a0 a1 a2 a3 a4 a5 a6 a7
      go_wp2_with fail
      refine (take_req A2 (putReq a) _ k2 w2 H2.out.1 rfl (by have := HT.out.2.2.2.2.1; omega) H2.out.2.1 H2.out.2.2.1).mono ?_
      rintro e w3 ⟨v3, rfl, hv3, hb3⟩
      rw [HT.out.1] at hv3 ⊢
      simp only [reqOf, codeOf] at hv3 ⊢
      obtain ⟨A3, c3, B3, d3, rfl⟩ := hv3.form
      have hx3 := boxR_new hv3
      have hb34 := hb3.trans (((Below.refl w3.heap.size w3).alloc (Nat.le_refl _) (.cells #[.int .i64 xa0.kind, .int .u64 xa0.token, .int .u64 xa0.handle, .string (strOfNums xa0.name), .slice A3 xa0.body.length c3, .slice B3 xa0.args.length d3, .int .u64 xa0.ticks, .int .u64 xa0.other] 26)).mono hb3.size)
      go_upto_region 6 with fail
      generalize hw4 : w3.alloc (.cells #[.int .i64 xa0.kind, .int .u64 xa0.token, .int .u64 xa0.handle, .string (strOfNums xa0.name), .slice A3 xa0.body.length c3, .slice B3 xa0.args.length d3, .int .u64 xa0.ticks, .int .u64 xa0.other] 26) = w4 at *
      have H4 := Lib.hid (And.intro hx3 (H2.out.2.2.2.trans (hb34.mono H2.out.2.2.2.size)))
      have hg3 : w3.heap.size < w4.heap.size := by rw [← hw4]; simp
      clear hw4 hx3 hb34 hv3 hb3
      generalize w3.heap.size = g3 at *
      obtain ⟨b0, b1, b2, b3, b4, b5, b6, b7, -, -, -, -, -, -, -, -⟩ := own_cells8 (OB.out w4 H4.out.2)
      go_wp2_with fail
      refine (PB.out w4 H4.out.2).mono ?_
      intro e w5 h
      obtain ⟨A5b, k5, rfl, hr5, hk1, hk2, hb5⟩ := h.arg HT.out.2.2.2.1
      have H5 := Lib.hid (And.intro hr5 (And.intro hk1 (And.intro hk2 hb5)))
      clear h hr5 hk1 hk2 hb5 b0 b1 b2 b3 b4 b5 b6 b7
      go_wp2_with fail
      refine (take_req A5b (putReq b) _ k5 w5 H5.out.1 rfl (by have := HT.out.2.2.2.2.2.1; omega) H5.out.2.1 H5.out.2.2.1).mono ?_
      rintro e w6 ⟨v6, rfl, hv6, hb6⟩
      rw [HT.out.2.1] at hv6 ⊢
      simp only [reqOf, codeOf] at hv6 ⊢
      obtain ⟨A5, c5, B5, d5, rfl⟩ := hv6.form
      have hx6 := boxR_new hv6
      have hb67 := hb6.trans (((Below.refl w6.heap.size w6).alloc (Nat.le_refl _) (.cells #[.int .i64 xb0.kind, .int .u64 xb0.token, .int .u64 xb0.handle, .string (strOfNums xb0.name), .slice A5 xb0.body.length c5, .slice B5 xb0.args.length d5, .int .u64 xb0.ticks, .int .u64 xb0.other] 26)).mono hb6.size)
      go_upto_region 7 with fail
      generalize hw7 : w6.alloc (.cells #[.int .i64 xb0.kind, .int .u64 xb0.token, .int .u64 xb0.handle, .string (strOfNums xb0.name), .slice A5 xb0.body.length c5, .slice B5 xb0.args.length d5, .int .u64 xb0.ticks, .int .u64 xb0.other] 26) = w7 at *
      have hb47 := H5.out.2.2.2.trans (hb67.mono H5.out.2.2.2.size)
      have H7 := Lib.hid (And.intro hx6 (And.intro (H4.out.1.later hb47) (H4.out.2.trans (hb47.mono H4.out.2.size))))
      clear hw7 hx6 hb67 hv6 hb6 hb47
      generalize w6.heap.size = g6 at *
      have BX : Hid (∀ W, Below w7.heap.size w7 W → Own W g3 26 [.int .i64 xa0.kind, .int .u64 xa0.token, .int .u64 xa0.handle, .string (strOfNums xa0.name), .slice A3 xa0.body.length c3, .slice B3 xa0.args.length d3, .int .u64 xa0.ticks, .int .u64 xa0.other] ∧ Own W g6 26 [.int .i64 xb0.kind, .int .u64 xb0.token, .int .u64 xb0.handle, .string (strOfNums xb0.name), .slice A5 xb0.body.length c5, .slice B5 xb0.args.length d5, .int .u64 xb0.ticks, .int .u64 xb0.other]) := fun W hW => by
        refine ⟨?_, ?_⟩
        · obtain ⟨Ax, cx, Bx', dx, e2, o2⟩ := H7.out.2.1.open
          injection e2 with e2
          have e3 := congrArg Array.toList e2
          simp only [List.cons.injEq, Value.slice.injEq, true_and, and_true] at e3
          obtain ⟨⟨rfl, rfl⟩, rfl, rfl⟩ := e3
          exact o2.later hW
        · obtain ⟨Ax, cx, Bx', dx, e2, o2⟩ := H7.out.1.open
          injection e2 with e2
          have e3 := congrArg Array.toList e2
          simp only [List.cons.injEq, Value.slice.injEq, true_and, and_true] at e3
          obtain ⟨⟨rfl, rfl⟩, rfl, rfl⟩ := e3
          exact o2.later hW
      have SX : Hid (∀ W, Below w7.heap.size w7 W → Calls Try.prog 22 #[.agg #[.int .i64 xa0.kind, .int .u64 xa0.token, .int .u64 xa0.handle, .string (strOfNums xa0.name), .slice A3 xa0.body.length c3, .slice B3 xa0.args.length d3, .int .u64 xa0.ticks, .int .u64 xa0.other], .agg #[.int .i64 xb0.kind, .int .u64 xb0.token, .int .u64 xb0.handle, .string (strOfNums xb0.name), .slice A5 xb0.body.length c5, .slice B5 xb0.args.length d5, .int .u64 xb0.ticks, .int .u64 xb0.other]] W fun e w' => e = .returned (.bool (decide (xa0 = xb0))) ∧ Below W.heap.size W w') := fun W hW => same_any _ _ xa0 xb0 W (H7.out.2.1.1.later hW) (H7.out.1.1.later hW)
      have B17 := Lib.hid H7.out.2.2
      have KS : Hid (∀ W : World, Below w7.heap.size w7 W → W.cell? ⟨w.heap.size, 0, none⟩ = some (.int .i64 a.kind) ∧ W.cell? ⟨w.heap.size, 1, none⟩ = some (.int .u64 a.token) ∧ W.cell? ⟨w.heap.size, 2, none⟩ = some (.int .u64 a.handle) ∧ W.cell? ⟨w.heap.size, 3, none⟩ = some (.string (strOfNums a.name)) ∧ W.cell? ⟨w.heap.size, 4, none⟩ = some (.slice A a.body.length c) ∧ W.cell? ⟨w.heap.size, 5, none⟩ = some (.slice B a.args.length d) ∧ W.cell? ⟨w.heap.size, 6, none⟩ = some (.int .u64 a.ticks) ∧ W.cell? ⟨w.heap.size, 7, none⟩ = some (.int .u64 a.other) ∧ W.cell? ⟨w.heap.size + 1, 0, none⟩ = some (.int .i64 b.kind) ∧ W.cell? ⟨w.heap.size + 1, 1, none⟩ = some (.int .u64 b.token) ∧ W.cell? ⟨w.heap.size + 1, 2, none⟩ = some (.int .u64 b.handle) ∧ W.cell? ⟨w.heap.size + 1, 3, none⟩ = some (.string (strOfNums b.name)) ∧ W.cell? ⟨w.heap.size + 1, 4, none⟩ = some (.slice A' b.body.length c') ∧ W.cell? ⟨w.heap.size + 1, 5, none⟩ = some (.slice B' b.args.length d') ∧ W.cell? ⟨w.heap.size + 1, 6, none⟩ = some (.int .u64 b.ticks) ∧ W.cell? ⟨w.heap.size + 1, 7, none⟩ = some (.int .u64 b.other) ∧ W.cell? ⟨g3, 0, none⟩ = some (.int .i64 xa0.kind) ∧ W.cell? ⟨g3, 1, none⟩ = some (.int .u64 xa0.token) ∧ W.cell? ⟨g3, 2, none⟩ = some (.int .u64 xa0.handle) ∧ W.cell? ⟨g3, 3, none⟩ = some (.string (strOfNums xa0.name)) ∧ W.cell? ⟨g3, 4, none⟩ = some (.slice A3 xa0.body.length c3) ∧ W.cell? ⟨g3, 5, none⟩ = some (.slice B3 xa0.args.length d3) ∧ W.cell? ⟨g3, 6, none⟩ = some (.int .u64 xa0.ticks) ∧ W.cell? ⟨g3, 7, none⟩ = some (.int .u64 xa0.other) ∧ W.cell? ⟨g6, 0, none⟩ = some (.int .i64 xb0.kind) ∧ W.cell? ⟨g6, 1, none⟩ = some (.int .u64 xb0.token) ∧ W.cell? ⟨g6, 2, none⟩ = some (.int .u64 xb0.handle) ∧ W.cell? ⟨g6, 3, none⟩ = some (.string (strOfNums xb0.name)) ∧ W.cell? ⟨g6, 4, none⟩ = some (.slice A5 xb0.body.length c5) ∧ W.cell? ⟨g6, 5, none⟩ = some (.slice B5 xb0.args.length d5) ∧ W.cell? ⟨g6, 6, none⟩ = some (.int .u64 xb0.ticks) ∧ W.cell? ⟨g6, 7, none⟩ = some (.int .u64 xb0.other)) := fun W hW => by
        have hW1 : Below w1.heap.size w1 W := B17.out.trans (hW.mono B17.out.size)
        have oa := own_cells8 (OA.out W hW1)
        have ob := own_cells8 (OB.out W hW1)
        have ox := own_cells8 (BX.out W hW).1
        have oy := own_cells8 (BX.out W hW).2
        exact ⟨oa.1, oa.2.1, oa.2.2.1, oa.2.2.2.1, oa.2.2.2.2.1, oa.2.2.2.2.2.1, oa.2.2.2.2.2.2.1, oa.2.2.2.2.2.2.2.1, ob.1, ob.2.1, ob.2.2.1, ob.2.2.2.1, ob.2.2.2.2.1, ob.2.2.2.2.2.1, ob.2.2.2.2.2.2.1, ob.2.2.2.2.2.2.2.1, ox.1, ox.2.1, ox.2.2.1, ox.2.2.2.1, ox.2.2.2.2.1, ox.2.2.2.2.2.1, ox.2.2.2.2.2.2.1, ox.2.2.2.2.2.2.2.1, oy.1, oy.2.1, oy.2.2.1, oy.2.2.2.1, oy.2.2.2.2.1, oy.2.2.2.2.2.1, oy.2.2.2.2.2.2.1, oy.2.2.2.2.2.2.2.1⟩
      have hd7 : Below w7.heap.size w7 w7.drew := (Below.refl _ _).drew
      have HD7 := Lib.hid hd7
      clear hd7
      have P2 : Hid (∀ W, Below w7.heap.size w7 W → Calls Try.prog 20 #[.agg #[.int .i64 a.kind, .int .u64 a.token, .int .u64 a.handle, .string (strOfNums a.name), .slice A a.body.length c, .slice B a.args.length d, .int .u64 a.ticks, .int .u64 a.other]] W (fun e w' => ∃ Ap kp, e = .returned (.slice Ap (putReq a).length kp) ∧ Below W.heap.size W w' ∧ Rd w' w'.heap.size Ap (putReq a))) := fun W hW => (PA.out W (B17.out.trans (hW.mono B17.out.size))).mono fun e w' h => by
        obtain ⟨Ap, kp, he, hr, _, _, hb⟩ := h.arg HT.out.2.2.1
        exact ⟨Ap, kp, he, hb, hr⟩
      have P3 : Hid (∀ W, Below w7.heap.size w7 W → Calls Try.prog 20 #[.agg #[.int .i64 b.kind, .int .u64 b.token, .int .u64 b.handle, .string (strOfNums b.name), .slice A' b.body.length c', .slice B' b.args.length d', .int .u64 b.ticks, .int .u64 b.other]] W (fun e w' => ∃ Ap kp, e = .returned (.slice Ap (putReq b).length kp) ∧ Below W.heap.size W w' ∧ Rd w' w'.heap.size Ap (putReq b))) := fun W hW => (PB.out W (B17.out.trans (hW.mono B17.out.size))).mono fun e w' h => by
        obtain ⟨Ap, kp, he, hr, _, _, hb⟩ := h.arg HT.out.2.2.2.1
        exact ⟨Ap, kp, he, hb, hr⟩
      have S4 : Hid (∀ W, Below w7.heap.size w7 W → Calls Try.prog 22 #[.agg #[.int .i64 a.kind, .int .u64 a.token, .int .u64 a.handle, .string (strOfNums a.name), .slice A a.body.length c, .slice B a.args.length d, .int .u64 a.ticks, .int .u64 a.other], .agg #[.int .i64 a.kind, .int .u64 a.token, .int .u64 a.handle, .string (strOfNums a.name), .slice A a.body.length c, .slice B a.args.length d, .int .u64 a.ticks, .int .u64 a.other]] W fun e w' => e = .returned (.bool true) ∧ Below W.heap.size W w') := fun W hW => SA.out W (B17.out.trans (hW.mono B17.out.size))
      clear PA PB SA
      have heq := HEQ.out
      generalize decide (xa0 = xb0) = bb at *
      have hbb : (bb == bb) = true := by simp
      go_region_held (fun (w' : World) => w'.cell? ⟨w.heap.size, 0, none⟩ = some (.int .i64 a.kind) ∧ w'.cell? ⟨w.heap.size, 1, none⟩ = some (.int .u64 a.token) ∧ w'.cell? ⟨w.heap.size, 2, none⟩ = some (.int .u64 a.handle) ∧ w'.cell? ⟨w.heap.size, 3, none⟩ = some (.string (strOfNums a.name)) ∧ w'.cell? ⟨w.heap.size, 4, none⟩ = some (.slice A a.body.length c) ∧ w'.cell? ⟨w.heap.size, 5, none⟩ = some (.slice B a.args.length d) ∧ w'.cell? ⟨w.heap.size, 6, none⟩ = some (.int .u64 a.ticks) ∧ w'.cell? ⟨w.heap.size, 7, none⟩ = some (.int .u64 a.other) ∧ w'.cell? ⟨w.heap.size + 1, 0, none⟩ = some (.int .i64 b.kind) ∧ w'.cell? ⟨w.heap.size + 1, 1, none⟩ = some (.int .u64 b.token) ∧ w'.cell? ⟨w.heap.size + 1, 2, none⟩ = some (.int .u64 b.handle) ∧ w'.cell? ⟨w.heap.size + 1, 3, none⟩ = some (.string (strOfNums b.name)) ∧ w'.cell? ⟨w.heap.size + 1, 4, none⟩ = some (.slice A' b.body.length c') ∧ w'.cell? ⟨w.heap.size + 1, 5, none⟩ = some (.slice B' b.args.length d') ∧ w'.cell? ⟨w.heap.size + 1, 6, none⟩ = some (.int .u64 b.ticks) ∧ w'.cell? ⟨w.heap.size + 1, 7, none⟩ = some (.int .u64 b.other) ∧ w'.cell? ⟨g3, 0, none⟩ = some (.int .i64 xa0.kind) ∧ w'.cell? ⟨g3, 1, none⟩ = some (.int .u64 xa0.token) ∧ w'.cell? ⟨g3, 2, none⟩ = some (.int .u64 xa0.handle) ∧ w'.cell? ⟨g3, 3, none⟩ = some (.string (strOfNums xa0.name)) ∧ w'.cell? ⟨g3, 4, none⟩ = some (.slice A3 xa0.body.length c3) ∧ w'.cell? ⟨g3, 5, none⟩ = some (.slice B3 xa0.args.length d3) ∧ w'.cell? ⟨g3, 6, none⟩ = some (.int .u64 xa0.ticks) ∧ w'.cell? ⟨g3, 7, none⟩ = some (.int .u64 xa0.other) ∧ w'.cell? ⟨g6, 0, none⟩ = some (.int .i64 xb0.kind) ∧ w'.cell? ⟨g6, 1, none⟩ = some (.int .u64 xb0.token) ∧ w'.cell? ⟨g6, 2, none⟩ = some (.int .u64 xb0.handle) ∧ w'.cell? ⟨g6, 3, none⟩ = some (.string (strOfNums xb0.name)) ∧ w'.cell? ⟨g6, 4, none⟩ = some (.slice A5 xb0.body.length c5) ∧ w'.cell? ⟨g6, 5, none⟩ = some (.slice B5 xb0.args.length d5) ∧ w'.cell? ⟨g6, 6, none⟩ = some (.int .u64 xb0.ticks) ∧ w'.cell? ⟨g6, 7, none⟩ = some (.int .u64 xb0.other)) (exact KS.out _ (by first | exact HB11.out | exact HB10.out | exact HB9.out | exact HB8.out | exact HD7.out))
        (first
          | (go_at_call 22; refine (S4.out w10 HB10.out).mono ?_; rintro e w11 ⟨rfl, hb⟩; have HB11 := Lib.hid (HB10.out.trans (hb.mono HB10.out.size)); clear hb)
          | (go_at_call 20; refine (P3.out w9 HB9.out).mono ?_; rintro e w10 ⟨Ap, kp, rfl, hb, hr⟩; have hsB := hr.string kp; have hsA2 := (HR9.out.later hb).string kp9; have HB10 := Lib.hid (HB9.out.trans (hb.mono HB9.out.size)); clear hb hr)
          | (go_at_call 20; refine (P2.out w8 HB8.out).mono ?_; rintro e w9 ⟨Ap9, kp9, rfl, hb, hr⟩; have hsA := hr.string kp9; have HR9 := Lib.hid hr; have HB9 := Lib.hid (HB8.out.trans (hb.mono HB8.out.size)); clear hb hr)
          | (go_at_call 22; refine (SX.out w7.drew HD7.out).mono ?_; rintro e w8 ⟨rfl, hb⟩; have HB8 := Lib.hid (HD7.out.trans (hb.mono HD7.out.size)); clear hb))
      all_goals go_wp2
      all_goals go_ret
      all_goals exact ⟨rfl, H1.out.2.2.1.trans ((B17.out.trans (HB11.out.mono B17.out.size)).mono H1.out.2.2.1.size)⟩
    · go_wp2
      go_ret
      exact ⟨rfl, H1.out.2.2.1.trans (HC.out.1.mono H1.out.2.2.1.size)⟩
end Go.Proofs.Ytnjbijndfbobbaa
