/- The walk of ReqBack: out of the contracts. -/
import Derived.Test.YtnjbijndfbobbaaLawROne
import Derived.Test.YtnjbijndfbobbaaReqErr
import Derived.Test.YtnjbijndfbobbaaPlace
namespace Go.Proofs.Ytnjbijndfbobbaa
open Go.RowKit
set_option maxRecDepth 100000
set_option linter.unusedVariables false

theorem norm_kt (q : Req) (h0 : 1 ≤ q.kind) (h1 : q.kind ≤ 6) : (norm q).kind = q.kind ∧ (norm q).token = q.token := by
  obtain ⟨kind, token, handle, name, body, args, ticks, other⟩ := q
  simp only at *
  rcases show kind = 1 ∨ kind = 2 ∨ kind = 3 ∨ kind = 4 ∨ kind = 5 ∨ kind = 6 from by omega with rfl | rfl | rfl | rfl | rfl | rfl <;> simp [norm]

set_option maxRecDepth 100000 in
set_option maxHeartbeats 8000000 in
theorem reqBack_core {X : Nat → Prop} (v : Value) (q : Req) (cut more : Int) (D : Option Addr) (bs : List Int) (dn dc : Nat) (w : World) (hq : ReqV X w v q) (hct : -9223372036854775808 ≤ cut ∧ cut < 9223372036854775808) (hm : 0 ≤ more ∧ more ≤ 255)
    (hb : Rd w w.heap.size D bs) (hn : dn = bs.length) (hnc : dn ≤ dc) (hcm : dc ≤ maxLen) :
    Calls Try.prog 4 #[v, .int .i64 cut, .int .u8 more, .slice D dn dc] w fun e w' => e = .returned (.bool true) ∧ Below w.heap.size w w' := by
  obtain ⟨A, c, B, d, rfl⟩ := hq.form
  have hbA := boxR_new hq
  have hb1 := (Below.refl w.heap.size w).alloc (Nat.le_refl _) (.cells #[.int .i64 q.kind, .int .u64 q.token, .int .u64 q.handle, .string (strOfNums q.name), .slice A q.body.length c, .slice B q.args.length d, .int .u64 q.ticks, .int .u64 q.other] 26)
  have HN := Lib.hid (And.intro hn (And.intro hnc hcm))
  have HB0 := Lib.hid (And.intro hb (And.intro hct hm))
  clear hn hnc hcm hb hct hm
  go_enter Try.func4, Try.ntmps4
  go_upto_region 1 with fail
  generalize w.alloc (.cells #[.int .i64 q.kind, .int .u64 q.token, .int .u64 q.handle, .string (strOfNums q.name), .slice A q.body.length c, .slice B q.args.length d, .int .u64 q.ticks, .int .u64 q.other] 26) = w0 at *
  have hab := hq.ok
  have hna : (strOfNums q.name).size = q.name.length := strOfNums_size q.name
  go_wp2_with fail
  refine (begun3_any w0).mono ?_
  rintro e w1 ⟨rfl, hg1⟩
  have hw1 := hb1.trans (hg1.mono hb1.size)
  have H1 := Lib.hid (And.intro (hbA.later hg1) (And.intro (HB0.out.1.rx.later hw1) (And.intro hw1 hab)))
  clear hq hbA hb1 hg1 hab hw1
  have CA : Hid (∀ W, Below w1.heap.size w1 W → Calls Try.prog 19 #[.agg #[.int .i64 q.kind, .int .u64 q.token, .int .u64 q.handle, .string (strOfNums q.name), .slice A q.body.length c, .slice B q.args.length d, .int .u64 q.ticks, .int .u64 q.other]] W fun e w' => e = .returned (.bool (mayB q)) ∧ Below W.heap.size W w') := fun W hW => may_any _ q W (H1.out.1.1.later hW)
  have OA : Hid (∀ W, Below w1.heap.size w1 W → Own W w.heap.size 26 [.int .i64 q.kind, .int .u64 q.token, .int .u64 q.handle, .string (strOfNums q.name), .slice A q.body.length c, .slice B q.args.length d, .int .u64 q.ticks, .int .u64 q.other]) := fun W hW => by
    obtain ⟨A2, c2, B2, d2, e2, o2⟩ := H1.out.1.open
    injection e2 with e2
    have e3 := congrArg Array.toList e2
    simp only [List.cons.injEq, Value.slice.injEq, true_and, and_true] at e3
    obtain ⟨⟨rfl, rfl⟩, rfl, rfl⟩ := e3
    exact o2.later hW
  go_upto_region 3 with fail
  go_cut [42] from 21 (fun s42 wx => ∃ bad : Bool, s42 = .bool bad ∧ Hid (Below w1.heap.size w1 wx ∧ (bad = false → May q ∧ dn ≤ 300 ∧ q.name.length ≤ 32 ∧ q.args.length ≤ 8)))
  case first =>
    obtain ⟨a0, a1, a2, a3, a4, a5, a6, a7, -, -, -, -, -, -, -, -⟩ := own_cells8 (OA.out w1 (Below.refl _ _))
    have HA := Lib.hid (mayB_iff q).1
    generalize mayB q = ma at *
    generalize hal : q.args.length = al at *
    generalize hanl : q.name.length = anl at *
    cases ma
    · go_wp2_with (go_at_call 19; refine (CA.out w1 (Below.refl _ _)).mono ?_; rintro e w2 ⟨rfl, hb2⟩; have H2 := Lib.hid hb2; clear hb2)
      go_meet
      exact ⟨true, rfl, H2.out, fun h => by cases h⟩
    · have fwd : ∀ P : Prop, ((300 : Int) < dn → P) → (¬ (300 : Int) < dn → (32 : Int) < anl → P) → (¬ (300 : Int) < dn → ¬ (32 : Int) < anl → (8 : Int) < al → P) → (¬ (300 : Int) < dn → ¬ (32 : Int) < anl → ¬ (8 : Int) < al → P) → P := fun P h1 h2 h3 h4 => by
        by_cases q1 : (300 : Int) < dn
        · exact h1 q1
        · by_cases q2 : (32 : Int) < anl
          · exact h2 q1 q2
          · by_cases q3 : (8 : Int) < al
            · exact h3 q1 q2 q3
            · exact h4 q1 q2 q3
      apply fwd
      all_goals intros
      all_goals clear fwd
      all_goals
        go_wp2_with (go_at_call 19; refine (CA.out w1 (Below.refl _ _)).mono ?_; rintro e w2 ⟨rfl, hb2⟩; obtain ⟨p0, p1, p2, p3, p4, p5, p6, p7, -, -, -, -, -, -, -, -⟩ := own_cells8 (OA.out w2 hb2); have H2 := Lib.hid hb2; clear hb2)
        go_meet
      all_goals first | exact ⟨true, rfl, H2.out, fun h => by cases h⟩ | exact ⟨_, rfl, H2.out, fun _ => ⟨HA.out (by first | rfl | trivial), by omega, by omega, by omega⟩⟩
  case rest =>
    obtain ⟨bad, rfl, HC⟩ := hcut
    cases bad
    · obtain ⟨hma, hd3, na, xa⟩ := HC.out.2 rfl
      have hA1 := H1.out.2.2.2
      have tA := req_back q hA1.1 hma.1 hma.2.1 hA1.2.1 na xa
      have iA := putReq_is q hA1.1 hma.1 hma.2.1 hA1.2.1 hA1.2.2 (by omega) (by omega)
      obtain ⟨la1, la2⟩ := putReq_len q (by omega) (by omega) (by have := hma.2.2.2.1; omega)
      have PA : Hid (∀ W, Below w1.heap.size w1 W → Calls Try.prog 20 #[.agg #[.int .i64 q.kind, .int .u64 q.token, .int .u64 q.handle, .string (strOfNums q.name), .slice A q.body.length c, .slice B q.args.length d, .int .u64 q.ticks, .int .u64 q.other]] W (PutPost (putReq q) W)) := fun W hW => put_req _ q W (H1.out.1.1.later hW) ⟨hma.1, hma.2.1⟩ (by omega) (by have := hma.2.2.2.1; omega) (by omega)
      obtain ⟨nk, nt⟩ := norm_kt q hma.1 hma.2.1
      have HT := Lib.hid (And.intro tA (And.intro iA (And.intro la2 (And.intro la1 (And.intro hma (And.intro na (And.intro xa rfl)))))) : _ ∧ _ ∧ _ ∧ _ ∧ _ ∧ _ ∧ _ ∧ norm q = norm q)
      generalize hnq : norm q = nq at *
      have HNQ := Lib.hid hnq
      have bk : (nq.kind != q.kind) = false := by simp [nk]
      have bt : (nq.token != q.token) = false := by simp [nt]
      clear tA iA la1 la2 hA1 hma na xa CA hnq nk nt
      have HW := Lib.hid HC.out.1
      clear HC
      obtain ⟨a0, a1, a2, a3, a4, a5, a6, a7, -, -, -, -, -, -, -, -⟩ := own_cells8 (OA.out wc HW.out)
      go_wp2_with fail
      refine (PA.out wc HW.out).mono ?_
      intro e w2 h
      obtain ⟨A2, k2, rfl, hr2, hk1, hk2, hb2⟩ := h.arg HT.out.2.1
      have H2 := Lib.hid (And.intro hr2 (And.intro hk1 (And.intro hk2 (HW.out.trans (hb2.mono HW.out.size)))))
      clear h hr2 hk1 hk2 hb2 a0 a1 a2 a3 a4 a5 a6 a7 PA
      generalize hl : putReq q = l at *
      have HL := Lib.hid hl
      clear hl
      generalize hll : l.length = ll at *
      have HLL := Lib.hid hll
      clear hll
      go_wp2_with fail
      refine (take_req A2 l ll k2 w2 H2.out.1 HLL.out.symm (by have := HT.out.2.2.1; omega) H2.out.2.1 H2.out.2.2.1).mono ?_
      rintro e w3 ⟨v3, rfl, hv3, hb3⟩
      rw [HT.out.1] at hv3 ⊢
      simp only [reqOf, codeOf] at hv3 ⊢
      obtain ⟨A3, c3, B3, d3, rfl⟩ := hv3.form
      have hx3 := boxR_new hv3
      have hb34 := hb3.trans (((Below.refl w3.heap.size w3).alloc (Nat.le_refl _) (.cells #[.int .i64 nq.kind, .int .u64 nq.token, .int .u64 nq.handle, .string (strOfNums nq.name), .slice A3 nq.body.length c3, .slice B3 nq.args.length d3, .int .u64 nq.ticks, .int .u64 nq.other] 26)).mono hb3.size)
      go_upto_region 7 with fail
      generalize hw4 : w3.alloc (.cells #[.int .i64 nq.kind, .int .u64 nq.token, .int .u64 nq.handle, .string (strOfNums nq.name), .slice A3 nq.body.length c3, .slice B3 nq.args.length d3, .int .u64 nq.ticks, .int .u64 nq.other] 26) = w4 at *
      have H4 := Lib.hid (And.intro hx3 (And.intro (H2.out.2.2.2.trans (hb34.mono H2.out.2.2.2.size)) (H2.out.1.rx.later hb34)))
      have hg3 : w3.heap.size < w4.heap.size := by rw [← hw4]; simp
      clear hw4 hx3 hb34 hv3 hb3
      generalize w3.heap.size = g3 at *
      have OX : Hid (∀ W, Below w4.heap.size w4 W → Own W g3 26 [.int .i64 nq.kind, .int .u64 nq.token, .int .u64 nq.handle, .string (strOfNums nq.name), .slice A3 nq.body.length c3, .slice B3 nq.args.length d3, .int .u64 nq.ticks, .int .u64 nq.other]) := fun W hW => by
        obtain ⟨Ax, cx, Bx', dx, e2, o2⟩ := H4.out.1.open
        injection e2 with e2
        have e3 := congrArg Array.toList e2
        simp only [List.cons.injEq, Value.slice.injEq, true_and, and_true] at e3
        obtain ⟨⟨rfl, rfl⟩, rfl, rfl⟩ := e3
        exact o2.later hW
      obtain ⟨a0, a1, a2, a3, a4, a5, a6, a7, -, -, -, -, -, -, -, -⟩ := own_cells8 (OA.out w4 H4.out.2.1)
      obtain ⟨b0, b1, b2, b3, b4, b5, b6, b7, -, -, -, -, -, -, -, -⟩ := own_cells8 (OX.out w4 (Below.refl _ _))
      go_upto_region 9 with fail
      clear a0 a1 a2 a3 a4 a5 a6 a7 b0 b1 b2 b3 b4 b5 b6 b7
      have hrb := H1.out.2.1.later H4.out.2.1
      have HRB := Lib.hid hrb
      clear hrb
      go_wp2_with fail
      refine (take_req D bs dn dc w4 HRB.out.rd HN.out.1 (by omega) HN.out.2.1 HN.out.2.2).mono ?_
      rintro e w5 ⟨v5, rfl, hv5, hb5⟩
      have hcase : (codeOf (takeReq bs) ≠ 0) ∨ (codeOf (takeReq bs) = 0 ∧ takeReq bs = .ok (reqOf (takeReq bs))) := by
        cases hh : takeReq bs with
        | error e => left; have := take_err bs e hh; simp only [codeOf]; omega
        | ok y => right; exact ⟨rfl, rfl⟩
      have hform : ∀ y, takeReq bs = .ok y → _ := fun y h => take_form bs y h
      generalize hy : reqOf (takeReq bs) = y at *
      generalize hcd : codeOf (takeReq bs) = cd at *
      obtain ⟨A5, c5, B5, d5, rfl⟩ := hv5.form
      have hx5 := boxR_new hv5
      have hb56 := hb5.trans (((Below.refl w5.heap.size w5).alloc (Nat.le_refl _) (.cells #[.int .i64 y.kind, .int .u64 y.token, .int .u64 y.handle, .string (strOfNums y.name), .slice A5 y.body.length c5, .slice B5 y.args.length d5, .int .u64 y.ticks, .int .u64 y.other] 26)).mono hb5.size)
      have HCS := Lib.hid (And.intro hcase hform)
      clear hcase hform hy hcd
      go_upto_if 72 with fail
      generalize hw6 : w5.alloc (.cells #[.int .i64 y.kind, .int .u64 y.token, .int .u64 y.handle, .string (strOfNums y.name), .slice A5 y.body.length c5, .slice B5 y.args.length d5, .int .u64 y.ticks, .int .u64 y.other] 26) = w6 at *
      have H6 := Lib.hid (And.intro hx5 hb56)
      have hg5 : w5.heap.size < w6.heap.size := by rw [← hw6]; simp
      clear hw6 hx5 hb56 hv5 hb5
      generalize w5.heap.size = g5 at *
      have OY : Hid (∀ W, Below w6.heap.size w6 W → Own W g5 26 [.int .i64 y.kind, .int .u64 y.token, .int .u64 y.handle, .string (strOfNums y.name), .slice A5 y.body.length c5, .slice B5 y.args.length d5, .int .u64 y.ticks, .int .u64 y.other]) := fun W hW => by
        obtain ⟨Ax, cx, Bx', dx, e2, o2⟩ := H6.out.1.open
        injection e2 with e2
        have e3 := congrArg Array.toList e2
        simp only [List.cons.injEq, Value.slice.injEq, true_and, and_true] at e3
        obtain ⟨⟨rfl, rfl⟩, rfl, rfl⟩ := e3
        exact o2.later hW
      go_cut [9] from 21 (fun s9 wx => s9 = .slice A2 ll k2 ∧ Hid (Below w6.heap.size w6 wx))
      case first =>
        rcases HCS.out.1 with hne | ⟨rfl, hok⟩
        · have hne2 : (cd == 0) = false := by simpa using hne
          go_wp2_with fail
          go_meet
          exact ⟨rfl, Below.refl _ _⟩
        · obtain ⟨f1, f2, f3, f4, f5, f6⟩ := HCS.out.2 y hok
          have hyo := H6.out.1.1.ok
          have tY := req_back y hyo.1 f2 f3 hyo.2.1 f4 f5
          rw [f1] at tY
          have iY := putReq_is y hyo.1 f2 f3 hyo.2.1 hyo.2.2 (by omega) (by omega)
          have hbl : y.body.length ≤ 100000 := by have := HN.out.1; omega
          obtain ⟨ly1, ly2⟩ := putReq_len y (by omega) (by omega) hbl
          have PY := Lib.hid (put_req _ y w6 H6.out.1.1 ⟨f2, f3⟩ (by omega) hbl (by omega))
          have HY := Lib.hid (And.intro tY (And.intro iY ly2))
          clear tY iY ly1 ly2 f1 f2 f3 f4 f5 f6 hyo hok hbl
          obtain ⟨a0, a1, a2, a3, a4, a5, a6, a7, -, -, -, -, -, -, -, -⟩ := own_cells8 (OY.out w6 (Below.refl _ _))
          go_wp2_with fail
          refine PY.out.mono ?_
          intro e w7 h
          obtain ⟨A7, k7, rfl, hr7, hk1, hk2, hb7⟩ := h.arg HY.out.2.1
          have H7 := Lib.hid (And.intro hr7 (And.intro hk1 (And.intro hk2 hb7)))
          clear h hr7 hk1 hk2 hb7 a0 a1 a2 a3 a4 a5 a6 a7 PY
          generalize hl7 : (putReq y).length = l7 at *
          have HL7 := Lib.hid hl7
          clear hl7
          go_wp2_with fail
          refine (take_req A7 (putReq y) l7 k7 w7 H7.out.1 HL7.out.symm (by have := HY.out.2.2; omega) H7.out.2.1 H7.out.2.2.1).mono ?_
          rintro e w8 ⟨v8, rfl, hv8, hb8⟩
          rw [HY.out.1] at hv8 ⊢
          simp only [reqOf, codeOf] at hv8 ⊢
          obtain ⟨A8, c8, B8, d8, rfl⟩ := hv8.form
          have hx8 := boxR_new hv8
          have hb89 := hb8.trans (((Below.refl w8.heap.size w8).alloc (Nat.le_refl _) (.cells #[.int .i64 y.kind, .int .u64 y.token, .int .u64 y.handle, .string (strOfNums y.name), .slice A8 y.body.length c8, .slice B8 y.args.length d8, .int .u64 y.ticks, .int .u64 y.other] 26)).mono hb8.size)
          go_upto_region 12 with fail
          generalize hw9 : w8.alloc (.cells #[.int .i64 y.kind, .int .u64 y.token, .int .u64 y.handle, .string (strOfNums y.name), .slice A8 y.body.length c8, .slice B8 y.args.length d8, .int .u64 y.ticks, .int .u64 y.other] 26) = w9 at *
          have hb69 := H7.out.2.2.2.trans (hb89.mono H7.out.2.2.2.size)
          have OZ : Own w9 w8.heap.size 26 [.int .i64 y.kind, .int .u64 y.token, .int .u64 y.handle, .string (strOfNums y.name), .slice A8 y.body.length c8, .slice B8 y.args.length d8, .int .u64 y.ticks, .int .u64 y.other] := by
            have hW := Below.refl w9.heap.size w9
            obtain ⟨Ax, cx, Bx', dx, e2, o2⟩ := hx8.open
            injection e2 with e2
            have e3 := congrArg Array.toList e2
            simp only [List.cons.injEq, Value.slice.injEq, true_and, and_true] at e3
            obtain ⟨⟨rfl, rfl⟩, rfl, rfl⟩ := e3
            exact o2.later hW
          have SZ := same_any _ _ y y w9 (H6.out.1.1.later hb69) hx8.1
          rw [decide_eq_true rfl] at SZ
          have HS := Lib.hid SZ
          have H9 := Lib.hid hb69
          obtain ⟨a0, a1, a2, a3, a4, a5, a6, a7, -, -, -, -, -, -, -, -⟩ := own_cells8 (OY.out w9 hb69)
          obtain ⟨b0, b1, b2, b3, b4, b5, b6, b7, -, -, -, -, -, -, -, -⟩ := own_cells8 OZ
          clear hw9 hx8 hb89 hv8 hb8 hb69 SZ OZ
          generalize w8.heap.size = g8 at *
          go_wp2_with (go_at_call 22; refine HS.out.mono ?_; rintro e w10 ⟨rfl, hb10⟩; have HB10 := Lib.hid (H9.out.trans (hb10.mono H9.out.size)); clear hb10)
          go_meet
          exact ⟨rfl, HB10.out⟩
      case rest =>
        obtain ⟨rfl, H6c⟩ := hcut
        have hW4 : Below w4.heap.size w4 wc := H6.out.2.trans (H6c.out.mono H6.out.2.size)
        have H1c : Below w1.heap.size w1 wc := H4.out.2.1.trans (hW4.mono H4.out.2.1.size)
        have HWC := Lib.hid (And.intro hW4 H1c)
        clear OY HCS HRB hW4 H1c bk bt hg5
        obtain ⟨a0, a1, a2, a3, a4, a5, a6, a7, -, -, -, -, -, -, -, -⟩ := own_cells8 (OA.out wc HWC.out.2)
        obtain ⟨b0, b1, b2, b3, b4, b5, b6, b7, -, -, -, -, -, -, -, -⟩ := own_cells8 (OX.out wc HWC.out.1)
        by_cases hk1 : q.kind = 1
        · have hbody : nq.body = q.body := by rw [← HNQ.out]; simp [norm, hk1]
          have hk1b : (q.kind == 1) = true := by simpa using hk1
          obtain ⟨Xa, xc, Xb, xd, e1, r1, _, _, _⟩ := H4.out.1.1.later HWC.out.1
          obtain ⟨Ya, yc, Yb, yd, e2, r2, _, _, _⟩ := H1.out.1.1.later HWC.out.2
          have f1 := congrArg Array.toList (by injection e1)
          have f2 := congrArg Array.toList (by injection e2)
          simp only [List.cons.injEq, Value.slice.injEq, true_and, and_true] at f1 f2
          obtain ⟨⟨rfl, rfl⟩, rfl, rfl⟩ := f1
          obtain ⟨⟨rfl, rfl⟩, rfl, rfl⟩ := f2
          have s1 := r1.rd.string c3
          have s2 := r2.rd.string c
          have he : ((strOfNums nq.body).toList == (strOfNums q.body).toList) = true := by rw [hbody]; simp
          clear r1 r2 e1 e2 hbody hk1
          generalize hq1 : nq.body.length = bl1 at *
          generalize hq2 : q.body.length = bl2 at *
          clear hq1 hq2
          go_wp2
          go_ret
          exact ⟨rfl, H1.out.2.2.1.trans (HWC.out.2.mono H1.out.2.2.1.size)⟩
        · have hk1b : (q.kind == 1) = false := by simpa using hk1
          have hT := HT.out
          obtain ⟨m2, m3⟩ := req_cut q H1.out.2.2.2.1 hT.2.2.2.2.1.1 hT.2.2.2.2.1.2.1 hk1 H1.out.2.2.2.2.1 hT.2.2.2.2.2.1 hT.2.2.2.2.2.2.1
          rw [HL.out] at m2 m3
          rw [HLL.out] at m2
          have hll : 9 ≤ ll ∧ ll ≤ 200000 := ⟨hT.2.2.2.1, hT.2.2.1⟩
          have hIl : IsBytes l := hT.2.1
          have HM := Lib.hid (And.intro m2 (And.intro m3 hIl))
          have hK : 2 ≤ q.kind ∧ q.kind ≤ 6 := by have := hT.2.2.2.2.1.1; have := hT.2.2.2.2.1.2.1; omega
          have HK := Lib.hid hK
          obtain ⟨hl0, hl1⟩ := hll
          clear m2 m3 hT hIl hk1 hK
          go_wp2_with fail
          refine (place_any cut ll wc (by omega) (by omega) HB0.out.2.1).mono ?_
          rintro e wc' ⟨j, rfl, hj, rfl⟩
          obtain ⟨Ac, cc, hE, hcc, hX⟩ := cutB_h A2 ll k2 (j : Int) j rfl (by have := H2.out.2.1; omega)
          have hrl : RdX _ wc Ac (l.take j) := (hX _ _ _ (by rw [HLL.out]; exact H2.out.2.1) (H4.out.2.2.later HWC.out.1))
          have hln : j = (l.take j).length := by rw [List.length_take, HLL.out]; omega
          have HC := Lib.hid (And.intro hrl.rd (And.intro hln (And.intro (show j ≤ cc by have := H2.out.2.1; omega) (show cc ≤ maxLen by have := H2.out.2.2.1; omega))))
          clear hrl hln hX hcc a0 a1 a2 a3 a4 a5 a6 a7 b0 b1 b2 b3 b4 b5 b6 b7
          go_wp2_with fail
          refine (take_req Ac (l.take j) j cc wc HC.out.1 HC.out.2.1 (by omega) HC.out.2.2.1 HC.out.2.2.2).mono ?_
          rintro e w11 ⟨v11, rfl, hv11, hb11⟩
          rw [HM.out.1 j hj] at hv11 ⊢
          simp only [reqOf, codeOf] at hv11 ⊢
          obtain ⟨A12, c12, B12, d12, rfl⟩ := hv11.form
          simp only [zreq, List.length_nil] at *
          have hb12 := hb11.trans (((Below.refl w11.heap.size w11).alloc (Nat.le_refl _) (.cells #[.int .i64 0, .int .u64 0, .int .u64 0, .string (strOfNums []), .slice A12 0 c12, .slice B12 0 d12, .int .u64 0, .int .u64 0] 26)).mono hb11.size)
          clear hv11 hb11 hE
          go_upto_region 17 with fail
          generalize w11.alloc (.cells #[.int .i64 0, .int .u64 0, .int .u64 0, .string (strOfNums []), .slice A12 0 c12, .slice B12 0 d12, .int .u64 0, .int .u64 0] 26) = w12 at *
          have hr12 := (H4.out.2.2.later HWC.out.1).later hb12
          have hb12b := (Below.refl w12.heap.size w12).alloc (Nat.le_refl _) (.cells #[] 5)
          have H12 := Lib.hid (And.intro hb12 (hr12.later hb12b).rd)
          clear hb12 hr12 hb12b
          go_wp2_with (first
            | (at_builtin; refine wpList_app rfl (.tmp 108) (.tmp 109) rfl w12.heap.size _ [] rfl (ownB_lit0 w12) A2 ll k2 l rfl HLL.out.symm H12.out.2 (by simp; omega) (by simp) ?_; intro v13 w13 hv13 hw13; rw [List.nil_append] at hv13; have H13 := Lib.hid (And.intro hv13 (((Below.refl w12.heap.size w12).alloc (Nat.le_refl _) _).trans hw13)); obtain ⟨A13, c13, rfl, -, -, -⟩ := hv13.rdX HM.out.2.2; clear hv13 hw13)
            | (at_builtin; refine wpList_app1 rfl (.tmp 110) (.tmp 112) rfl w12.heap.size _ _ rfl H13.out.1 more rfl HB0.out.2.2.1 HB0.out.2.2.2 (by rw [HLL.out]; omega) H13.out.2.size ?_; intro v14 w14 hv14 hw14; obtain ⟨A14, c14, hA14, hr14, hk14, hm14⟩ := hv14.form2 (HM.out.2.2.app (IsBytes.one HB0.out.2.2.1 HB0.out.2.2.2)); generalize hl14 : (l ++ [more]).length = l14 at *; have HL14 := Lib.hid hl14; clear hl14; subst hA14; have H14 := Lib.hid (And.intro hr14 (And.intro hk14 (And.intro hm14 (H13.out.2.trans hw14)))); clear hv14 hw14 hr14 hk14 hm14))
          have hl14b : l14 ≤ 300000 := by have := HL14.out; rw [List.length_append, HLL.out] at this; simp at this; omega
          refine (take_req A14 (l ++ [more]) l14 c14 w14 H14.out.1 HL14.out.symm (by omega) H14.out.2.1 H14.out.2.2.1).mono ?_
          rintro e w15 ⟨v15, rfl, hv15, hb15⟩
          rw [HM.out.2.1 more] at hv15 ⊢
          simp only [reqOf, codeOf] at hv15 ⊢
          obtain ⟨A15, c15, B15, d15, rfl⟩ := hv15.form
          simp only [zreq, List.length_nil] at *
          have hbF : Below wc.heap.size wc (w15.alloc (.cells #[.int .i64 0, .int .u64 0, .int .u64 0, .string (strOfNums []), .slice A15 0 c15, .slice B15 0 d15, .int .u64 0, .int .u64 0] 26)) := by
            have a1 := H12.out.1
            have a2 := a1.trans (H14.out.2.2.2.mono a1.size)
            have a3 := a2.trans (hb15.mono a2.size)
            exact a3.trans (((Below.refl w15.heap.size w15).alloc (Nat.le_refl _) (.cells #[.int .i64 0, .int .u64 0, .int .u64 0, .string (strOfNums []), .slice A15 0 c15, .slice B15 0 d15, .int .u64 0, .int .u64 0] 26)).mono a3.size)
          clear hv15 hb15
          go_upto_region 18 with fail
          generalize w15.alloc (.cells #[.int .i64 0, .int .u64 0, .int .u64 0, .string (strOfNums []), .slice A15 0 c15, .slice B15 0 d15, .int .u64 0, .int .u64 0] 26) = wF at *
          have hF4 := HWC.out.1.trans (hbF.mono HWC.out.1.size)
          have hF1 := HWC.out.2.trans (hbF.mono HWC.out.2.size)
          obtain ⟨a0, a1, a2, a3, a4, a5, a6, a7, -, -, -, -, -, -, -, -⟩ := own_cells8 (OA.out wF hF1)
          obtain ⟨b0, b1, b2, b3, b4, b5, b6, b7, -, -, -, -, -, -, -, -⟩ := own_cells8 (OX.out wF hF4)
          have HF := Lib.hid (And.intro hF4 hF1)
          clear hbF hF4 hF1
          have hfin : Below w.heap.size w wF := H1.out.2.2.1.trans (HF.out.2.mono H1.out.2.2.1.size)
          have HFIN := Lib.hid hfin
          clear hfin
          go_cut [20] from 21 (fun s20 wx => ∃ sm : Bool, s20 = .bool sm ∧ Hid ((q.kind = 2 ∨ q.kind = 4) → sm = true) ∧ wx = wF)
          case first =>
            by_cases hh : nq.handle = q.handle
            · by_cases hnm : nq.name = q.name
              · have bh : (nq.handle == q.handle) = true := by simpa using hh
                have bn : ((strOfNums nq.name).toList == (strOfNums q.name).toList) = true := by rw [hnm]; simp
                clear hh hnm
                go_wp2_with fail
                go_meet
                exact ⟨_, rfl, fun _ => rfl, rfl⟩
              · have bh : (nq.handle == q.handle) = true := by simpa using hh
                have HNO : Hid (¬ (q.kind = 2 ∨ q.kind = 4)) := fun hk => hnm (by rw [← HNQ.out]; rcases hk with hk | hk <;> simp [norm, hk])
                clear hh hnm
                go_wp2_with fail
                go_meet
                exact ⟨_, rfl, fun hk => absurd hk HNO.out, rfl⟩
            · have bh : (nq.handle == q.handle) = false := by simpa using hh
              have HNO : Hid (¬ (q.kind = 2 ∨ q.kind = 4)) := fun hk => hh (by rw [← HNQ.out]; rcases hk with hk | hk <;> simp [norm, hk])
              clear hh
              go_wp2_with fail
              go_meet
              exact ⟨_, rfl, fun hk => absurd hk HNO.out, rfl⟩
          case rest =>
            obtain ⟨sm, rfl, HSM, rfl⟩ := hcut
            have hk := HK.out
            rcases show q.kind = 2 ∨ q.kind = 3 ∨ q.kind = 4 ∨ q.kind = 5 ∨ q.kind = 6 from by omega with hk2 | hk2 | hk2 | hk2 | hk2
            · obtain rfl := HSM.out (.inl hk2)
              have t3 : (q.kind == 3) = false := by simp [hk2]
              have t4 : (q.kind == 4) = false := by simp [hk2]
              have t5 : (q.kind == 5) = false := by simp [hk2]
              have t6 : (q.kind == 6) = false := by simp [hk2]
              clear hk hk2
              go_wp2
              go_ret
              exact ⟨rfl, HFIN.out⟩
            · have hnm : nq.name = q.name := by rw [← HNQ.out]; simp [norm, hk2]
              have bn : ((strOfNums nq.name).toList == (strOfNums q.name).toList) = true := by rw [hnm]; simp
              have t3 : (q.kind == 3) = true := by simp [hk2]
              clear hk hk2 hnm
              go_wp2
              go_ret
              exact ⟨rfl, HFIN.out⟩
            · obtain rfl := HSM.out (.inr hk2)
              have ha : nq.args = q.args ∧ nq.ticks = q.ticks := by rw [← HNQ.out]; simp [norm, hk2]
              have bt : (nq.ticks == q.ticks) = true := by simp [ha.2]
              have t3 : (q.kind == 3) = false := by simp [hk2]
              have t4 : (q.kind == 4) = true := by simp [hk2]
              obtain ⟨Xa, xc, Xb, xd, e1, _, _, _, r1, x1, x2, _⟩ := H4.out.1.1.later HF.out.1
              obtain ⟨Ya, yc, Yb, yd, e2, _, _, _, r2, y1, y2, _⟩ := H1.out.1.1.later HF.out.2
              have f1 := congrArg Array.toList (by injection e1)
              have f2 := congrArg Array.toList (by injection e2)
              simp only [List.cons.injEq, Value.slice.injEq, true_and, and_true] at f1 f2
              obtain ⟨⟨rfl, rfl⟩, rfl, rfl⟩ := f1
              obtain ⟨⟨rfl, rfl⟩, rfl, rfl⟩ := f2
              have HS := Lib.hid (sameNums_any B3 B nq.args q.args _ _ d3 d _ r1 r2 rfl rfl (by omega) (by omega))
              rw [decide_eq_true ha.1] at HS
              clear hk hk2 ha r1 r2 x1 x2 y1 y2 e1 e2
              generalize nq.args.length = al1 at *
              generalize q.args.length = al2 at *
              go_wp2_with (go_at_call 24; refine HS.out.mono ?_; rintro e w16 ⟨rfl, jj, rfl⟩)
              go_ret
              exact ⟨rfl, below_drewN' HFIN.out _⟩
            · have hnm : nq.handle = q.handle := by rw [← HNQ.out]; simp [norm, hk2]
              have bn : (nq.handle == q.handle) = true := by simp [hnm]
              have t3 : (q.kind == 3) = false := by simp [hk2]
              have t4 : (q.kind == 4) = false := by simp [hk2]
              have t5 : (q.kind == 5) = true := by simp [hk2]
              clear hk hk2 hnm
              go_wp2
              go_ret
              exact ⟨rfl, HFIN.out⟩
            · have hnm : nq.other = q.other := by rw [← HNQ.out]; simp [norm, hk2]
              have bn : (nq.other == q.other) = true := by simp [hnm]
              have t3 : (q.kind == 3) = false := by simp [hk2]
              have t4 : (q.kind == 4) = false := by simp [hk2]
              have t5 : (q.kind == 5) = false := by simp [hk2]
              have t6 : (q.kind == 6) = true := by simp [hk2]
              clear hk hk2 hnm
              go_wp2
              go_ret
              exact ⟨rfl, HFIN.out⟩
    · go_wp2
      go_ret
      exact ⟨rfl, H1.out.2.2.1.trans (HC.out.1.mono H1.out.2.2.1.size)⟩
end Go.Proofs.Ytnjbijndfbobbaa
