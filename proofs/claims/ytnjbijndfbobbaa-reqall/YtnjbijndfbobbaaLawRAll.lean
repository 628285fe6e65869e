/- The walk of ReqAll: out of the contracts. -/
import Derived.Test.YtnjbijndfbobbaaLawROne
import Derived.Test.YtnjbijndfbobbaaRefPut3
import Derived.Test.YtnjbijndfbobbaaRefTake4
import Derived.Test.YtnjbijndfbobbaaTwin
import Derived.Test.YtnjbijndfbobbaaKept
import Derived.Deep.Cut
namespace Go.Proofs.Ytnjbijndfbobbaa
open Go.RowKit
set_option maxRecDepth 100000
set_option linter.unusedVariables false

theorem refTake_any (A : Option Addr) (b : List Int) (n c : Nat) (w : World) (h : Rd w w.heap.size A b) (hn : n = b.length) (hl : n ≤ 1000000) (hc : n ≤ c) (hcm : c ≤ maxLen) :
    Calls Try.prog 16 #[.slice A n c] w (TakePost b w) := by
  by_cases h4 : ∃ t, b = 4 :: t
  · obtain ⟨t, ht⟩ := h4
    exact refTake_four A b t n c w h hn hl hc hcm ht
  · exact refTake_most A b n c w h hn hl hc hcm fun t e => h4 ⟨t, e⟩
theorem ReqV.all {X : Nat → Prop} {w : World} {v : Value} {q : Req} (h : ReqV X w v q) : ReqV (fun _ => True) w v q := by
  obtain ⟨A, c, B, d, e, h1, h2, h3, h4, h5, h6, h7⟩ := h
  exact ⟨A, c, B, d, e, h1.mono fun _ _ _ => trivial, h2, h3, h4.mono fun _ _ _ => trivial, h5, h6, h7⟩
/-- A request that was read, opened. -/
def TakePost2 (xq : Req) (ec : Int) (w : World) (e : Ending) (w' : World) : Prop :=
  ∃ A3 c3 B3 d3, e = .returned (.tuple #[.agg #[.int .i64 xq.kind, .int .u64 xq.token, .int .u64 xq.handle, .string (strOfNums xq.name), .slice A3 xq.body.length c3, .slice B3 xq.args.length d3, .int .u64 xq.ticks, .int .u64 xq.other], .int .i64 ec]) ∧ ReqV (fun _ => True) w' (.agg #[.int .i64 xq.kind, .int .u64 xq.token, .int .u64 xq.handle, .string (strOfNums xq.name), .slice A3 xq.body.length c3, .slice B3 xq.args.length d3, .int .u64 xq.ticks, .int .u64 xq.other]) xq ∧ Below w.heap.size w w'
theorem TakePost.two {b : List Int} {w w' : World} {e : Ending} (h : TakePost b w e w') : TakePost2 (reqOf (takeReq b)) (codeOf (takeReq b)) w e w' := by
  obtain ⟨v, rfl, hv, hb⟩ := h
  obtain ⟨A3, c3, B3, d3, rfl⟩ := hv.form
  exact ⟨A3, c3, B3, d3, rfl, hv.all, hb⟩

set_option maxRecDepth 100000 in
set_option maxHeartbeats 16000000 in
theorem reqAll_core {X Y Z : Nat → Prop} (va vb : Value) (a b : Req) (A0 : Option Addr) (l : List Int) (n c0 : Nat) (w : World) (ha : ReqV X w va a) (hb : ReqV Y w vb b) (hl : RdX Z w A0 l) (hn : n = l.length) (hnc : n ≤ c0) (hcm : c0 ≤ maxLen) :
    Calls Try.prog 3 #[va, vb, .slice A0 n c0] w fun e w' => e = .returned (.bool true) ∧ Below w.heap.size w w' := by
  obtain ⟨A, c, B, d, rfl⟩ := ha.form
  obtain ⟨A', c', B', d', rfl⟩ := hb.form
  have hbA := boxR_new ha
  have hb1 := (Below.refl w.heap.size w).alloc (Nat.le_refl _) (.cells #[.int .i64 a.kind, .int .u64 a.token, .int .u64 a.handle, .string (strOfNums a.name), .slice A a.body.length c, .slice B a.args.length d, .int .u64 a.ticks, .int .u64 a.other] 26)
  have hbB := boxR_new (hb.later hb1)
  have e1 : (w.alloc (.cells #[.int .i64 a.kind, .int .u64 a.token, .int .u64 a.handle, .string (strOfNums a.name), .slice A a.body.length c, .slice B a.args.length d, .int .u64 a.ticks, .int .u64 a.other] 26)).heap.size = w.heap.size + 1 := by simp
  have HL : Hid (RdX (fun _ => True) w A0 l ∧ n = l.length ∧ n ≤ c0 ∧ c0 ≤ maxLen) := ⟨hl.mono fun _ _ _ => trivial, hn, hnc, hcm⟩
  clear hl hn hnc hcm
  go_enter Try.func3, Try.ntmps3
  go_upto_region 1 with fail
  generalize w.alloc (.cells #[.int .i64 a.kind, .int .u64 a.token, .int .u64 a.handle, .string (strOfNums a.name), .slice A a.body.length c, .slice B a.args.length d, .int .u64 a.ticks, .int .u64 a.other] 26) = w0 at *
  have hb2 := (Below.refl w0.heap.size w0).alloc (Nat.le_refl _) (.cells #[.int .i64 b.kind, .int .u64 b.token, .int .u64 b.handle, .string (strOfNums b.name), .slice A' b.body.length c', .slice B' b.args.length d', .int .u64 b.ticks, .int .u64 b.other] 26)
  have hbA2 := hbA.later hb2
  have hbb := hb1.trans (hb2.mono (by omega))
  rw [e1] at hbB
  generalize w0.alloc (.cells #[.int .i64 b.kind, .int .u64 b.token, .int .u64 b.handle, .string (strOfNums b.name), .slice A' b.body.length c', .slice B' b.args.length d', .int .u64 b.ticks, .int .u64 b.other] 26) = w00 at *
  have hab := ha.ok
  have hbo := hb.ok
  go_wp2_with fail
  refine (begun3_any w00).mono ?_
  rintro e w1 ⟨rfl, hg1⟩
  have H1 := Lib.hid (And.intro (hbA2.later hg1) (And.intro (hbB.later hg1) (And.intro (hbb.trans (hg1.mono hbb.size)) (And.intro hab hbo))))
  clear ha hb hbA hb1 hbB hb2 hbA2 hbb hg1 hab hbo e1
  by_cases h300 : (300 : Int) < n
  · go_wp2
    go_ret
    exact ⟨rfl, H1.out.2.2.1⟩
  have HR1 := Lib.hid (HL.out.1.later H1.out.2.2.1)
  have HN := Lib.hid HL.out.2
  clear HL
  obtain ⟨xq, hxq⟩ : ∃ xq, reqOf (takeReq l) = xq := ⟨_, rfl⟩
  obtain ⟨ec, hec⟩ : ∃ ec, codeOf (takeReq l) = ec := ⟨_, rfl⟩
  have HXE := Lib.hid (And.intro hxq hec)
  clear hxq hec
  have hn3 : n ≤ 1000000 := by omega
  go_wp2_with fail
  refine (twin_any A0 l n c0 w1 HR1.out.rd HN.out.1 hn3).mono ?_
  rintro e w2 ⟨rfl, ho2, hb2⟩
  have H2 := Lib.hid (And.intro ho2 hb2)
  have hT := take_req (some ⟨w1.heap.size, 0, none⟩) l n (n + 3) w2 (ho2.rd HR1.out.1) HN.out.1 hn3 (by omega) (by simp only [maxLen]; omega)
  have HT : Hid (Calls Try.prog 15 #[.slice (some ⟨w1.heap.size, 0, none⟩) n (n + 3)] w2 (TakePost2 xq ec w2)) := hT.mono fun e w' h => by
    have := h.two
    rwa [HXE.out.1, HXE.out.2] at this
  clear hT ho2 hb2
  go_wp2_with fail
  refine HT.out.mono ?_
  rintro e w3 ⟨A3, c3, B3, d3, rfl, hv3, hb3⟩
  clear HT
  have hx3 := boxR_new hv3
  have hb34 := hb3.trans (((Below.refl w3.heap.size w3).alloc (Nat.le_refl _) (.cells #[.int .i64 xq.kind, .int .u64 xq.token, .int .u64 xq.handle, .string (strOfNums xq.name), .slice A3 xq.body.length c3, .slice B3 xq.args.length d3, .int .u64 xq.ticks, .int .u64 xq.other] 26)).mono hb3.size)
  go_upto_region 7 with fail
  generalize hw4 : w3.alloc (.cells #[.int .i64 xq.kind, .int .u64 xq.token, .int .u64 xq.handle, .string (strOfNums xq.name), .slice A3 xq.body.length c3, .slice B3 xq.args.length d3, .int .u64 xq.ticks, .int .u64 xq.other] 26) = w4 at *
  have H4 := Lib.hid (And.intro hx3 hb34)
  clear hw4 hx3 hb34 hv3 hb3
  generalize w3.heap.size = g3 at *
  have h24 := H2.out.2.trans (H4.out.2.mono H2.out.2.size)
  have hT := refTake_any A0 l n c0 w4 (HR1.out.later h24).rd HN.out.1 hn3 HN.out.2.1 HN.out.2.2
  have HT : Hid (Calls Try.prog 16 #[.slice A0 n c0] w4 (TakePost2 xq ec w4)) := hT.mono fun e w' h => by
    have := h.two
    rwa [HXE.out.1, HXE.out.2] at this
  clear hT
  go_wp2_with fail
  refine HT.out.mono ?_
  rintro e w6 ⟨A5, c5, B5, d5, rfl, hv6, hb6⟩
  clear HT
  have hx6 := boxR_new hv6
  have hb67 := hb6.trans (((Below.refl w6.heap.size w6).alloc (Nat.le_refl _) (.cells #[.int .i64 xq.kind, .int .u64 xq.token, .int .u64 xq.handle, .string (strOfNums xq.name), .slice A5 xq.body.length c5, .slice B5 xq.args.length d5, .int .u64 xq.ticks, .int .u64 xq.other] 26)).mono hb6.size)
  go_upto_region 8 with fail
  generalize hw7 : w6.alloc (.cells #[.int .i64 xq.kind, .int .u64 xq.token, .int .u64 xq.handle, .string (strOfNums xq.name), .slice A5 xq.body.length c5, .slice B5 xq.args.length d5, .int .u64 xq.ticks, .int .u64 xq.other] 26) = w7 at *
  have h17 : Below w1.heap.size w1 w7 := h24.trans (hb67.mono h24.size)
  have H7 : Hid (BoxR (fun _ => True) w7 g3 (.agg #[.int .i64 xq.kind, .int .u64 xq.token, .int .u64 xq.handle, .string (strOfNums xq.name), .slice A3 xq.body.length c3, .slice B3 xq.args.length d3, .int .u64 xq.ticks, .int .u64 xq.other]) xq ∧ BoxR (fun _ => True) w7 w6.heap.size (.agg #[.int .i64 xq.kind, .int .u64 xq.token, .int .u64 xq.handle, .string (strOfNums xq.name), .slice A5 xq.body.length c5, .slice B5 xq.args.length d5, .int .u64 xq.ticks, .int .u64 xq.other]) xq ∧ Below w1.heap.size w1 w7 ∧ Own w7 w1.heap.size 5 (l.map (Value.int .u8) ++ [.int .u8 229, .int .u8 229, .int .u8 229]) ∧ RdX (fun _ => True) w7 A0 l ∧ BoxR X w7 w.heap.size (.agg #[.int .i64 a.kind, .int .u64 a.token, .int .u64 a.handle, .string (strOfNums a.name), .slice A a.body.length c, .slice B a.args.length d, .int .u64 a.ticks, .int .u64 a.other]) a ∧ BoxR Y w7 (w.heap.size + 1) (.agg #[.int .i64 b.kind, .int .u64 b.token, .int .u64 b.handle, .string (strOfNums b.name), .slice A' b.body.length c', .slice B' b.args.length d', .int .u64 b.ticks, .int .u64 b.other]) b ∧ Below w.heap.size w w7) := ⟨H4.out.1.later hb67, hx6, h17, (H2.out.1.later H4.out.2).later hb67, HR1.out.later h17, H1.out.1.later h17, H1.out.2.1.later h17, H1.out.2.2.1.trans (h17.mono H1.out.2.2.1.size)⟩
  clear hw7 hx6 hb67 hv6 hb6 h24 h17 H2 H4 HR1
  generalize w6.heap.size = g6 at *
  have OX : Hid (∀ W, Below w7.heap.size w7 W → Own W g3 26 [.int .i64 xq.kind, .int .u64 xq.token, .int .u64 xq.handle, .string (strOfNums xq.name), .slice A3 xq.body.length c3, .slice B3 xq.args.length d3, .int .u64 xq.ticks, .int .u64 xq.other]) := fun W hW => by
    obtain ⟨Ax, cx, Bx', dx, e2, o2⟩ := H7.out.1.open
    injection e2 with e2
    have e3 := congrArg Array.toList e2
    simp only [List.cons.injEq, Value.slice.injEq, true_and, and_true] at e3
    obtain ⟨⟨rfl, rfl⟩, rfl, rfl⟩ := e3
    exact o2.later hW
  have OY : Hid (∀ W, Below w7.heap.size w7 W → Own W g6 26 [.int .i64 xq.kind, .int .u64 xq.token, .int .u64 xq.handle, .string (strOfNums xq.name), .slice A5 xq.body.length c5, .slice B5 xq.args.length d5, .int .u64 xq.ticks, .int .u64 xq.other]) := fun W hW => by
    obtain ⟨Ax, cx, Bx', dx, e2, o2⟩ := H7.out.2.1.open
    injection e2 with e2
    have e3 := congrArg Array.toList e2
    simp only [List.cons.injEq, Value.slice.injEq, true_and, and_true] at e3
    obtain ⟨⟨rfl, rfl⟩, rfl, rfl⟩ := e3
    exact o2.later hW
  have OA : Hid (∀ W, Below w7.heap.size w7 W → Own W w.heap.size 26 [.int .i64 a.kind, .int .u64 a.token, .int .u64 a.handle, .string (strOfNums a.name), .slice A a.body.length c, .slice B a.args.length d, .int .u64 a.ticks, .int .u64 a.other]) := fun W hW => by
    obtain ⟨Ax, cx, Bx', dx, e2, o2⟩ := H7.out.2.2.2.2.2.1.open
    injection e2 with e2
    have e3 := congrArg Array.toList e2
    simp only [List.cons.injEq, Value.slice.injEq, true_and, and_true] at e3
    obtain ⟨⟨rfl, rfl⟩, rfl, rfl⟩ := e3
    exact o2.later hW
  have OB : Hid (∀ W, Below w7.heap.size w7 W → Own W (w.heap.size + 1) 26 [.int .i64 b.kind, .int .u64 b.token, .int .u64 b.handle, .string (strOfNums b.name), .slice A' b.body.length c', .slice B' b.args.length d', .int .u64 b.ticks, .int .u64 b.other]) := fun W hW => by
    obtain ⟨Ax, cx, Bx', dx, e2, o2⟩ := H7.out.2.2.2.2.2.2.1.open
    injection e2 with e2
    have e3 := congrArg Array.toList e2
    simp only [List.cons.injEq, Value.slice.injEq, true_and, and_true] at e3
    obtain ⟨⟨rfl, rfl⟩, rfl, rfl⟩ := e3
    exact o2.later hW
  have CX : Hid (∀ W, Below w7.heap.size w7 W → Calls Try.prog 17 #[.agg #[.int .i64 xq.kind, .int .u64 xq.token, .int .u64 xq.handle, .string (strOfNums xq.name), .slice A3 xq.body.length c3, .slice B3 xq.args.length d3, .int .u64 xq.ticks, .int .u64 xq.other], .agg #[.int .i64 xq.kind, .int .u64 xq.token, .int .u64 xq.handle, .string (strOfNums xq.name), .slice A5 xq.body.length c5, .slice B5 xq.args.length d5, .int .u64 xq.ticks, .int .u64 xq.other]] W fun e w' => e = .returned (.bool true) ∧ Below W.heap.size W w') := fun W hW => by
    have := sameReq_any _ _ xq xq W (H7.out.1.1.later hW) (H7.out.2.1.1.later hW)
    rwa [decide_eq_true rfl] at this
  have CK : Hid (∀ W, Below w7.heap.size w7 W → Calls Try.prog 18 #[.slice (some ⟨w1.heap.size, 0, none⟩) n (n + 3), .slice A0 n c0] W fun e w' => e = .returned (.bool true) ∧ W = w') := fun W hW => kept_any w1.heap.size A0 l n c0 W (H7.out.2.2.2.2.1.later hW).rd HN.out.1 hn3 (H7.out.2.2.2.1.later hW)
  have CA : Hid (∀ W, Below w7.heap.size w7 W → Calls Try.prog 19 #[.agg #[.int .i64 a.kind, .int .u64 a.token, .int .u64 a.handle, .string (strOfNums a.name), .slice A a.body.length c, .slice B a.args.length d, .int .u64 a.ticks, .int .u64 a.other]] W fun e w' => e = .returned (.bool (mayB a)) ∧ Below W.heap.size W w') := fun W hW => may_any _ a W (H7.out.2.2.2.2.2.1.1.later hW)
  have CB : Hid (∀ W, Below w7.heap.size w7 W → Calls Try.prog 19 #[.agg #[.int .i64 b.kind, .int .u64 b.token, .int .u64 b.handle, .string (strOfNums b.name), .slice A' b.body.length c', .slice B' b.args.length d', .int .u64 b.ticks, .int .u64 b.other]] W fun e w' => e = .returned (.bool (mayB b)) ∧ Below W.heap.size W w') := fun W hW => may_any _ b W (H7.out.2.2.2.2.2.2.1.1.later hW)
  have HZ := Lib.hid H7.out.2.2.2.2.2.2.2
  have HOK := Lib.hid H1.out.2.2.2
  have PA : Hid (May a → ∀ W, Below w7.heap.size w7 W → Calls Try.prog 20 #[.agg #[.int .i64 a.kind, .int .u64 a.token, .int .u64 a.handle, .string (strOfNums a.name), .slice A a.body.length c, .slice B a.args.length d, .int .u64 a.ticks, .int .u64 a.other]] W (fun e w' => ∃ Ap kp, e = .returned (.slice Ap (putReq a).length kp) ∧ Below W.heap.size W w' ∧ Rd w' w'.heap.size Ap (putReq a))) := fun hm W hW => (put_req _ a W (H7.out.2.2.2.2.2.1.1.later hW) ⟨hm.1, hm.2.1⟩ (by have := hm.2.2.1; omega) (by have := hm.2.2.2.1; omega) (by have := hm.2.2.2.2; omega)).mono fun e w' h => by
    obtain ⟨Ap, kp, he, hr, -, -, hb⟩ := h.arg (putReq_is a HOK.out.1.1 hm.1 hm.2.1 HOK.out.1.2.1 HOK.out.1.2.2 (by have := hm.2.2.1; omega) (by have := hm.2.2.2.2; omega))
    exact ⟨Ap, kp, he, hb, hr⟩
  have PR : Hid (May a → ∀ W, Below w7.heap.size w7 W → Calls Try.prog 21 #[.agg #[.int .i64 a.kind, .int .u64 a.token, .int .u64 a.handle, .string (strOfNums a.name), .slice A a.body.length c, .slice B a.args.length d, .int .u64 a.ticks, .int .u64 a.other]] W (fun e w' => ∃ Ap kp, e = .returned (.slice Ap (putReq a).length kp) ∧ Below W.heap.size W w' ∧ Rd w' w'.heap.size Ap (putReq a))) := fun hm W hW => (put_ref _ a W (H7.out.2.2.2.2.2.1.1.later hW) ⟨hm.1, hm.2.1⟩ (by have := hm.2.2.1; omega) (by have := hm.2.2.2.1; omega) (by have := hm.2.2.2.2; omega)).mono fun e w' h => by
    obtain ⟨Ap, kp, he, hr, -, -, hb⟩ := h.arg (putReq_is a HOK.out.1.1 hm.1 hm.2.1 HOK.out.1.2.1 HOK.out.1.2.2 (by have := hm.2.2.1; omega) (by have := hm.2.2.2.2; omega))
    exact ⟨Ap, kp, he, hb, hr⟩
  have SM1 : Hid (∀ W, Below w7.heap.size w7 W → Calls Try.prog 22 #[.agg #[.int .i64 a.kind, .int .u64 a.token, .int .u64 a.handle, .string (strOfNums a.name), .slice A a.body.length c, .slice B a.args.length d, .int .u64 a.ticks, .int .u64 a.other], .agg #[.int .i64 b.kind, .int .u64 b.token, .int .u64 b.handle, .string (strOfNums b.name), .slice A' b.body.length c', .slice B' b.args.length d', .int .u64 b.ticks, .int .u64 b.other]] W fun e w' => e = .returned (.bool (decide (a = b))) ∧ Below W.heap.size W w') := fun W hW => same_any _ _ a b W (H7.out.2.2.2.2.2.1.1.later hW) (H7.out.2.2.2.2.2.2.1.1.later hW)
  have SM2 : Hid (∀ W, Below w7.heap.size w7 W → Calls Try.prog 17 #[.agg #[.int .i64 a.kind, .int .u64 a.token, .int .u64 a.handle, .string (strOfNums a.name), .slice A a.body.length c, .slice B a.args.length d, .int .u64 a.ticks, .int .u64 a.other], .agg #[.int .i64 b.kind, .int .u64 b.token, .int .u64 b.handle, .string (strOfNums b.name), .slice A' b.body.length c', .slice B' b.args.length d', .int .u64 b.ticks, .int .u64 b.other]] W fun e w' => e = .returned (.bool (decide (a = b))) ∧ Below W.heap.size W w') := fun W hW => sameReq_any _ _ a b W (H7.out.2.2.2.2.2.1.1.later hW) (H7.out.2.2.2.2.2.2.1.1.later hW)
  have HA := Lib.hid (mayB_iff a).1
  clear H7 H1 HXE HN HOK
  generalize mayB a = ma at *
  generalize mayB b = mb at *
  have hee : (ec == ec) = true := by simp
  obtain ⟨x0, x1, x2, x3, x4, x5, x6, x7, -, -, -, -, -, -, -, -⟩ := own_cells8 (OX.out w7 (Below.refl _ _))
  obtain ⟨y0, y1, y2, y3, y4, y5, y6, y7, -, -, -, -, -, -, -, -⟩ := own_cells8 (OY.out w7 (Below.refl _ _))
  go_wp2_with fail
  refine (CX.out w7 (Below.refl _ _)).mono ?_
  rintro e w8 ⟨rfl, hb8⟩
  have H8 := Lib.hid hb8
  clear hb8 x0 x1 x2 x3 x4 x5 x6 x7 y0 y1 y2 y3 y4 y5 y6 y7
  obtain ⟨a0, a1, a2, a3, a4, a5, a6, a7, -, -, -, -, -, -, -, -⟩ := own_cells8 (OA.out w8 H8.out)
  go_wp2_with fail
  refine (CK.out w8 H8.out).mono ?_
  rintro e w8' ⟨rfl, rfl⟩
  go_wp2_with fail
  refine (CA.out w8 H8.out).mono ?_
  rintro e w9 ⟨rfl, hb9⟩
  have H9 := Lib.hid (H8.out.trans (hb9.mono H8.out.size))
  clear hb9 a0 a1 a2 a3 a4 a5 a6 a7
  cases ma
  · obtain ⟨x0, x1, x2, x3, x4, x5, x6, x7, -, -, -, -, -, -, -, -⟩ := own_cells8 (OX.out w9 H9.out)
    obtain ⟨y0, y1, y2, y3, y4, y5, y6, y7, -, -, -, -, -, -, -, -⟩ := own_cells8 (OY.out w9 H9.out)
    go_wp2_with fail
    refine (CX.out w9 H9.out).mono ?_
    rintro e w10 ⟨rfl, hb10⟩
    have H10 := Lib.hid (H9.out.trans (hb10.mono H9.out.size))
    clear hb10
    go_wp2_with fail
    refine (CK.out w10 H10.out).mono ?_
    rintro e w10' ⟨rfl, rfl⟩
    go_wp2
    go_ret
    exact ⟨rfl, HZ.out.trans (H10.out.mono HZ.out.size)⟩
  · obtain ⟨b0, b1, b2, b3, b4, b5, b6, b7, -, -, -, -, -, -, -, -⟩ := own_cells8 (OB.out w9 H9.out)
    go_wp2_with fail
    refine (CB.out w9 H9.out).mono ?_
    rintro e w10 ⟨rfl, hb10⟩
    have H10 := Lib.hid (H9.out.trans (hb10.mono H9.out.size))
    clear hb10 b0 b1 b2 b3 b4 b5 b6 b7
    cases mb
    · obtain ⟨x0, x1, x2, x3, x4, x5, x6, x7, -, -, -, -, -, -, -, -⟩ := own_cells8 (OX.out w10 H10.out)
      obtain ⟨y0, y1, y2, y3, y4, y5, y6, y7, -, -, -, -, -, -, -, -⟩ := own_cells8 (OY.out w10 H10.out)
      go_wp2_with fail
      refine (CX.out w10 H10.out).mono ?_
      rintro e w11 ⟨rfl, hb11⟩
      have H11 := Lib.hid (H10.out.trans (hb11.mono H10.out.size))
      clear hb11
      go_wp2_with fail
      refine (CK.out w11 H11.out).mono ?_
      rintro e w11' ⟨rfl, rfl⟩
      go_wp2
      go_ret
      exact ⟨rfl, HZ.out.trans (H11.out.mono HZ.out.size)⟩
    · have hm : May a := HA.out (by first | rfl | trivial)
      have PA := Lib.hid (PA.out hm)
      have PR := Lib.hid (PR.out hm)
      have KS : Hid (∀ W : World, Below w7.heap.size w7 W → (W.cell? ⟨w.heap.size, 0, none⟩ = some (.int .i64 a.kind) ∧ W.cell? ⟨w.heap.size, 1, none⟩ = some (.int .u64 a.token) ∧ W.cell? ⟨w.heap.size, 2, none⟩ = some (.int .u64 a.handle) ∧ W.cell? ⟨w.heap.size, 3, none⟩ = some (.string (strOfNums a.name)) ∧ W.cell? ⟨w.heap.size, 4, none⟩ = some (.slice A a.body.length c) ∧ W.cell? ⟨w.heap.size, 5, none⟩ = some (.slice B a.args.length d) ∧ W.cell? ⟨w.heap.size, 6, none⟩ = some (.int .u64 a.ticks) ∧ W.cell? ⟨w.heap.size, 7, none⟩ = some (.int .u64 a.other)) ∧ (W.cell? ⟨w.heap.size + 1, 0, none⟩ = some (.int .i64 b.kind) ∧ W.cell? ⟨w.heap.size + 1, 1, none⟩ = some (.int .u64 b.token) ∧ W.cell? ⟨w.heap.size + 1, 2, none⟩ = some (.int .u64 b.handle) ∧ W.cell? ⟨w.heap.size + 1, 3, none⟩ = some (.string (strOfNums b.name)) ∧ W.cell? ⟨w.heap.size + 1, 4, none⟩ = some (.slice A' b.body.length c') ∧ W.cell? ⟨w.heap.size + 1, 5, none⟩ = some (.slice B' b.args.length d') ∧ W.cell? ⟨w.heap.size + 1, 6, none⟩ = some (.int .u64 b.ticks) ∧ W.cell? ⟨w.heap.size + 1, 7, none⟩ = some (.int .u64 b.other))) := fun W hW => by
        have oa := own_cells8 (OA.out W hW)
        have ob := own_cells8 (OB.out W hW)
        exact ⟨⟨oa.1, oa.2.1, oa.2.2.1, oa.2.2.2.1, oa.2.2.2.2.1, oa.2.2.2.2.2.1, oa.2.2.2.2.2.2.1, oa.2.2.2.2.2.2.2.1⟩, ⟨ob.1, ob.2.1, ob.2.2.1, ob.2.2.2.1, ob.2.2.2.2.1, ob.2.2.2.2.2.1, ob.2.2.2.2.2.2.1, ob.2.2.2.2.2.2.2.1⟩⟩
      have HD : Hid (Below w7.heap.size w7 w10.drew) := H10.out.drew
      clear hm HA OX OY OA OB CX CK CA CB H8 H9 H10
      generalize decide (a = b) = bb at *
      have hbb : (bb == bb) = true := by simp
      have hq : ((strOfNums (putReq a)).toList == (strOfNums (putReq a)).toList) = true := by simp
      go_upto_region 10 with fail
      go_wp2_with fail
      go_region_held (fun (w' : World) => (w'.cell? ⟨w.heap.size, 0, none⟩ = some (.int .i64 a.kind) ∧ w'.cell? ⟨w.heap.size, 1, none⟩ = some (.int .u64 a.token) ∧ w'.cell? ⟨w.heap.size, 2, none⟩ = some (.int .u64 a.handle) ∧ w'.cell? ⟨w.heap.size, 3, none⟩ = some (.string (strOfNums a.name)) ∧ w'.cell? ⟨w.heap.size, 4, none⟩ = some (.slice A a.body.length c) ∧ w'.cell? ⟨w.heap.size, 5, none⟩ = some (.slice B a.args.length d) ∧ w'.cell? ⟨w.heap.size, 6, none⟩ = some (.int .u64 a.ticks) ∧ w'.cell? ⟨w.heap.size, 7, none⟩ = some (.int .u64 a.other)) ∧ (w'.cell? ⟨w.heap.size + 1, 0, none⟩ = some (.int .i64 b.kind) ∧ w'.cell? ⟨w.heap.size + 1, 1, none⟩ = some (.int .u64 b.token) ∧ w'.cell? ⟨w.heap.size + 1, 2, none⟩ = some (.int .u64 b.handle) ∧ w'.cell? ⟨w.heap.size + 1, 3, none⟩ = some (.string (strOfNums b.name)) ∧ w'.cell? ⟨w.heap.size + 1, 4, none⟩ = some (.slice A' b.body.length c') ∧ w'.cell? ⟨w.heap.size + 1, 5, none⟩ = some (.slice B' b.args.length d') ∧ w'.cell? ⟨w.heap.size + 1, 6, none⟩ = some (.int .u64 b.ticks) ∧ w'.cell? ⟨w.heap.size + 1, 7, none⟩ = some (.int .u64 b.other))) (exact KS.out _ (by first | exact HB4.out | exact HB3.out | exact HB2.out | exact HB1.out | exact HD.out))
        (first
          | (go_at_call 17; refine (SM2.out v3 HB3.out).mono ?_; rintro e v4 ⟨rfl, hb⟩; have HB4 := Lib.hid (HB3.out.trans (hb.mono HB3.out.size)); clear hb)
          | (go_at_call 22; refine (SM1.out v2 HB2.out).mono ?_; rintro e v3 ⟨rfl, hb⟩; have HB3 := Lib.hid (HB2.out.trans (hb.mono HB2.out.size)); clear hb)
          | (go_at_call 21; refine (PR.out v1 HB1.out).mono ?_; rintro e v2 ⟨Ab, kb, rfl, hb, hr⟩; have hsB := hr.string kb; have hsA2 := (HR1.out.later hb).string ka; have HB2 := Lib.hid (HB1.out.trans (hb.mono HB1.out.size)); clear hb hr)
          | (go_at_call 20; refine (PA.out w10.drew HD.out).mono ?_; rintro e v1 ⟨Aa, ka, rfl, hb, hr⟩; have hsA := hr.string ka; have HR1 := Lib.hid hr; have HB1 := Lib.hid (HD.out.trans (hb.mono HD.out.size)); clear hb hr))
      all_goals go_wp2
      all_goals go_ret
      all_goals exact ⟨rfl, HZ.out.trans (HB4.out.mono HZ.out.size)⟩
end Go.Proofs.Ytnjbijndfbobbaa
