/- What may be a request of the statements; what taken requests are like. -/
import Derived.Test.YtnjbijndfbobbaaRowsR
import Derived.Test.YtnjbijndfbobbaaReqMath
import Derived.Deep.Cut
namespace Go.Proofs.Ytnjbijndfbobbaa
open Go.RowKit
set_option maxRecDepth 100000
set_option linter.unusedVariables false

def May (q : Req) : Prop := 1 ≤ q.kind ∧ q.kind ≤ 6 ∧ (q.name.length : Int) ≤ 60 ∧ (q.body.length : Int) ≤ 300 ∧ (q.args.length : Int) ≤ 12
def mayB (q : Req) : Bool := decide (1 ≤ q.kind) && decide (q.kind ≤ 6) && decide ((q.name.length : Int) ≤ 60) && decide ((q.body.length : Int) ≤ 300) && decide ((q.args.length : Int) ≤ 12)
theorem mayB_iff (q : Req) : mayB q = true ↔ May q := by simp [mayB, May, and_assoc]
theorem mayB_no (q : Req) (h : ¬ May q) : mayB q = false := by
  cases h2 : mayB q with
  | false => rfl
  | true => exact absurd ((mayB_iff q).1 h2) h

set_option maxHeartbeats 1000000 in
theorem may_any {X : Nat → Prop} (v : Value) (q : Req) (w : World) (hq : ReqV X w v q) :
    Calls Try.prog 19 #[v] w fun e w' => e = .returned (.bool (mayB q)) ∧ Below w.heap.size w w' := by
  obtain ⟨A, c, B, d, rfl, hA, hc1, hc2, hB, hd1, hd2, hok⟩ := hq
  have hss : (strOfNums q.name).size = q.name.length := strOfNums_size q.name
  have HM1 := Lib.hid (mayB_iff q).2
  have HM0 := Lib.hid (mayB_no q)
  unfold May at HM1 HM0
  generalize mayB q = mb at *
  obtain ⟨kind, token, handle, name, body, args, ticks, other⟩ := q
  simp only at *
  generalize body.length = bl at *
  generalize args.length = al at *
  generalize name.length = nl at *
  have hbel := (Below.refl w.heap.size w).alloc (Nat.le_refl _) (.cells #[.int .i64 kind, .int .u64 token, .int .u64 handle, .string (strOfNums name), .slice A bl c, .slice B al d, .int .u64 ticks, .int .u64 other] 26)
  have ho := Own.new w 26 [.int .i64 kind, .int .u64 token, .int .u64 handle, .string (strOfNums name), .slice A bl c, .slice B al d, .int .u64 ticks, .int .u64 other]
  simp only [List.toArray] at ho
  go_enter Try.func19, Try.ntmps19
  go_upto_region 1 with fail
  generalize w.alloc (.cells #[.int .i64 kind, .int .u64 token, .int .u64 handle, .string (strOfNums name), .slice A bl c, .slice B al d, .int .u64 ticks, .int .u64 other] 26) = W at *
  obtain ⟨c0, c1, c2, c3, c4, c5, c6, c7, -, -, -, -, -, -, -, -⟩ := own_cells8 ho
  have HB := Lib.hid hbel
  clear hA hB hc1 hc2 hd1 hd2 hok ho hbel
  by_cases h1 : 1 ≤ kind
  case neg => go_wp2; go_ret; exact ⟨by rw [HM0.out (by omega)]; rfl, HB.out⟩
  by_cases h2 : kind ≤ 6
  case neg => go_wp2; go_ret; exact ⟨by rw [HM0.out (by omega)]; rfl, HB.out⟩
  by_cases h3 : (nl : Int) ≤ 60
  case neg => go_wp2; go_ret; exact ⟨by rw [HM0.out (by omega)]; rfl, HB.out⟩
  by_cases h4 : (bl : Int) ≤ 300
  case neg => go_wp2; go_ret; exact ⟨by rw [HM0.out (by omega)]; rfl, HB.out⟩
  by_cases h5 : (al : Int) ≤ 12
  case neg => go_wp2; go_ret; exact ⟨by rw [HM0.out (by omega)]; rfl, HB.out⟩
  go_wp2
  go_ret
  exact ⟨by rw [HM1.out (by omega)]; rfl, HB.out⟩

/-- Where the parts that came in lie. -/
theorem ReqV.ok {X : Nat → Prop} {w : World} {v : Value} {q : Req} (h : ReqV X w v q) : q.Ok ∧ IsU64 q.args ∧ IsBytes q.body := by
  obtain ⟨A, c, B, d, _, hA, _, _, hB, _, _, hok⟩ := h
  exact ⟨hok, hB.1, hA.1⟩
theorem putReq_is (q : Req) (hq : q.Ok) (h0 : 1 ≤ q.kind) (h1 : q.kind ≤ 6) (hx : IsU64 q.args) (hb : IsBytes q.body) (hn : q.name.length ≤ 1000) (ha : q.args.length ≤ 1000) : IsBytes (putReq q) := by
  obtain ⟨kind, token, handle, name, body, args, ticks, other⟩ := q
  obtain ⟨_, ⟨t0, t1⟩, ⟨g0, g1⟩, hnb, ⟨i0, i1⟩, ⟨o0, o1⟩⟩ := hq
  simp only at *
  have hr : IsBytes (putRest ⟨kind, token, handle, name, body, args, ticks, other⟩) := by
    have hN : IsBytes (encU name.length) := encU_is _ (by omega) (by omega)
    have hAl : IsBytes (encU args.length) := encU_is _ (by omega) (by omega)
    have hH := encU_is handle g0 g1
    rcases show kind = 1 ∨ kind = 2 ∨ kind = 3 ∨ kind = 4 ∨ kind = 5 ∨ kind = 6 from by omega with rfl | rfl | rfl | rfl | rfl | rfl
    · exact hb
    · exact (hH.app hN).app hnb
    · exact hN.app hnb
    · exact ((((hH.app hN).app hnb).app hAl).app (encs_is args hx)).app (encU_is ticks i0 i1)
    · exact hH
    · exact be8_is other
  unfold putReq
  exact IsBytes.app (IsBytes.app (IsBytes.one (show (0 : Int) ≤ kind by omega) (show kind ≤ 255 by omega)) (be8_is token)) hr
theorem putReq_len (q : Req) (hn : q.name.length ≤ 1000) (ha : q.args.length ≤ 1000) (hb : q.body.length ≤ 100000) : 9 ≤ (putReq q).length ∧ (putReq q).length ≤ 200000 := by
  have h5 := (encU_len q.handle).2
  have h6 := (encU_len (q.name.length : Int)).2
  have h7 := encs_len q.args
  have h8 := (encU_len (q.args.length : Int)).2
  have h9 := (encU_len q.ticks).2
  have hr : (putRest q).length ≤ 150000 := by
    unfold putRest
    split
    · omega
    · split
      · simp only [List.length_append]; omega
      · split
        · simp only [List.length_append]; omega
        · split
          · simp only [List.length_append]; omega
          · split
            · omega
            · rw [be8_len]; omega
  simp [putReq, be8_len]; omega
theorem alike_put (a b : Req) (ha : a.Ok ∧ IsU64 a.args ∧ IsBytes a.body) (hb : b.Ok ∧ IsU64 b.args ∧ IsBytes b.body) (hma : May a) (hmb : May b) (na : a.name.length ≤ 32) (nb : b.name.length ≤ 32) (xa : a.args.length ≤ 8) (xb : b.args.length ≤ 8) : decide (norm a = norm b) = decide (putReq a = putReq b) := by
  have e1 := req_back a ha.1 hma.1 hma.2.1 ha.2.1 na xa
  have e2 := req_back b hb.1 hmb.1 hmb.2.1 hb.2.1 nb xb
  have f1 := putReq_norm a hma.1 hma.2.1
  have f2 := putReq_norm b hmb.1 hmb.2.1
  apply Bool.eq_iff_iff.2
  simp only [decide_eq_true_eq]
  constructor
  · intro h; rw [← f1, ← f2, h]
  · intro h; rw [h, e2] at e1; injection e1 with e1; exact e1.symm
end Go.Proofs.Ytnjbijndfbobbaa
