/- Has req begun? And what may be. -/
import Derived.Test.YtnjbijndfbobbaaSames
import Derived.Test.YtnjbijndfbobbaaPut4
import Derived.Test.YtnjbijndfbobbaaReplyPut
import Derived.Test.YtnjbijndfbobbaaRows1
import Derived.Deep.Cut
namespace Go.Proofs.Ytnjbijndfbobbaa
open Go.RowKit
set_option maxRecDepth 100000
set_option linter.unusedVariables false

theorem put_req {X : Nat → Prop} (v : Value) (q : Req) (w : World) (hv : ReqV X w v q) (hk : 1 ≤ q.kind ∧ q.kind ≤ 6) (hn : q.name.length ≤ 1000) (hbd : q.body.length ≤ 100000) (ha : q.args.length ≤ 1000) :
    Calls Try.prog 20 #[v] w (PutPost (putReq q) w) := by
  by_cases h4 : q.kind = 4
  · exact put_four v q w hv h4 hn hbd ha
  · exact put_most v q w hv hk h4 hn hbd ha
theorem ReqV.later {X : Nat → Prop} {w w' : World} {v : Value} {q : Req} (h : ReqV X w v q) (hb : Below w.heap.size w w') : ReqV X w' v q := by
  obtain ⟨A, c, B, d, h1, h2, h3, h4, h5, h6⟩ := h
  exact ⟨A, c, B, d, h1, h2.later hb, h3, h4, h5.later hb, h6⟩
theorem RepV.later {X : Nat → Prop} {w w' : World} {v : Value} {q : Rep} (h : RepV X w v q) (hb : Below w.heap.size w w') : RepV X w' v q := by
  obtain ⟨B, d, h1, h2, h3⟩ := h
  exact ⟨B, d, h1, h2.later hb, h3⟩
/-- Eight cells. -/
theorem ReqV.form {X : Nat → Prop} {w : World} {v : Value} {q : Req} (h : ReqV X w v q) : ∃ A c B d, v = .agg #[.int .i64 q.kind, .int .u64 q.token, .int .u64 q.handle, .string (strOfNums q.name), .slice A q.body.length c, .slice B q.args.length d, .int .u64 q.ticks, .int .u64 q.other] := by
  obtain ⟨A, c, B, d, h1, _⟩ := h
  exact ⟨A, c, B, d, h1⟩
theorem RepV.form {X : Nat → Prop} {w : World} {v : Value} {q : Rep} (h : RepV X w v q) : ∃ B d, v = .agg #[.int .u64 q.token, .int .i64 q.err, .int .u64 q.handle, .slice B q.values.length d] := by
  obtain ⟨B, d, h1, _⟩ := h
  exact ⟨B, d, h1⟩
theorem PutPost.arg {l : List Int} {w w' : World} {e : Ending} (h : PutPost l w e w') (hl : IsBytes l) : ∃ A c, e = .returned (.slice A l.length c) ∧ Rd w' w'.heap.size A l ∧ l.length ≤ c ∧ c ≤ maxLen ∧ Below w.heap.size w w' := by
  obtain ⟨v, rfl, ho, hb⟩ := h
  obtain ⟨A, c, rfl, hr, h1, h2⟩ := ho.form2 hl
  exact ⟨A, c, rfl, hr, h1, h2, hb⟩

def q1 : Req := ⟨5, 1, 3, [], [], [], 0, 0⟩
def r2 : Rep := ⟨2, 0, 5, []⟩
theorem q1_put : putReq q1 = [5, 0, 0, 0, 0, 0, 0, 0, 1, 3] := by decide
theorem q1_take : takeReq [5, 0, 0, 0, 0, 0, 0, 0, 1, 3] = .ok q1 := by kernel_rfl
theorem r2_put : putRep r2 = [0, 0, 0, 0, 0, 0, 0, 2, 0, 5, 0] := by decide
theorem r2_take : takeRep [0, 0, 0, 0, 0, 0, 0, 2, 0, 5, 0] = .ok r2 := by kernel_rfl
theorem q1_v (X : Nat → Prop) (w : World) : ReqV X w (.agg #[.int .i64 5, .int .u64 1, .int .u64 3, .string ⟨#[]⟩, .slice none 0 0, .slice none 0 0, .int .u64 0, .int .u64 0]) q1 :=
  ⟨none, 0, none, 0, rfl, RdX.nil _ _ _, Nat.le_refl _, Nat.zero_le _, RdU.nil _ _ _, Nat.le_refl _, Nat.zero_le _, ⟨by decide, by decide⟩, ⟨by decide, by decide⟩, ⟨by decide, by decide⟩, IsBytes.nil, ⟨by decide, by decide⟩, ⟨by decide, by decide⟩⟩
theorem r2_v (X : Nat → Prop) (w : World) : RepV X w (.agg #[.int .u64 2, .int .i64 0, .int .u64 5, .slice none 0 0]) r2 :=
  ⟨none, 0, rfl, RdU.nil _ _ _, Nat.le_refl _, Nat.zero_le _, ⟨by decide, by decide⟩, ⟨by decide, by decide⟩, ⟨by decide, by decide⟩⟩

set_option maxHeartbeats 2000000 in
theorem begun3_any (w : World) : Calls Try.prog 13 #[] w fun e w' => e = .returned (.bool true) ∧ Below w.heap.size w w' := by
  go_enter Try.func13, Try.ntmps13
  go_wp2_with fail
  have hO1 := Own.new w 26 [.int .i64 5, .int .u64 1, .int .u64 3, .string ⟨#[]⟩, .slice none 0 0, .slice none 0 0, .int .u64 0, .int .u64 0]
  have hA := (Below.refl w.heap.size w).alloc (Nat.le_refl _) (.cells #[.int .i64 5, .int .u64 1, .int .u64 3, .string ⟨#[]⟩, .slice none 0 0, .slice none 0 0, .int .u64 0, .int .u64 0] 26)
  have e1 : (w.alloc (.cells #[.int .i64 5, .int .u64 1, .int .u64 3, .string ⟨#[]⟩, .slice none 0 0, .slice none 0 0, .int .u64 0, .int .u64 0] 26)).heap.size = w.heap.size + 1 := by simp
  simp only [List.toArray] at hO1
  generalize w.alloc (.cells #[.int .i64 5, .int .u64 1, .int .u64 3, .string ⟨#[]⟩, .slice none 0 0, .slice none 0 0, .int .u64 0, .int .u64 0] 26) = w1 at *
  refine (put_req _ q1 w1 (q1_v (fun _ => True) w1) (by decide) (by decide) (by decide) (by decide)).mono ?_
  intro e w2 h2
  rw [q1_put] at h2
  obtain ⟨A2, c2, rfl, hr2, hc1, hc2, hb2⟩ := h2.arg (fun z hz => by simp at hz; omega)
  have H2 := Lib.hid (And.intro hr2 (And.intro hO1 (And.intro hA (And.intro hb2 (And.intro hc1 hc2)))))
  have he1 : w.heap.size < w1.heap.size := by omega
  have hs2 := hb2.size
  simp only [List.length_cons, List.length_nil, Nat.reduceAdd, Nat.zero_add] at *
  clear hr2 hO1 hA hb2 hc1 hc2 h2 e1
  go_wp2_with fail
  refine (take_req A2 _ 10 c2 w2 H2.out.1 rfl (by omega) H2.out.2.2.2.2.1 H2.out.2.2.2.2.2).mono ?_
  rintro e w3 ⟨v3, rfl, hv3, hb3⟩
  rw [q1_take] at hv3 ⊢
  simp only [reqOf, codeOf] at hv3 ⊢
  obtain ⟨A3, c3, B3, d3, rfl⟩ := hv3.form
  have hs3 := hb3.size
  have H3 := Lib.hid (And.intro hv3 hb3)
  clear hv3 hb3
  simp only [q1, List.length_nil] at *
  have hB3 := (Below.refl w3.heap.size w3).alloc (Nat.le_refl _) (.cells #[.int .i64 5, .int .u64 1, .int .u64 3, .string (strOfNums []), .slice A3 0 c3, .slice B3 0 d3, .int .u64 0, .int .u64 0] 26)
  have hO3 := Own.new w3 26 [.int .i64 5, .int .u64 1, .int .u64 3, .string (strOfNums []), .slice A3 0 c3, .slice B3 0 d3, .int .u64 0, .int .u64 0]
  simp only [List.toArray] at hO3
  have H3b := Lib.hid (And.intro hB3 hO3)
  clear hB3 hO3
  go_wp2_with fail
  generalize w3.alloc (.cells #[.int .i64 5, .int .u64 1, .int .u64 3, .string (strOfNums []), .slice A3 0 c3, .slice B3 0 d3, .int .u64 0, .int .u64 0] 26) = w4 at *
  refine (put_rep _ r2 w4 (r2_v (fun _ => True) w4) (by decide)).mono ?_
  intro e w5 h5
  rw [r2_put] at h5
  obtain ⟨A5, c5, rfl, hr5, hc1, hc2, hb5⟩ := h5.arg (fun z hz => by simp at hz; omega)
  have H5 := Lib.hid (And.intro hr5 (And.intro hb5 (And.intro hc1 hc2)))
  simp only [List.length_cons, List.length_nil, Nat.reduceAdd, Nat.zero_add] at *
  clear hr5 hb5 hc1 hc2 h5
  go_wp2_with fail
  refine (take_rep A5 _ 11 c5 w5 H5.out.1 rfl (by omega) H5.out.2.2.1 H5.out.2.2.2).mono ?_
  rintro e w6 ⟨v6, rfl, hv6, hb6⟩
  rw [r2_take] at hv6 ⊢
  simp only [repOf, codeOf] at hv6 ⊢
  obtain ⟨B6, d6, rfl⟩ := hv6.form
  simp only [r2, List.length_nil] at *
  clear hv6
  have hB6 := (Below.refl w6.heap.size w6).alloc (Nat.le_refl _) (.cells #[.int .u64 2, .int .i64 0, .int .u64 5, .slice B6 0 d6] 41)
  have hO6 := Own.new w6 41 [.int .u64 2, .int .i64 0, .int .u64 5, .slice B6 0 d6]
  simp only [List.toArray] at hO6
  have hw34 := H3b.out.1.size
  have hs5 := H5.out.2.1.size
  have hs6 := hb6.size
  have hW4 : Below w3.heap.size w3 (w6.alloc (.cells #[.int .u64 2, .int .i64 0, .int .u64 5, .slice B6 0 d6] 41)) := H3b.out.1.trans (((H5.out.2.1.trans (hb6.mono hs5)).trans (hB6.mono (by omega))).mono (by omega))
  have hO3' : Own (w6.alloc (.cells #[.int .u64 2, .int .i64 0, .int .u64 5, .slice B6 0 d6] 41)) w3.heap.size 26 [.int .i64 5, .int .u64 1, .int .u64 3, .string (strOfNums []), .slice A3 0 c3, .slice B3 0 d3, .int .u64 0, .int .u64 0] := ((H3b.out.2.later H5.out.2.1).later hb6).later hB6
  have hO1' : Own (w6.alloc (.cells #[.int .u64 2, .int .i64 0, .int .u64 5, .slice B6 0 d6] 41)) w.heap.size 26 _ := ((H2.out.2.1.later H2.out.2.2.2.1).later H3.out.2).later hW4
  have hv3' := H3.out.1.later hW4
  have hBW : Below w.heap.size w (w6.alloc (.cells #[.int .u64 2, .int .i64 0, .int .u64 5, .slice B6 0 d6] 41)) := H2.out.2.2.1.trans ((H2.out.2.2.2.1.trans ((H3.out.2.trans (hW4.mono hs3)).mono hs2)).mono (by omega))
  go_upto_region 5 with fail
  generalize w6.alloc (.cells #[.int .u64 2, .int .i64 0, .int .u64 5, .slice B6 0 d6] 41) = W at *
  obtain ⟨c0, c1, c2', c3', c4, c5', c6, c7, -, -, -, -, -, -, -, -⟩ := own_cells8 hO1'
  obtain ⟨k0, k1, k2, k3, k4, k5, k6, k7, -, -, -, -, -, -, -, -⟩ := own_cells8 hO3'
  obtain ⟨m0, m1, m2, m3, -, -, -, -⟩ := own_cells4 hO6
  have HB := Lib.hid hBW
  have HV := Lib.hid hv3'
  clear hBW hv3' hO1' hO3' hO6 hW4 hB6 hb6 H3b H5 H3 H2
  have CS1 : Hid (Calls Try.prog 22 #[.agg #[.int .i64 5, .int .u64 1, .int .u64 3, .string ⟨#[]⟩, .slice none 0 0, .slice none 0 0, .int .u64 0, .int .u64 0], .agg #[.int .i64 5, .int .u64 1, .int .u64 3, .string (strOfNums []), .slice A3 0 c3, .slice B3 0 d3, .int .u64 0, .int .u64 0]] W fun e w' => e = .returned (.bool (decide (q1 = q1))) ∧ Below W.heap.size W w') := same_any _ _ q1 q1 W (q1_v (fun _ => True) W) HV.out
  have CS2 : Hid (∀ w7, Calls Try.prog 22 #[.agg #[.int .i64 5, .int .u64 1, .int .u64 3, .string ⟨#[]⟩, .slice none 0 0, .slice none 0 0, .int .u64 0, .int .u64 0], .agg #[.int .i64 0, .int .u64 0, .int .u64 0, .string ⟨#[]⟩, .slice none 0 0, .slice none 0 0, .int .u64 0, .int .u64 0]] w7 fun e w' => e = .returned (.bool (decide (q1 = zreq))) ∧ Below w7.heap.size w7 w') := fun w7 => same_any _ _ q1 zreq w7 (q1_v (fun _ => True) w7) (zreq_v (fun _ => True) w7)
  have c3'' : W.cell? ⟨w.heap.size, 3, none⟩ = some (.string ⟨#[]⟩) := c3'
  clear c3'
  have d1 : decide (q1 = q1) = true := by decide
  have d2 : decide (q1 = zreq) = false := by decide
  rw [d1] at CS1
  rw [d2] at CS2
  clear d1 d2 HV
  go_wp2_with (first | (go_at_call 22; refine (CS2.out w7).mono ?_; rintro e w8 ⟨rfl, hb8⟩; have HB8 := Lib.hid (HB7.out.trans (hb8.mono HB7.out.size)); clear hb8) | (go_at_call 22; refine CS1.out.mono ?_; rintro e w7 ⟨rfl, hb7⟩; have hbb := HB.out.trans (hb7.mono HB.out.size); have g1 := hb7.size; have n0 := (hb7.cell (lt_of_cell c0)).trans c0; have n1 := (hb7.cell (lt_of_cell c1)).trans c1; have n2 := (hb7.cell (lt_of_cell c2')).trans c2'; have n3 := (hb7.cell (lt_of_cell c3'')).trans c3''; have n4 := (hb7.cell (lt_of_cell c4)).trans c4; have n5 := (hb7.cell (lt_of_cell c5')).trans c5'; have n6 := (hb7.cell (lt_of_cell c6)).trans c6; have n7 := (hb7.cell (lt_of_cell c7)).trans c7; have HB7 := Lib.hid hbb; clear hb7 hbb))
  go_ret
  exact ⟨rfl, HB8.out⟩
end Go.Proofs.Ytnjbijndfbobbaa
