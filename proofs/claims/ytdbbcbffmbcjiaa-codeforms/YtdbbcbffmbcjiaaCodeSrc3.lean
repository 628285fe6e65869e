/- code's source: labels, types, numbers of instructions. -/
import Derived.Test.YtdbbcbffmbcjiaaCodeSrc2
namespace Go.Proofs.Ytdbbcbffmbcjiaa
open Go.RowKit
set_option maxRecDepth 100000
set_option linter.unusedVariables false

/-- Numbers of 32 bits that were read, into new memory. -/
def QPost (p : PR (List Int)) (g : Nat) (t : TypeId) (tl : RTl) (s : St) (w : World) (e : Ending) (w' : World) : Prop :=
  ∃ v y, e = .returned v ∧ OwnQ w' w.heap.size v y ∧ IsU32 y ∧ RdrAt w' g t tl (nx p s) ∧ (∀ a l', bd s p = .ok (a, l') → y = a) ∧ Chg (fun k => k = g) w w' ∧ y.length ≤ 1000
set_option maxHeartbeats 1000000 in
theorem clabels_any (g : Nat) (t : TypeId) (tl : RTl) (s : St) (w : World) (h : RdrAt w g t tl s) :
    Calls Try.prog 62 #[.pointer (some ⟨g, 0, none⟩)] w (QPost pLabels g t tl s w) := by
  have HH := Lib.hid h
  have hgw := h.lt
  clear h
  go_enter Try.func62, Try.ntmps62
  go_wp2_with fail
  refine (rcount_any g t tl s 600 w HH.out (by omega) (by omega)).mono ?_
  rintro e w1 ⟨x, rfl, h0, h1, h2, h3, h4⟩
  obtain ⟨n, rfl⟩ : ∃ n : Nat, x = n := ⟨x.toNat, by omega⟩
  have hs1 := h4.size
  have H2 := Lib.hid (And.intro h2 (And.intro h3 h4))
  clear h2 h3 h4
  go_wp2
  go_loopw [2, 7] (fun v i wr => ∃ (y : List Int) (k : Nat) (sk : St), k ≤ n ∧ i = .int .i64 k ∧ y.length = k ∧ w.heap.size ≤ wr.heap.size ∧ Hid (RdrAt wr g t tl sk ∧ OwnQ wr w.heap.size v y ∧ IsU32 y ∧ bd (nx (pCount 600) s) (pLb n []) = bd sk (pLb (n - k) y) ∧ Chg (fun k => k = g) w wr)) (fun _ i _ => n - (intOf i).toNat)
  case atStart => exact ⟨[], 0, _, by omega, rfl, rfl, hs1, H2.out.1, OwnQ.nil _ _, IsU32.nil, by simp, H2.out.2.2⟩
  case round =>
    obtain ⟨y, k, sk, hk, rfl, hyk, hsz, HX⟩ := hrel
    have HYK := Lib.hid hyk
    clear hyk
    by_cases hlt : k < n
    · have hlt2 : (k : Int) < n := by omega
      go_wp2_with fail
      refine (rU32_any g t tl sk wr HX.out.1).mono ?_
      rintro e w2 ⟨z, rfl, z0, z1, h2, h3, h4⟩
      have hs2 := h4.size
      have H3 : Hid (RdrAt w2 g t tl (nx (pU 32) sk) ∧ OwnQ w2 w.heap.size u2 y ∧ IsU32 (y ++ [z]) ∧ bd (nx (pCount 600) s) (pLb n []) = bd (nx (pU 32) sk) (pLb (n - (k + 1)) (y ++ [z])) ∧ Chg (fun k => k = g) w w2) := by
        obtain ⟨q1, q2, q3, q4, q5⟩ := HX.out
        refine ⟨h2, q2.chg h4 fun i hi e => ?_, q3.app (IsU32.one z0 (by omega)), ?_, q5.trans h4 fun k _ e => e⟩
        · have := owns_ge q2 hi; omega
        · rw [q4, show n - k = n - (k + 1) + 1 from by omega]
          exact (nx_seq (pU 32) (fun x => pLb (n - (k + 1)) (y ++ [x])) sk z h3).2
      clear h2 h3 h4
      go_wp2_with (at_builtin; refine wpList_appQ1 rfl (.tmp 9) (.tmp 14) rfl w.heap.size u2 y rfl H3.out.2.1 z rfl z0 (by omega) (by have := HYK.out; omega) (by omega) ?_; intro v1 w3 hv1 hw1; have HV := Lib.hid (And.intro hv1 hw1); clear hv1 hw1)
      go_wp2
      have hs3 := HV.out.2.size
      refine ⟨⟨y ++ [z], k + 1, _, by omega, by go_num, by have := HYK.out; simp; omega, by omega, H3.out.1.below HV.out.2 hgw (by omega), HV.out.1, H3.out.2.2.1, H3.out.2.2.2.1, ?_⟩, ?_⟩
      · exact H3.out.2.2.2.2.trans ⟨HV.out.2.os, HV.out.2.tape, HV.out.2.output, HV.out.2.size, fun i hi hn => HV.out.2.block i (by exact Nat.lt_of_not_le hn)⟩ fun i hi e => by omega
      · simp [intOf]; omega
    · obtain rfl : k = n := by omega
      go_wp2
      go_ret
      obtain ⟨q1, q2, q3, q4, q5⟩ := HX.out
      have e0 : pLb (k - k) y = fun l => .ok (y, l) := by rw [Nat.sub_self]; rfl
      rw [e0] at q4
      obtain ⟨k1, k2⟩ := nx_seq (pCount 600) (fun n => pLb n.toNat []) s (k : Int) H2.out.2.1
      rw [Int.toNat_natCast] at k1 k2
      refine ⟨_, y, rfl, q2, q3, ?_, (fun a l' h => ?_), q5, by have := HYK.out; omega⟩
      · unfold pLabels; rw [k1, nx, q4]; cases sk <;> exact q1
      · unfold pLabels at h
        rw [k2, q4] at h
        cases sk with
        | error e => cases h
        | ok l => injection h with h; injection h

theorem cref_any (F : Nat) (hF : F = 99 ∨ F = 71) (x : Int) (w : World) :
    Calls Try.prog F #[.int .u8 x] w fun e w' => e = .returned (.bool (decide (x = 112 ∨ x = 111))) ∧ w = w' := by
  have key : x = 112 ∨ x = 111 ∨ ((x == 112) = false ∧ (x == 111) = false ∧ decide (x = 112 ∨ x = 111) = false) := by
    by_cases a1 : x = 112
    · exact .inl a1
    by_cases a2 : x = 111
    · exact .inr (.inl a2)
    exact .inr (.inr ⟨by simpa using a1, by simpa using a2, by simp [a1, a2]⟩)
  rcases hF with rfl | rfl
  · rcases key with rfl | rfl | ⟨e1, e2, hv⟩
    all_goals (go_enter Try.func99, Try.ntmps99; go_wp2; go_ret)
    · exact ⟨rfl, rfl⟩
    · exact ⟨rfl, rfl⟩
    · rw [hv]; exact ⟨rfl, rfl⟩
  · rcases key with rfl | rfl | ⟨e1, e2, hv⟩
    all_goals (go_enter Try.func71, Try.ntmps71; go_wp2; go_ret)
    · exact ⟨rfl, rfl⟩
    · exact ⟨rfl, rfl⟩
    · rw [hv]; exact ⟨rfl, rfl⟩

theorem ty28_key {s : St} {n x : Int} {s1 s2 : St} (h1 : ∀ a l', bd s (pU 32) = .ok (a, l') → n = a) (e1 : s1 = if n = 1 then nx (pU 32) s else failS 2 (nx (pU 32) s)) (h2 : ∀ a l', bd s1 pByte = .ok (a, l') → x = a) (e2 : s2 = holdS x (nx pByte s1)) :
    nx (pTy 28) s = s2 ∧ ∀ a l', bd s (pTy 28) = .ok (a, l') → x = a := by
  subst e1 e2
  unfold pTy
  rw [if_pos rfl]
  cases s with
  | error e => simp [holdS, failS]
  | ok l =>
    simp only [nx_ok, bd_ok, seq] at h1 h2 ⊢
    cases hp : pU 32 l with
    | error e => simp [holdS, failS]
    | ok r =>
      have := h1 r.1 r.2 (by rw [hp])
      subst this
      rw [hp] at h2
      simp only [bd_ok] at h2 ⊢
      by_cases hn : r.1 = 1
      · simp only [hn, if_true, bd_ok, nx_ok] at h2 ⊢
        unfold pVal
        simp only [seq]
        cases hb : pByte r.2 with
        | error e => simp [holdS, failS]
        | ok q =>
          have := h2 q.1 q.2 (by rw [hb])
          subst this
          by_cases hv : valE q.1 = 0
          · simp only [bd_ok, hv, holdS, if_true]; exact ⟨trivial, fun a l' h => by injection h with h; injection h⟩
          · simp [holdS, hv, failS]
      · simp [hn, failS, holdS]
theorem ty_key {s : St} {op x : Int} {s2 : St} (ho : op ≠ 28) (h1 : ∀ a l', bd s pByte = .ok (a, l') → x = a) (e2 : s2 = if x = 112 ∨ x = 111 then holdS x (nx pByte s) else failS 2 (holdS x (nx pByte s))) :
    nx (pTy op) s = s2 ∧ ∀ a l', bd s (pTy op) = .ok (a, l') → x = a := by
  subst e2
  unfold pTy
  rw [if_neg ho]
  cases s with
  | error e => simp [holdS, failS]
  | ok l =>
    simp only [nx_ok, bd_ok, seq, pVal] at h1 ⊢
    cases hp : pByte l with
    | error e => simp [holdS, failS]
    | ok r =>
      have := h1 r.1 r.2 (by rw [hp])
      subst this
      simp only [bd_ok]
      by_cases hv : valE r.1 = 0
      · simp only [bd_ok, hv, if_true, holdS]
        by_cases hr : r.1 = 112 ∨ r.1 = 111
        · simp only [if_pos hr, bd_ok]; exact ⟨trivial, fun a l' h => by injection h with h; injection h⟩
        · simp [if_neg hr, failS]
      · simp [holdS, hv, failS]
set_option maxHeartbeats 1000000 in
theorem ctype_any (g : Nat) (t : TypeId) (tl : RTl) (s : St) (op : Int) (w : World) (h : RdrAt w g t tl s) :
    Calls Try.prog 63 #[.pointer (some ⟨g, 0, none⟩), .int .i64 op] w (RPost .u32 4294967295 (pTy op) g t tl s w) := by
  by_cases ho : op = 28
  · subst ho
    have HU := Lib.hid (rU32_any g t tl s w h)
    clear h
    go_enter Try.func63, Try.ntmps63
    go_wp2_with fail
    refine HU.out.mono ?_
    rintro e w1 ⟨n, rfl, h0, h1, h2, h3, h4⟩
    have H2 := Lib.hid (And.intro h2 (And.intro h3 h4))
    clear h2 h3 h4 HU
    by_cases hn : n = 1
    · subst hn
      have HB := Lib.hid (rbyte_any g t tl _ w1 H2.out.1)
      go_wp2_with fail
      refine HB.out.mono ?_
      rintro e w2 ⟨x, rfl, x0, x1, h2, h3, h4⟩
      have H3 := Lib.hid (And.intro h2 (And.intro h3 h4))
      have HO := Lib.hid (chold_any g t tl _ x w2 h2 x0 x1)
      clear h2 h3 h4 HB
      go_wp2_with fail
      refine HO.out.mono ?_
      rintro e w3 ⟨⟨u, rfl⟩, h2, hc⟩
      have HC := Lib.hid (And.intro h2 hc)
      clear h2 hc
      go_wp2
      go_ret
      have k := ty28_key (s2 := holdS x (nx pByte (nx (pU 32) s))) H2.out.2.1 (s1 := nx (pU 32) s) (by simp) H3.out.2.1 rfl
      exact ⟨x, rfl, x0, by omega, by rw [k.1]; exact HC.out.1, k.2, (H2.out.2.2.trans H3.out.2.2 fun k _ e => e).trans HC.out.2 fun k _ e => e⟩
    · have hne : (n != 1) = true := by simpa using hn
      have HN := Lib.hid hn
      have HF := Lib.hid (rfail_any g t tl _ 2 w1 H2.out.1 (by omega) (by omega))
      clear hn
      go_wp2_with fail
      refine HF.out.mono ?_
      rintro e w4 ⟨⟨u, rfl⟩, h2, hc⟩
      have HC4 := Lib.hid (And.intro h2 hc)
      clear h2 hc
      have HB := Lib.hid (rbyte_any g t tl _ w4 HC4.out.1)
      go_wp2_with fail
      refine HB.out.mono ?_
      rintro e w2 ⟨x, rfl, x0, x1, h2, h3, h4⟩
      have H3 := Lib.hid (And.intro h2 (And.intro h3 h4))
      have HO := Lib.hid (chold_any g t tl _ x w2 h2 x0 x1)
      clear h2 h3 h4 HB
      go_wp2_with fail
      refine HO.out.mono ?_
      rintro e w3 ⟨⟨u, rfl⟩, h2, hc⟩
      have HC := Lib.hid (And.intro h2 hc)
      clear h2 hc
      go_wp2
      go_ret
      have k := ty28_key (s2 := holdS x (nx pByte (failS 2 (nx (pU 32) s)))) H2.out.2.1 (s1 := failS 2 (nx (pU 32) s)) (by rw [if_neg HN.out]) H3.out.2.1 rfl
      exact ⟨x, rfl, x0, by omega, by rw [k.1]; exact HC.out.1, k.2, ((H2.out.2.2.trans HC4.out.2 fun k _ e => e).trans H3.out.2.2 fun k _ e => e).trans HC.out.2 fun k _ e => e⟩
  · have hne : (op == 28) = false := by simpa using ho
    have hne2 : (op != 28) = true := by simpa using ho
    have HB := Lib.hid (rbyte_any g t tl s w h)
    have HN := Lib.hid ho
    clear h ho
    go_enter Try.func63, Try.ntmps63
    go_wp2_with fail
    refine HB.out.mono ?_
    rintro e w2 ⟨x, rfl, x0, x1, h2, h3, h4⟩
    have H3 := Lib.hid (And.intro h2 (And.intro h3 h4))
    have HO := Lib.hid (chold_any g t tl _ x w2 h2 x0 x1)
    clear h2 h3 h4 HB
    go_wp2_with fail
    refine HO.out.mono ?_
    rintro e w3 ⟨⟨u, rfl⟩, h2, hc⟩
    have HC := Lib.hid (And.intro h2 hc)
    clear h2 hc
    have HR := Lib.hid (cref_any 99 (by simp) x w3)
    by_cases hr : x = 112 ∨ x = 111
    · have hrd : decide (x = 112 ∨ x = 111) = true := by simpa using hr
      have HRR := Lib.hid hr
      clear hr
      go_wp2_with (go_at_call 99; refine HR.out.mono ?_; rw [hrd]; rintro e w' ⟨rfl, rfl⟩)
      go_ret
      have k := ty_key (s2 := holdS x (nx pByte s)) HN.out H3.out.2.1 (by rw [if_pos HRR.out])
      exact ⟨x, rfl, x0, by omega, by rw [k.1]; exact HC.out.1, k.2, H3.out.2.2.trans HC.out.2 fun k _ e => e⟩
    · have hrd : decide (x = 112 ∨ x = 111) = false := by simpa using hr
      have HRR := Lib.hid hr
      clear hr
      have HF := Lib.hid (rfail_any g t tl _ 2 w3 HC.out.1 (by omega) (by omega))
      go_wp2_with (go_at_call 99; refine HR.out.mono ?_; rw [hrd]; rintro e w' ⟨rfl, rfl⟩)
      refine HF.out.mono ?_
      rintro e w4 ⟨⟨u, rfl⟩, h2, hc⟩
      have HC4 := Lib.hid (And.intro h2 hc)
      clear h2 hc
      go_wp2
      go_ret
      have k := ty_key (s2 := failS 2 (holdS x (nx pByte s))) HN.out H3.out.2.1 (by rw [if_neg HRR.out])
      exact ⟨x, rfl, x0, by omega, by rw [k.1]; exact HC4.out.1, k.2, (H3.out.2.2.trans HC.out.2 fun k _ e => e).trans HC4.out.2 fun k _ e => e⟩

theorem op_one {s : St} {b : Int} (hb : b ≠ 252) (h1 : ∀ a l', bd s pByte = .ok (a, l') → b = a) : nx pOp s = nx pByte s ∧ ∀ a l', bd s pOp = .ok (a, l') → b = a := by
  cases s with
  | error e => exact ⟨rfl, fun a l' h => by cases h⟩
  | ok l =>
    simp only [nx_ok, bd_ok, seq, pOp] at h1 ⊢
    cases hp : pByte l with
    | error e => simp
    | ok r =>
      have := h1 r.1 r.2 (by rw [hp])
      subst this
      simp only [bd_ok, if_neg hb]; exact ⟨trivial, fun a l' h => by injection h with h; injection h⟩
theorem op_two {s : St} {n : Int} (h0 : ∀ a l', bd s pByte = .ok (a, l') → 252 = a) (h1 : ∀ a l', bd (nx pByte s) (pU 32) = .ok (a, l') → n = a) :
    (¬ 255 < n → nx pOp s = nx (pU 32) (nx pByte s) ∧ ∀ a l', bd s pOp = .ok (a, l') → 64512 + n = a) ∧ (255 < n → nx pOp s = failS 2 (nx (pU 32) (nx pByte s)) ∧ ∀ a l', bd s pOp ≠ .ok (a, l')) := by
  cases s with
  | error e => exact ⟨fun _ => ⟨rfl, fun a l' h => by cases h⟩, fun _ => ⟨rfl, fun a l' h => by cases h⟩⟩
  | ok l =>
    simp only [nx_ok, bd_ok, seq, pOp] at h0 h1 ⊢
    cases hp : pByte l with
    | error e => simp [failS]
    | ok r =>
      have := h0 r.1 r.2 (by rw [hp])
      rw [hp] at h1
      simp only [bd_ok, if_pos this.symm, nx_ok] at h1 ⊢
      simp only [seq]
      cases hq : pU 32 r.2 with
      | error e => simp [failS]
      | ok q =>
        have := h1 q.1 q.2 (by rw [hq])
        subst this
        refine ⟨fun hx => ?_, fun hx => ?_⟩
        · simp only [bd_ok]; rw [if_neg hx]; exact ⟨rfl, fun a l' h => by injection h with h; injection h⟩
        · simp [hx, failS]
set_option maxHeartbeats 1000000 in
theorem cop_any (g : Nat) (t : TypeId) (tl : RTl) (s : St) (w : World) (h : RdrAt w g t tl s) :
    Calls Try.prog 33 #[.pointer (some ⟨g, 0, none⟩)] w (RPost .i64 64767 pOp g t tl s w) := by
  have HB := Lib.hid (rbyte_any g t tl s w h)
  clear h
  go_enter Try.func33, Try.ntmps33
  go_wp2_with fail
  refine HB.out.mono ?_
  rintro e w1 ⟨b, rfl, b0, b1, h2, h3, h4⟩
  have H2 := Lib.hid (And.intro h2 (And.intro h3 h4))
  clear h2 h3 h4 HB
  by_cases hb : b = 252
  · subst hb
    have HU := Lib.hid (rU32_any g t tl _ w1 H2.out.1)
    go_wp2_with fail
    refine HU.out.mono ?_
    rintro e w2 ⟨n, rfl, n0, n1, h2, h3, h4⟩
    have H3 := Lib.hid (And.intro h2 (And.intro h3 h4))
    have HK := Lib.hid (op_two H2.out.2.1 h3)
    clear h2 h3 h4 HU
    by_cases hn : 255 < n
    · have HF := Lib.hid (rfail_any g t tl _ 2 w2 H3.out.1 (by omega) (by omega))
      go_wp2_with fail
      refine HF.out.mono ?_
      rintro e w4 ⟨⟨u, rfl⟩, h2, hc⟩
      have HC4 := Lib.hid (And.intro h2 hc)
      clear h2 hc
      go_wp2
      go_ret
      have k := HK.out.2 hn
      exact ⟨0, rfl, by omega, by omega, by rw [k.1]; exact HC4.out.1, fun a l' h => (k.2 a l' h).elim, (H2.out.2.2.trans H3.out.2.2 fun k _ e => e).trans HC4.out.2 fun k _ e => e⟩
    · go_wp2
      go_ret
      have k := HK.out.1 hn
      exact ⟨64512 + n, rfl, by omega, by omega, by rw [k.1]; exact H3.out.1, k.2, H2.out.2.2.trans H3.out.2.2 fun k _ e => e⟩
  · have hne : (b != 252) = true := by simpa using hb
    have HN := Lib.hid hb
    clear hb
    go_wp2
    go_ret
    have k := op_one HN.out H2.out.2.1
    exact ⟨b, rfl, by omega, by omega, by rw [k.1]; exact H2.out.1, k.2, H2.out.2.2⟩
end Go.Proofs.Ytdbbcbffmbcjiaa
