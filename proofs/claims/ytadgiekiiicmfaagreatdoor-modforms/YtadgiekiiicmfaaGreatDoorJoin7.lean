/- Texts joined: CodeSrc2, CodeSrc3, CodeBh. -/
import Derived.Test.YtadgiekiiicmfaaGreatDoorJoin6
import Derived.Laws.BitsAllLaws
import Derived.Laws.BitsLemmas
/- code's source: blocks' types, labels, types, numbers of instructions. -/
namespace Go.Proofs.YtadgiekiiicmfaaGreatDoor
open Go.RowKit
set_option maxRecDepth 100000
set_option linter.unusedVariables false

theorem and127c (x : Int) : Go.bits .and .u8 (x % 256) 127 = x % 128 := by
  have h : 0 ≤ x % 256 ∧ x % 256 < 256 ∧ x % 256 % 128 = x % 128 := by omega
  exact (Go.bits_mask .u8 8 (by decide) Go.wraps_u8 7 (by decide) _ h.1 h.2.1).trans h.2.2
theorem RdrAt.lenS_le {w : World} {g : Nat} {t : TypeId} {tl : RTl} {s : St} (h : RdrAt w g t tl s) : lenS s ≤ 1000000 := by
  cases s with
  | error e => simp [lenS]
  | ok l => obtain ⟨A, c, r, h1, hr, hlc, hcm, hlm, -⟩ := h; exact hlm

theorem bl_key {s : St} {x : Int} (h3 : ∀ a l', bd s (pS 33) = .ok (a, l') → x = a) :
    (0 ≤ x → nx pBl s = nx (pS 33) s ∧ ∀ a l', bd s pBl = .ok (a, l') → x = a) ∧
    (¬ 0 ≤ x → 1 < (lenS s : Int) - lenS (nx (pS 33) s) → nx pBl s = failS 2 (nx (pS 33) s) ∧ ∀ a l', bd s pBl = .ok (a, l') → x = a) ∧
    (¬ 0 ≤ x → ¬ 1 < (lenS s : Int) - lenS (nx (pS 33) s) → x = -64 → nx pBl s = nx (pS 33) s ∧ ∀ a l', bd s pBl = .ok (a, l') → x = a) ∧
    (¬ 0 ≤ x → ¬ 1 < (lenS s : Int) - lenS (nx (pS 33) s) → x ≠ -64 → nx pBl s = holdS (x % 128) (nx (pS 33) s) ∧ ∀ a l', bd s pBl = .ok (a, l') → x = a) := by
  have hv : ∀ a l', bd s pBl = .ok (a, l') → x = a := fun a l' h => by
    cases s with
    | error e => cases h
    | ok l =>
      simp only [bd_ok, pBl] at h h3
      cases hp : pS 33 l with
      | error e => rw [hp] at h; cases h
      | ok r =>
        rw [hp] at h
        have e := h3 r.1 r.2 (by rw [hp])
        simp only [bd_ok] at h
        split at h
        · injection h with h; subst h; exact e
        · split at h
          · cases h
          · split at h
            · injection h with h; subst h; exact e
            · split at h
              · injection h with h; subst h; exact e
              · cases h
  refine ⟨fun h1 => ⟨?_, hv⟩, fun h1 h2 => ⟨?_, hv⟩, fun h1 h2 h4 => ⟨?_, hv⟩, fun h1 h2 h4 => ⟨?_, hv⟩⟩
  all_goals
    cases s with
    | error e => first | rfl | (simp [holdS, failS])
    | ok l =>
      simp only [nx_ok, bd_ok, pBl] at h3 ⊢
      cases hp : pS 33 l with
      | error e => first | rfl | (simp [holdS, failS])
      | ok r =>
        have := h3 r.1 r.2 (by rw [hp])
        subst this
        simp only [nx_ok, hp, bd_ok, lenS] at *
        first
          | (rw [if_pos h1]; rfl)
          | (rw [if_neg h1, if_pos (by omega)]; rfl)
          | (rw [if_neg h1, if_neg (by omega), if_pos h4]; rfl)
          | (rw [if_neg h1, if_neg (by omega), if_neg h4]; unfold holdS; split <;> simp_all [failS])
/-- An int that was read. -/
def IPostB (p : PR Int) (g : Nat) (t : TypeId) (tl : RTl) (s : St) (w : World) (e : Ending) (w' : World) : Prop :=
  ∃ x, e = .returned (.int .i64 x) ∧ -9223372036854775808 ≤ x ∧ x ≤ 9223372036854775807 ∧ RdrAt w' g t tl (nx p s) ∧ (∀ a l', bd s p = .ok (a, l') → x = a) ∧ Chg (fun k => k = g) w w'
set_option maxHeartbeats 1000000 in
theorem cblock_any (g : Nat) (t : TypeId) (tl : RTl) (s : St) (w : World) (h : RdrAt w g t tl s) :
    Calls Tryz.prog 202 #[.pointer (some ⟨g, 0, none⟩)] w (IPostB pBl g t tl s w) := by
  have HL := Lib.hid (rleft_any g t tl s w h)
  have HU := Lib.hid (rS33_any g t tl s w h)
  have hlm := h.lenS_le
  clear h
  go_enter Tryz.func202, Tryz.ntmps202
  go_wp2_with fail
  refine HL.out.mono ?_
  rintro e w' ⟨rfl, rfl⟩
  go_wp2_with fail
  refine HU.out.mono ?_
  rintro e w1 ⟨x, rfl, h0, h1, h2, h3, h4⟩
  have HK := Lib.hid (bl_key h3)
  have H2 := Lib.hid (And.intro h2 h4)
  clear h2 h3 h4
  by_cases hx : 0 ≤ x
  · clear HL HU
    generalize lenS s = q at *
    go_wp2
    go_ret
    have k := HK.out.1 (by first | exact hx | simp)
    exact ⟨x, rfl, h0, h1, by rw [k.1]; exact H2.out.1, k.2, H2.out.2⟩
  · have HL2 := Lib.hid (rleft_any g t tl _ w1 H2.out.1)
    have hlm2 := H2.out.1.lenS_le
    have hw : wrap64 ((lenS s : Int) - lenS (nx (pS 33) s)) = (lenS s : Int) - lenS (nx (pS 33) s) := by unfold wrap64; omega
    have HX := Lib.hid hx
    have hx' : x < 0 := by omega
    clear hx
    by_cases hd : 1 < (lenS s : Int) - lenS (nx (pS 33) s)
    · have HF := Lib.hid (rfail_any g t tl _ 2 w1 H2.out.1 (by omega) (by omega))
      have HD := Lib.hid hd
      generalize lenS s = q at *
      generalize lenS (nx (pS 33) s) = q2 at *
      go_wp2_with (go_at_call 61; refine HL2.out.mono ?_; rintro e w' ⟨rfl, rfl⟩)
      refine HF.out.mono ?_
      rintro e w2 ⟨⟨u, rfl⟩, h2, hc⟩
      have HC := Lib.hid (And.intro h2 hc)
      clear h2 hc
      go_wp2
      go_ret
      have k := HK.out.2.1 HX.out HD.out
      exact ⟨x, rfl, h0, h1, by rw [k.1]; exact HC.out.1, k.2, H2.out.2.trans HC.out.2 fun k _ e => e⟩
    · have HD := Lib.hid hd
      by_cases h64 : x = -64
      · subst h64
        generalize lenS s = q at *
        generalize lenS (nx (pS 33) s) = q2 at *
        go_wp2_with (go_at_call 61; refine HL2.out.mono ?_; rintro e w' ⟨rfl, rfl⟩)
        go_ret
        have k := HK.out.2.2.1 HX.out HD.out (by simp)
        exact ⟨-64, rfl, h0, h1, by rw [k.1]; exact H2.out.1, k.2, H2.out.2⟩
      · have hne : (x != -64) = true := by simpa using h64
        have H6 := Lib.hid h64
        have hbt := and127c x
        have HO := Lib.hid (chold_any g t tl _ (x % 128) w1 H2.out.1 (by omega) (by omega))
        clear h64
        generalize lenS s = q at *
        generalize lenS (nx (pS 33) s) = q2 at *
        go_wp2_with (go_at_call 61; refine HL2.out.mono ?_; rintro e w' ⟨rfl, rfl⟩)
        refine HO.out.mono ?_
        rintro e w2 ⟨⟨u, rfl⟩, h2, hc⟩
        have HC := Lib.hid (And.intro h2 hc)
        clear h2 hc
        go_wp2
        go_ret
        have k := HK.out.2.2.2 HX.out HD.out H6.out
        exact ⟨x, rfl, h0, h1, by rw [k.1]; exact HC.out.1, k.2, H2.out.2.trans HC.out.2 fun k _ e => e⟩
end Go.Proofs.YtadgiekiiicmfaaGreatDoor

/- code's source: labels, types, numbers of instructions. -/
namespace Go.Proofs.YtadgiekiiicmfaaGreatDoor
open Go.RowKit
set_option maxRecDepth 100000
set_option linter.unusedVariables false

/-- Numbers of 32 bits that were read, into new memory. -/
def QPost (p : PR (List Int)) (g : Nat) (t : TypeId) (tl : RTl) (s : St) (w : World) (e : Ending) (w' : World) : Prop :=
  ∃ v y, e = .returned v ∧ OwnQ w' w.heap.size v y ∧ IsU32 y ∧ RdrAt w' g t tl (nx p s) ∧ (∀ a l', bd s p = .ok (a, l') → y = a) ∧ Chg (fun k => k = g) w w' ∧ y.length ≤ 1000
set_option maxHeartbeats 1000000 in
theorem clabels_any (g : Nat) (t : TypeId) (tl : RTl) (s : St) (w : World) (h : RdrAt w g t tl s) :
    Calls Tryz.prog 203 #[.pointer (some ⟨g, 0, none⟩)] w (QPost pLabels g t tl s w) := by
  have HH := Lib.hid h
  have hgw := h.lt
  clear h
  go_enter Tryz.func203, Tryz.ntmps203
  go_wp2_with fail
  refine (rcount_any g t tl s 600 w HH.out (by omega) (by omega)).mono ?_
  rintro e w1 ⟨x, rfl, h0, h1, h2, h3, h4⟩
  obtain ⟨n, rfl⟩ : ∃ n : Nat, x = n := ⟨x.toNat, by omega⟩
  have hs1 := h4.size
  have H2 := Lib.hid (And.intro h2 (And.intro h3 h4))
  clear h2 h3 h4
  go_wp2
  go_loopw [2, 7] (fun v i wr => ∃ (y : List Int) (k : Nat) (sk : St), k ≤ n ∧ i = .int .i64 k ∧ y.length = k ∧ w.heap.size ≤ wr.heap.size ∧ Hid (RdrAt wr g t tl sk ∧ OwnQ wr w.heap.size v y ∧ IsU32 y ∧ bd (nx (pCount 600) s) (pLb n []) = bd sk (pLb (n - k) y) ∧ Chg (fun k => k = g) w wr)) (fun _ i _ => n - (intOf i).toNat)
  case atStart => exact ⟨[], 0, _, by omega, rfl, rfl, hs1, H2.out.1, OwnQ.nil _ _, IsU32.nil, by simp, H2.out.2.2⟩
  case round =>
    obtain ⟨y, k, sk, hk, rfl, hyk, hsz, HX⟩ := hrel
    have HYK := Lib.hid hyk
    clear hyk
    by_cases hlt : k < n
    · have hlt2 : (k : Int) < n := by omega
      go_wp2_with fail
      refine (rU32_any g t tl sk wr HX.out.1).mono ?_
      rintro e w2 ⟨z, rfl, z0, z1, h2, h3, h4⟩
      have hs2 := h4.size
      have H3 : Hid (RdrAt w2 g t tl (nx (pU 32) sk) ∧ OwnQ w2 w.heap.size u2 y ∧ IsU32 (y ++ [z]) ∧ bd (nx (pCount 600) s) (pLb n []) = bd (nx (pU 32) sk) (pLb (n - (k + 1)) (y ++ [z])) ∧ Chg (fun k => k = g) w w2) := by
        obtain ⟨q1, q2, q3, q4, q5⟩ := HX.out
        refine ⟨h2, q2.chg h4 fun i hi e => ?_, q3.app (IsU32.one z0 (by omega)), ?_, q5.trans h4 fun k _ e => e⟩
        · have := owns_ge q2 hi; omega
        · rw [q4, show n - k = n - (k + 1) + 1 from by omega]
          exact (nx_seq (pU 32) (fun x => pLb (n - (k + 1)) (y ++ [x])) sk z h3).2
      clear h2 h3 h4
      go_wp2_with (at_builtin; refine wpList_appQ1 rfl (.tmp 9) (.tmp 14) rfl w.heap.size u2 y rfl H3.out.2.1 z rfl z0 (by omega) (by have := HYK.out; omega) (by omega) ?_; intro v1 w3 hv1 hw1; have HV := Lib.hid (And.intro hv1 hw1); clear hv1 hw1)
      go_wp2
      have hs3 := HV.out.2.size
      refine ⟨⟨y ++ [z], k + 1, _, by omega, by go_num, by have := HYK.out; simp; omega, by omega, H3.out.1.below HV.out.2 hgw (by omega), HV.out.1, H3.out.2.2.1, H3.out.2.2.2.1, ?_⟩, ?_⟩
      · exact H3.out.2.2.2.2.trans ⟨HV.out.2.os, HV.out.2.tape, HV.out.2.output, HV.out.2.size, fun i hi hn => HV.out.2.block i (by exact Nat.lt_of_not_le hn)⟩ fun i hi e => by omega
      · simp [intOf]; omega
    · obtain rfl : k = n := by omega
      go_wp2
      go_ret
      obtain ⟨q1, q2, q3, q4, q5⟩ := HX.out
      have e0 : pLb (k - k) y = fun l => .ok (y, l) := by rw [Nat.sub_self]; rfl
      rw [e0] at q4
      obtain ⟨k1, k2⟩ := nx_seq (pCount 600) (fun n => pLb n.toNat []) s (k : Int) H2.out.2.1
      rw [Int.toNat_natCast] at k1 k2
      refine ⟨_, y, rfl, q2, q3, ?_, (fun a l' h => ?_), q5, by have := HYK.out; omega⟩
      · unfold pLabels; rw [k1, nx, q4]; cases sk <;> exact q1
      · unfold pLabels at h
        rw [k2, q4] at h
        cases sk with
        | error e => cases h
        | ok l => injection h with h; injection h

theorem cref_any (F : Nat) (hF : F = 162 ∨ F = 140) (x : Int) (w : World) :
    Calls Tryz.prog F #[.int .u8 x] w fun e w' => e = .returned (.bool (decide (x = 112 ∨ x = 111))) ∧ w = w' := by
  have key : x = 112 ∨ x = 111 ∨ ((x == 112) = false ∧ (x == 111) = false ∧ decide (x = 112 ∨ x = 111) = false) := by
    by_cases a1 : x = 112
    · exact .inl a1
    by_cases a2 : x = 111
    · exact .inr (.inl a2)
    exact .inr (.inr ⟨by simpa using a1, by simpa using a2, by simp [a1, a2]⟩)
  rcases hF with rfl | rfl
  · rcases key with rfl | rfl | ⟨e1, e2, hv⟩
    all_goals (go_enter Tryz.func162, Tryz.ntmps162; go_wp2; go_ret)
    · exact ⟨rfl, rfl⟩
    · exact ⟨rfl, rfl⟩
    · rw [hv]; exact ⟨rfl, rfl⟩
  · rcases key with rfl | rfl | ⟨e1, e2, hv⟩
    all_goals (go_enter Tryz.func140, Tryz.ntmps140; go_wp2; go_ret)
    · exact ⟨rfl, rfl⟩
    · exact ⟨rfl, rfl⟩
    · rw [hv]; exact ⟨rfl, rfl⟩

theorem ty28_key {s : St} {n x : Int} {s1 s2 : St} (h1 : ∀ a l', bd s (pU 32) = .ok (a, l') → n = a) (e1 : s1 = if n = 1 then nx (pU 32) s else failS 2 (nx (pU 32) s)) (h2 : ∀ a l', bd s1 pByte = .ok (a, l') → x = a) (e2 : s2 = holdS x (nx pByte s1)) :
    nx (pTy 28) s = s2 ∧ ∀ a l', bd s (pTy 28) = .ok (a, l') → x = a := by
  subst e1 e2
  unfold pTy
  rw [if_pos rfl]
  cases s with
  | error e => simp [holdS, failS]
  | ok l =>
    simp only [nx_ok, bd_ok, seq] at h1 h2 ⊢
    cases hp : pU 32 l with
    | error e => simp [holdS, failS]
    | ok r =>
      have := h1 r.1 r.2 (by rw [hp])
      subst this
      rw [hp] at h2
      simp only [bd_ok] at h2 ⊢
      by_cases hn : r.1 = 1
      · simp only [hn, if_true, bd_ok, nx_ok] at h2 ⊢
        unfold pVal
        simp only [seq]
        cases hb : pByte r.2 with
        | error e => simp [holdS, failS]
        | ok q =>
          have := h2 q.1 q.2 (by rw [hb])
          subst this
          by_cases hv : valE q.1 = 0
          · simp only [bd_ok, hv, holdS, if_true]; exact ⟨trivial, fun a l' h => by injection h with h; injection h⟩
          · simp [holdS, hv, failS]
      · simp [hn, failS, holdS]
theorem ty_key {s : St} {op x : Int} {s2 : St} (ho : op ≠ 28) (h1 : ∀ a l', bd s pByte = .ok (a, l') → x = a) (e2 : s2 = if x = 112 ∨ x = 111 then holdS x (nx pByte s) else failS 2 (holdS x (nx pByte s))) :
    nx (pTy op) s = s2 ∧ ∀ a l', bd s (pTy op) = .ok (a, l') → x = a := by
  subst e2
  unfold pTy
  rw [if_neg ho]
  cases s with
  | error e => simp [holdS, failS]
  | ok l =>
    simp only [nx_ok, bd_ok, seq, pVal] at h1 ⊢
    cases hp : pByte l with
    | error e => simp [holdS, failS]
    | ok r =>
      have := h1 r.1 r.2 (by rw [hp])
      subst this
      simp only [bd_ok]
      by_cases hv : valE r.1 = 0
      · simp only [bd_ok, hv, if_true, holdS]
        by_cases hr : r.1 = 112 ∨ r.1 = 111
        · simp only [if_pos hr, bd_ok]; exact ⟨trivial, fun a l' h => by injection h with h; injection h⟩
        · simp [if_neg hr, failS]
      · simp [holdS, hv, failS]
set_option maxHeartbeats 1000000 in
theorem ctype_any (g : Nat) (t : TypeId) (tl : RTl) (s : St) (op : Int) (w : World) (h : RdrAt w g t tl s) :
    Calls Tryz.prog 204 #[.pointer (some ⟨g, 0, none⟩), .int .i64 op] w (RPost .u32 4294967295 (pTy op) g t tl s w) := by
  by_cases ho : op = 28
  · subst ho
    have HU := Lib.hid (rU32_any g t tl s w h)
    clear h
    go_enter Tryz.func204, Tryz.ntmps204
    go_wp2_with fail
    refine HU.out.mono ?_
    rintro e w1 ⟨n, rfl, h0, h1, h2, h3, h4⟩
    have H2 := Lib.hid (And.intro h2 (And.intro h3 h4))
    clear h2 h3 h4 HU
    by_cases hn : n = 1
    · subst hn
      have HB := Lib.hid (rbyte_any g t tl _ w1 H2.out.1)
      go_wp2_with fail
      refine HB.out.mono ?_
      rintro e w2 ⟨x, rfl, x0, x1, h2, h3, h4⟩
      have H3 := Lib.hid (And.intro h2 (And.intro h3 h4))
      have HO := Lib.hid (chold_any g t tl _ x w2 h2 x0 x1)
      clear h2 h3 h4 HB
      go_wp2_with fail
      refine HO.out.mono ?_
      rintro e w3 ⟨⟨u, rfl⟩, h2, hc⟩
      have HC := Lib.hid (And.intro h2 hc)
      clear h2 hc
      go_wp2
      go_ret
      have k := ty28_key (s2 := holdS x (nx pByte (nx (pU 32) s))) H2.out.2.1 (s1 := nx (pU 32) s) (by simp) H3.out.2.1 rfl
      exact ⟨x, rfl, x0, by omega, by rw [k.1]; exact HC.out.1, k.2, (H2.out.2.2.trans H3.out.2.2 fun k _ e => e).trans HC.out.2 fun k _ e => e⟩
    · have hne : (n != 1) = true := by simpa using hn
      have HN := Lib.hid hn
      have HF := Lib.hid (rfail_any g t tl _ 2 w1 H2.out.1 (by omega) (by omega))
      clear hn
      go_wp2_with fail
      refine HF.out.mono ?_
      rintro e w4 ⟨⟨u, rfl⟩, h2, hc⟩
      have HC4 := Lib.hid (And.intro h2 hc)
      clear h2 hc
      have HB := Lib.hid (rbyte_any g t tl _ w4 HC4.out.1)
      go_wp2_with fail
      refine HB.out.mono ?_
      rintro e w2 ⟨x, rfl, x0, x1, h2, h3, h4⟩
      have H3 := Lib.hid (And.intro h2 (And.intro h3 h4))
      have HO := Lib.hid (chold_any g t tl _ x w2 h2 x0 x1)
      clear h2 h3 h4 HB
      go_wp2_with fail
      refine HO.out.mono ?_
      rintro e w3 ⟨⟨u, rfl⟩, h2, hc⟩
      have HC := Lib.hid (And.intro h2 hc)
      clear h2 hc
      go_wp2
      go_ret
      have k := ty28_key (s2 := holdS x (nx pByte (failS 2 (nx (pU 32) s)))) H2.out.2.1 (s1 := failS 2 (nx (pU 32) s)) (by rw [if_neg HN.out]) H3.out.2.1 rfl
      exact ⟨x, rfl, x0, by omega, by rw [k.1]; exact HC.out.1, k.2, ((H2.out.2.2.trans HC4.out.2 fun k _ e => e).trans H3.out.2.2 fun k _ e => e).trans HC.out.2 fun k _ e => e⟩
  · have hne : (op == 28) = false := by simpa using ho
    have hne2 : (op != 28) = true := by simpa using ho
    have HB := Lib.hid (rbyte_any g t tl s w h)
    have HN := Lib.hid ho
    clear h ho
    go_enter Tryz.func204, Tryz.ntmps204
    go_wp2_with fail
    refine HB.out.mono ?_
    rintro e w2 ⟨x, rfl, x0, x1, h2, h3, h4⟩
    have H3 := Lib.hid (And.intro h2 (And.intro h3 h4))
    have HO := Lib.hid (chold_any g t tl _ x w2 h2 x0 x1)
    clear h2 h3 h4 HB
    go_wp2_with fail
    refine HO.out.mono ?_
    rintro e w3 ⟨⟨u, rfl⟩, h2, hc⟩
    have HC := Lib.hid (And.intro h2 hc)
    clear h2 hc
    have HR := Lib.hid (cref_any 162 (by simp) x w3)
    by_cases hr : x = 112 ∨ x = 111
    · have hrd : decide (x = 112 ∨ x = 111) = true := by simpa using hr
      have HRR := Lib.hid hr
      clear hr
      go_wp2_with (go_at_call 162; refine HR.out.mono ?_; rw [hrd]; rintro e w' ⟨rfl, rfl⟩)
      go_ret
      have k := ty_key (s2 := holdS x (nx pByte s)) HN.out H3.out.2.1 (by rw [if_pos HRR.out])
      exact ⟨x, rfl, x0, by omega, by rw [k.1]; exact HC.out.1, k.2, H3.out.2.2.trans HC.out.2 fun k _ e => e⟩
    · have hrd : decide (x = 112 ∨ x = 111) = false := by simpa using hr
      have HRR := Lib.hid hr
      clear hr
      have HF := Lib.hid (rfail_any g t tl _ 2 w3 HC.out.1 (by omega) (by omega))
      go_wp2_with (go_at_call 162; refine HR.out.mono ?_; rw [hrd]; rintro e w' ⟨rfl, rfl⟩)
      refine HF.out.mono ?_
      rintro e w4 ⟨⟨u, rfl⟩, h2, hc⟩
      have HC4 := Lib.hid (And.intro h2 hc)
      clear h2 hc
      go_wp2
      go_ret
      have k := ty_key (s2 := failS 2 (holdS x (nx pByte s))) HN.out H3.out.2.1 (by rw [if_neg HRR.out])
      exact ⟨x, rfl, x0, by omega, by rw [k.1]; exact HC4.out.1, k.2, (H3.out.2.2.trans HC.out.2 fun k _ e => e).trans HC4.out.2 fun k _ e => e⟩

theorem op_one {s : St} {b : Int} (hb : b ≠ 252) (h1 : ∀ a l', bd s pByte = .ok (a, l') → b = a) : nx pOp s = nx pByte s ∧ ∀ a l', bd s pOp = .ok (a, l') → b = a := by
  cases s with
  | error e => exact ⟨rfl, fun a l' h => by cases h⟩
  | ok l =>
    simp only [nx_ok, bd_ok, seq, pOp] at h1 ⊢
    cases hp : pByte l with
    | error e => simp
    | ok r =>
      have := h1 r.1 r.2 (by rw [hp])
      subst this
      simp only [bd_ok, if_neg hb]; exact ⟨trivial, fun a l' h => by injection h with h; injection h⟩
theorem op_two {s : St} {n : Int} (h0 : ∀ a l', bd s pByte = .ok (a, l') → 252 = a) (h1 : ∀ a l', bd (nx pByte s) (pU 32) = .ok (a, l') → n = a) :
    (¬ 255 < n → nx pOp s = nx (pU 32) (nx pByte s) ∧ ∀ a l', bd s pOp = .ok (a, l') → 64512 + n = a) ∧ (255 < n → nx pOp s = failS 2 (nx (pU 32) (nx pByte s)) ∧ ∀ a l', bd s pOp ≠ .ok (a, l')) := by
  cases s with
  | error e => exact ⟨fun _ => ⟨rfl, fun a l' h => by cases h⟩, fun _ => ⟨rfl, fun a l' h => by cases h⟩⟩
  | ok l =>
    simp only [nx_ok, bd_ok, seq, pOp] at h0 h1 ⊢
    cases hp : pByte l with
    | error e => simp [failS]
    | ok r =>
      have := h0 r.1 r.2 (by rw [hp])
      rw [hp] at h1
      simp only [bd_ok, if_pos this.symm, nx_ok] at h1 ⊢
      simp only [seq]
      cases hq : pU 32 r.2 with
      | error e => simp [failS]
      | ok q =>
        have := h1 q.1 q.2 (by rw [hq])
        subst this
        refine ⟨fun hx => ?_, fun hx => ?_⟩
        · simp only [bd_ok]; rw [if_neg hx]; exact ⟨rfl, fun a l' h => by injection h with h; injection h⟩
        · simp [hx, failS]
set_option maxHeartbeats 1000000 in
theorem cop_any (g : Nat) (t : TypeId) (tl : RTl) (s : St) (w : World) (h : RdrAt w g t tl s) :
    Calls Tryz.prog 186 #[.pointer (some ⟨g, 0, none⟩)] w (RPost .i64 64767 pOp g t tl s w) := by
  have HB := Lib.hid (rbyte_any g t tl s w h)
  clear h
  go_enter Tryz.func186, Tryz.ntmps186
  go_wp2_with fail
  refine HB.out.mono ?_
  rintro e w1 ⟨b, rfl, b0, b1, h2, h3, h4⟩
  have H2 := Lib.hid (And.intro h2 (And.intro h3 h4))
  clear h2 h3 h4 HB
  by_cases hb : b = 252
  · subst hb
    have HU := Lib.hid (rU32_any g t tl _ w1 H2.out.1)
    go_wp2_with fail
    refine HU.out.mono ?_
    rintro e w2 ⟨n, rfl, n0, n1, h2, h3, h4⟩
    have H3 := Lib.hid (And.intro h2 (And.intro h3 h4))
    have HK := Lib.hid (op_two H2.out.2.1 h3)
    clear h2 h3 h4 HU
    by_cases hn : 255 < n
    · have HF := Lib.hid (rfail_any g t tl _ 2 w2 H3.out.1 (by omega) (by omega))
      go_wp2_with fail
      refine HF.out.mono ?_
      rintro e w4 ⟨⟨u, rfl⟩, h2, hc⟩
      have HC4 := Lib.hid (And.intro h2 hc)
      clear h2 hc
      go_wp2
      go_ret
      have k := HK.out.2 hn
      exact ⟨0, rfl, by omega, by omega, by rw [k.1]; exact HC4.out.1, fun a l' h => (k.2 a l' h).elim, (H2.out.2.2.trans H3.out.2.2 fun k _ e => e).trans HC4.out.2 fun k _ e => e⟩
    · go_wp2
      go_ret
      have k := HK.out.1 hn
      exact ⟨64512 + n, rfl, by omega, by omega, by rw [k.1]; exact H3.out.1, k.2, H2.out.2.2.trans H3.out.2.2 fun k _ e => e⟩
  · have hne : (b != 252) = true := by simpa using hb
    have HN := Lib.hid hb
    clear hb
    go_wp2
    go_ret
    have k := op_one HN.out H2.out.2.1
    exact ⟨b, rfl, by omega, by omega, by rw [k.1]; exact H2.out.1, k.2, H2.out.2.2⟩
end Go.Proofs.YtadgiekiiicmfaaGreatDoor

/- code's source: what stands behind an instruction. -/
namespace Go.Proofs.YtadgiekiiicmfaaGreatDoor
open Go.RowKit
set_option maxRecDepth 100000
set_option linter.unusedVariables false

/-- An instruction's cells. -/
def insC (x : Ins) (A : Option Addr) (c : Nat) : List Value := [.int .i64 x.op, .int .u32 x.a, .int .u32 x.b, .int .u64 x.n, .slice A x.l.length c, .int .i64 x.t]
/-- An instruction whose numbers fit. -/
structure InsOk (x : Ins) : Prop where
  a0 : 0 ≤ x.a
  a1 : x.a < 4294967296
  b0 : 0 ≤ x.b
  b1 : x.b < 4294967296
  n0 : 0 ≤ x.n
  n1 : x.n < 18446744073709551616
  t0 : -9223372036854775808 ≤ x.t
  t1 : x.t ≤ 9223372036854775807
  l : IsU32 x.l
  m : x.l.length ≤ 1000
/-- The labels of an instruction, read in blocks of X. -/
def LabX (X : Nat → Prop) (w : World) (x : Ins) (A : Option Addr) (c : Nat) : Prop := RdV X w A (x.l.map (Value.int .u32)) ∧ x.l.length ≤ c ∧ c ≤ maxLen
theorem LabX.nil (X : Nat → Prop) (w : World) {x : Ins} (h : x.l = []) : LabX X w x none 0 := ⟨by rw [h]; exact RdV.nil _ _ _, by rw [h]; exact Nat.le_refl _, Nat.zero_le _⟩
theorem LabX.chg {X S : Nat → Prop} {w w' : World} {x : Ins} {A : Option Addr} {c : Nat} (h : LabX X w x A c) (hc : Chg S w w') (hs : ∀ k, k < w.heap.size → X k → ¬ S k) : LabX X w' x A c := ⟨h.1.chg hc hs, h.2⟩
theorem LabX.later {X : Nat → Prop} {w w' : World} {x : Ins} {A : Option Addr} {c : Nat} (h : LabX X w x A c) (hb : Below w.heap.size w w') : LabX X w' x A c := ⟨h.1.later hb, h.2⟩
theorem LabX.mono {X Y : Nat → Prop} {w : World} {x : Ins} {A : Option Addr} {c : Nat} (h : LabX X w x A c) (hx : ∀ k, k < w.heap.size → X k → Y k) : LabX Y w x A c := ⟨h.1.mono hx, h.2⟩

/-- A reader in g, an instruction's cells in gx. -/
def BhAt (w : World) (g : Nat) (t : TypeId) (tl : RTl) (s : St) (gx : Nat) (Q : List Value) : Prop := RdrAt w g t tl s ∧ Own w gx 76 Q ∧ g < gx
theorem BhAt.step {w w' : World} {g gx : Nat} {t : TypeId} {tl : RTl} {s s' : St} {Q : List Value} (h : BhAt w g t tl s gx Q) (h1 : RdrAt w' g t tl s') (hc : Chg (fun k => k = g) w w') : BhAt w' g t tl s' gx Q :=
  ⟨h1, h.2.1.chg hc (by have := h.2.2; omega), h.2.2⟩
theorem BhAt.set {w : World} {g gx : Nat} {t : TypeId} {tl : RTl} {s : St} {Q : List Value} (h : BhAt w g t tl s gx Q) (j : Nat) (u : Value) : BhAt (w.setCell ⟨gx, j, none⟩ u) g t tl s gx (Q.set j u) :=
  ⟨h.1.chg (chgSet w gx j u) (fun k hk e => by have := h.2.2; omega), h.2.1.set j u, h.2.2⟩
theorem own_cells6 {w : World} {g : Nat} {t : TypeId} {a b c d e f : Value} {tl : List Value} (h : Own w g t (a :: b :: c :: d :: e :: f :: tl)) : w.cell? ⟨g, 0, none⟩ = some a ∧ w.cell? ⟨g, 1, none⟩ = some b ∧ w.cell? ⟨g, 2, none⟩ = some c ∧ w.cell? ⟨g, 3, none⟩ = some d ∧ w.cell? ⟨g, 4, none⟩ = some e ∧ w.cell? ⟨g, 5, none⟩ = some f ∧ w.frozen? ⟨g, 0, none⟩ = false ∧ w.frozen? ⟨g, 1, none⟩ = false ∧ w.frozen? ⟨g, 2, none⟩ = false ∧ w.frozen? ⟨g, 3, none⟩ = false ∧ w.frozen? ⟨g, 4, none⟩ = false ∧ w.frozen? ⟨g, 5, none⟩ = false :=
  ⟨h.cell 0, h.cell 1, h.cell 2, h.cell 3, h.cell 4, h.cell 5, h.frozen 0, h.frozen 1, h.frozen 2, h.frozen 3, h.frozen 4, h.frozen 5⟩

def BhPost (p : PR Ins) (op : Int) (g : Nat) (t : TypeId) (tl : RTl) (s : St) (gx : Nat) (w : World) (e : Ending) (w' : World) : Prop :=
  ∃ u x A c, e = .returned u ∧ BhAt w' g t tl (nx p s) gx (insC x A c) ∧ LabX (fun k => w.heap.size ≤ k) w' x A c ∧ InsOk x ∧ x.op = op ∧ (∀ a l', bd s p = .ok (a, l') → x = a) ∧ Chg (fun k => k = g ∨ k = gx) w w'
theorem chgG {w w' : World} {g gx : Nat} (h : Chg (fun k => k = g) w w') : Chg (fun k => k = g ∨ k = gx) w w' := h.mono fun k _ e => .inl e
theorem chgX {w : World} {g gx : Nat} (j : Nat) (u : Value) : Chg (fun k => k = g ∨ k = gx) w (w.setCell ⟨gx, j, none⟩ u) := (chgSet w gx j u).mono fun k _ e => .inr e
theorem chgT {a b c : World} {g gx : Nat} (h : Chg (fun k => k = g ∨ k = gx) a b) (k : Chg (fun k => k = g ∨ k = gx) b c) : Chg (fun k => k = g ∨ k = gx) a c := h.trans k fun _ _ e => e

/-- One is read, and laid. -/
theorem bh_one {α : Type} {p : PR α} {f : α → Ins} {s : St} {a : α} (h : ∀ b l', bd s p = .ok (b, l') → a = b) : nx (seq p fun a l => .ok (f a, l)) s = nx p s ∧ ∀ x l', bd s (seq p fun a l => .ok (f a, l)) = .ok (x, l') → f a = x := by
  obtain ⟨k1, k2⟩ := nx_seq p (fun a l => .ok (f a, l)) s a h
  rw [k1, k2]
  cases nx p s with
  | error e => exact ⟨rfl, fun x l' h => by cases h⟩
  | ok l => exact ⟨rfl, fun x l' h => by simp only [bd_ok] at h; injection h with h; injection h⟩
theorem bh_two {α β : Type} {p : PR α} {q : PR β} {f : α → β → Ins} {s : St} {a : α} {b : β} (h : ∀ b l', bd s p = .ok (b, l') → a = b) (h2 : ∀ c l', bd (nx p s) q = .ok (c, l') → b = c) :
    nx (seq p fun a => seq q fun b l => .ok (f a b, l)) s = nx q (nx p s) ∧ ∀ x l', bd s (seq p fun a => seq q fun b l => .ok (f a b, l)) = .ok (x, l') → f a b = x := by
  obtain ⟨k1, k2⟩ := nx_seq p (fun a => seq q fun b l => .ok (f a b, l)) s a h
  rw [k1, k2]
  exact bh_one h2

theorem pBh1 (op : Int) : pBh 1 op = seq (pNm op 0) fun a l => .ok (⟨op, a, 0, 0, [], 0⟩, l) := by unfold pBh; simp
theorem pBh2 (op : Int) : pBh 2 op = seq (pNm op 0) fun a => seq (pNm op 1) fun b l => .ok (⟨op, a, b, 0, [], 0⟩, l) := by unfold pBh; simp
theorem pBh3 (op : Int) : pBh 3 op = seq (pS 32) fun x l => .ok (⟨op, 0, 0, x % 4294967296, [], 0⟩, l) := by unfold pBh; simp
theorem pBh4 (op : Int) : pBh 4 op = seq (pS 64) fun x l => .ok (⟨op, 0, 0, x % 18446744073709551616, [], 0⟩, l) := by unfold pBh; simp
theorem pBh5 (op : Int) : pBh 5 op = seq pAl fun a => seq (pU 32) fun b l => .ok (⟨op, a, b, 0, [], 0⟩, l) := by unfold pBh; simp
theorem pBh6 (op : Int) : pBh 6 op = seq pBl fun t l => .ok (⟨op, 0, 0, 0, [], t⟩, l) := by unfold pBh; simp
theorem pBh7 (op : Int) : pBh 7 op = seq pLabels fun ls => seq (pU 32) fun a l => .ok (⟨op, a, 0, 0, ls, 0⟩, l) := by unfold pBh; simp
theorem pBh8 (op : Int) : pBh 8 op = seq (pTy op) fun a l => .ok (⟨op, a, 0, 0, [], 0⟩, l) := by unfold pBh; simp
/-- One is read as another, and laid. -/
theorem bh_rel {p : PR Int} {f : Int → Ins} {R : Int → Int → Prop} {s : St} {y : Ins} {x : Int} (h : ∀ b l', bd s p = .ok (b, l') → R x b) (hf : ∀ b, R x b → y = f b) : nx (seq p fun a l => .ok (f a, l)) s = nx p s ∧ ∀ z l', bd s (seq p fun a l => .ok (f a, l)) = .ok (z, l') → y = z := by
  cases s with
  | error e => exact ⟨rfl, fun z l' h => by cases h⟩
  | ok l =>
    simp only [nx_ok, bd_ok, seq] at h ⊢
    cases hp : p l with
    | error e => exact ⟨rfl, fun z l' h => by cases h⟩
    | ok r =>
      refine ⟨rfl, fun z l' h2 => ?_⟩
      simp only [bd_ok] at h2
      injection h2 with h2
      injection h2 with h2 _
      rw [← h2]
      exact hf _ (h r.1 r.2 (by rw [hp]))

theorem z1 : ∀ op, insC ⟨op, 0, 0, 0, [], 0⟩ none 0 = [.int .i64 op, .int .u32 0, .int .u32 0, .int .u64 0, .slice none 0 0, .int .i64 0] := fun _ => rfl
section
variable (op : Int) (g : Nat) (t : TypeId) (tl : RTl) (s : St) (gx : Nat) (w : World) (h : BhAt w g t tl s gx (insC ⟨op, 0, 0, 0, [], 0⟩ none 0))
include h
set_option maxHeartbeats 1000000
theorem cbh0 : Calls Tryz.prog 188 #[.pointer (some ⟨g, 0, none⟩), .int .i64 0, .pointer (some ⟨gx, 0, none⟩)] w (BhPost (pBh 0 op) op g t tl s gx w) := by
  have HH := Lib.hid h
  clear h
  go_enter Tryz.func188, Tryz.ntmps188
  go_wp2
  go_end0
  have e : pBh 0 op = fun l => .ok (⟨op, 0, 0, 0, [], 0⟩, l) := rfl
  have e2 : nx (pBh 0 op) s = s := by rw [e]; cases s <;> rfl
  refine ⟨_, _, _, _, rfl, by rw [e2]; exact HH.out, LabX.nil _ _ rfl, ⟨by simp, by simp, by simp, by simp, by simp, by simp, by simp, by simp, IsU32.nil, by simp⟩, rfl, fun a l' h => ?_, Chg.refl _ _⟩
  rw [e] at h
  cases s with
  | error e => cases h
  | ok l => simp only [bd_ok] at h; injection h with h; injection h
theorem cbh1 : Calls Tryz.prog 188 #[.pointer (some ⟨g, 0, none⟩), .int .i64 1, .pointer (some ⟨gx, 0, none⟩)] w (BhPost (pBh 1 op) op g t tl s gx w) := by
  rw [pBh1]
  have HH := Lib.hid h
  have HN := Lib.hid (cname_any g t tl s op 0 w h.1)
  obtain ⟨c0, c1, c2, c3, c4, c5, f0, f1, f2, f3, f4, f5⟩ := own_cells6 h.2.1
  clear h
  go_enter Tryz.func188, Tryz.ntmps188
  go_wp2_with fail
  refine HN.out.mono ?_
  rintro e w1 ⟨x, rfl, x0, x1, h2, h3, h4⟩
  have H2 := Lib.hid (And.intro (HH.out.step h2 h4) (And.intro h3 h4))
  clear c0 c1 c2 c3 c4 c5 f0 f1 f2 f3 f4 f5 HN h3 h4 h2
  obtain ⟨c0, c1, c2, c3, c4, c5, f0, f1, f2, f3, f4, f5⟩ := own_cells6 H2.out.1.2.1
  go_wp2
  go_end0
  have k := bh_one (f := fun a => ⟨op, a, 0, 0, [], 0⟩) H2.out.2.1
  exact ⟨_, ⟨op, x, 0, 0, [], 0⟩, none, 0, rfl, by rw [k.1]; exact H2.out.1.set 1 _, LabX.nil _ _ rfl, ⟨by simp; omega, by simp; omega, by simp, by simp, by simp, by simp, by simp, by simp, IsU32.nil, by simp⟩, rfl, k.2, chgT (chgG H2.out.2.2) (chgX 1 _)⟩
theorem cbh2 : Calls Tryz.prog 188 #[.pointer (some ⟨g, 0, none⟩), .int .i64 2, .pointer (some ⟨gx, 0, none⟩)] w (BhPost (pBh 2 op) op g t tl s gx w) := by
  rw [pBh2]
  have HH := Lib.hid h
  have HN := Lib.hid (cname_any g t tl s op 0 w h.1)
  obtain ⟨c0, c1, c2, c3, c4, c5, f0, f1, f2, f3, f4, f5⟩ := own_cells6 h.2.1
  clear h
  go_enter Tryz.func188, Tryz.ntmps188
  go_wp2_with fail
  refine HN.out.mono ?_
  rintro e w1 ⟨x, rfl, x0, x1, h2, h3, h4⟩
  have H2 := Lib.hid (And.intro (HH.out.step h2 h4) (And.intro h3 h4))
  clear c0 c1 c2 c3 c4 c5 f0 f1 f2 f3 f4 f5 HN h3 h4 h2
  obtain ⟨c0, c1, c2, c3, c4, c5, f0, f1, f2, f3, f4, f5⟩ := own_cells6 H2.out.1.2.1
  have H3 := Lib.hid (H2.out.1.set 1 (.int .u32 x))
  have HN := Lib.hid (cname_any g t tl _ op 1 _ H3.out.1)
  go_wp2_with fail
  refine HN.out.mono ?_
  rintro e w2 ⟨y, rfl, y0, y1, h2, h3, h4⟩
  have H4 := Lib.hid (And.intro (H3.out.step h2 h4) (And.intro h3 h4))
  clear c0 c1 c2 c3 c4 c5 f0 f1 f2 f3 f4 f5 HN h3 h4 h2
  obtain ⟨c0, c1, c2, c3, c4, c5, f0, f1, f2, f3, f4, f5⟩ := own_cells6 H4.out.1.2.1
  go_wp2
  go_end0
  have k := bh_two (f := fun a b => ⟨op, a, b, 0, [], 0⟩) H2.out.2.1 H4.out.2.1
  exact ⟨_, ⟨op, x, y, 0, [], 0⟩, none, 0, rfl, by rw [k.1]; exact H4.out.1.set 2 _, LabX.nil _ _ rfl, ⟨by simp; omega, by simp; omega, by simp; omega, by simp; omega, by simp, by simp, by simp, by simp, IsU32.nil, by simp⟩, rfl, k.2, chgT (chgT (chgT (chgG H2.out.2.2) (chgX 1 _)) (chgG H4.out.2.2)) (chgX 2 _)⟩
theorem cbh3 : Calls Tryz.prog 188 #[.pointer (some ⟨g, 0, none⟩), .int .i64 3, .pointer (some ⟨gx, 0, none⟩)] w (BhPost (pBh 3 op) op g t tl s gx w) := by
  rw [pBh3]
  have HH := Lib.hid h
  have HN := Lib.hid (rS32_any g t tl s w h.1)
  obtain ⟨c0, c1, c2, c3, c4, c5, f0, f1, f2, f3, f4, f5⟩ := own_cells6 h.2.1
  clear h
  go_enter Tryz.func188, Tryz.ntmps188
  go_wp2_with fail
  refine HN.out.mono ?_
  rintro e w1 ⟨x, rfl, x0, x1, h2, h3, h4⟩
  have H2 := Lib.hid (And.intro (HH.out.step h2 h4) (And.intro h3 h4))
  clear c0 c1 c2 c3 c4 c5 f0 f1 f2 f3 f4 f5 HN h3 h4 h2
  obtain ⟨c0, c1, c2, c3, c4, c5, f0, f1, f2, f3, f4, f5⟩ := own_cells6 H2.out.1.2.1
  go_wp2
  go_end0
  have k := bh_rel (R := fun x a => x % 4294967296 = a % 4294967296) (x := x) (f := fun a => ⟨op, 0, 0, a % 4294967296, [], 0⟩) (y := ⟨op, 0, 0, x % 4294967296, [], 0⟩) H2.out.2.1 (fun b e => by rw [e])
  exact ⟨_, ⟨op, 0, 0, x % 4294967296, [], 0⟩, none, 0, rfl, by rw [k.1]; exact H2.out.1.set 3 _, LabX.nil _ _ rfl, ⟨by simp, by simp, by simp, by simp, by simp; omega, by simp; omega, by simp, by simp, IsU32.nil, by simp⟩, rfl, k.2, chgT (chgG H2.out.2.2) (chgX 3 _)⟩
theorem cbh4 : Calls Tryz.prog 188 #[.pointer (some ⟨g, 0, none⟩), .int .i64 4, .pointer (some ⟨gx, 0, none⟩)] w (BhPost (pBh 4 op) op g t tl s gx w) := by
  rw [pBh4]
  have HH := Lib.hid h
  have HN := Lib.hid (rS64_any g t tl s w h.1)
  obtain ⟨c0, c1, c2, c3, c4, c5, f0, f1, f2, f3, f4, f5⟩ := own_cells6 h.2.1
  clear h
  go_enter Tryz.func188, Tryz.ntmps188
  go_wp2_with fail
  refine HN.out.mono ?_
  rintro e w1 ⟨x, rfl, x0, x1, h2, h3, h4⟩
  have H2 := Lib.hid (And.intro (HH.out.step h2 h4) (And.intro h3 h4))
  clear c0 c1 c2 c3 c4 c5 f0 f1 f2 f3 f4 f5 HN h3 h4 h2
  obtain ⟨c0, c1, c2, c3, c4, c5, f0, f1, f2, f3, f4, f5⟩ := own_cells6 H2.out.1.2.1
  go_wp2
  go_end0
  have k := bh_rel (f := fun a => ⟨op, 0, 0, a % 18446744073709551616, [], 0⟩) (y := ⟨op, 0, 0, x % 18446744073709551616, [], 0⟩) H2.out.2.1 (fun b e => by rw [e])
  exact ⟨_, ⟨op, 0, 0, x % 18446744073709551616, [], 0⟩, none, 0, rfl, by rw [k.1]; exact H2.out.1.set 3 _, LabX.nil _ _ rfl, ⟨by simp, by simp, by simp, by simp, by simp; omega, by simp; omega, by simp, by simp, IsU32.nil, by simp⟩, rfl, k.2, chgT (chgG H2.out.2.2) (chgX 3 _)⟩
theorem cbh5 : Calls Tryz.prog 188 #[.pointer (some ⟨g, 0, none⟩), .int .i64 5, .pointer (some ⟨gx, 0, none⟩)] w (BhPost (pBh 5 op) op g t tl s gx w) := by
  rw [pBh5]
  have HH := Lib.hid h
  have HN := Lib.hid (calign_any g t tl s w h.1)
  obtain ⟨c0, c1, c2, c3, c4, c5, f0, f1, f2, f3, f4, f5⟩ := own_cells6 h.2.1
  clear h
  go_enter Tryz.func188, Tryz.ntmps188
  go_wp2_with fail
  refine HN.out.mono ?_
  rintro e w1 ⟨x, rfl, x0, x1, h2, h3, h4⟩
  have H2 := Lib.hid (And.intro (HH.out.step h2 h4) (And.intro h3 h4))
  clear c0 c1 c2 c3 c4 c5 f0 f1 f2 f3 f4 f5 HN h3 h4 h2
  obtain ⟨c0, c1, c2, c3, c4, c5, f0, f1, f2, f3, f4, f5⟩ := own_cells6 H2.out.1.2.1
  have H3 := Lib.hid (H2.out.1.set 1 (.int .u32 x))
  have HN := Lib.hid (rU32_any g t tl _ _ H3.out.1)
  go_wp2_with fail
  refine HN.out.mono ?_
  rintro e w2 ⟨y, rfl, y0, y1, h2, h3, h4⟩
  have H4 := Lib.hid (And.intro (H3.out.step h2 h4) (And.intro h3 h4))
  clear c0 c1 c2 c3 c4 c5 f0 f1 f2 f3 f4 f5 HN h3 h4 h2
  obtain ⟨c0, c1, c2, c3, c4, c5, f0, f1, f2, f3, f4, f5⟩ := own_cells6 H4.out.1.2.1
  go_wp2
  go_end0
  have k := bh_two (f := fun a b => ⟨op, a, b, 0, [], 0⟩) H2.out.2.1 H4.out.2.1
  exact ⟨_, ⟨op, x, y, 0, [], 0⟩, none, 0, rfl, by rw [k.1]; exact H4.out.1.set 2 _, LabX.nil _ _ rfl, ⟨by simp; omega, by simp; omega, by simp; omega, by simp; omega, by simp, by simp, by simp, by simp, IsU32.nil, by simp⟩, rfl, k.2, chgT (chgT (chgT (chgG H2.out.2.2) (chgX 1 _)) (chgG H4.out.2.2)) (chgX 2 _)⟩
theorem cbh6 : Calls Tryz.prog 188 #[.pointer (some ⟨g, 0, none⟩), .int .i64 6, .pointer (some ⟨gx, 0, none⟩)] w (BhPost (pBh 6 op) op g t tl s gx w) := by
  rw [pBh6]
  have HH := Lib.hid h
  have HN := Lib.hid (cblock_any g t tl s w h.1)
  obtain ⟨c0, c1, c2, c3, c4, c5, f0, f1, f2, f3, f4, f5⟩ := own_cells6 h.2.1
  clear h
  go_enter Tryz.func188, Tryz.ntmps188
  go_wp2_with fail
  refine HN.out.mono ?_
  rintro e w1 ⟨x, rfl, x0, x1, h2, h3, h4⟩
  have H2 := Lib.hid (And.intro (HH.out.step h2 h4) (And.intro h3 h4))
  clear c0 c1 c2 c3 c4 c5 f0 f1 f2 f3 f4 f5 HN h3 h4 h2
  obtain ⟨c0, c1, c2, c3, c4, c5, f0, f1, f2, f3, f4, f5⟩ := own_cells6 H2.out.1.2.1
  go_wp2
  go_end0
  have k := bh_one (f := fun a => ⟨op, 0, 0, 0, [], a⟩) H2.out.2.1
  exact ⟨_, ⟨op, 0, 0, 0, [], x⟩, none, 0, rfl, by rw [k.1]; exact H2.out.1.set 5 _, LabX.nil _ _ rfl, ⟨by simp, by simp, by simp, by simp, by simp, by simp, by simp; omega, by simp; omega, IsU32.nil, by simp⟩, rfl, k.2, chgT (chgG H2.out.2.2) (chgX 5 _)⟩
theorem cbh8 : Calls Tryz.prog 188 #[.pointer (some ⟨g, 0, none⟩), .int .i64 8, .pointer (some ⟨gx, 0, none⟩)] w (BhPost (pBh 8 op) op g t tl s gx w) := by
  rw [pBh8]
  have HH := Lib.hid h
  have HN := Lib.hid (ctype_any g t tl s op w h.1)
  obtain ⟨c0, c1, c2, c3, c4, c5, f0, f1, f2, f3, f4, f5⟩ := own_cells6 h.2.1
  clear h
  go_enter Tryz.func188, Tryz.ntmps188
  go_wp2_with fail
  refine HN.out.mono ?_
  rintro e w1 ⟨x, rfl, x0, x1, h2, h3, h4⟩
  have H2 := Lib.hid (And.intro (HH.out.step h2 h4) (And.intro h3 h4))
  clear c0 c1 c2 c3 c4 c5 f0 f1 f2 f3 f4 f5 HN h3 h4 h2
  obtain ⟨c0, c1, c2, c3, c4, c5, f0, f1, f2, f3, f4, f5⟩ := own_cells6 H2.out.1.2.1
  go_wp2
  go_end0
  have k := bh_one (f := fun a => ⟨op, a, 0, 0, [], 0⟩) H2.out.2.1
  exact ⟨_, ⟨op, x, 0, 0, [], 0⟩, none, 0, rfl, by rw [k.1]; exact H2.out.1.set 1 _, LabX.nil _ _ rfl, ⟨by simp; omega, by simp; omega, by simp, by simp, by simp, by simp, by simp, by simp, IsU32.nil, by simp⟩, rfl, k.2, chgT (chgG H2.out.2.2) (chgX 1 _)⟩
theorem cbh7 : Calls Tryz.prog 188 #[.pointer (some ⟨g, 0, none⟩), .int .i64 7, .pointer (some ⟨gx, 0, none⟩)] w (BhPost (pBh 7 op) op g t tl s gx w) := by
  rw [pBh7]
  have HH := Lib.hid h
  have HN := Lib.hid (clabels_any g t tl s w h.1)
  obtain ⟨c0, c1, c2, c3, c4, c5, f0, f1, f2, f3, f4, f5⟩ := own_cells6 h.2.1
  clear h
  go_enter Tryz.func188, Tryz.ntmps188
  go_wp2_with fail
  refine HN.out.mono ?_
  rintro e w1 ⟨v, y, rfl, ho, hq, h2, h3, h4, hy⟩
  obtain ⟨A, c, rfl, hyc, hcm, hr⟩ := ho.rdQ hq
  have H2 := Lib.hid (And.intro (HH.out.step h2 h4) (And.intro h3 h4))
  have H3 := Lib.hid (H2.out.1.set 4 (.slice A y.length c))
  have hgw := HH.out.1.lt
  have hxw := HH.out.2.1.lt
  have HR : Hid (IsU32 y ∧ RdV (fun k => w.heap.size ≤ k) w1 A (y.map (Value.int .u32)) ∧ y.length ≤ c ∧ c ≤ maxLen ∧ y.length ≤ 1000) := ⟨hq, hr.2.mono fun k _ e => owns_ge ho e, hyc, hcm, hy⟩
  clear c0 c1 c2 c3 c4 c5 f0 f1 f2 f3 f4 f5 HN h3 h4 h2 ho hq hr hyc hcm hy
  obtain ⟨c0, c1, c2, c3, c4, c5, f0, f1, f2, f3, f4, f5⟩ := own_cells6 H2.out.1.2.1
  have HN := Lib.hid (rU32_any g t tl _ _ H3.out.1)
  generalize hql : y.length = ql at *
  have HQL := Lib.hid hql
  clear hql
  go_wp2_with fail
  refine HN.out.mono ?_
  rintro e w2 ⟨z, rfl, z0, z1, h2, h3, h4⟩
  have H4 := Lib.hid (And.intro (H3.out.step h2 h4) (And.intro h3 h4))
  clear c0 c1 c2 c3 c4 c5 f0 f1 f2 f3 f4 f5 HN h3 h4 h2
  obtain ⟨c0, c1, c2, c3, c4, c5, f0, f1, f2, f3, f4, f5⟩ := own_cells6 H4.out.1.2.1
  go_wp2
  go_end0
  have k := bh_two (f := fun ls a => (⟨op, a, 0, 0, ls, 0⟩ : Ins)) H2.out.2.1 H4.out.2.1
  obtain ⟨q1, q2, q3, q4, q5⟩ := HR.out
  obtain rfl := HQL.out
  have hL : LabX (fun k => w.heap.size ≤ k) w1 ⟨op, z, 0, 0, y, 0⟩ A c := ⟨q2, q3, q4⟩
  exact ⟨_, ⟨op, z, 0, 0, y, 0⟩, A, c, rfl, by rw [k.1]; exact H4.out.1.set 1 _, ((hL.chg (chgSet _ gx 4 _) (fun k _ hk e => by omega)).chg H4.out.2.2 (fun k _ hk e => by omega)).chg (chgSet _ gx 1 _) (fun k _ hk e => by omega), ⟨by simp; omega, by simp; omega, by simp, by simp, by simp, by simp, by simp, by simp, q1, q5⟩, rfl, k.2, chgT (chgT (chgT (chgG H2.out.2.2) (chgX 4 _)) (chgG H4.out.2.2)) (chgX 1 _)⟩
theorem cbehind_any (imm : Int) (hi : 0 ≤ imm) (hi8 : imm ≤ 8) : Calls Tryz.prog 188 #[.pointer (some ⟨g, 0, none⟩), .int .i64 imm, .pointer (some ⟨gx, 0, none⟩)] w (BhPost (pBh imm op) op g t tl s gx w) := by
  rcases show imm = 0 ∨ imm = 1 ∨ imm = 2 ∨ imm = 3 ∨ imm = 4 ∨ imm = 5 ∨ imm = 6 ∨ imm = 7 ∨ imm = 8 from by omega with rfl | rfl | rfl | rfl | rfl | rfl | rfl | rfl | rfl
  · exact cbh0 op g t tl s gx w h
  · exact cbh1 op g t tl s gx w h
  · exact cbh2 op g t tl s gx w h
  · exact cbh3 op g t tl s gx w h
  · exact cbh4 op g t tl s gx w h
  · exact cbh5 op g t tl s gx w h
  · exact cbh6 op g t tl s gx w h
  · exact cbh7 op g t tl s gx w h
  · exact cbh8 op g t tl s gx w h
end
end Go.Proofs.YtadgiekiiicmfaaGreatDoor
