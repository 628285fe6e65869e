/- code's source: what its calls come to. -/
import Derived.Test.YtdbbcbffmbcjiaaReaderS
import Derived.Test.YtdbbcbffmbcjiaaNums32
namespace Go.Proofs.Ytdbbcbffmbcjiaa
open Go.RowKit
set_option maxRecDepth 100000
set_option linter.unusedVariables false

theorem numbers_any (x : Int) (w : World) : Calls Try.prog 83 #[.int .i64 x] w fun e w' => e = .returned (.int .i64 (nums x)) ∧ w = w' := by
  go_enter Try.func83, Try.ntmps83
  go_wp2
  all_goals (go_ret; refine ⟨?_, rfl⟩; simp_all [nums])

def holdS (x : Int) (s : St) : St := if valE x = 0 then s else failS (valE x) s
theorem chold_any (g : Nat) (t : TypeId) (tl : RTl) (s : St) (x : Int) (w : World) (h : RdrAt w g t tl s) (h0 : 0 ≤ x) (h1 : x ≤ 255) :
    Calls Try.prog 97 #[.pointer (some ⟨g, 0, none⟩), .int .u8 x] w (FailPost g t tl (holdS x s) w) := by
  have HV := Lib.hid (value_any 114 (by simp) x w h0 h1)
  by_cases hx : valE x = 0
  · have HH : Hid (RdrAt w g t tl (holdS x s)) := by unfold Hid holdS; rw [if_pos hx]; exact h
    clear h
    go_enter Try.func97, Try.ntmps97
    go_wp2_with fail
    refine HV.out.mono ?_
    unfold valT
    rintro e w' ⟨rfl, rfl⟩
    rw [hx]
    go_wp2
    go_end0
    exact ⟨⟨_, rfl⟩, HH.out, Chg.refl _ _⟩
  · have hp : 0 < valE x ∧ valE x ≤ 100 := by rcases valE_cases x with h | h | h <;> omega
    have HF : Hid (Calls Try.prog 19 #[.pointer (some ⟨g, 0, none⟩), .int .i64 (valE x)] w (FailPost g t tl (holdS x s) w)) := by
      unfold Hid holdS; rw [if_neg hx]; exact rfail_any g t tl s (valE x) w h hp.1 hp.2
    clear h
    have hne : (valE x != 0) = true := by simpa using hx
    have hdc : decide (valE x = 0) = false := by simpa using hx
    go_enter Try.func97, Try.ntmps97
    go_wp2_with fail
    refine HV.out.mono ?_
    unfold valT
    rintro e w' ⟨rfl, rfl⟩
    clear hp
    generalize valE x = y at *
    go_wp2_with fail
    refine HF.out.mono ?_
    rintro e w' ⟨⟨u, rfl⟩, h2, hc⟩
    have HC := Lib.hid (And.intro h2 hc)
    clear h2 hc
    go_wp2
    go_end0
    exact ⟨⟨_, rfl⟩, HC.out.1, HC.out.2⟩

theorem zero_key {s : St} {x : Int} (h3 : ∀ a l', bd s pByte = .ok (a, l') → x = a) :
    (x = 0 → nx pZero s = nx pByte s ∧ ∀ a l', bd s pZero = .ok (a, l') → 0 = a) ∧ (x ≠ 0 → nx pZero s = failS 2 (nx pByte s) ∧ ∀ a l', bd s pZero ≠ .ok (a, l')) := by
  cases s with
  | error e => exact ⟨fun _ => ⟨rfl, fun a l' h => by cases h⟩, fun _ => ⟨rfl, fun a l' h => by cases h⟩⟩
  | ok l =>
    simp only [nx_ok, bd_ok, pZero, seq] at h3 ⊢
    cases hp : pByte l with
    | error e => simp [failS]
    | ok r =>
      have := h3 r.1 r.2 (by rw [hp])
      subst this
      refine ⟨fun hx => ?_, fun hx => ?_⟩
      · simp only [bd_ok, hx, if_true]; exact ⟨trivial, fun a l' h => by injection h with h; injection h⟩
      · simp [hx, failS]
set_option maxHeartbeats 1000000 in
theorem cname_any (g : Nat) (t : TypeId) (tl : RTl) (s : St) (op place : Int) (w : World) (h : RdrAt w g t tl s) :
    Calls Try.prog 57 #[.pointer (some ⟨g, 0, none⟩), .int .i64 op, .int .i64 place] w (RPost .u32 4294967295 (pNm op place) g t tl s w) := by
  have HH := Lib.hid h
  clear h
  have HN := Lib.hid (numbers_any op w)
  unfold pNm
  by_cases hp : place < nums op
  · have HU := Lib.hid (rU32_any g t tl s w HH.out)
    rw [if_pos hp]
    generalize nums op = y at *
    go_enter Try.func57, Try.ntmps57
    go_wp2_with (go_at_call 83; refine HN.out.mono ?_; rintro e w' ⟨rfl, rfl⟩)
    refine HU.out.mono ?_
    rintro e w' ⟨x, rfl, h0, h1, h2⟩
    have H2 := Lib.hid h2
    clear h2
    go_wp2
    go_ret
    exact ⟨x, rfl, h0, h1, H2.out⟩
  · have HU := Lib.hid (rbyte_any g t tl s w HH.out)
    rw [if_neg hp]
    generalize nums op = y at *
    go_enter Try.func57, Try.ntmps57
    go_wp2_with (go_at_call 83; refine HN.out.mono ?_; rintro e w' ⟨rfl, rfl⟩)
    refine HU.out.mono ?_
    rintro e w' ⟨x, rfl, h0, h1, h2, h3, h4⟩
    have HK := Lib.hid (zero_key h3)
    have H2 := Lib.hid (And.intro h2 h4)
    clear h2 h3 h4
    by_cases hx : x = 0
    · subst hx
      go_wp2
      go_ret
      have k := HK.out.1 (by simp)
      exact ⟨0, rfl, by omega, by omega, by rw [k.1]; exact H2.out.1, k.2, H2.out.2⟩
    · have hne : (x != 0) = true := by simpa using hx
      have HF := Lib.hid (rfail_any g t tl _ 2 w' H2.out.1 (by omega) (by omega))
      have HX := Lib.hid hx
      clear hx
      go_wp2_with fail
      refine HF.out.mono ?_
      rintro e w2 ⟨⟨u, rfl⟩, h2, hc⟩
      have HC := Lib.hid (And.intro h2 hc)
      clear h2 hc
      go_wp2
      go_ret
      have k := HK.out.2 HX.out
      exact ⟨0, rfl, by omega, by omega, by rw [k.1]; exact HC.out.1, fun a l' h => (k.2 a l' h).elim, H2.out.2.trans HC.out.2 fun k _ e => e⟩

theorem al_key {s : St} {x : Int} (h3 : ∀ a l', bd s (pU 32) = .ok (a, l') → x = a) :
    (¬ 31 < x → nx pAl s = nx (pU 32) s ∧ ∀ a l', bd s pAl = .ok (a, l') → x = a) ∧ (31 < x → nx pAl s = failS 2 (nx (pU 32) s) ∧ ∀ a l', bd s pAl ≠ .ok (a, l')) := by
  cases s with
  | error e => exact ⟨fun _ => ⟨rfl, fun a l' h => by cases h⟩, fun _ => ⟨rfl, fun a l' h => by cases h⟩⟩
  | ok l =>
    simp only [nx_ok, bd_ok, pAl, seq] at h3 ⊢
    cases hp : pU 32 l with
    | error e => simp [failS]
    | ok r =>
      have := h3 r.1 r.2 (by rw [hp])
      subst this
      refine ⟨fun hx => ?_, fun hx => ?_⟩
      · simp only [bd_ok]; rw [if_neg hx]; exact ⟨rfl, fun a l' h => by injection h with h; injection h⟩
      · simp [hx, failS]
theorem calign_any (g : Nat) (t : TypeId) (tl : RTl) (s : St) (w : World) (h : RdrAt w g t tl s) :
    Calls Try.prog 60 #[.pointer (some ⟨g, 0, none⟩)] w (RPost .u32 4294967295 pAl g t tl s w) := by
  have HU := Lib.hid (rU32_any g t tl s w h)
  clear h
  go_enter Try.func60, Try.ntmps60
  go_wp2_with fail
  refine HU.out.mono ?_
  rintro e w' ⟨x, rfl, h0, h1, h2, h3, h4⟩
  have HK := Lib.hid (al_key h3)
  have H2 := Lib.hid (And.intro h2 h4)
  clear h2 h3 h4
  by_cases hx : 31 < x
  · have HF := Lib.hid (rfail_any g t tl _ 2 w' H2.out.1 (by omega) (by omega))
    go_wp2_with fail
    refine HF.out.mono ?_
    rintro e w2 ⟨⟨u, rfl⟩, h2, hc⟩
    have HC := Lib.hid (And.intro h2 hc)
    clear h2 hc
    go_wp2
    go_ret
    have k := HK.out.2 hx
    exact ⟨x, rfl, h0, h1, by rw [k.1]; exact HC.out.1, fun a l' h => (k.2 a l' h).elim, H2.out.2.trans HC.out.2 fun k _ e => e⟩
  · go_wp2
    go_ret
    have k := HK.out.1 hx
    exact ⟨x, rfl, h0, h1, by rw [k.1]; exact H2.out.1, k.2, H2.out.2⟩
end Go.Proofs.Ytdbbcbffmbcjiaa
