/- code's source: blocks' types, labels, types, numbers of instructions. -/
import Derived.Test.YtdbbcbffmbcjiaaCodeSrc
import Derived.Laws.BitsAllLaws
import Derived.Laws.BitsLemmas
namespace Go.Proofs.Ytdbbcbffmbcjiaa
open Go.RowKit
set_option maxRecDepth 100000
set_option linter.unusedVariables false

theorem and127c (x : Int) : Go.bits .and .u8 (x % 256) 127 = x % 128 := by
  have h : 0 ≤ x % 256 ∧ x % 256 < 256 ∧ x % 256 % 128 = x % 128 := by omega
  exact (Go.bits_mask .u8 8 (by decide) Go.wraps_u8 7 (by decide) _ h.1 h.2.1).trans h.2.2
theorem RdrAt.lenS_le {w : World} {g : Nat} {t : TypeId} {tl : RTl} {s : St} (h : RdrAt w g t tl s) : lenS s ≤ 1000000 := by
  cases s with
  | error e => simp [lenS]
  | ok l => obtain ⟨A, c, r, h1, hr, hlc, hcm, hlm, -⟩ := h; exact hlm

theorem bl_key {s : St} {x : Int} (h3 : ∀ a l', bd s (pS 33) = .ok (a, l') → x = a) :
    (0 ≤ x → nx pBl s = nx (pS 33) s ∧ ∀ a l', bd s pBl = .ok (a, l') → x = a) ∧
    (¬ 0 ≤ x → 1 < (lenS s : Int) - lenS (nx (pS 33) s) → nx pBl s = failS 2 (nx (pS 33) s) ∧ ∀ a l', bd s pBl = .ok (a, l') → x = a) ∧
    (¬ 0 ≤ x → ¬ 1 < (lenS s : Int) - lenS (nx (pS 33) s) → x = -64 → nx pBl s = nx (pS 33) s ∧ ∀ a l', bd s pBl = .ok (a, l') → x = a) ∧
    (¬ 0 ≤ x → ¬ 1 < (lenS s : Int) - lenS (nx (pS 33) s) → x ≠ -64 → nx pBl s = holdS (x % 128) (nx (pS 33) s) ∧ ∀ a l', bd s pBl = .ok (a, l') → x = a) := by
  have hv : ∀ a l', bd s pBl = .ok (a, l') → x = a := fun a l' h => by
    cases s with
    | error e => cases h
    | ok l =>
      simp only [bd_ok, pBl] at h h3
      cases hp : pS 33 l with
      | error e => rw [hp] at h; cases h
      | ok r =>
        rw [hp] at h
        have e := h3 r.1 r.2 (by rw [hp])
        simp only [bd_ok] at h
        split at h
        · injection h with h; subst h; exact e
        · split at h
          · cases h
          · split at h
            · injection h with h; subst h; exact e
            · split at h
              · injection h with h; subst h; exact e
              · cases h
  refine ⟨fun h1 => ⟨?_, hv⟩, fun h1 h2 => ⟨?_, hv⟩, fun h1 h2 h4 => ⟨?_, hv⟩, fun h1 h2 h4 => ⟨?_, hv⟩⟩
  all_goals
    cases s with
    | error e => first | rfl | (simp [holdS, failS])
    | ok l =>
      simp only [nx_ok, bd_ok, pBl] at h3 ⊢
      cases hp : pS 33 l with
      | error e => first | rfl | (simp [holdS, failS])
      | ok r =>
        have := h3 r.1 r.2 (by rw [hp])
        subst this
        simp only [nx_ok, hp, bd_ok, lenS] at *
        first
          | (rw [if_pos h1]; rfl)
          | (rw [if_neg h1, if_pos (by omega)]; rfl)
          | (rw [if_neg h1, if_neg (by omega), if_pos h4]; rfl)
          | (rw [if_neg h1, if_neg (by omega), if_neg h4]; unfold holdS; split <;> simp_all [failS])
/-- An int that was read. -/
def IPostB (p : PR Int) (g : Nat) (t : TypeId) (tl : RTl) (s : St) (w : World) (e : Ending) (w' : World) : Prop :=
  ∃ x, e = .returned (.int .i64 x) ∧ -9223372036854775808 ≤ x ∧ x ≤ 9223372036854775807 ∧ RdrAt w' g t tl (nx p s) ∧ (∀ a l', bd s p = .ok (a, l') → x = a) ∧ Chg (fun k => k = g) w w'
set_option maxHeartbeats 1000000 in
theorem cblock_any (g : Nat) (t : TypeId) (tl : RTl) (s : St) (w : World) (h : RdrAt w g t tl s) :
    Calls Try.prog 61 #[.pointer (some ⟨g, 0, none⟩)] w (IPostB pBl g t tl s w) := by
  have HL := Lib.hid (rleft_any g t tl s w h)
  have HU := Lib.hid (rS33_any g t tl s w h)
  have hlm := h.lenS_le
  clear h
  go_enter Try.func61, Try.ntmps61
  go_wp2_with fail
  refine HL.out.mono ?_
  rintro e w' ⟨rfl, rfl⟩
  go_wp2_with fail
  refine HU.out.mono ?_
  rintro e w1 ⟨x, rfl, h0, h1, h2, h3, h4⟩
  have HK := Lib.hid (bl_key h3)
  have H2 := Lib.hid (And.intro h2 h4)
  clear h2 h3 h4
  by_cases hx : 0 ≤ x
  · clear HL HU
    generalize lenS s = q at *
    go_wp2
    go_ret
    have k := HK.out.1 (by first | exact hx | simp)
    exact ⟨x, rfl, h0, h1, by rw [k.1]; exact H2.out.1, k.2, H2.out.2⟩
  · have HL2 := Lib.hid (rleft_any g t tl _ w1 H2.out.1)
    have hlm2 := H2.out.1.lenS_le
    have hw : wrap64 ((lenS s : Int) - lenS (nx (pS 33) s)) = (lenS s : Int) - lenS (nx (pS 33) s) := by unfold wrap64; omega
    have HX := Lib.hid hx
    have hx' : x < 0 := by omega
    clear hx
    by_cases hd : 1 < (lenS s : Int) - lenS (nx (pS 33) s)
    · have HF := Lib.hid (rfail_any g t tl _ 2 w1 H2.out.1 (by omega) (by omega))
      have HD := Lib.hid hd
      generalize lenS s = q at *
      generalize lenS (nx (pS 33) s) = q2 at *
      go_wp2_with (go_at_call 88; refine HL2.out.mono ?_; rintro e w' ⟨rfl, rfl⟩)
      refine HF.out.mono ?_
      rintro e w2 ⟨⟨u, rfl⟩, h2, hc⟩
      have HC := Lib.hid (And.intro h2 hc)
      clear h2 hc
      go_wp2
      go_ret
      have k := HK.out.2.1 HX.out HD.out
      exact ⟨x, rfl, h0, h1, by rw [k.1]; exact HC.out.1, k.2, H2.out.2.trans HC.out.2 fun k _ e => e⟩
    · have HD := Lib.hid hd
      by_cases h64 : x = -64
      · subst h64
        generalize lenS s = q at *
        generalize lenS (nx (pS 33) s) = q2 at *
        go_wp2_with (go_at_call 88; refine HL2.out.mono ?_; rintro e w' ⟨rfl, rfl⟩)
        go_ret
        have k := HK.out.2.2.1 HX.out HD.out (by simp)
        exact ⟨-64, rfl, h0, h1, by rw [k.1]; exact H2.out.1, k.2, H2.out.2⟩
      · have hne : (x != -64) = true := by simpa using h64
        have H6 := Lib.hid h64
        have hbt := and127c x
        have HO := Lib.hid (chold_any g t tl _ (x % 128) w1 H2.out.1 (by omega) (by omega))
        clear h64
        generalize lenS s = q at *
        generalize lenS (nx (pS 33) s) = q2 at *
        go_wp2_with (go_at_call 88; refine HL2.out.mono ?_; rintro e w' ⟨rfl, rfl⟩)
        refine HO.out.mono ?_
        rintro e w2 ⟨⟨u, rfl⟩, h2, hc⟩
        have HC := Lib.hid (And.intro h2 hc)
        clear h2 hc
        go_wp2
        go_ret
        have k := HK.out.2.2.2 HX.out HD.out H6.out
        exact ⟨x, rfl, h0, h1, by rw [k.1]; exact HC.out.1, k.2, H2.out.2.trans HC.out.2 fun k _ e => e⟩
end Go.Proofs.Ytdbbcbffmbcjiaa
