/- Package reader: signed numbers, and Failed. (Written by gen_ReaderS.py.) -/
import Derived.Test.YtdbbcbffmbcjiaaCodeMath
namespace Go.Proofs.Ytdbbcbffmbcjiaa
open Go.RowKit
set_option maxRecDepth 100000
set_option linter.unusedVariables false

/-- A signed number that was read. -/
def SgPost (K : IntKind) (lo hi : Int) (R : Int → Int → Prop) (p : PR Int) (g : Nat) (t : TypeId) (tl : RTl) (s : St) (w : World) (e : Ending) (w' : World) : Prop :=
  ∃ x, e = .returned (.int K x) ∧ lo ≤ x ∧ x ≤ hi ∧ RdrAt w' g t tl (nx p s) ∧ (∀ a l', bd s p = .ok (a, l') → R x a) ∧ Chg (fun k => k = g) w w'
theorem wrap32_rng (u : Int) : -2147483648 ≤ wrap32 u ∧ wrap32 u ≤ 2147483647 ∧ wrap32 u % 4294967296 = u % 4294967296 := by
  unfold wrap32
  refine ⟨?_, ?_, ?_⟩ <;> omega

def failedS (s : St) : Bool := match s with
  | .error _ => true
  | .ok _ => false
theorem rfailed_any (g : Nat) (t : TypeId) (tl : RTl) (s : St) (w : World) (h : RdrAt w g t tl s) :
    Calls Try.prog 18 #[.pointer (some ⟨g, 0, none⟩)] w fun e w' => e = .returned (.bool (failedS s)) ∧ w = w' := by
  cases s with
  | ok l =>
    obtain ⟨A, c, r, h1, -⟩ := h
    obtain ⟨hc0, hc1, hc2, hf0, hf1, hf2⟩ := own_cells3 h1
    clear h1
    generalize l.length = q at *
    go_enter Try.func18, Try.ntmps18
    go_wp2
    go_ret
    exact ⟨rfl, rfl⟩
  | error e =>
    obtain ⟨h1, he, -⟩ := h
    obtain ⟨hc0, hc1, hc2, hf0, hf1, hf2⟩ := own_cells3 h1
    clear h1
    have hne : (e != 0) = true := by simp; omega
    go_enter Try.func18, Try.ntmps18
    go_wp2
    go_ret
    exact ⟨rfl, rfl⟩

set_option maxHeartbeats 1000000 in
theorem rnumS32_any (g : Nat) (t : TypeId) (tl : RTl) (s : St) (w : World) (h : RdrAt w g t tl s) :
    Calls Try.prog 92 #[.pointer (some ⟨g, 0, none⟩), .func (.func 93) #[] #[]] w (SgPost .i32 (-2147483648) 2147483647 (fun x a => x % 4294967296 = a % 4294967296) (pS 32) g t tl s w) := by
  rcases s with e | l
  · have HF := Lib.hid (rfail_any g t tl _ 3 w h (by omega) (by omega))
    obtain ⟨h1, he, he2⟩ := h
    obtain ⟨hc0, hc1, hc2, hf0, hf1, hf2⟩ := own_cells3 h1
    have HU := Lib.hid (S32_any none [] 0 0 w (Rd.nil _ _ _) rfl (by decide))
    clear h1
    go_enter Try.func92, Try.ntmps92
    go_wp2_with fail
    refine HU.out.mono ?_
    rintro e w' ⟨rfl, rfl⟩
    simp only [three, rdS, dec, on1, show ((3 : Int) = 0) = False from by simp, if_false]
    go_wp2_with fail
    refine HF.out.mono ?_
    rintro e w' ⟨⟨u, rfl⟩, h2, hc⟩
    have HC := Lib.hid (And.intro h2 hc)
    clear h2 hc
    go_wp2
    go_ret
    exact ⟨wrap32 0, rfl, (wrap32_rng 0).1, (wrap32_rng 0).2.1, HC.out.1, (fun a l' h => by cases h), HC.out.2⟩
  · have HF := Lib.hid (fun x hx hx2 => rfail_any g t tl _ x w h hx hx2)
    have HH := Lib.hid h
    obtain ⟨A, c, r, h1, hr, hlc, hcm, hlm, -⟩ := h
    obtain ⟨hc0, hc1, hc2, hf0, hf1, hf2⟩ := own_cells3 h1
    have HU := Lib.hid (S32_any A l l.length c w hr.rd rfl (by unfold maxLen; omega))
    have bad : ∀ x, rdS 32 l = (0, 0, x) → 0 < x → x ≤ 100 → (x == 0) = false → Calls Try.prog 92 #[.pointer (some ⟨g, 0, none⟩), .func (.func 93) #[] #[]] w (SgPost .i32 (-2147483648) 2147483647 (fun x a => x % 4294967296 = a % 4294967296) (pS 32) g t tl (.ok l) w) := by
      intro x hd hx hx2 hx3
      have HD := Lib.hid hd
      have HP := Lib.hid (pS_no hd (by omega))
      clear h1 hr hd hlc hcm hlm
      generalize l.length = q at *
      go_enter Try.func92, Try.ntmps92
      go_wp2_with fail
      refine HU.out.mono ?_
      rw [HD.out]
      simp only [three, on1]
      rintro e w' ⟨rfl, rfl⟩
      go_wp2_with fail
      refine (HF.out x hx hx2).mono ?_
      rintro e w' ⟨⟨u, rfl⟩, h2, hc⟩
      have HC := Lib.hid (And.intro h2 hc)
      clear h2 hc
      go_wp2
      go_ret
      refine ⟨wrap32 0, rfl, (wrap32_rng 0).1, (wrap32_rng 0).2.1, ?_, (fun a l' h => ?_), HC.out.2⟩
      · rw [nx_ok, HP.out]; exact HC.out.1
      · rw [bd_ok, HP.out] at h; cases h
    rcases rdS_cases 32 (by omega) (by omega) l with hd | hd | ⟨u, m, hd, hu0, hu1, hm1, hm2, hm3⟩
    · exact bad 3 hd (by omega) (by omega) rfl
    · exact bad 2 hd (by omega) (by omega) rfl
    · have HS := Lib.hid (rskip_any g t tl l m w HH.out hm3)
      have HD := Lib.hid hd
      have HP := Lib.hid (pS_ok hd)
      clear h1 hr hd hlc hcm bad hm3
      generalize l.length = q at *
      go_enter Try.func92, Try.ntmps92
      go_wp2_with fail
      refine HU.out.mono ?_
      rw [HD.out]
      simp only [three, on1]
      rintro e w' ⟨rfl, rfl⟩
      go_wp2_with fail
      refine HS.out.mono ?_
      rintro e w' ⟨⟨u2, rfl⟩, h2, hc⟩
      have HC := Lib.hid (And.intro h2 hc)
      clear h2 hc
      go_wp2
      go_ret
      refine ⟨wrap32 u, rfl, (wrap32_rng u).1, (wrap32_rng u).2.1, ?_, (fun a l' h => ?_), HC.out.2⟩
      · rw [nx_ok, HP.out]; simpa using HC.out.1
      · rw [bd_ok, HP.out] at h; injection h with h; injection h with h _; rw [← h]; exact (wrap32_rng u).2.2
theorem rS32_any (g : Nat) (t : TypeId) (tl : RTl) (s : St) (w : World) (h : RdrAt w g t tl s) :
    Calls Try.prog 58 #[.pointer (some ⟨g, 0, none⟩)] w (SgPost .i32 (-2147483648) 2147483647 (fun x a => x % 4294967296 = a % 4294967296) (pS 32) g t tl s w) := by
  have HN := Lib.hid (rnumS32_any g t tl s w h)
  clear h
  go_enter Try.func58, Try.ntmps58
  go_wp2_with fail
  refine HN.out.mono ?_
  rintro e w' ⟨x, rfl, h0, h1, h2⟩
  have H2 := Lib.hid h2
  clear h2
  go_wp2
  go_ret
  exact ⟨x, rfl, h0, h1, H2.out⟩

set_option maxHeartbeats 1000000 in
theorem rnumS33_any (g : Nat) (t : TypeId) (tl : RTl) (s : St) (w : World) (h : RdrAt w g t tl s) :
    Calls Try.prog 94 #[.pointer (some ⟨g, 0, none⟩), .func (.func 113) #[] #[]] w (SgPost .i64 (-9223372036854775808) 9223372036854775807 (fun x a => x = a) (pS 33) g t tl s w) := by
  rcases s with e | l
  · have HF := Lib.hid (rfail_any g t tl _ 3 w h (by omega) (by omega))
    obtain ⟨h1, he, he2⟩ := h
    obtain ⟨hc0, hc1, hc2, hf0, hf1, hf2⟩ := own_cells3 h1
    have HU := Lib.hid (S33_any none [] 0 0 w (Rd.nil _ _ _) rfl (by decide))
    clear h1
    go_enter Try.func94, Try.ntmps94
    go_wp2_with fail
    refine HU.out.mono ?_
    rintro e w' ⟨rfl, rfl⟩
    simp only [three, rdS, dec, show ((3 : Int) = 0) = False from by simp, if_false]
    go_wp2_with fail
    refine HF.out.mono ?_
    rintro e w' ⟨⟨u, rfl⟩, h2, hc⟩
    have HC := Lib.hid (And.intro h2 hc)
    clear h2 hc
    go_wp2
    go_ret
    exact ⟨0, rfl, by omega, by omega, HC.out.1, (fun a l' h => by cases h), HC.out.2⟩
  · have HF := Lib.hid (fun x hx hx2 => rfail_any g t tl _ x w h hx hx2)
    have HH := Lib.hid h
    obtain ⟨A, c, r, h1, hr, hlc, hcm, hlm, -⟩ := h
    obtain ⟨hc0, hc1, hc2, hf0, hf1, hf2⟩ := own_cells3 h1
    have HU := Lib.hid (S33_any A l l.length c w hr.rd rfl (by unfold maxLen; omega))
    have bad : ∀ x, rdS 33 l = (0, 0, x) → 0 < x → x ≤ 100 → (x == 0) = false → Calls Try.prog 94 #[.pointer (some ⟨g, 0, none⟩), .func (.func 113) #[] #[]] w (SgPost .i64 (-9223372036854775808) 9223372036854775807 (fun x a => x = a) (pS 33) g t tl (.ok l) w) := by
      intro x hd hx hx2 hx3
      have HD := Lib.hid hd
      have HP := Lib.hid (pS_no hd (by omega))
      clear h1 hr hd hlc hcm hlm
      generalize l.length = q at *
      go_enter Try.func94, Try.ntmps94
      go_wp2_with fail
      refine HU.out.mono ?_
      rw [HD.out]
      simp only [three]
      rintro e w' ⟨rfl, rfl⟩
      go_wp2_with fail
      refine (HF.out x hx hx2).mono ?_
      rintro e w' ⟨⟨u, rfl⟩, h2, hc⟩
      have HC := Lib.hid (And.intro h2 hc)
      clear h2 hc
      go_wp2
      go_ret
      refine ⟨0, rfl, by omega, by omega, ?_, (fun a l' h => ?_), HC.out.2⟩
      · rw [nx_ok, HP.out]; exact HC.out.1
      · rw [bd_ok, HP.out] at h; cases h
    rcases rdS_cases 33 (by omega) (by omega) l with hd | hd | ⟨u, m, hd, hu0, hu1, hm1, hm2, hm3⟩
    · exact bad 3 hd (by omega) (by omega) rfl
    · exact bad 2 hd (by omega) (by omega) rfl
    · have HS := Lib.hid (rskip_any g t tl l m w HH.out hm3)
      have HD := Lib.hid hd
      have HP := Lib.hid (pS_ok hd)
      clear h1 hr hd hlc hcm bad hm3
      generalize l.length = q at *
      go_enter Try.func94, Try.ntmps94
      go_wp2_with fail
      refine HU.out.mono ?_
      rw [HD.out]
      simp only [three]
      rintro e w' ⟨rfl, rfl⟩
      go_wp2_with fail
      refine HS.out.mono ?_
      rintro e w' ⟨⟨u2, rfl⟩, h2, hc⟩
      have HC := Lib.hid (And.intro h2 hc)
      clear h2 hc
      go_wp2
      go_ret
      refine ⟨u, rfl, by omega, by omega, ?_, (fun a l' h => ?_), HC.out.2⟩
      · rw [nx_ok, HP.out]; simpa using HC.out.1
      · rw [bd_ok, HP.out] at h; injection h with h; injection h
theorem rS33_any (g : Nat) (t : TypeId) (tl : RTl) (s : St) (w : World) (h : RdrAt w g t tl s) :
    Calls Try.prog 96 #[.pointer (some ⟨g, 0, none⟩)] w (SgPost .i64 (-9223372036854775808) 9223372036854775807 (fun x a => x = a) (pS 33) g t tl s w) := by
  have HN := Lib.hid (rnumS33_any g t tl s w h)
  clear h
  go_enter Try.func96, Try.ntmps96
  go_wp2_with fail
  refine HN.out.mono ?_
  rintro e w' ⟨x, rfl, h0, h1, h2⟩
  have H2 := Lib.hid h2
  clear h2
  go_wp2
  go_ret
  exact ⟨x, rfl, h0, h1, H2.out⟩

set_option maxHeartbeats 1000000 in
theorem rnumS64_any (g : Nat) (t : TypeId) (tl : RTl) (s : St) (w : World) (h : RdrAt w g t tl s) :
    Calls Try.prog 94 #[.pointer (some ⟨g, 0, none⟩), .func (.func 95) #[] #[]] w (SgPost .i64 (-9223372036854775808) 9223372036854775807 (fun x a => x = a) (pS 64) g t tl s w) := by
  rcases s with e | l
  · have HF := Lib.hid (rfail_any g t tl _ 3 w h (by omega) (by omega))
    obtain ⟨h1, he, he2⟩ := h
    obtain ⟨hc0, hc1, hc2, hf0, hf1, hf2⟩ := own_cells3 h1
    have HU := Lib.hid (S64_any none [] 0 0 w (Rd.nil _ _ _) rfl (by decide))
    clear h1
    go_enter Try.func94, Try.ntmps94
    go_wp2_with fail
    refine HU.out.mono ?_
    rintro e w' ⟨rfl, rfl⟩
    simp only [three, rdS, dec, show ((3 : Int) = 0) = False from by simp, if_false]
    go_wp2_with fail
    refine HF.out.mono ?_
    rintro e w' ⟨⟨u, rfl⟩, h2, hc⟩
    have HC := Lib.hid (And.intro h2 hc)
    clear h2 hc
    go_wp2
    go_ret
    exact ⟨0, rfl, by omega, by omega, HC.out.1, (fun a l' h => by cases h), HC.out.2⟩
  · have HF := Lib.hid (fun x hx hx2 => rfail_any g t tl _ x w h hx hx2)
    have HH := Lib.hid h
    obtain ⟨A, c, r, h1, hr, hlc, hcm, hlm, -⟩ := h
    obtain ⟨hc0, hc1, hc2, hf0, hf1, hf2⟩ := own_cells3 h1
    have HU := Lib.hid (S64_any A l l.length c w hr.rd rfl (by unfold maxLen; omega))
    have bad : ∀ x, rdS 64 l = (0, 0, x) → 0 < x → x ≤ 100 → (x == 0) = false → Calls Try.prog 94 #[.pointer (some ⟨g, 0, none⟩), .func (.func 95) #[] #[]] w (SgPost .i64 (-9223372036854775808) 9223372036854775807 (fun x a => x = a) (pS 64) g t tl (.ok l) w) := by
      intro x hd hx hx2 hx3
      have HD := Lib.hid hd
      have HP := Lib.hid (pS_no hd (by omega))
      clear h1 hr hd hlc hcm hlm
      generalize l.length = q at *
      go_enter Try.func94, Try.ntmps94
      go_wp2_with fail
      refine HU.out.mono ?_
      rw [HD.out]
      simp only [three]
      rintro e w' ⟨rfl, rfl⟩
      go_wp2_with fail
      refine (HF.out x hx hx2).mono ?_
      rintro e w' ⟨⟨u, rfl⟩, h2, hc⟩
      have HC := Lib.hid (And.intro h2 hc)
      clear h2 hc
      go_wp2
      go_ret
      refine ⟨0, rfl, by omega, by omega, ?_, (fun a l' h => ?_), HC.out.2⟩
      · rw [nx_ok, HP.out]; exact HC.out.1
      · rw [bd_ok, HP.out] at h; cases h
    rcases rdS_cases 64 (by omega) (by omega) l with hd | hd | ⟨u, m, hd, hu0, hu1, hm1, hm2, hm3⟩
    · exact bad 3 hd (by omega) (by omega) rfl
    · exact bad 2 hd (by omega) (by omega) rfl
    · have HS := Lib.hid (rskip_any g t tl l m w HH.out hm3)
      have HD := Lib.hid hd
      have HP := Lib.hid (pS_ok hd)
      clear h1 hr hd hlc hcm bad hm3
      generalize l.length = q at *
      go_enter Try.func94, Try.ntmps94
      go_wp2_with fail
      refine HU.out.mono ?_
      rw [HD.out]
      simp only [three]
      rintro e w' ⟨rfl, rfl⟩
      go_wp2_with fail
      refine HS.out.mono ?_
      rintro e w' ⟨⟨u2, rfl⟩, h2, hc⟩
      have HC := Lib.hid (And.intro h2 hc)
      clear h2 hc
      go_wp2
      go_ret
      refine ⟨u, rfl, by omega, by omega, ?_, (fun a l' h => ?_), HC.out.2⟩
      · rw [nx_ok, HP.out]; simpa using HC.out.1
      · rw [bd_ok, HP.out] at h; injection h with h; injection h
theorem rS64_any (g : Nat) (t : TypeId) (tl : RTl) (s : St) (w : World) (h : RdrAt w g t tl s) :
    Calls Try.prog 59 #[.pointer (some ⟨g, 0, none⟩)] w (SgPost .i64 (-9223372036854775808) 9223372036854775807 (fun x a => x = a) (pS 64) g t tl s w) := by
  have HN := Lib.hid (rnumS64_any g t tl s w h)
  clear h
  go_enter Try.func59, Try.ntmps59
  go_wp2_with fail
  refine HN.out.mono ?_
  rintro e w' ⟨x, rfl, h0, h1, h2⟩
  have H2 := Lib.hid h2
  clear h2
  go_wp2
  go_ret
  exact ⟨x, rfl, h0, h1, H2.out⟩
end Go.Proofs.Ytdbbcbffmbcjiaa
