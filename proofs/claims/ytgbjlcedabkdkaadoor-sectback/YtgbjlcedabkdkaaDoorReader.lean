/- Package reader: what its calls come to. -/
import Derived.Test.YtgbjlcedabkdkaaDoorParseMath
import Derived.Test.YtgbjlcedabkdkaaDoorCuts
import Derived.Test.YtgbjlcedabkdkaaDoorLebRead2
import Derived.Test.YtgbjlcedabkdkaaDoorLists
import Derived.Handy
namespace Go.Proofs.YtgbjlcedabkdkaaDoor
open Go.RowKit
set_option maxRecDepth 100000
set_option linter.unusedVariables false

/-- How many bytes there were, and what stands behind the Reader. -/
abbrev RTl := Nat × List Value
/-- A Reader at the front of block g: what it has still to read, or what it met. -/
def RdrAt (w : World) (g : Nat) (t : TypeId) (tl : RTl) (s : St) : Prop := match s with
  | .ok l => ∃ A c r, Own w g t (.slice A l.length c :: .int .i64 r :: .int .i64 0 :: tl.2) ∧ RdX (· < g) w A l ∧ l.length ≤ c ∧ c ≤ maxLen ∧ l.length ≤ 1000000 ∧ r = (tl.1 : Int) - l.length ∧ l.length ≤ tl.1 ∧ tl.1 ≤ 1000000
  | .error e => Own w g t (.slice none 0 0 :: .int .i64 0 :: .int .i64 e :: tl.2) ∧ 0 < e ∧ e ≤ 100
theorem RdrAt.chg {S : Nat → Prop} {w w' : World} {g : Nat} {t : TypeId} {tl : RTl} {s : St} (h : RdrAt w g t tl s) (hc : Chg S w w') (hs : ∀ k, k ≤ g → ¬ S k) : RdrAt w' g t tl s := by
  cases s with
  | ok l => obtain ⟨A, c, r, h1, h2, h5⟩ := h; exact ⟨A, c, r, h1.chg hc (hs g (Nat.le_refl _)), h2.chg hc fun k _ hk => hs k (by omega), h5⟩
  | error e => exact ⟨h.1.chg hc (hs g (Nat.le_refl _)), h.2⟩
theorem RdrAt.later {w w' : World} {g : Nat} {t : TypeId} {tl : RTl} {s : St} (h : RdrAt w g t tl s) (hc : Below w.heap.size w w') : RdrAt w' g t tl s := h.chg (S := fun _ => False) (Chg.of_below hc) fun _ _ => id
theorem RdrAt.lt {w : World} {g : Nat} {t : TypeId} {tl : RTl} {s : St} (h : RdrAt w g t tl s) : g < w.heap.size := by
  cases s with
  | ok l => obtain ⟨A, c, r, h1, _⟩ := h; exact h1.lt
  | error e => exact h.1.lt

theorem chgSet (w : World) (g i : Nat) (u : Value) : Chg (fun k => k = g) w (w.setCell ⟨g, i, none⟩ u) := Chg.setCell w ⟨g, i, none⟩ u
theorem own_cells2 {w : World} {g : Nat} {t : TypeId} {a b : Value} {tl : List Value} (h : Own w g t (a :: b :: tl)) : w.cell? ⟨g, 0, none⟩ = some a ∧ w.cell? ⟨g, 1, none⟩ = some b ∧ w.frozen? ⟨g, 0, none⟩ = false ∧ w.frozen? ⟨g, 1, none⟩ = false :=
  ⟨h.cell 0, h.cell 1, h.frozen 0, h.frozen 1⟩
theorem own_cells3 {w : World} {g : Nat} {t : TypeId} {a b c : Value} {tl : List Value} (h : Own w g t (a :: b :: c :: tl)) : w.cell? ⟨g, 0, none⟩ = some a ∧ w.cell? ⟨g, 1, none⟩ = some b ∧ w.cell? ⟨g, 2, none⟩ = some c ∧ w.frozen? ⟨g, 0, none⟩ = false ∧ w.frozen? ⟨g, 1, none⟩ = false ∧ w.frozen? ⟨g, 2, none⟩ = false :=
  ⟨h.cell 0, h.cell 1, h.cell 2, h.frozen 0, h.frozen 1, h.frozen 2⟩

theorem rleft_any (g : Nat) (t : TypeId) (tl : RTl) (s : St) (w : World) (h : RdrAt w g t tl s) :
    Calls Tryd.prog 16 #[.pointer (some ⟨g, 0, none⟩)] w fun e w' => e = .returned (.int .i64 (lenS s)) ∧ w = w' := by
  cases s with
  | ok l =>
    obtain ⟨A, c, r, h1, -⟩ := h
    obtain ⟨hc0, hc1, hc2, hf0, hf1, hf2⟩ := own_cells3 h1
    clear h1
    simp only [lenS]
    generalize l.length = q at *
    go_enter Tryd.func16, Tryd.ntmps16
    go_wp2
    go_ret
    exact ⟨rfl, rfl⟩
  | error e =>
    obtain ⟨hc0, hc1, hc2, hf0, hf1, hf2⟩ := own_cells3 h.1
    clear h
    go_enter Tryd.func16, Tryd.ntmps16
    go_wp2
    go_ret
    exact ⟨rfl, rfl⟩

def FailPost (g : Nat) (t : TypeId) (tl : RTl) (s : St) (w : World) (e : Ending) (w' : World) : Prop := (∃ u, e = .returned u) ∧ RdrAt w' g t tl s ∧ Chg (fun k => k = g) w w'
theorem rfail_any (g : Nat) (t : TypeId) (tl : RTl) (s : St) (x : Int) (w : World) (h : RdrAt w g t tl s) (hx : 0 < x) (hx2 : x ≤ 100) :
    Calls Tryd.prog 27 #[.pointer (some ⟨g, 0, none⟩), .int .i64 x] w (FailPost g t tl (failS x s) w) := by
  cases s with
  | ok l =>
    obtain ⟨A, c, r, h1, -⟩ := h
    obtain ⟨hc0, hc1, hc2, hf0, hf1, hf2⟩ := own_cells3 h1
    have H1 := Lib.hid h1
    clear h1
    generalize l.length = q at *
    go_enter Tryd.func27, Tryd.ntmps27
    go_wp2
    go_end0
    refine ⟨⟨_, rfl⟩, ⟨((H1.out.set 0 _).set 1 _).set 2 _, hx, hx2⟩, ((chgSet _ _ _ _).trans (chgSet _ _ _ _) fun k _ e => e).trans (chgSet _ _ _ _) fun k _ e => e⟩
  | error e =>
    obtain ⟨h1, he, he2⟩ := h
    obtain ⟨hc0, hc1, hc2, hf0, hf1, hf2⟩ := own_cells3 h1
    have H1 := Lib.hid h1
    clear h1
    have hne : (e == 0) = false := by simp; omega
    go_enter Tryd.func27, Tryd.ntmps27
    go_wp2
    go_end0
    exact ⟨⟨_, rfl⟩, ⟨H1.out, he, he2⟩, Chg.refl _ _⟩

theorem rskip_any (g : Nat) (t : TypeId) (tl : RTl) (l : List Int) (m : Nat) (w : World) (h : RdrAt w g t tl (.ok l)) (hm : m ≤ l.length) :
    Calls Tryd.prog 35 #[.pointer (some ⟨g, 0, none⟩), .int .i64 m] w (FailPost g t tl (.ok (l.drop m)) w) := by
  obtain ⟨A, c, r, h1, hr, hlc, hcm, hlm, hre, hlt, htm⟩ := h
  obtain ⟨hc0, hc1, hc2, hf0, hf1, hf2⟩ := own_cells3 h1
  obtain ⟨A', c', hE, hc', hX⟩ := cutB_l A l.length c (m : Int) m (l.length - m) rfl rfl hm hlc
  have hw : IntKind.i64.wrap (r + m) = r + m := by rw [IntKind.wrap_i64]; omega
  have HH := Lib.hid (And.intro h1 (And.intro (hX _ _ _ hlc hr) (And.intro hlc (And.intro hcm (And.intro hlm (And.intro hre (And.intro hlt (And.intro htm (And.intro hm hc')))))))))
  clear h1 hr hX hlc hcm hc' hm
  generalize hmm : l.length - m = m2 at *
  generalize hq : l.length = q at *
  have HQ := Lib.hid (And.intro hq hmm)
  clear hq hmm hre hlt hlm
  go_enter Tryd.func35, Tryd.ntmps35
  go_wp2
  go_end0
  obtain ⟨p1, p2, p3, p4, p5, p6, p7, p8, p9, p10⟩ := HH.out
  obtain ⟨q1, q2⟩ := HQ.out
  have hd : (l.drop m).length = m2 := by rw [List.length_drop]; omega
  refine ⟨⟨_, rfl⟩, ⟨A', c', r + m, ?_, (p2.chg (chgSet _ g _ _) (fun k _ hk e => by omega)).chg (chgSet _ g _ _) (fun k _ hk e => by omega), by omega, by omega, by omega, by omega, by omega, p8⟩, (chgSet _ _ _ _).trans (chgSet _ _ _ _) fun k _ e => e⟩
  rw [hd]
  exact (p1.set 0 _).set 1 _

theorem rskip_dead (g : Nat) (t : TypeId) (tl : RTl) (e0 : Int) (w : World) (h : RdrAt w g t tl (.error e0)) :
    Calls Tryd.prog 35 #[.pointer (some ⟨g, 0, none⟩), .int .i64 0] w (FailPost g t tl (.error e0) w) := by
  obtain ⟨h1, he, he2⟩ := h
  obtain ⟨hc0, hc1, hc2, hf0, hf1, hf2⟩ := own_cells3 h1
  have H1 := Lib.hid h1
  clear h1
  go_enter Tryd.func35, Tryd.ntmps35
  go_wp2
  go_end0
  exact ⟨⟨_, rfl⟩, ⟨(H1.out.set 0 _).set 1 _, he, he2⟩, (chgSet _ _ _ _).trans (chgSet _ _ _ _) fun k _ e => e⟩

/-- How many bytes were read. -/
def readS (n : Nat) (s : St) : Int := match s with
  | .error _ => 0
  | .ok l => (n : Int) - l.length
def errS (s : St) : Int := match s with
  | .error e => e
  | .ok _ => 0
theorem rend_any (g : Nat) (t : TypeId) (tl : RTl) (s : St) (w : World) (h : RdrAt w g t tl s) :
    Calls Tryd.prog 18 #[.pointer (some ⟨g, 0, none⟩)] w fun e w' => e = .returned (.int .i64 (endS s)) ∧ Chg (fun k => k = g) w w' := by
  have HL := Lib.hid (rleft_any g t tl s w h)
  have HF := Lib.hid (rfail_any g t tl s 2 w h (by omega) (by omega))
  have HH := Lib.hid h
  clear h
  go_enter Tryd.func18, Tryd.ntmps18
  go_wp2_with fail
  refine HL.out.mono ?_
  rintro e w' ⟨rfl, rfl⟩
  clear HL
  rcases s with e | (_ | ⟨x, l⟩)
  · obtain ⟨h1, he, he2⟩ := HH.out
    obtain ⟨hc0, hc1, hc2, hf0, hf1, hf2⟩ := own_cells3 h1
    clear h1
    simp only [lenS]
    go_wp2
    go_ret
    exact ⟨rfl, Chg.refl _ _⟩
  · obtain ⟨A, c, r, h1, -⟩ := HH.out
    obtain ⟨hc0, hc1, hc2, hf0, hf1, hf2⟩ := own_cells3 h1
    clear h1
    simp only [lenS, List.length_nil]
    go_wp2
    go_ret
    exact ⟨rfl, Chg.refl _ _⟩
  · have hp : (0 : Int) < ((x :: l).length : Nat) := by simp
    simp only [lenS]
    generalize (x :: l).length = q at *
    go_wp2_with fail
    refine HF.out.mono ?_
    rintro e w' ⟨⟨u, rfl⟩, h2, hc⟩
    obtain ⟨h1, -, -⟩ := h2
    obtain ⟨hc0, hc1, hc2, hf0, hf1, hf2⟩ := own_cells3 h1
    have HC := Lib.hid hc
    clear h1 hc
    go_wp2
    go_ret
    exact ⟨rfl, HC.out⟩

/-- A number that was read. -/
def RPost (K : IntKind) (hi : Int) (p : PR Int) (g : Nat) (t : TypeId) (tl : RTl) (s : St) (w : World) (e : Ending) (w' : World) : Prop :=
  ∃ x, e = .returned (.int K x) ∧ 0 ≤ x ∧ x ≤ hi ∧ RdrAt w' g t tl (nx p s) ∧ (∀ a l', bd s p = .ok (a, l') → x = a) ∧ Chg (fun k => k = g) w w'

set_option maxHeartbeats 1000000 in
theorem rbyte_any (g : Nat) (t : TypeId) (tl : RTl) (s : St) (w : World) (h : RdrAt w g t tl s) :
    Calls Tryd.prog 36 #[.pointer (some ⟨g, 0, none⟩)] w (RPost .u8 255 pByte g t tl s w) := by
  have HL := Lib.hid (rleft_any g t tl s w h)
  have HF := Lib.hid (rfail_any g t tl s 3 w h (by omega) (by omega))
  have HH := Lib.hid h
  clear h
  go_enter Tryd.func36, Tryd.ntmps36
  go_wp2_with fail
  refine HL.out.mono ?_
  rintro e w' ⟨rfl, rfl⟩
  clear HL
  rcases s with e | (_ | ⟨x, l⟩)
  · simp only [lenS]
    go_wp2_with fail
    refine HF.out.mono ?_
    rintro e w' ⟨⟨u, rfl⟩, h2, hc⟩
    have HC := Lib.hid (And.intro h2 hc)
    clear h2 hc
    go_wp2
    go_ret
    exact ⟨0, rfl, by omega, by omega, HC.out.1, (fun a l' h => by cases h), HC.out.2⟩
  · simp only [lenS, List.length_nil]
    go_wp2_with fail
    refine HF.out.mono ?_
    rintro e w' ⟨⟨u, rfl⟩, h2, hc⟩
    have HC := Lib.hid (And.intro h2 hc)
    clear h2 hc
    go_wp2
    go_ret
    exact ⟨0, rfl, by omega, by omega, HC.out.1, (fun a l' h => by cases h), HC.out.2⟩
  · have HS := Lib.hid (rskip_any g t tl (x :: l) 1 w HH.out (by simp))
    obtain ⟨A, c, r, h1, hr, hlc, hcm, hlm, -⟩ := HH.out
    obtain ⟨hc0, hc1, hc2, hf0, hf1, hf2⟩ := own_cells3 h1
    obtain ⟨b, o, rfl, hb, hb2, hcell⟩ := hr.2.spot (by simp)
    have hx0 := hcell 0 (.int .u8 x) (by simp)
    rw [Nat.add_zero] at hx0
    have hq0 : (((x :: l).length : Nat) : Int) = 0 ↔ False := by simp; omega
    have hqp : 0 < (x :: l).length := by simp
    have hxb := hr.1 x (by simp)
    clear hcell hr h1 hlc hcm
    simp only [lenS]
    generalize (x :: l).length = q at *
    go_wp2_with fail
    refine HS.out.mono ?_
    rintro e w' ⟨⟨u, rfl⟩, h2, hc⟩
    have HC := Lib.hid (And.intro h2 hc)
    clear h2 hc
    go_wp2
    go_ret
    refine ⟨x, rfl, by omega, by omega, HC.out.1, (fun a l' h => ?_), HC.out.2⟩
    simp [pByte] at h; exact h.1

set_option maxHeartbeats 1000000 in
theorem rnum32_any (g : Nat) (t : TypeId) (tl : RTl) (s : St) (w : World) (h : RdrAt w g t tl s) :
    Calls Tryd.prog 43 #[.pointer (some ⟨g, 0, none⟩), .func (.func 44) #[] #[]] w (RPost .u32 4294967295 (pU 32) g t tl s w) := by
  rcases s with e | l
  · have HF := Lib.hid (rfail_any g t tl _ 3 w h (by omega) (by omega))
    obtain ⟨h1, he, he2⟩ := h
    obtain ⟨hc0, hc1, hc2, hf0, hf1, hf2⟩ := own_cells3 h1
    have HU := Lib.hid (U32_any none [] 0 0 w (Rd.nil _ _ _) rfl (by decide))
    clear h1
    go_enter Tryd.func43, Tryd.ntmps43
    go_wp2_with fail
    refine HU.out.mono ?_
    rintro e w' ⟨rfl, rfl⟩
    simp only [three, rdU, dec, on1]
    go_wp2_with fail
    refine HF.out.mono ?_
    rintro e w' ⟨⟨u, rfl⟩, h2, hc⟩
    have HC := Lib.hid (And.intro h2 hc)
    clear h2 hc
    go_wp2
    go_ret
    exact ⟨0, rfl, by omega, by omega, HC.out.1, (fun a l' h => by cases h), HC.out.2⟩
  · have HF := Lib.hid (fun x hx hx2 => rfail_any g t tl _ x w h hx hx2)
    have HH := Lib.hid h
    obtain ⟨A, c, r, h1, hr, hlc, hcm, hlm, -⟩ := h
    obtain ⟨hc0, hc1, hc2, hf0, hf1, hf2⟩ := own_cells3 h1
    have HU := Lib.hid (U32_any A l l.length c w hr.rd rfl (by unfold maxLen; omega))
    have bad : ∀ x, rdU 32 l = (0, 0, x) → 0 < x → x ≤ 100 → (x == 0) = false → Calls Tryd.prog 43 #[.pointer (some ⟨g, 0, none⟩), .func (.func 44) #[] #[]] w (RPost .u32 4294967295 (pU 32) g t tl (.ok l) w) := by
      intro x hd hx hx2 hx3
      have HD := Lib.hid hd
      have HP := Lib.hid (pU_no hd (by omega))
      clear h1 hr hd hlc hcm hlm
      generalize l.length = q at *
      go_enter Tryd.func43, Tryd.ntmps43
      go_wp2_with fail
      refine HU.out.mono ?_
      rw [HD.out]
      simp only [three, on1]
      rintro e w' ⟨rfl, rfl⟩
      go_wp2_with fail
      refine (HF.out x hx hx2).mono ?_
      rintro e w' ⟨⟨u, rfl⟩, h2, hc⟩
      have HC := Lib.hid (And.intro h2 hc)
      clear h2 hc
      go_wp2
      go_ret
      refine ⟨0, rfl, by omega, by omega, ?_, (fun a l' h => ?_), HC.out.2⟩
      · rw [nx_ok, HP.out]; exact HC.out.1
      · rw [bd_ok, HP.out] at h; cases h
    rcases rdU_cases 32 (by omega) (by omega) l with hd | hd | ⟨u, m, hd, hu0, hu1, hm1, hm2, hm3⟩
    · exact bad 3 hd (by omega) (by omega) rfl
    · exact bad 2 hd (by omega) (by omega) rfl
    · have HS := Lib.hid (rskip_any g t tl l m w HH.out hm3)
      have HD := Lib.hid hd
      have HP := Lib.hid (pU_ok hd)
      clear h1 hr hd hlc hcm bad hm3
      generalize l.length = q at *
      go_enter Tryd.func43, Tryd.ntmps43
      go_wp2_with fail
      refine HU.out.mono ?_
      rw [HD.out]
      simp only [three, on1]
      rintro e w' ⟨rfl, rfl⟩
      go_wp2_with fail
      refine HS.out.mono ?_
      rintro e w' ⟨⟨u2, rfl⟩, h2, hc⟩
      have HC := Lib.hid (And.intro h2 hc)
      clear h2 hc
      go_wp2
      go_ret
      refine ⟨IntKind.u32.wrap u, rfl, by rw [IntKind.wrap_u32]; omega, by rw [IntKind.wrap_u32]; omega, ?_, (fun a l' h => ?_), HC.out.2⟩
      · rw [nx_ok, HP.out]; simpa using HC.out.1
      · rw [bd_ok, HP.out] at h; injection h with h; injection h

theorem rU32_any (g : Nat) (t : TypeId) (tl : RTl) (s : St) (w : World) (h : RdrAt w g t tl s) :
    Calls Tryd.prog 38 #[.pointer (some ⟨g, 0, none⟩)] w (RPost .u32 4294967295 (pU 32) g t tl s w) := by
  have HN := Lib.hid (rnum32_any g t tl s w h)
  clear h
  go_enter Tryd.func38, Tryd.ntmps38
  go_wp2_with fail
  refine HN.out.mono ?_
  rintro e w' ⟨x, rfl, h0, h1, h2⟩
  have H2 := Lib.hid h2
  clear h2
  go_wp2
  go_ret
  exact ⟨x, rfl, h0, h1, H2.out⟩

/-- Bytes that were read, into new memory. -/
def BPost (p : PR (List Int)) (g : Nat) (t : TypeId) (tl : RTl) (s : St) (w : World) (e : Ending) (w' : World) : Prop :=
  ∃ v y, e = .returned v ∧ OwnB w' w.heap.size v y ∧ IsBytes y ∧ RdrAt w' g t tl (nx p s) ∧ (∀ a l', bd s p = .ok (a, l') → y = a) ∧ Chg (fun k => k = g) w w' ∧ y.length ≤ 1000000

set_option maxHeartbeats 1000000 in
theorem rbytes_any (g : Nat) (t : TypeId) (tl : RTl) (s : St) (n : Nat) (w : World) (h : RdrAt w g t tl s) (hn : n ≤ 1000000) :
    Calls Tryd.prog 26 #[.pointer (some ⟨g, 0, none⟩), .int .i64 n] w (BPost (pBytes n) g t tl s w) := by
  have HL := Lib.hid (rleft_any g t tl s w h)
  have HF := Lib.hid (rfail_any g t tl s 3 w h (by omega) (by omega))
  have HH := Lib.hid h
  have hn0 : ¬ (n : Int) < 0 := by omega
  clear h
  by_cases hs : (lenS s : Int) < n
  · go_enter Tryd.func26, Tryd.ntmps26
    go_wp2_with (go_at_call 16; refine HL.out.mono ?_; rintro e w' ⟨rfl, rfl⟩; clear HL)
    refine HF.out.mono ?_
    rintro e w2 ⟨⟨u, rfl⟩, h2, hc⟩
    have HC := Lib.hid (And.intro h2 hc)
    clear h2 hc
    go_wp2
    go_ret
    have key : nx (pBytes n) s = failS 3 s ∧ ∀ a l', bd s (pBytes n) ≠ .ok (a, l') := by
      cases s with
      | error e => exact ⟨rfl, fun a l' h => by cases h⟩
      | ok l =>
        simp only [lenS] at hs
        have : ¬ n ≤ l.length := by omega
        simp [nx_ok, pBytes, this, failS]
    exact ⟨_, [], rfl, OwnB.nil _ _, IsBytes.nil, by rw [key.1]; exact HC.out.1, (fun a l' h => (key.2 a l' h).elim), HC.out.2, by simp⟩
  · cases s with
    | error e =>
      simp only [lenS] at hs HL
      obtain rfl : n = 0 := by omega
      obtain ⟨h1, he, he2⟩ := HH.out
      obtain ⟨hc0, hc1, hc2, hf0, hf1, hf2⟩ := own_cells3 h1
      have HC := Lib.hid (clone_any none [] 0 0 w (Rd.nil _ _ _) rfl (by omega) (by simp))
      have H1 := Lib.hid h1
      clear h1
      go_enter Tryd.func26, Tryd.ntmps26
      go_wp2_with (go_at_call 16; refine HL.out.mono ?_; rintro e w' ⟨rfl, rfl⟩; clear HL)
      refine HC.out.mono ?_
      rintro e w' ⟨v, rfl, ho, hb⟩
      have HS := Lib.hid (rskip_dead g t tl _ w' (HH.out.later hb))
      obtain ⟨A1, c1, rfl, -, -, -⟩ := ho.rdX IsBytes.nil
      have HO := Lib.hid (And.intro ho hb)
      clear ho hb hc0 hc1 hc2 hf0 hf1 hf2
      go_wp2_with fail
      refine HS.out.mono ?_
      rintro e w2 ⟨⟨u, rfl⟩, h2, hc⟩
      have HD := Lib.hid (And.intro h2 hc)
      clear h2 hc
      go_wp2
      go_ret
      exact ⟨_, [], rfl, OwnB.chg HO.out.1 HD.out.2 fun k hk e => by have := owns_ge HO.out.1 hk; have := H1.out.lt; omega, IsBytes.nil, HD.out.1, (fun a l' h => by cases h), ((Chg.of_below HO.out.2).trans HD.out.2 fun k _ e => e), by simp⟩
    | ok l =>
      simp only [lenS] at hs HL
      have hnl : n ≤ l.length := by omega
      obtain ⟨A, c, r, h1, hr, hlc, hcm, hlm, -⟩ := HH.out
      obtain ⟨hc0, hc1, hc2, hf0, hf1, hf2⟩ := own_cells3 h1
      obtain ⟨A2, c2, hE2, hc3, hX2⟩ := cutB_h A l.length c (n : Int) n rfl (by omega)
      have hb2 := hX2 _ _ _ hlc hr
      have HC := Lib.hid (clone_any A2 (l.take n) n c2 w hb2.rd (by simp; omega) (by omega))
      have HB := Lib.hid (And.intro (IsBytes.take hr.1 n) (And.intro hnl hlm))
      have H1 := Lib.hid h1
      have HNL := Lib.hid hnl
      clear h1 hr hX2 hb2 hlc hcm hc3 hnl
      generalize hq : l.length = q at *
      have HQ := Lib.hid hq
      clear hq
      go_enter Tryd.func26, Tryd.ntmps26
      go_wp2_with (go_at_call 16; refine HL.out.mono ?_; rintro e w' ⟨rfl, rfl⟩; clear HL)
      refine HC.out.mono ?_
      rintro e w' ⟨v, rfl, ho, hb⟩
      have HS := Lib.hid (rskip_any g t tl l n w' (HH.out.later hb) (by have := HQ.out; have := HNL.out; omega))
      obtain ⟨A1, c1, rfl, -, -, -⟩ := ho.rdX HB.out.1
      have HO := Lib.hid (And.intro ho hb)
      clear ho hb hc0 hc1 hc2 hf0 hf1 hf2
      generalize (List.take n l).length = qq at *
      go_wp2_with fail
      refine HS.out.mono ?_
      rintro e w2 ⟨⟨u, rfl⟩, h2, hc⟩
      have HD := Lib.hid (And.intro h2 hc)
      clear h2 hc
      go_wp2
      go_ret
      have key : pBytes n l = .ok (l.take n, l.drop n) := by unfold pBytes; rw [if_pos (by have := HQ.out; have := HNL.out; omega)]
      refine ⟨_, l.take n, rfl, OwnB.chg HO.out.1 HD.out.2 fun k hk e => ?_, HB.out.1, ?_, (fun a l' h => ?_), ((Chg.of_below HO.out.2).trans HD.out.2 fun k _ e => e), ?_⟩
      · have := owns_ge HO.out.1 hk; have := H1.out.lt; omega
      · rw [nx_ok, key]; exact HD.out.1
      · rw [bd_ok, key] at h; injection h with h; injection h
      · have := HB.out.2.2; have := HQ.out; simp; omega
end Go.Proofs.YtgbjlcedabkdkaaDoor
