/- Texts joined: Reader, Nums, ReqSrc. -/
import Derived.Test.YtadgiekiiicmfaaGreatDoorJoin2
import Derived.Test.YtadgiekiiicmfaaGreatDoorJoin3
import Derived.Handy
import Derived.Lib.AppendStr
import Derived.Lib.LazyBuf
import Derived.StillTailTactics
import Derived.Deep.RegionWith
/- Package reader: what its calls come to. -/
namespace Go.Proofs.YtadgiekiiicmfaaGreatDoor
open Go.RowKit
set_option maxRecDepth 100000
set_option linter.unusedVariables false

/-- How many bytes there were, and what stands behind the Reader. -/
abbrev RTl := Nat × List Value
/-- A Reader at the front of block g: what it has still to read, or what it met. -/
def RdrAt (w : World) (g : Nat) (t : TypeId) (tl : RTl) (s : St) : Prop := match s with
  | .ok l => ∃ A c r, Own w g t (.slice A l.length c :: .int .i64 r :: .int .i64 0 :: tl.2) ∧ RdX (· < g) w A l ∧ l.length ≤ c ∧ c ≤ maxLen ∧ l.length ≤ 1000000 ∧ r = (tl.1 : Int) - l.length ∧ l.length ≤ tl.1 ∧ tl.1 ≤ 1000000
  | .error e => Own w g t (.slice none 0 0 :: .int .i64 0 :: .int .i64 e :: tl.2) ∧ 0 < e ∧ e ≤ 100
theorem RdrAt.chg {S : Nat → Prop} {w w' : World} {g : Nat} {t : TypeId} {tl : RTl} {s : St} (h : RdrAt w g t tl s) (hc : Chg S w w') (hs : ∀ k, k ≤ g → ¬ S k) : RdrAt w' g t tl s := by
  cases s with
  | ok l => obtain ⟨A, c, r, h1, h2, h5⟩ := h; exact ⟨A, c, r, h1.chg hc (hs g (Nat.le_refl _)), h2.chg hc fun k _ hk => hs k (by omega), h5⟩
  | error e => exact ⟨h.1.chg hc (hs g (Nat.le_refl _)), h.2⟩
theorem RdrAt.later {w w' : World} {g : Nat} {t : TypeId} {tl : RTl} {s : St} (h : RdrAt w g t tl s) (hc : Below w.heap.size w w') : RdrAt w' g t tl s := h.chg (S := fun _ => False) (Chg.of_below hc) fun _ _ => id
theorem RdrAt.lt {w : World} {g : Nat} {t : TypeId} {tl : RTl} {s : St} (h : RdrAt w g t tl s) : g < w.heap.size := by
  cases s with
  | ok l => obtain ⟨A, c, r, h1, _⟩ := h; exact h1.lt
  | error e => exact h.1.lt

theorem chgSet (w : World) (g i : Nat) (u : Value) : Chg (fun k => k = g) w (w.setCell ⟨g, i, none⟩ u) := Chg.setCell w ⟨g, i, none⟩ u
theorem own_cells2 {w : World} {g : Nat} {t : TypeId} {a b : Value} {tl : List Value} (h : Own w g t (a :: b :: tl)) : w.cell? ⟨g, 0, none⟩ = some a ∧ w.cell? ⟨g, 1, none⟩ = some b ∧ w.frozen? ⟨g, 0, none⟩ = false ∧ w.frozen? ⟨g, 1, none⟩ = false :=
  ⟨h.cell 0, h.cell 1, h.frozen 0, h.frozen 1⟩
theorem own_cells3 {w : World} {g : Nat} {t : TypeId} {a b c : Value} {tl : List Value} (h : Own w g t (a :: b :: c :: tl)) : w.cell? ⟨g, 0, none⟩ = some a ∧ w.cell? ⟨g, 1, none⟩ = some b ∧ w.cell? ⟨g, 2, none⟩ = some c ∧ w.frozen? ⟨g, 0, none⟩ = false ∧ w.frozen? ⟨g, 1, none⟩ = false ∧ w.frozen? ⟨g, 2, none⟩ = false :=
  ⟨h.cell 0, h.cell 1, h.cell 2, h.frozen 0, h.frozen 1, h.frozen 2⟩

theorem rleft_any (g : Nat) (t : TypeId) (tl : RTl) (s : St) (w : World) (h : RdrAt w g t tl s) :
    Calls Tryz.prog 61 #[.pointer (some ⟨g, 0, none⟩)] w fun e w' => e = .returned (.int .i64 (lenS s)) ∧ w = w' := by
  cases s with
  | ok l =>
    obtain ⟨A, c, r, h1, -⟩ := h
    obtain ⟨hc0, hc1, hc2, hf0, hf1, hf2⟩ := own_cells3 h1
    clear h1
    simp only [lenS]
    generalize l.length = q at *
    go_enter Tryz.func61, Tryz.ntmps61
    go_wp2
    go_ret
    exact ⟨rfl, rfl⟩
  | error e =>
    obtain ⟨hc0, hc1, hc2, hf0, hf1, hf2⟩ := own_cells3 h.1
    clear h
    go_enter Tryz.func61, Tryz.ntmps61
    go_wp2
    go_ret
    exact ⟨rfl, rfl⟩

def FailPost (g : Nat) (t : TypeId) (tl : RTl) (s : St) (w : World) (e : Ending) (w' : World) : Prop := (∃ u, e = .returned u) ∧ RdrAt w' g t tl s ∧ Chg (fun k => k = g) w w'
theorem rfail_any (g : Nat) (t : TypeId) (tl : RTl) (s : St) (x : Int) (w : World) (h : RdrAt w g t tl s) (hx : 0 < x) (hx2 : x ≤ 100) :
    Calls Tryz.prog 112 #[.pointer (some ⟨g, 0, none⟩), .int .i64 x] w (FailPost g t tl (failS x s) w) := by
  cases s with
  | ok l =>
    obtain ⟨A, c, r, h1, -⟩ := h
    obtain ⟨hc0, hc1, hc2, hf0, hf1, hf2⟩ := own_cells3 h1
    have H1 := Lib.hid h1
    clear h1
    generalize l.length = q at *
    go_enter Tryz.func112, Tryz.ntmps112
    go_wp2
    go_end0
    refine ⟨⟨_, rfl⟩, ⟨((H1.out.set 0 _).set 1 _).set 2 _, hx, hx2⟩, ((chgSet _ _ _ _).trans (chgSet _ _ _ _) fun k _ e => e).trans (chgSet _ _ _ _) fun k _ e => e⟩
  | error e =>
    obtain ⟨h1, he, he2⟩ := h
    obtain ⟨hc0, hc1, hc2, hf0, hf1, hf2⟩ := own_cells3 h1
    have H1 := Lib.hid h1
    clear h1
    have hne : (e == 0) = false := by simp; omega
    go_enter Tryz.func112, Tryz.ntmps112
    go_wp2
    go_end0
    exact ⟨⟨_, rfl⟩, ⟨H1.out, he, he2⟩, Chg.refl _ _⟩

theorem rskip_any (g : Nat) (t : TypeId) (tl : RTl) (l : List Int) (m : Nat) (w : World) (h : RdrAt w g t tl (.ok l)) (hm : m ≤ l.length) :
    Calls Tryz.prog 153 #[.pointer (some ⟨g, 0, none⟩), .int .i64 m] w (FailPost g t tl (.ok (l.drop m)) w) := by
  obtain ⟨A, c, r, h1, hr, hlc, hcm, hlm, hre, hlt, htm⟩ := h
  obtain ⟨hc0, hc1, hc2, hf0, hf1, hf2⟩ := own_cells3 h1
  obtain ⟨A', c', hE, hc', hX⟩ := cutB_l A l.length c (m : Int) m (l.length - m) rfl rfl hm hlc
  have hw : IntKind.i64.wrap (r + m) = r + m := by rw [IntKind.wrap_i64]; omega
  have HH := Lib.hid (And.intro h1 (And.intro (hX _ _ _ hlc hr) (And.intro hlc (And.intro hcm (And.intro hlm (And.intro hre (And.intro hlt (And.intro htm (And.intro hm hc')))))))))
  clear h1 hr hX hlc hcm hc' hm
  generalize hmm : l.length - m = m2 at *
  generalize hq : l.length = q at *
  have HQ := Lib.hid (And.intro hq hmm)
  clear hq hmm hre hlt hlm
  go_enter Tryz.func153, Tryz.ntmps153
  go_wp2
  go_end0
  obtain ⟨p1, p2, p3, p4, p5, p6, p7, p8, p9, p10⟩ := HH.out
  obtain ⟨q1, q2⟩ := HQ.out
  have hd : (l.drop m).length = m2 := by rw [List.length_drop]; omega
  refine ⟨⟨_, rfl⟩, ⟨A', c', r + m, ?_, (p2.chg (chgSet _ g _ _) (fun k _ hk e => by omega)).chg (chgSet _ g _ _) (fun k _ hk e => by omega), by omega, by omega, by omega, by omega, by omega, p8⟩, (chgSet _ _ _ _).trans (chgSet _ _ _ _) fun k _ e => e⟩
  rw [hd]
  exact (p1.set 0 _).set 1 _

theorem rskip_dead (g : Nat) (t : TypeId) (tl : RTl) (e0 : Int) (w : World) (h : RdrAt w g t tl (.error e0)) :
    Calls Tryz.prog 153 #[.pointer (some ⟨g, 0, none⟩), .int .i64 0] w (FailPost g t tl (.error e0) w) := by
  obtain ⟨h1, he, he2⟩ := h
  obtain ⟨hc0, hc1, hc2, hf0, hf1, hf2⟩ := own_cells3 h1
  have H1 := Lib.hid h1
  clear h1
  go_enter Tryz.func153, Tryz.ntmps153
  go_wp2
  go_end0
  exact ⟨⟨_, rfl⟩, ⟨(H1.out.set 0 _).set 1 _, he, he2⟩, (chgSet _ _ _ _).trans (chgSet _ _ _ _) fun k _ e => e⟩

/-- How many bytes were read. -/
def readS (n : Nat) (s : St) : Int := match s with
  | .error _ => 0
  | .ok l => (n : Int) - l.length
def errS (s : St) : Int := match s with
  | .error e => e
  | .ok _ => 0
theorem rstop_any (g : Nat) (t : TypeId) (tl : RTl) (s : St) (w : World) (h : RdrAt w g t tl s) :
    Calls Tryz.prog 159 #[.pointer (some ⟨g, 0, none⟩)] w fun e w' => e = .returned (.tuple #[.int .i64 (readS tl.1 s), .int .i64 (errS s)]) ∧ Below w.heap.size w w' := by
  cases s with
  | ok l =>
    obtain ⟨A, c, r, h1, -, -, -, -, hr, -⟩ := h
    obtain ⟨hc0, hc1, hc2, hf0, hf1, hf2⟩ := own_cells3 h1
    clear h1
    simp only [readS, errS]
    rw [← hr]
    clear hr
    go_enter Tryz.func159, Tryz.ntmps159
    go_wp2
    go_region
    go_wp2
    go_returns
    exact ⟨rfl, (Below.refl _ _).drew⟩
  | error e =>
    obtain ⟨hc0, hc1, hc2, hf0, hf1, hf2⟩ := own_cells3 h.1
    clear h
    simp only [readS, errS]
    go_enter Tryz.func159, Tryz.ntmps159
    go_wp2
    go_region
    go_wp2
    go_returns
    exact ⟨rfl, (Below.refl _ _).drew⟩

theorem rend_any (g : Nat) (t : TypeId) (tl : RTl) (s : St) (w : World) (h : RdrAt w g t tl s) :
    Calls Tryz.prog 63 #[.pointer (some ⟨g, 0, none⟩)] w fun e w' => e = .returned (.int .i64 (endS s)) ∧ Chg (fun k => k = g) w w' := by
  have HL := Lib.hid (rleft_any g t tl s w h)
  have HF := Lib.hid (rfail_any g t tl s 2 w h (by omega) (by omega))
  have HH := Lib.hid h
  clear h
  go_enter Tryz.func63, Tryz.ntmps63
  go_wp2_with fail
  refine HL.out.mono ?_
  rintro e w' ⟨rfl, rfl⟩
  clear HL
  rcases s with e | (_ | ⟨x, l⟩)
  · obtain ⟨h1, he, he2⟩ := HH.out
    obtain ⟨hc0, hc1, hc2, hf0, hf1, hf2⟩ := own_cells3 h1
    clear h1
    simp only [lenS]
    go_wp2
    go_ret
    exact ⟨rfl, Chg.refl _ _⟩
  · obtain ⟨A, c, r, h1, -⟩ := HH.out
    obtain ⟨hc0, hc1, hc2, hf0, hf1, hf2⟩ := own_cells3 h1
    clear h1
    simp only [lenS, List.length_nil]
    go_wp2
    go_ret
    exact ⟨rfl, Chg.refl _ _⟩
  · have hp : (0 : Int) < ((x :: l).length : Nat) := by simp
    simp only [lenS]
    generalize (x :: l).length = q at *
    go_wp2_with fail
    refine HF.out.mono ?_
    rintro e w' ⟨⟨u, rfl⟩, h2, hc⟩
    obtain ⟨h1, -, -⟩ := h2
    obtain ⟨hc0, hc1, hc2, hf0, hf1, hf2⟩ := own_cells3 h1
    have HC := Lib.hid hc
    clear h1 hc
    go_wp2
    go_ret
    exact ⟨rfl, HC.out⟩

/-- A number that was read. -/
def RPost (K : IntKind) (hi : Int) (p : PR Int) (g : Nat) (t : TypeId) (tl : RTl) (s : St) (w : World) (e : Ending) (w' : World) : Prop :=
  ∃ x, e = .returned (.int K x) ∧ 0 ≤ x ∧ x ≤ hi ∧ RdrAt w' g t tl (nx p s) ∧ (∀ a l', bd s p = .ok (a, l') → x = a) ∧ Chg (fun k => k = g) w w'

set_option maxHeartbeats 1000000 in
theorem rbyte_any (g : Nat) (t : TypeId) (tl : RTl) (s : St) (w : World) (h : RdrAt w g t tl s) :
    Calls Tryz.prog 126 #[.pointer (some ⟨g, 0, none⟩)] w (RPost .u8 255 pByte g t tl s w) := by
  have HL := Lib.hid (rleft_any g t tl s w h)
  have HF := Lib.hid (rfail_any g t tl s 3 w h (by omega) (by omega))
  have HH := Lib.hid h
  clear h
  go_enter Tryz.func126, Tryz.ntmps126
  go_wp2_with fail
  refine HL.out.mono ?_
  rintro e w' ⟨rfl, rfl⟩
  clear HL
  rcases s with e | (_ | ⟨x, l⟩)
  · simp only [lenS]
    go_wp2_with fail
    refine HF.out.mono ?_
    rintro e w' ⟨⟨u, rfl⟩, h2, hc⟩
    have HC := Lib.hid (And.intro h2 hc)
    clear h2 hc
    go_wp2
    go_ret
    exact ⟨0, rfl, by omega, by omega, HC.out.1, (fun a l' h => by cases h), HC.out.2⟩
  · simp only [lenS, List.length_nil]
    go_wp2_with fail
    refine HF.out.mono ?_
    rintro e w' ⟨⟨u, rfl⟩, h2, hc⟩
    have HC := Lib.hid (And.intro h2 hc)
    clear h2 hc
    go_wp2
    go_ret
    exact ⟨0, rfl, by omega, by omega, HC.out.1, (fun a l' h => by cases h), HC.out.2⟩
  · have HS := Lib.hid (rskip_any g t tl (x :: l) 1 w HH.out (by simp))
    obtain ⟨A, c, r, h1, hr, hlc, hcm, hlm, -⟩ := HH.out
    obtain ⟨hc0, hc1, hc2, hf0, hf1, hf2⟩ := own_cells3 h1
    obtain ⟨b, o, rfl, hb, hb2, hcell⟩ := hr.2.spot (by simp)
    have hx0 := hcell 0 (.int .u8 x) (by simp)
    rw [Nat.add_zero] at hx0
    have hq0 : (((x :: l).length : Nat) : Int) = 0 ↔ False := by simp; omega
    have hqp : 0 < (x :: l).length := by simp
    have hxb := hr.1 x (by simp)
    clear hcell hr h1 hlc hcm
    simp only [lenS]
    generalize (x :: l).length = q at *
    go_wp2_with fail
    refine HS.out.mono ?_
    rintro e w' ⟨⟨u, rfl⟩, h2, hc⟩
    have HC := Lib.hid (And.intro h2 hc)
    clear h2 hc
    go_wp2
    go_ret
    refine ⟨x, rfl, by omega, by omega, HC.out.1, (fun a l' h => ?_), HC.out.2⟩
    simp [pByte] at h; exact h.1

set_option maxHeartbeats 1000000 in
theorem rnum32_any (g : Nat) (t : TypeId) (tl : RTl) (s : St) (w : World) (h : RdrAt w g t tl s) :
    Calls Tryz.prog 119 #[.pointer (some ⟨g, 0, none⟩), .func (.func 120) #[] #[]] w (RPost .u32 4294967295 (pU 32) g t tl s w) := by
  rcases s with e | l
  · have HF := Lib.hid (rfail_any g t tl _ 3 w h (by omega) (by omega))
    obtain ⟨h1, he, he2⟩ := h
    obtain ⟨hc0, hc1, hc2, hf0, hf1, hf2⟩ := own_cells3 h1
    have HU := Lib.hid (U32_any none [] 0 0 w (Rd.nil _ _ _) rfl (by decide))
    clear h1
    go_enter Tryz.func119, Tryz.ntmps119
    go_wp2_with fail
    refine HU.out.mono ?_
    rintro e w' ⟨rfl, rfl⟩
    simp only [three, rdU, dec, on1]
    go_wp2_with fail
    refine HF.out.mono ?_
    rintro e w' ⟨⟨u, rfl⟩, h2, hc⟩
    have HC := Lib.hid (And.intro h2 hc)
    clear h2 hc
    go_wp2
    go_ret
    exact ⟨0, rfl, by omega, by omega, HC.out.1, (fun a l' h => by cases h), HC.out.2⟩
  · have HF := Lib.hid (fun x hx hx2 => rfail_any g t tl _ x w h hx hx2)
    have HH := Lib.hid h
    obtain ⟨A, c, r, h1, hr, hlc, hcm, hlm, -⟩ := h
    obtain ⟨hc0, hc1, hc2, hf0, hf1, hf2⟩ := own_cells3 h1
    have HU := Lib.hid (U32_any A l l.length c w hr.rd rfl (by unfold maxLen; omega))
    have bad : ∀ x, rdU 32 l = (0, 0, x) → 0 < x → x ≤ 100 → (x == 0) = false → Calls Tryz.prog 119 #[.pointer (some ⟨g, 0, none⟩), .func (.func 120) #[] #[]] w (RPost .u32 4294967295 (pU 32) g t tl (.ok l) w) := by
      intro x hd hx hx2 hx3
      have HD := Lib.hid hd
      have HP := Lib.hid (pU_no hd (by omega))
      clear h1 hr hd hlc hcm hlm
      generalize l.length = q at *
      go_enter Tryz.func119, Tryz.ntmps119
      go_wp2_with fail
      refine HU.out.mono ?_
      rw [HD.out]
      simp only [three, on1]
      rintro e w' ⟨rfl, rfl⟩
      go_wp2_with fail
      refine (HF.out x hx hx2).mono ?_
      rintro e w' ⟨⟨u, rfl⟩, h2, hc⟩
      have HC := Lib.hid (And.intro h2 hc)
      clear h2 hc
      go_wp2
      go_ret
      refine ⟨0, rfl, by omega, by omega, ?_, (fun a l' h => ?_), HC.out.2⟩
      · rw [nx_ok, HP.out]; exact HC.out.1
      · rw [bd_ok, HP.out] at h; cases h
    rcases rdU_cases 32 (by omega) (by omega) l with hd | hd | ⟨u, m, hd, hu0, hu1, hm1, hm2, hm3⟩
    · exact bad 3 hd (by omega) (by omega) rfl
    · exact bad 2 hd (by omega) (by omega) rfl
    · have HS := Lib.hid (rskip_any g t tl l m w HH.out hm3)
      have HD := Lib.hid hd
      have HP := Lib.hid (pU_ok hd)
      clear h1 hr hd hlc hcm bad hm3
      generalize l.length = q at *
      go_enter Tryz.func119, Tryz.ntmps119
      go_wp2_with fail
      refine HU.out.mono ?_
      rw [HD.out]
      simp only [three, on1]
      rintro e w' ⟨rfl, rfl⟩
      go_wp2_with fail
      refine HS.out.mono ?_
      rintro e w' ⟨⟨u2, rfl⟩, h2, hc⟩
      have HC := Lib.hid (And.intro h2 hc)
      clear h2 hc
      go_wp2
      go_ret
      refine ⟨IntKind.u32.wrap u, rfl, by rw [IntKind.wrap_u32]; omega, by rw [IntKind.wrap_u32]; omega, ?_, (fun a l' h => ?_), HC.out.2⟩
      · rw [nx_ok, HP.out]; simpa using HC.out.1
      · rw [bd_ok, HP.out] at h; injection h with h; injection h

theorem rU32_any (g : Nat) (t : TypeId) (tl : RTl) (s : St) (w : World) (h : RdrAt w g t tl s) :
    Calls Tryz.prog 68 #[.pointer (some ⟨g, 0, none⟩)] w (RPost .u32 4294967295 (pU 32) g t tl s w) := by
  have HN := Lib.hid (rnum32_any g t tl s w h)
  clear h
  go_enter Tryz.func68, Tryz.ntmps68
  go_wp2_with fail
  refine HN.out.mono ?_
  rintro e w' ⟨x, rfl, h0, h1, h2⟩
  have H2 := Lib.hid h2
  clear h2
  go_wp2
  go_ret
  exact ⟨x, rfl, h0, h1, H2.out⟩

theorem rcount_any (g : Nat) (t : TypeId) (tl : RTl) (s : St) (most : Int) (w : World) (h : RdrAt w g t tl s) (hm : 0 ≤ most) (hm2 : most ≤ 100000) :
    Calls Tryz.prog 116 #[.pointer (some ⟨g, 0, none⟩), .int .u32 most] w (RPost .i64 most (pCount most) g t tl s w) := by
  have HN := Lib.hid (rU32_any g t tl s w h)
  clear h
  go_enter Tryz.func116, Tryz.ntmps116
  go_wp2_with fail
  refine HN.out.mono ?_
  rintro e w' ⟨x, rfl, h0, h1, h2, h3, h4⟩
  have H2 := Lib.hid (And.intro h2 (And.intro h3 h4))
  clear h2 h3 h4
  by_cases hx : most < x
  · have HF := Lib.hid (rfail_any g t tl _ 4 w' H2.out.1 (by omega) (by omega))
    go_wp2_with fail
    refine HF.out.mono ?_
    rintro e w2 ⟨⟨u, rfl⟩, h2, hc⟩
    have HC := Lib.hid (And.intro h2 hc)
    clear h2 hc
    go_wp2
    go_ret
    have key : nx (pCount most) s = failS 4 (nx (pU 32) s) ∧ ∀ a l', bd s (pCount most) ≠ .ok (a, l') := by
      cases s with
      | error e => exact ⟨rfl, fun a l' h => by cases h⟩
      | ok l =>
        have h3 := H2.out.2.1
        simp only [nx_ok, bd_ok, pCount, seq] at h3 ⊢
        cases hp : pU 32 l with
        | error e => simp [failS]
        | ok r =>
          have := h3 r.1 r.2 (by rw [hp])
          subst this
          simp [hx, failS]
    exact ⟨0, rfl, by omega, by omega, by rw [key.1]; exact HC.out.1, (fun a l' h => (key.2 a l' h).elim), H2.out.2.2.trans HC.out.2 fun k _ e => e⟩
  · go_wp2
    go_ret
    have key : nx (pCount most) s = nx (pU 32) s ∧ ∀ a l', bd s (pCount most) = .ok (a, l') → x = a := by
      cases s with
      | error e => exact ⟨rfl, fun a l' h => by cases h⟩
      | ok l =>
        have h3 := H2.out.2.1
        simp only [nx_ok, bd_ok, pCount, seq] at h3 ⊢
        cases hp : pU 32 l with
        | error e => simp
        | ok r =>
          have := h3 r.1 r.2 (by rw [hp])
          subst this
          rw [bd_ok, if_neg (by omega)]
          exact ⟨rfl, fun a l' h => by injection h with h; injection h⟩
    refine ⟨x, ?_, by omega, by omega, by rw [key.1]; exact H2.out.1, key.2, H2.out.2.2⟩
    rfl

/-- Bytes that were read, into new memory. -/
def BPost (p : PR (List Int)) (g : Nat) (t : TypeId) (tl : RTl) (s : St) (w : World) (e : Ending) (w' : World) : Prop :=
  ∃ v y, e = .returned v ∧ OwnB w' w.heap.size v y ∧ IsBytes y ∧ RdrAt w' g t tl (nx p s) ∧ (∀ a l', bd s p = .ok (a, l') → y = a) ∧ Chg (fun k => k = g) w w' ∧ y.length ≤ 1000000

set_option maxHeartbeats 1000000 in
theorem rbytes_any (g : Nat) (t : TypeId) (tl : RTl) (s : St) (n : Nat) (w : World) (h : RdrAt w g t tl s) (hn : n ≤ 1000000) :
    Calls Tryz.prog 111 #[.pointer (some ⟨g, 0, none⟩), .int .i64 n] w (BPost (pBytes n) g t tl s w) := by
  have HL := Lib.hid (rleft_any g t tl s w h)
  have HF := Lib.hid (rfail_any g t tl s 3 w h (by omega) (by omega))
  have HH := Lib.hid h
  have hn0 : ¬ (n : Int) < 0 := by omega
  clear h
  by_cases hs : (lenS s : Int) < n
  · go_enter Tryz.func111, Tryz.ntmps111
    go_wp2_with (go_at_call 61; refine HL.out.mono ?_; rintro e w' ⟨rfl, rfl⟩; clear HL)
    refine HF.out.mono ?_
    rintro e w2 ⟨⟨u, rfl⟩, h2, hc⟩
    have HC := Lib.hid (And.intro h2 hc)
    clear h2 hc
    go_wp2
    go_ret
    have key : nx (pBytes n) s = failS 3 s ∧ ∀ a l', bd s (pBytes n) ≠ .ok (a, l') := by
      cases s with
      | error e => exact ⟨rfl, fun a l' h => by cases h⟩
      | ok l =>
        simp only [lenS] at hs
        have : ¬ n ≤ l.length := by omega
        simp [nx_ok, pBytes, this, failS]
    exact ⟨_, [], rfl, OwnB.nil _ _, IsBytes.nil, by rw [key.1]; exact HC.out.1, (fun a l' h => (key.2 a l' h).elim), HC.out.2, by simp⟩
  · cases s with
    | error e =>
      simp only [lenS] at hs HL
      obtain rfl : n = 0 := by omega
      obtain ⟨h1, he, he2⟩ := HH.out
      obtain ⟨hc0, hc1, hc2, hf0, hf1, hf2⟩ := own_cells3 h1
      have HC := Lib.hid (clone_any none [] 0 0 w (Rd.nil _ _ _) rfl (by omega) (by simp))
      have H1 := Lib.hid h1
      clear h1
      go_enter Tryz.func111, Tryz.ntmps111
      go_wp2_with (go_at_call 61; refine HL.out.mono ?_; rintro e w' ⟨rfl, rfl⟩; clear HL)
      refine HC.out.mono ?_
      rintro e w' ⟨v, rfl, ho, hb⟩
      have HS := Lib.hid (rskip_dead g t tl _ w' (HH.out.later hb))
      obtain ⟨A1, c1, rfl, -, -, -⟩ := ho.rdX IsBytes.nil
      have HO := Lib.hid (And.intro ho hb)
      clear ho hb hc0 hc1 hc2 hf0 hf1 hf2
      go_wp2_with fail
      refine HS.out.mono ?_
      rintro e w2 ⟨⟨u, rfl⟩, h2, hc⟩
      have HD := Lib.hid (And.intro h2 hc)
      clear h2 hc
      go_wp2
      go_ret
      exact ⟨_, [], rfl, OwnB.chg HO.out.1 HD.out.2 fun k hk e => by have := owns_ge HO.out.1 hk; have := H1.out.lt; omega, IsBytes.nil, HD.out.1, (fun a l' h => by cases h), ((Chg.of_below HO.out.2).trans HD.out.2 fun k _ e => e), by simp⟩
    | ok l =>
      simp only [lenS] at hs HL
      have hnl : n ≤ l.length := by omega
      obtain ⟨A, c, r, h1, hr, hlc, hcm, hlm, -⟩ := HH.out
      obtain ⟨hc0, hc1, hc2, hf0, hf1, hf2⟩ := own_cells3 h1
      obtain ⟨A2, c2, hE2, hc3, hX2⟩ := cutB_h A l.length c (n : Int) n rfl (by omega)
      have hb2 := hX2 _ _ _ hlc hr
      have HC := Lib.hid (clone_any A2 (l.take n) n c2 w hb2.rd (by simp; omega) (by omega))
      have HB := Lib.hid (And.intro (IsBytes.take hr.1 n) (And.intro hnl hlm))
      have H1 := Lib.hid h1
      have HNL := Lib.hid hnl
      clear h1 hr hX2 hb2 hlc hcm hc3 hnl
      generalize hq : l.length = q at *
      have HQ := Lib.hid hq
      clear hq
      go_enter Tryz.func111, Tryz.ntmps111
      go_wp2_with (go_at_call 61; refine HL.out.mono ?_; rintro e w' ⟨rfl, rfl⟩; clear HL)
      refine HC.out.mono ?_
      rintro e w' ⟨v, rfl, ho, hb⟩
      have HS := Lib.hid (rskip_any g t tl l n w' (HH.out.later hb) (by have := HQ.out; have := HNL.out; omega))
      obtain ⟨A1, c1, rfl, -, -, -⟩ := ho.rdX HB.out.1
      have HO := Lib.hid (And.intro ho hb)
      clear ho hb hc0 hc1 hc2 hf0 hf1 hf2
      generalize (List.take n l).length = qq at *
      go_wp2_with fail
      refine HS.out.mono ?_
      rintro e w2 ⟨⟨u, rfl⟩, h2, hc⟩
      have HD := Lib.hid (And.intro h2 hc)
      clear h2 hc
      go_wp2
      go_ret
      have key : pBytes n l = .ok (l.take n, l.drop n) := by unfold pBytes; rw [if_pos (by have := HQ.out; have := HNL.out; omega)]
      refine ⟨_, l.take n, rfl, OwnB.chg HO.out.1 HD.out.2 fun k hk e => ?_, HB.out.1, ?_, (fun a l' h => ?_), ((Chg.of_below HO.out.2).trans HD.out.2 fun k _ e => e), ?_⟩
      · have := owns_ge HO.out.1 hk; have := H1.out.lt; omega
      · rw [nx_ok, key]; exact HD.out.1
      · rw [bd_ok, key] at h; injection h with h; injection h
      · have := HB.out.2.2; have := HQ.out; simp; omega
end Go.Proofs.YtadgiekiiicmfaaGreatDoor

/- Slices of numbers of 64 bits, and strings that are appended: what the walks lean on. No function of the program. -/
namespace Go.Proofs.YtadgiekiiicmfaaGreatDoor
open Go.RowKit
set_option maxRecDepth 100000
set_option linter.unusedVariables false

theorem under_nums : Tryz.prog.underlying 199 = some (.slice 74) := Tryz.underlying199
theorem num_info : (Tryz.prog.info? 74).map (fun i => (i.zero, i.size, i.bytes)) = some (some (.int .u64 0), 1, 8) := by kernel_rfl
theorem num_size : (Tryz.prog.info? 74).map (·.size) = some 1 := by kernel_rfl
def IsU64 (l : List Int) : Prop := ∀ z ∈ l, 0 ≤ z ∧ z < 18446744073709551616
theorem IsU64.nil : IsU64 [] := fun z hz => by simp at hz
theorem IsU64.app {a b : List Int} (ha : IsU64 a) (hb : IsU64 b) : IsU64 (a ++ b) := fun z hz => by
  rcases List.mem_append.1 hz with h | h
  · exact ha z h
  · exact hb z h
theorem IsU64.one {z : Int} (h0 : 0 ≤ z) (h1 : z < 18446744073709551616) : IsU64 [z] := fun y hy => by simp at hy; subst hy; exact ⟨h0, h1⟩
/-- A slice of numbers in a block of the call's own. -/
def OwnU (w : World) (base : Nat) (v : Value) (l : List Int) : Prop := w.ownsRow base 74 1 v l.length (l.map (Value.int .u64))
/-- Numbers that are read, in blocks of X. -/
def RdU (X : Nat → Prop) (w : World) (A : Option Addr) (l : List Int) : Prop := IsU64 l ∧ RdV X w A (l.map (Value.int .u64))
section
variable {X : Nat → Prop} {w w' : World} {A : Option Addr} {l : List Int} {B : Nat}
theorem RdU.chg {S : Nat → Prop} (h : RdU X w A l) (hc : Chg S w w') (hs : ∀ k, k < w.heap.size → X k → ¬ S k) : RdU X w' A l := ⟨h.1, h.2.chg hc hs⟩
theorem RdU.drewN (h : RdU X w A l) (n : Nat) : RdU X (w.drewN n) A l := ⟨h.1, h.2.drewN n⟩
theorem RdU.later (h : RdU X w A l) (hc : Below w.heap.size w w') : RdU X w' A l := ⟨h.1, h.2.later hc⟩
theorem RdU.mono {Y : Nat → Prop} (h : RdU X w A l) (hx : ∀ k, k < w.heap.size → X k → Y k) : RdU Y w A l := ⟨h.1, h.2.mono hx⟩
theorem RdU.nil (X : Nat → Prop) (w : World) (A : Option Addr) : RdU X w A [] := ⟨IsU64.nil, RdV.nil _ _ _⟩
theorem map_u64_get {j : Nat} (hj : j < l.length) : (l.map (Value.int .u64))[j]? = some (.int .u64 (l.getD j 0)) := by
  simp [List.getElem?_eq_getElem hj, List.getD_eq_getElem?_getD]
theorem RdU.at_ (h : RdU X w A l) {j : Nat} (hj : j < l.length) : ∃ b o, A = some ⟨b, o, none⟩ ∧ w.cell? ⟨b, o + j, none⟩ = some (.int .u64 (l.getD j 0)) ∧ 0 ≤ l.getD j 0 ∧ l.getD j 0 < 18446744073709551616 := by
  obtain ⟨b, o, hA, hX, hlt, hc⟩ := h.2.spot (by simp; omega)
  refine ⟨b, o, hA, hc j _ (map_u64_get hj), h.1 _ ?_⟩
  rw [List.getD_eq_getElem?_getD, List.getElem?_eq_getElem hj]; exact List.getElem_mem hj
end
theorem OwnU.nil (w : World) (base : Nat) : OwnU w base (.slice none 0 0) [] := World.ownsRow_nil w base _ _
theorem OwnU.rdU {w : World} {base : Nat} {v : Value} {l : List Int} (h : OwnU w base v l) (hl : IsU64 l) : ∃ A c, v = .slice A l.length c ∧ l.length ≤ c ∧ c ≤ maxLen ∧ RdU (fun k => v.ownBlock = some k) w A l := by
  obtain ⟨A, c, h1, h2, h3, h4⟩ := RdV.of_own h
  exact ⟨A, c, h1, h2, h3, hl, h4⟩
theorem OwnU.chg {S : Nat → Prop} {w w' : World} {base : Nat} {v : Value} {l : List Int} (h : OwnU w base v l) (hc : Chg S w w') (hg : ∀ g, v.ownBlock = some g → ¬ S g) : OwnU w' base v l := owns_chg h hc hg
theorem OwnU.later {w w' : World} {base : Nat} {v : Value} {l : List Int} (h : OwnU w base v l) (hb : Below w.heap.size w w') : OwnU w' base v l := h.chg (S := fun _ => False) (Chg.of_below hb) fun _ _ => id
theorem OwnU.base {w : World} {base base' : Nat} {v : Value} {l : List Int} (h : OwnU w base v l) (hb : base' ≤ base) : OwnU w base' v l := owns_base h hb

/-- The block that was just built for some numbers. -/
theorem rdU_lit (w : World) (l : List Int) (hl : IsU64 l) : RdU (fun k => k = w.heap.size) (w.alloc (.cells (l.map (Value.int .u64)).toArray 74)) (some ⟨w.heap.size, 0, none⟩) l := by
  refine ⟨hl, fun j u hu => ⟨_, rfl, by simp, ?_⟩⟩
  have h := (Own.new w 74 (l.map (Value.int .u64))).cell j
  rw [addPlain, Nat.zero_add, h, hu]

/-- append(s, z): one number more, out of the block that was just built for it. -/
theorem wpList_appU1 {ops : Array Oper} {rest : List Oper} {o : Oper} {a : Act} {Q : Exit → Act → World → Prop} {w : World} (hgd : o.guard = none) (s x : Operand)
    (ho : o.op = .call { callee := .builtin .append, args := #[s, x], argTypes := #[199, 199] }) (base : Nat) (v : Value) (l : List Int) (hs : a.eval s = v) (hown : OwnU w base v l)
    (z : Int) (hx : a.eval x = .slice (some ⟨w.heap.size, 0, none⟩) 1 1) (hz0 : 0 ≤ z) (hz1 : z < 18446744073709551616) (hlen : l.length + 1 ≤ 1000000000) (hbase : base ≤ w.heap.size)
    (h : ∀ v' w', OwnU w' base v' (l ++ [z]) → Below base w w' → wpList Tryz.prog ops Q rest (a.put o.dst v') w') : wpList Tryz.prog ops Q (o :: rest) a (w.alloc (.cells #[.int .u64 z] 74)) := by
  have hb : Below w.heap.size w (w.alloc (.cells #[.int .u64 z] 74)) := (Below.refl _ _).alloc (Nat.le_refl _) _
  have hr := rdU_lit w [z] (IsU64.one hz0 hz1)
  have hown' := hown.later hb
  refine wpList_appG under_nums num_info rfl (by omega) hgd s x ho base v l.length _ hs hown' _ 1 1 ([z].map (Value.int .u64)) hx (by simp) hr.2 (fun u hu => by obtain ⟨y, _, rfl⟩ := List.mem_map.1 hu; rfl) (by simp only [maxLen]; omega) (by omega) (by simp; omega) fun v' w' h1 h2 h3 => h v' w' ?_ ?_
  · unfold OwnU; simpa using h1
  · exact (hb.mono hbase).trans ((Chg.of_grown h2).below (by simp; omega) fun i hi e => by have := owns_ge hown' e.symm; omega)

/-- What grew by appending: of the old blocks its own alone may have turned. -/
def Grew (v : Value) (w : World) (v' : Value) (w' : World) : Prop := Chg (fun k => v.ownBlock = some k) w w' ∧ ∀ k, v'.ownBlock = some k → v.ownBlock = some k ∨ w.heap.size ≤ k
theorem Grew.refl (v : Value) (w : World) : Grew v w v w := ⟨Chg.refl _ _, fun k h => .inl h⟩
theorem Grew.trans {v v1 v2 : Value} {w w1 w2 : World} (h1 : Grew v w v1 w1) (h2 : Grew v1 w1 v2 w2) : Grew v w v2 w2 := by
  have hs := h1.1.size
  refine ⟨h1.1.trans h2.1 fun k hk e => ?_, fun k hk => ?_⟩
  · rcases h1.2 k e with h | h
    · exact h
    · omega
  · rcases h2.2 k hk with h | h
    · exact h1.2 k h
    · exact .inr (by omega)
theorem Grew.of_grown {v v' : Value} {w w' : World} (h : w.grownBy w' v.ownBlock) (h2 : v'.ownBlock = v.ownBlock ∨ v'.ownBlock = some w.heap.size) : Grew v w v' w' := by
  refine ⟨(Chg.of_grown h).mono fun k _ e => e.symm, fun k hk => ?_⟩
  rcases h2 with e | e
  · exact .inl (by rw [← e]; exact hk)
  · rw [e] at hk; injection hk with hk; exact .inr (by omega)
theorem Grew.before {v v' : Value} {w0 w w' : World} (h : Grew v w v' w') (hb : Below w0.heap.size w0 w) (hv : ∀ k, v.ownBlock = some k → k < w0.heap.size) : Grew v w0 v' w' := by
  have hs := hb.size
  refine ⟨(Chg.of_below (S := fun k => v.ownBlock = some k) hb).trans h.1 fun k _ e => e, fun k hk => ?_⟩
  rcases h.2 k hk with e | e
  · exact .inl e
  · exact .inr (by omega)
theorem Grew.after {v v' : Value} {w w' w2 : World} (h : Grew v w v' w') (hb : Below w'.heap.size w' w2) : Grew v w v' w2 := ⟨h.1.trans (Chg.of_below (S := fun _ => False) hb) fun _ _ e => e.elim, h.2⟩
theorem Grew.below {v v' : Value} {w w' : World} {B : Nat} (h : Grew v w v' w') (hB : B ≤ w.heap.size) (hv : ∀ k, v.ownBlock = some k → B ≤ k) : Below B w w' := h.1.below hB fun k hk e => by have := hv k e; omega
theorem OwnB.lt {w : World} {base : Nat} {v : Value} {l : List Int} (h : OwnB w base v l) {k : Nat} (hk : v.ownBlock = some k) : k < w.heap.size := owns_lt h hk

theorem rdX_lit (w : World) (l : List Int) (hl : IsBytes l) : RdX (fun k => k = w.heap.size) (w.alloc (.cells (l.map (Value.int .u8)).toArray 5)) (some ⟨w.heap.size, 0, none⟩) l := by
  refine ⟨hl, fun j u hu => ⟨_, rfl, by simp, ?_⟩⟩
  have h := (Own.new w 5 (l.map (Value.int .u8))).cell j
  rw [addPlain, Nat.zero_add, h, hu]
/-- append(s, z): one byte more, out of the block that was just built for it. -/
theorem wpList_app1G {ops : Array Oper} {rest : List Oper} {o : Oper} {a : Act} {Q : Exit → Act → World → Prop} {w : World} (hgd : o.guard = none) (s x : Operand)
    (ho : o.op = .call { callee := .builtin .append, args := #[s, x], argTypes := #[22, 22] }) (base : Nat) (v : Value) (l : List Int) (hs : a.eval s = v) (hown : OwnB w base v l)
    (z : Int) (hx : a.eval x = .slice (some ⟨w.heap.size, 0, none⟩) 1 1) (hz0 : 0 ≤ z) (hz1 : z ≤ 255) (hlen : l.length + 1 ≤ 1000000000) (hbase : base ≤ w.heap.size)
    (h : ∀ v' w', OwnB w' base v' (l ++ [z]) → Grew v w v' w' → wpList Tryz.prog ops Q rest (a.put o.dst v') w') : wpList Tryz.prog ops Q (o :: rest) a (w.alloc (.cells #[.int .u8 z] 5)) := by
  have hb : Below w.heap.size w (w.alloc (.cells #[.int .u8 z] 5)) := (Below.refl _ _).alloc (Nat.le_refl _) _
  refine wpList_appB hgd s x ho base v l hs (hown.later hb) _ 1 1 [z] hx rfl (rdX_lit w [z] (IsBytes.one hz0 hz1)) hlen (by simp; omega) fun v' w' h1 h2 h3 => h v' w' h1 ((Grew.of_grown h2 h3).before hb fun k hk => owns_lt hown hk)
/-- append(s, x...), of bytes. -/
theorem wpList_appXG {X : Nat → Prop} {ops : Array Oper} {rest : List Oper} {o : Oper} {a : Act} {Q : Exit → Act → World → Prop} {w : World} (hgd : o.guard = none) (s x : Operand)
    (ho : o.op = .call { callee := .builtin .append, args := #[s, x], argTypes := #[22, 22] }) (base : Nat) (v : Value) (l : List Int) (hs : a.eval s = v) (hown : OwnB w base v l)
    (A : Option Addr) (m c : Nat) (news : List Int) (hx : a.eval x = .slice A m c) (hm : m = news.length) (hr : RdX X w A news) (hlen : l.length + m ≤ 1000000000) (hbase : base ≤ w.heap.size)
    (h : ∀ v' w', OwnB w' base v' (l ++ news) → Grew v w v' w' → wpList Tryz.prog ops Q rest (a.put o.dst v') w') : wpList Tryz.prog ops Q (o :: rest) a w :=
  wpList_appB hgd s x ho base v l hs hown A m c news hx hm hr hlen hbase fun v' w' h1 h2 h3 => h v' w' h1 (Grew.of_grown h2 h3)
theorem strCells_nums (l : List Int) (hl : IsBytes l) : Lib.strCells (strOfNums l) = l.map (Value.int .u8) := by
  simp only [Lib.strCells, strOfNums_data, List.map_map]
  apply List.map_congr_left
  intro z hz
  obtain ⟨h0, h1⟩ := hl z hz
  simp only [Function.comp]
  rw [UInt8.toNat_ofNat_of_lt' (by simp; omega)]
  congr 1; omega
theorem run_appStr (w : World) (base : Nat) (v : Value) (l : List Int) (ty : TypeId) (hown : OwnB w base v l) (news : List Int) (hnb : IsBytes news) (hlen : l.length + news.length ≤ 1000000000) (hbase : base ≤ w.heap.size) :
    ∃ v' w', (Builtin.append_ #[22, 9] ty #[v, .string (strOfNums news)]).run Tryz.prog w = .ok v' w' ∧ OwnB w' base v' (l ++ news) ∧ Grew v w v' w' := by
  obtain ⟨i, hi, hz, hsz, hb⟩ := info_parts byte_info
  have hss : (strOfNums news).size = news.length := strOfNums_size news
  obtain ⟨v', w', hr, h2, h3, h4⟩ := Lib.run_append_own_string (P := Tryz.prog) w base 22 9 ty 5 i under_bytes under_string hi hz hsz hb v l.length _ hown (strOfNums news) (by simp only [maxLen]; omega) (by omega) hbase
  refine ⟨v', w', hr, ?_, Grew.of_grown h3 ?_⟩
  · rw [strCells_nums news hnb, hss] at h2; unfold OwnB; simpa using h2
  · rcases hown.2 with ⟨rfl, h0⟩ | ⟨g, cap, cur, rfl, hbg, hg, hnc, hcm, hcs, htake⟩
    · by_cases hm : (strOfNums news).size = 0
      · rw [h4.2 ⟨rfl, hm⟩]; exact .inl rfl
      · have hr' := run_append_nil_string (P := Tryz.prog) w 22 9 ty 5 i (.int .u8 0) under_bytes under_string hi hz (strOfNums news) (by omega) (by omega) (by rw [hb]; omega)
        rw [hr'] at hr
        injection hr with hr _
        rw [← hr]; exact .inr rfl
    · by_cases hroom : l.length + (strOfNums news).size ≤ cap
      · have hcs' : cur.size = cap := by simpa using hcs
        have hr' := Lib.run_append_room_string (P := Tryz.prog) w 22 9 ty 5 i under_bytes under_string hi hsz g l.length cap cur hg (strOfNums news) hroom (by omega)
        rw [hr'] at hr
        injection hr with hr _
        rw [← hr]; exact .inl rfl
      · have holds : ∀ j u, (l.map (Value.int .u8))[j]? = some u → w.cell? ((⟨g, 0, none⟩ : Addr).add j) = some u := World.ownsRow.cells hown (g := g) rfl
        have hr' := Lib.run_append_grow_string (P := Tryz.prog) w 22 9 ty 5 i (.int .u8 0) under_bytes under_string hi hz ⟨g, 0, none⟩ l.length cap (l.map (Value.int .u8)) (by rw [hsz]; simp) holds (strOfNums news) (by omega) (by omega) (by rw [hb]; exact growslice_fits (by omega) (by omega))
        rw [hr'] at hr
        injection hr with hr _
        rw [← hr]; exact .inr rfl
/-- append(s, t...), t a string. -/
theorem wpList_appStr {ops : Array Oper} {rest : List Oper} {o : Oper} {a : Act} {Q : Exit → Act → World → Prop} {w : World} (hgd : o.guard = none) (s x : Operand)
    (ho : o.op = .call { callee := .builtin .append, args := #[s, x], argTypes := #[22, 9] }) (base : Nat) (v : Value) (l : List Int) (hs : a.eval s = v) (hown : OwnB w base v l)
    (news : List Int) (hnb : IsBytes news) (hx : a.eval x = .string (strOfNums news)) (hlen : l.length + news.length ≤ 1000000000) (hbase : base ≤ w.heap.size)
    (h : ∀ v' w', OwnB w' base v' (l ++ news) → Grew v w v' w' → wpList Tryz.prog ops Q rest (a.put o.dst v') w') : wpList Tryz.prog ops Q (o :: rest) a w := by
  obtain ⟨v', w', hrun, h1, h2⟩ := run_appStr w base v l o.type hown news hnb hlen hbase
  exact Lib.wpList_append_run w hgd s x _ _ ho _ _ hs hx v' w' hrun (h v' w' h1 h2)
end Go.Proofs.YtadgiekiiicmfaaGreatDoor

/- req's source: what its calls come to. -/
namespace Go.Proofs.YtadgiekiiicmfaaGreatDoor
open Go.RowKit
set_option maxRecDepth 100000
set_option linter.unusedVariables false

theorem RdrAt.below {B : Nat} {w w' : World} {g : Nat} {t : TypeId} {tl : RTl} {s : St} (h : RdrAt w g t tl s) (hb : Below B w w') (hg : g < B) (hB : B ≤ w.heap.size) : RdrAt w' g t tl s :=
  h.chg (S := fun k => B ≤ k) ⟨hb.os, hb.tape, hb.output, hb.size, fun k _ hk => hb.block k (by omega)⟩ fun k hk => by omega

def pKind : PR Int := seq pByte fun x l => if x < 1 ∨ 6 < x then .error 2 else .ok (x, l)

theorem shl8_or (x y : Int) (h0 : 0 ≤ x) (hy0 : 0 ≤ y) (hy : y ≤ 255) : Go.bits .or .u64 (IntKind.u64.wrap (x * 256)) y = x * 256 % 18446744073709551616 + y := by
  obtain ⟨a, rfl⟩ : ∃ a : Nat, x = a := ⟨x.toNat, by omega⟩
  obtain ⟨b, rfl⟩ : ∃ b : Nat, y = b := ⟨y.toNat, by omega⟩
  rw [IntKind.wrap_u64, show ((a : Int) * 256) % 18446744073709551616 = ((a * 256 % 18446744073709551616 : Nat) : Int) from by omega, u64_or_nat _ _ (by omega) (by omega), nat_join 8 _ b (by omega) (by omega)]
  omega
theorem pow256 (k : Nat) (hk : k < 8) : (256 : Int) ^ (k + 1) = 256 ^ k * 256 ∧ (256 : Int) ^ k ≤ 72057594037927936 := by
  refine ⟨Int.pow_succ _ _, ?_⟩
  rcases show k = 0 ∨ k = 1 ∨ k = 2 ∨ k = 3 ∨ k = 4 ∨ k = 5 ∨ k = 6 ∨ k = 7 from by omega with h | h | h | h | h | h | h | h <;> subst h <;> decide
/-- A text that was read. -/
def SPost (p : PR (List Int)) (g : Nat) (t : TypeId) (tl : RTl) (s : St) (w : World) (e : Ending) (w' : World) : Prop :=
  ∃ y, e = .returned (.string (strOfNums y)) ∧ IsBytes y ∧ RdrAt w' g t tl (nx p s) ∧ (∀ a l', bd s p = .ok (a, l') → y = a) ∧ Chg (fun k => k = g) w w' ∧ y.length ≤ 1000000
theorem nx_seq {α β : Type} (p : PR α) (f : α → PR β) (s : St) (a : α) (h : ∀ b l', bd s p = .ok (b, l') → a = b) : nx (seq p f) s = nx (f a) (nx p s) ∧ bd s (seq p f) = bd (nx p s) (f a) := by
  cases s with
  | error e => exact ⟨rfl, rfl⟩
  | ok l =>
    simp only [nx_ok, bd_ok, seq] at h ⊢
    cases hp : p l with
    | error e => exact ⟨rfl, rfl⟩
    | ok r =>
      have := h r.1 r.2 (by rw [hp])
      subst this
      exact ⟨rfl, rfl⟩
/-- Numbers that were read, into new memory. -/
def LPost (p : PR (List Int)) (g : Nat) (t : TypeId) (tl : RTl) (s : St) (w : World) (e : Ending) (w' : World) : Prop :=
  ∃ v y, e = .returned v ∧ OwnU w' w.heap.size v y ∧ IsU64 y ∧ RdrAt w' g t tl (nx p s) ∧ (∀ a l', bd s p = .ok (a, l') → y = a) ∧ Chg (fun k => k = g) w w' ∧ y.length ≤ 1000
end Go.Proofs.YtadgiekiiicmfaaGreatDoor
