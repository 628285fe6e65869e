/- Package reader: what its calls come to. -/
import Derived.Test.YthbopijpekgbkaaParseMath
import Derived.Test.YthbopijpekgbkaaCuts
import Derived.Test.YthbopijpekgbkaaLebRead2
import Derived.Test.YthbopijpekgbkaaLists
import Derived.Handy
namespace Go.Proofs.Ythbopijpekgbkaa
open Go.RowKit
set_option linter.unusedVariables false

/-- A Reader at the front of block g: what it has still to read, or what it met. -/
def RdrAt (w : World) (g : Nat) (t : TypeId) (tl : List Value) (s : St) : Prop := match s with
  | .ok l => ∃ A c, Own w g t (.slice A l.length c :: .int .i64 0 :: tl) ∧ RdX (· < g) w A l ∧ l.length ≤ c ∧ c ≤ maxLen ∧ l.length ≤ 1000000
  | .error e => Own w g t (.slice none 0 0 :: .int .i64 e :: tl) ∧ 0 < e ∧ e ≤ 100
theorem RdrAt.chg {S : Nat → Prop} {w w' : World} {g : Nat} {t : TypeId} {tl : List Value} {s : St} (h : RdrAt w g t tl s) (hc : Chg S w w') (hs : ∀ k, k ≤ g → ¬ S k) : RdrAt w' g t tl s := by
  cases s with
  | ok l => obtain ⟨A, c, h1, h2, h3, h4, h5⟩ := h; exact ⟨A, c, h1.chg hc (hs g (Nat.le_refl _)), h2.chg hc fun k _ hk => hs k (by omega), h3, h4, h5⟩
  | error e => exact ⟨h.1.chg hc (hs g (Nat.le_refl _)), h.2⟩
theorem RdrAt.later {w w' : World} {g : Nat} {t : TypeId} {tl : List Value} {s : St} (h : RdrAt w g t tl s) (hc : Below w.heap.size w w') : RdrAt w' g t tl s := h.chg (S := fun _ => False) (Chg.of_below hc) fun _ _ => id
theorem RdrAt.lt {w : World} {g : Nat} {t : TypeId} {tl : List Value} {s : St} (h : RdrAt w g t tl s) : g < w.heap.size := by
  cases s with
  | ok l => obtain ⟨A, c, h1, _⟩ := h; exact h1.lt
  | error e => exact h.1.lt

theorem chgSet (w : World) (g i : Nat) (u : Value) : Chg (fun k => k = g) w (w.setCell ⟨g, i, none⟩ u) := Chg.setCell w ⟨g, i, none⟩ u
theorem own_cells2 {w : World} {g : Nat} {t : TypeId} {a b : Value} {tl : List Value} (h : Own w g t (a :: b :: tl)) : w.cell? ⟨g, 0, none⟩ = some a ∧ w.cell? ⟨g, 1, none⟩ = some b ∧ w.frozen? ⟨g, 0, none⟩ = false ∧ w.frozen? ⟨g, 1, none⟩ = false :=
  ⟨h.cell 0, h.cell 1, h.frozen 0, h.frozen 1⟩

theorem rleft_any (g : Nat) (t : TypeId) (tl : List Value) (s : St) (w : World) (h : RdrAt w g t tl s) :
    Calls Try.prog 27 #[.pointer (some ⟨g, 0, none⟩)] w fun e w' => e = .returned (.int .i64 (lenS s)) ∧ w = w' := by
  cases s with
  | ok l =>
    obtain ⟨A, c, h1, -, -, -, -⟩ := h
    obtain ⟨hc0, hc1, hf0, hf1⟩ := own_cells2 h1
    clear h1
    simp only [lenS]
    generalize l.length = q at *
    go_enter Try.func27, Try.ntmps27
    go_wp2
    go_ret
    exact ⟨rfl, rfl⟩
  | error e =>
    obtain ⟨hc0, hc1, hf0, hf1⟩ := own_cells2 h.1
    clear h
    go_enter Try.func27, Try.ntmps27
    go_wp2
    go_ret
    exact ⟨rfl, rfl⟩

def FailPost (g : Nat) (t : TypeId) (tl : List Value) (s : St) (w : World) (e : Ending) (w' : World) : Prop := (∃ u, e = .returned u) ∧ RdrAt w' g t tl s ∧ Chg (fun k => k = g) w w'
theorem rfail_any (g : Nat) (t : TypeId) (tl : List Value) (s : St) (x : Int) (w : World) (h : RdrAt w g t tl s) (hx : 0 < x) (hx2 : x ≤ 100) :
    Calls Try.prog 50 #[.pointer (some ⟨g, 0, none⟩), .int .i64 x] w (FailPost g t tl (failS x s) w) := by
  cases s with
  | ok l =>
    obtain ⟨A, c, h1, -, -, -, -⟩ := h
    obtain ⟨hc0, hc1, hf0, hf1⟩ := own_cells2 h1
    have H1 := Lib.hid h1
    clear h1
    generalize l.length = q at *
    go_enter Try.func50, Try.ntmps50
    go_wp2
    go_end0
    refine ⟨⟨_, rfl⟩, ⟨(H1.out.set 0 _).set 1 _, hx, hx2⟩, (chgSet _ _ _ _).trans (chgSet _ _ _ _) fun k _ e => e⟩
  | error e =>
    obtain ⟨h1, he, he2⟩ := h
    obtain ⟨hc0, hc1, hf0, hf1⟩ := own_cells2 h1
    have H1 := Lib.hid h1
    clear h1
    have hne : (e == 0) = false := by simp; omega
    go_enter Try.func50, Try.ntmps50
    go_wp2
    go_end0
    exact ⟨⟨_, rfl⟩, ⟨H1.out, he, he2⟩, Chg.refl _ _⟩

theorem rend_any (g : Nat) (t : TypeId) (tl : List Value) (s : St) (w : World) (h : RdrAt w g t tl s) :
    Calls Try.prog 31 #[.pointer (some ⟨g, 0, none⟩)] w fun e w' => e = .returned (.int .i64 (endS s)) ∧ Chg (fun k => k = g) w w' := by
  have HL := Lib.hid (rleft_any g t tl s w h)
  have HF := Lib.hid (rfail_any g t tl s 2 w h (by omega) (by omega))
  have HH := Lib.hid h
  clear h
  go_enter Try.func31, Try.ntmps31
  go_wp2_with fail
  refine HL.out.mono ?_
  rintro e w' ⟨rfl, rfl⟩
  clear HL
  rcases s with e | (_ | ⟨x, l⟩)
  · obtain ⟨h1, he, he2⟩ := HH.out
    obtain ⟨hc0, hc1, hf0, hf1⟩ := own_cells2 h1
    clear h1
    simp only [lenS]
    go_wp2
    go_ret
    exact ⟨rfl, Chg.refl _ _⟩
  · obtain ⟨A, c, h1, -, -, -, -⟩ := HH.out
    obtain ⟨hc0, hc1, hf0, hf1⟩ := own_cells2 h1
    clear h1
    simp only [lenS, List.length_nil]
    go_wp2
    go_ret
    exact ⟨rfl, Chg.refl _ _⟩
  · have hp : (0 : Int) < ((x :: l).length : Nat) := by simp
    simp only [lenS]
    generalize (x :: l).length = q at *
    go_wp2_with fail
    refine HF.out.mono ?_
    rintro e w' ⟨⟨u, rfl⟩, h2, hc⟩
    obtain ⟨h1, -, -⟩ := h2
    obtain ⟨hc0, hc1, hf0, hf1⟩ := own_cells2 h1
    have HC := Lib.hid hc
    clear h1 hc
    go_wp2
    go_ret
    exact ⟨rfl, HC.out⟩

/-- A number that was read. -/
def RPost (K : IntKind) (hi : Int) (p : PR Int) (g : Nat) (t : TypeId) (tl : List Value) (s : St) (w : World) (e : Ending) (w' : World) : Prop :=
  ∃ x, e = .returned (.int K x) ∧ 0 ≤ x ∧ x ≤ hi ∧ RdrAt w' g t tl (nx p s) ∧ (∀ a l', bd s p = .ok (a, l') → x = a) ∧ Chg (fun k => k = g) w w'

set_option maxHeartbeats 1000000 in
theorem rbyte_any (g : Nat) (t : TypeId) (tl : List Value) (s : St) (w : World) (h : RdrAt w g t tl s) :
    Calls Try.prog 49 #[.pointer (some ⟨g, 0, none⟩)] w (RPost .u8 255 pByte g t tl s w) := by
  have HL := Lib.hid (rleft_any g t tl s w h)
  have HF := Lib.hid (rfail_any g t tl s 3 w h (by omega) (by omega))
  have HH := Lib.hid h
  clear h
  go_enter Try.func49, Try.ntmps49
  go_wp2_with fail
  refine HL.out.mono ?_
  rintro e w' ⟨rfl, rfl⟩
  clear HL
  rcases s with e | (_ | ⟨x, l⟩)
  · simp only [lenS]
    go_wp2_with fail
    refine HF.out.mono ?_
    rintro e w' ⟨⟨u, rfl⟩, h2, hc⟩
    have HC := Lib.hid (And.intro h2 hc)
    clear h2 hc
    go_wp2
    go_ret
    exact ⟨0, rfl, by omega, by omega, HC.out.1, (fun a l' h => by cases h), HC.out.2⟩
  · simp only [lenS, List.length_nil]
    go_wp2_with fail
    refine HF.out.mono ?_
    rintro e w' ⟨⟨u, rfl⟩, h2, hc⟩
    have HC := Lib.hid (And.intro h2 hc)
    clear h2 hc
    go_wp2
    go_ret
    exact ⟨0, rfl, by omega, by omega, HC.out.1, (fun a l' h => by cases h), HC.out.2⟩
  · obtain ⟨A, c, h1, hr, hlc, hcm, hlm⟩ := HH.out
    have hl1 : (x :: l).length = l.length + 1 := rfl
    obtain ⟨hc0, hc1, hf0, hf1⟩ := own_cells2 h1
    obtain ⟨A', c', hE, hc', hX⟩ := cutB_l A (x :: l).length c 1 1 l.length rfl (by simp) (by simp) hlc
    have HX := Lib.hid (And.intro (hX _ _ _ hlc hr) (And.intro h1 (And.intro hc' (And.intro hlc (And.intro hcm hlm)))))
    obtain ⟨b, o, rfl, hb, hb2, hcell⟩ := hr.2.spot (by simp)
    have hx0 := hcell 0 (.int .u8 x) (by simp)
    rw [Nat.add_zero] at hx0
    have HL1 := Lib.hid hl1
    have hq0 : (((x :: l).length : Nat) : Int) = 0 ↔ False := by simp; omega
    have hqp : 0 < (x :: l).length := by simp
    clear hl1
    have hxb := hr.1 x (by simp)
    clear hX hcell hr h1 hlc hcm hc'
    simp only [lenS]
    generalize (x :: l).length = q at *
    go_wp2
    go_ret
    obtain ⟨h1, h2, h3, h4, h5, h6⟩ := HX.out
    refine ⟨x, rfl, by omega, by omega, ⟨A', c', h2.set 0 _, h1.chg (Chg.setCell _ _ _) fun k _ hk e => by simp at e; omega, ?_, ?_, ?_⟩, (fun a l' h => ?_), chgSet _ _ _ _⟩
    · have := HL1.out; simp only []; omega
    · omega
    · have := HL1.out; simp only []; omega
    · simp [pByte] at h; exact h.1

/-- reader.number, whatever it takes by. -/
theorem rdrAt_tail {w : World} {g : Nat} {t : TypeId} {tl : List Value} {l : List Int} {A A' : Option Addr} {c c' m : Nat} (ho : Own w g t (.slice A l.length c :: .int .i64 0 :: tl)) (hx : RdX (· < g) w A' (l.drop m)) (hm : m ≤ l.length) (hc : c' = c - m) (hlc : l.length ≤ c) (hcm : c ≤ maxLen) (hlm : l.length ≤ 1000000) :
    RdrAt (w.setCell ⟨g, 0, none⟩ (.slice A' (l.length - m) c')) g t tl (.ok (l.drop m)) := by
  refine ⟨A', c', ?_, hx.chg (Chg.setCell _ _ _) fun k _ hk e => by simp at e; omega, ?_, by omega, ?_⟩
  · rw [List.length_drop]; exact ho.set 0 _
  · rw [List.length_drop]; omega
  · rw [List.length_drop]; omega

set_option maxHeartbeats 1000000 in
theorem rnum64_any (g : Nat) (t : TypeId) (tl : List Value) (s : St) (w : World) (h : RdrAt w g t tl s) :
    Calls Try.prog 52 #[.pointer (some ⟨g, 0, none⟩), .func (.func 53) #[] #[]] w (RPost .u64 18446744073709551615 (pU 64) g t tl s w) := by
  rcases s with e | l
  · have HF := Lib.hid (rfail_any g t tl _ 3 w h (by omega) (by omega))
    obtain ⟨h1, he, he2⟩ := h
    obtain ⟨hc0, hc1, hf0, hf1⟩ := own_cells2 h1
    have HU := Lib.hid (U64_any none [] 0 0 w (Rd.nil _ _ _) rfl (by decide))
    clear h1
    go_enter Try.func52, Try.ntmps52
    go_wp2_with fail
    refine HU.out.mono ?_
    rintro e w' ⟨rfl, rfl⟩
    simp only [three, rdU, dec]
    go_wp2_with fail
    refine HF.out.mono ?_
    rintro e w' ⟨⟨u, rfl⟩, h2, hc⟩
    have HC := Lib.hid (And.intro h2 hc)
    clear h2 hc
    go_wp2
    go_ret
    exact ⟨0, rfl, by omega, by omega, HC.out.1, (fun a l' h => by cases h), HC.out.2⟩
  · have HF := Lib.hid (fun x hx hx2 => rfail_any g t tl _ x w h hx hx2)
    obtain ⟨A, c, h1, hr, hlc, hcm, hlm⟩ := h
    obtain ⟨hc0, hc1, hf0, hf1⟩ := own_cells2 h1
    have HU := Lib.hid (U64_any A l l.length c w hr.rd rfl (by unfold maxLen; omega))
    have bad : ∀ x, rdU 64 l = (0, 0, x) → 0 < x → x ≤ 100 → (x == 0) = false → Calls Try.prog 52 #[.pointer (some ⟨g, 0, none⟩), .func (.func 53) #[] #[]] w (RPost .u64 18446744073709551615 (pU 64) g t tl (.ok l) w) := by
      intro x hd hx hx2 hx3
      have HD := Lib.hid hd
      have HP := Lib.hid (pU_no hd (by omega))
      clear h1 hr hd hlc hcm hlm
      generalize l.length = q at *
      go_enter Try.func52, Try.ntmps52
      go_wp2_with fail
      refine HU.out.mono ?_
      rw [HD.out]
      simp only [three]
      rintro e w' ⟨rfl, rfl⟩
      go_wp2_with fail
      refine (HF.out x hx hx2).mono ?_
      rintro e w' ⟨⟨u, rfl⟩, h2, hc⟩
      have HC := Lib.hid (And.intro h2 hc)
      clear h2 hc
      go_wp2
      go_ret
      refine ⟨0, rfl, by omega, by omega, ?_, (fun a l' h => ?_), HC.out.2⟩
      · rw [nx_ok, HP.out]; exact HC.out.1
      · rw [bd_ok, HP.out] at h; cases h
    rcases rdU_cases 64 (by omega) (by omega) l with hd | hd | ⟨u, m, hd, hu0, hu1, hm1, hm2, hm3⟩
    · exact bad 3 hd (by omega) (by omega) rfl
    · exact bad 2 hd (by omega) (by omega) rfl
    · obtain ⟨A', c', hE, hc', hX⟩ := cutB_l A l.length c (m : Int) m (l.length - m) rfl rfl hm3 hlc
      have HX := Lib.hid (And.intro (hX _ _ _ hlc hr) (And.intro h1 (And.intro hc' (And.intro hlc (And.intro hcm (And.intro hlm hm3))))))
      have HD := Lib.hid hd
      have HP := Lib.hid (pU_ok hd)
      have HT := Lib.hid (rdrAt_tail h1 (hX _ _ _ hlc hr) hm3 hc' hlc hcm hlm)
      clear h1 hr hd hX hlc hcm hc' bad hm3
      generalize hmm : l.length - m = m2 at *
      generalize l.length = q at *
      go_enter Try.func52, Try.ntmps52
      go_wp2_with fail
      refine HU.out.mono ?_
      rw [HD.out]
      simp only [three]
      rintro e w' ⟨rfl, rfl⟩
      go_wp2
      go_ret
      refine ⟨u, rfl, by omega, by omega, ?_, (fun a l' h => ?_), chgSet _ _ _ _⟩
      · rw [nx_ok, HP.out]; simpa using HT.out
      · rw [bd_ok, HP.out] at h; injection h with h; injection h with h _; rw [← h]; show u = u % 18446744073709551616; omega
set_option maxHeartbeats 1000000 in
theorem rnum32_any (g : Nat) (t : TypeId) (tl : List Value) (s : St) (w : World) (h : RdrAt w g t tl s) :
    Calls Try.prog 62 #[.pointer (some ⟨g, 0, none⟩), .func (.func 63) #[] #[]] w (RPost .u32 4294967295 (pU 32) g t tl s w) := by
  rcases s with e | l
  · have HF := Lib.hid (rfail_any g t tl _ 3 w h (by omega) (by omega))
    obtain ⟨h1, he, he2⟩ := h
    obtain ⟨hc0, hc1, hf0, hf1⟩ := own_cells2 h1
    have HU := Lib.hid (U32_any none [] 0 0 w (Rd.nil _ _ _) rfl (by decide))
    clear h1
    go_enter Try.func62, Try.ntmps62
    go_wp2_with fail
    refine HU.out.mono ?_
    rintro e w' ⟨rfl, rfl⟩
    simp only [three, rdU, dec, on1]
    go_wp2_with fail
    refine HF.out.mono ?_
    rintro e w' ⟨⟨u, rfl⟩, h2, hc⟩
    have HC := Lib.hid (And.intro h2 hc)
    clear h2 hc
    go_wp2
    go_ret
    exact ⟨0, rfl, by omega, by omega, HC.out.1, (fun a l' h => by cases h), HC.out.2⟩
  · have HF := Lib.hid (fun x hx hx2 => rfail_any g t tl _ x w h hx hx2)
    obtain ⟨A, c, h1, hr, hlc, hcm, hlm⟩ := h
    obtain ⟨hc0, hc1, hf0, hf1⟩ := own_cells2 h1
    have HU := Lib.hid (U32_any A l l.length c w hr.rd rfl (by unfold maxLen; omega))
    have bad : ∀ x, rdU 32 l = (0, 0, x) → 0 < x → x ≤ 100 → (x == 0) = false → Calls Try.prog 62 #[.pointer (some ⟨g, 0, none⟩), .func (.func 63) #[] #[]] w (RPost .u32 4294967295 (pU 32) g t tl (.ok l) w) := by
      intro x hd hx hx2 hx3
      have HD := Lib.hid hd
      have HP := Lib.hid (pU_no hd (by omega))
      clear h1 hr hd hlc hcm hlm
      generalize l.length = q at *
      go_enter Try.func62, Try.ntmps62
      go_wp2_with fail
      refine HU.out.mono ?_
      rw [HD.out]
      simp only [three, on1]
      rintro e w' ⟨rfl, rfl⟩
      go_wp2_with fail
      refine (HF.out x hx hx2).mono ?_
      rintro e w' ⟨⟨u, rfl⟩, h2, hc⟩
      have HC := Lib.hid (And.intro h2 hc)
      clear h2 hc
      go_wp2
      go_ret
      refine ⟨0, rfl, by omega, by omega, ?_, (fun a l' h => ?_), HC.out.2⟩
      · rw [nx_ok, HP.out]; exact HC.out.1
      · rw [bd_ok, HP.out] at h; cases h
    rcases rdU_cases 32 (by omega) (by omega) l with hd | hd | ⟨u, m, hd, hu0, hu1, hm1, hm2, hm3⟩
    · exact bad 3 hd (by omega) (by omega) rfl
    · exact bad 2 hd (by omega) (by omega) rfl
    · obtain ⟨A', c', hE, hc', hX⟩ := cutB_l A l.length c (m : Int) m (l.length - m) rfl rfl hm3 hlc
      have HX := Lib.hid (And.intro (hX _ _ _ hlc hr) (And.intro h1 (And.intro hc' (And.intro hlc (And.intro hcm (And.intro hlm hm3))))))
      have HD := Lib.hid hd
      have HP := Lib.hid (pU_ok hd)
      have HT := Lib.hid (rdrAt_tail h1 (hX _ _ _ hlc hr) hm3 hc' hlc hcm hlm)
      clear h1 hr hd hX hlc hcm hc' bad hm3
      generalize hmm : l.length - m = m2 at *
      generalize l.length = q at *
      go_enter Try.func62, Try.ntmps62
      go_wp2_with fail
      refine HU.out.mono ?_
      rw [HD.out]
      simp only [three, on1]
      rintro e w' ⟨rfl, rfl⟩
      go_wp2
      go_ret
      refine ⟨IntKind.u32.wrap u, rfl, by rw [IntKind.wrap_u32]; omega, by rw [IntKind.wrap_u32]; omega, ?_, (fun a l' h => ?_), chgSet _ _ _ _⟩
      · rw [nx_ok, HP.out]; simpa using HT.out
      · rw [bd_ok, HP.out] at h; injection h with h; injection h

theorem rU64_any (g : Nat) (t : TypeId) (tl : List Value) (s : St) (w : World) (h : RdrAt w g t tl s) :
    Calls Try.prog 28 #[.pointer (some ⟨g, 0, none⟩)] w (RPost .u64 18446744073709551615 (pU 64) g t tl s w) := by
  have HN := Lib.hid (rnum64_any g t tl s w h)
  clear h
  go_enter Try.func28, Try.ntmps28
  go_wp2_with fail
  refine HN.out.mono ?_
  rintro e w' ⟨x, rfl, h0, h1, h2⟩
  have H2 := Lib.hid h2
  clear h2
  go_wp2
  go_ret
  exact ⟨x, rfl, h0, h1, H2.out⟩
theorem rU32_any (g : Nat) (t : TypeId) (tl : List Value) (s : St) (w : World) (h : RdrAt w g t tl s) :
    Calls Try.prog 59 #[.pointer (some ⟨g, 0, none⟩)] w (RPost .u32 4294967295 (pU 32) g t tl s w) := by
  have HN := Lib.hid (rnum32_any g t tl s w h)
  clear h
  go_enter Try.func59, Try.ntmps59
  go_wp2_with fail
  refine HN.out.mono ?_
  rintro e w' ⟨x, rfl, h0, h1, h2⟩
  have H2 := Lib.hid h2
  clear h2
  go_wp2
  go_ret
  exact ⟨x, rfl, h0, h1, H2.out⟩

theorem rcount_any (g : Nat) (t : TypeId) (tl : List Value) (s : St) (most : Int) (w : World) (h : RdrAt w g t tl s) (hm : 0 ≤ most) (hm2 : most ≤ 100000) :
    Calls Try.prog 54 #[.pointer (some ⟨g, 0, none⟩), .int .u32 most] w (RPost .i64 most (pCount most) g t tl s w) := by
  have HN := Lib.hid (rU32_any g t tl s w h)
  clear h
  go_enter Try.func54, Try.ntmps54
  go_wp2_with fail
  refine HN.out.mono ?_
  rintro e w' ⟨x, rfl, h0, h1, h2, h3, h4⟩
  have H2 := Lib.hid (And.intro h2 (And.intro h3 h4))
  clear h2 h3 h4
  by_cases hx : most < x
  · have HF := Lib.hid (rfail_any g t tl _ 4 w' H2.out.1 (by omega) (by omega))
    go_wp2_with fail
    refine HF.out.mono ?_
    rintro e w2 ⟨⟨u, rfl⟩, h2, hc⟩
    have HC := Lib.hid (And.intro h2 hc)
    clear h2 hc
    go_wp2
    go_ret
    have key : nx (pCount most) s = failS 4 (nx (pU 32) s) ∧ ∀ a l', bd s (pCount most) ≠ .ok (a, l') := by
      cases s with
      | error e => exact ⟨rfl, fun a l' h => by cases h⟩
      | ok l =>
        have h3 := H2.out.2.1
        simp only [nx_ok, bd_ok, pCount, seq] at h3 ⊢
        cases hp : pU 32 l with
        | error e => simp [failS]
        | ok r =>
          have := h3 r.1 r.2 (by rw [hp])
          subst this
          simp [hx, failS]
    exact ⟨0, rfl, by omega, by omega, by rw [key.1]; exact HC.out.1, (fun a l' h => (key.2 a l' h).elim), H2.out.2.2.trans HC.out.2 fun k _ e => e⟩
  · go_wp2
    go_ret
    have key : nx (pCount most) s = nx (pU 32) s ∧ ∀ a l', bd s (pCount most) = .ok (a, l') → x = a := by
      cases s with
      | error e => exact ⟨rfl, fun a l' h => by cases h⟩
      | ok l =>
        have h3 := H2.out.2.1
        simp only [nx_ok, bd_ok, pCount, seq] at h3 ⊢
        cases hp : pU 32 l with
        | error e => simp
        | ok r =>
          have := h3 r.1 r.2 (by rw [hp])
          subst this
          rw [bd_ok, if_neg (by omega)]
          exact ⟨rfl, fun a l' h => by injection h with h; injection h⟩
    refine ⟨x, ?_, by omega, by omega, by rw [key.1]; exact H2.out.1, key.2, H2.out.2.2⟩
    rfl

/-- Bytes that were read, into new memory. -/
def BPost (p : PR (List Int)) (g : Nat) (t : TypeId) (tl : List Value) (s : St) (w : World) (e : Ending) (w' : World) : Prop :=
  ∃ v y, e = .returned v ∧ OwnB w' w.heap.size v y ∧ IsBytes y ∧ RdrAt w' g t tl (nx p s) ∧ (∀ a l', bd s p = .ok (a, l') → y = a) ∧ Chg (fun k => k = g) w w' ∧ y.length ≤ 1000000

set_option maxHeartbeats 1000000 in
theorem rbytes_any (g : Nat) (t : TypeId) (tl : List Value) (s : St) (n : Nat) (w : World) (h : RdrAt w g t tl s) (hn : n ≤ 1000000) :
    Calls Try.prog 26 #[.pointer (some ⟨g, 0, none⟩), .int .i64 n] w (BPost (pBytes n) g t tl s w) := by
  have HL := Lib.hid (rleft_any g t tl s w h)
  have HF := Lib.hid (rfail_any g t tl s 3 w h (by omega) (by omega))
  have HH := Lib.hid h
  have hn0 : ¬ (n : Int) < 0 := by omega
  clear h
  by_cases hs : (lenS s : Int) < n
  · go_enter Try.func26, Try.ntmps26
    go_wp2_with (go_at_call 27; refine HL.out.mono ?_; rintro e w' ⟨rfl, rfl⟩; clear HL)
    refine HF.out.mono ?_
    rintro e w2 ⟨⟨u, rfl⟩, h2, hc⟩
    have HC := Lib.hid (And.intro h2 hc)
    clear h2 hc
    go_wp2
    go_ret
    have key : nx (pBytes n) s = failS 3 s ∧ ∀ a l', bd s (pBytes n) ≠ .ok (a, l') := by
      cases s with
      | error e => exact ⟨rfl, fun a l' h => by cases h⟩
      | ok l =>
        simp only [lenS] at hs
        have : ¬ n ≤ l.length := by omega
        simp [nx_ok, pBytes, this, failS]
    exact ⟨_, [], rfl, OwnB.nil _ _, IsBytes.nil, by rw [key.1]; exact HC.out.1, (fun a l' h => (key.2 a l' h).elim), HC.out.2, by simp⟩
  · cases s with
    | error e =>
      simp only [lenS] at hs HL
      obtain rfl : n = 0 := by omega
      obtain ⟨h1, he, he2⟩ := HH.out
      obtain ⟨hc0, hc1, hf0, hf1⟩ := own_cells2 h1
      have HC := Lib.hid (clone_any none [] 0 0 w (Rd.nil _ _ _) rfl (by omega) (by simp))
      have H1 := Lib.hid h1
      clear h1
      go_enter Try.func26, Try.ntmps26
      go_wp2_with (first | (go_at_call 27; refine HL.out.mono ?_; rintro e w' ⟨rfl, rfl⟩; clear HL) | (go_at_call 51; refine HC.out.mono ?_; rintro e w' ⟨v, rfl, ho, hb⟩; obtain ⟨hd0, hd1, he0, he1⟩ := own_cells2 (H1.out.later hb); obtain ⟨A1, c1, rfl, -, -, -⟩ := ho.rdX IsBytes.nil; have HO := Lib.hid (And.intro ho hb); clear ho hb hc0 hc1 hf0 hf1))
      go_ret
      exact ⟨_, [], rfl, OwnB.chg HO.out.1 (chgSet _ g _ _) fun k hk e => by have := owns_ge HO.out.1 hk; have := H1.out.lt; omega, IsBytes.nil, ⟨(H1.out.later HO.out.2).set 0 _, he, he2⟩, (fun a l' h => by cases h), ((Chg.of_below HO.out.2).trans (chgSet _ _ _ _) fun k _ e => e), by simp⟩
    | ok l =>
      simp only [lenS] at hs HL
      have hnl : n ≤ l.length := by omega
      obtain ⟨A, c, h1, hr, hlc, hcm, hlm⟩ := HH.out
      obtain ⟨hc0, hc1, hf0, hf1⟩ := own_cells2 h1
      obtain ⟨A', c', hE, hc', hX⟩ := cutB_l A l.length c (n : Int) n (l.length - n) rfl rfl hnl hlc
      obtain ⟨A2, c2, hE2, hc2, hX2⟩ := cutB_h A l.length c (n : Int) n rfl (by omega)
      have hb2 := hX2 _ _ _ hlc hr
      have HC := Lib.hid (clone_any A2 (l.take n) n c2 w hb2.rd (by simp; omega) (by omega))
      have HT := Lib.hid (fun (w' : World) (hb : Below w.heap.size w w') => rdrAt_tail (h1.later hb) ((hX _ _ _ hlc hr).later hb) hnl hc' hlc hcm hlm)
      have HB := Lib.hid (And.intro (IsBytes.take hr.1 n) (And.intro hnl hlm))
      have H1 := Lib.hid h1
      have HNL := Lib.hid hnl
      clear h1 hr hX hX2 hb2 hlc hcm hc' hc2 hnl
      generalize l.length - n = m2 at *
      generalize hq : l.length = q at *
      have HQ := Lib.hid hq
      clear hq
      go_enter Try.func26, Try.ntmps26
      go_wp2_with (first | (go_at_call 27; refine HL.out.mono ?_; rintro e w' ⟨rfl, rfl⟩; clear HL) | (go_at_call 51; refine HC.out.mono ?_; rintro e w' ⟨v, rfl, ho, hb⟩; obtain ⟨hd0, hd1, he0, he1⟩ := own_cells2 (H1.out.later hb); obtain ⟨A1, c1, rfl, -, -, -⟩ := ho.rdX HB.out.1; have HO := Lib.hid (And.intro ho hb); clear ho hb hc0 hc1 hf0 hf1; generalize (List.take n l).length = qq at *))
      go_ret
      have key : pBytes n l = .ok (l.take n, l.drop n) := by unfold pBytes; rw [if_pos (by have := HQ.out; have := HNL.out; omega)]
      refine ⟨_, l.take n, rfl, OwnB.chg HO.out.1 (chgSet _ g _ _) fun k hk e => ?_, HB.out.1, ?_, (fun a l' h => ?_), ((Chg.of_below HO.out.2).trans (chgSet _ _ _ _) fun k _ e => e), ?_⟩
      · have := owns_ge HO.out.1 hk; have := H1.out.lt; omega
      · rw [nx_ok, key]; exact HT.out w' HO.out.2
      · rw [bd_ok, key] at h; injection h with h; injection h
      · have := HB.out.2.2; have := HQ.out; simp; omega
end Go.Proofs.Ythbopijpekgbkaa
