/- Texts joined: RefReaderS5, RefCode, OrSteps. -/
import Derived.Test.YtdbbcbffmbcjiaaJoin11
import Derived.Test.YtdbbcbffmbcjiaaJoin5
import Derived.Test.YtdbbcbffmbcjiaaJoin6
/- The document's Reader: signed numbers. (Written by gen_RefReaderS5.py.) -/
namespace Go.Proofs.Ytdbbcbffmbcjiaa
open Go.RowKit
set_option maxRecDepth 100000
set_option linter.unusedVariables false

theorem rdN_cases (bits : Int) (h0 : 1 ≤ bits) (hb : bits ≤ 64) (l : List Int) : rdN bits l = (0, 0, 3) ∨ rdN bits l = (0, 0, 2) ∨
    ∃ (u : Int) (m : Nat), rdN bits l = (u, (m : Int), 0) ∧ 0 ≤ u ∧ u < 18446744073709551616 ∧ 1 ≤ m ∧ m ≤ 10 ∧ m ≤ l.length := by
  unfold rdN on1
  rcases rdS_cases bits h0 hb l with h | h | ⟨u, m, h, h1, h2, h3, h4, h5⟩
  · left; rw [h]; rfl
  · right; left; rw [h]; rfl
  · right; right; exact ⟨u % 18446744073709551616, m, by rw [h], by omega, by omega, h3, h4, h5⟩
theorem pN_ok {bits : Int} {l : List Int} {u m : Int} (h : rdN bits l = (u, m, 0)) : ∃ a, pS bits l = .ok (a, l.drop m.toNat) ∧ u = a % 18446744073709551616 := by
  unfold rdN on1 at h
  injection h with h1 h2
  injection h2 with h2 h3
  refine ⟨(rdS bits l).1, ?_, h1.symm⟩
  unfold pS
  rw [h2, h3]; rfl
theorem pN_no {bits : Int} {l : List Int} {u m e : Int} (h : rdN bits l = (u, m, e)) (he : e ≠ 0) : pS bits l = .error e := by
  unfold rdN on1 at h
  injection h with h1 h2
  injection h2 with h2 h3
  unfold pS
  rw [h3, if_neg he]

set_option maxHeartbeats 1000000 in
theorem fnumS5_any (g : Nat) (s : St) (bits : Int) (w : World) (h : RfAt5 w g s) (hb : 1 ≤ bits) (hb2 : bits ≤ 64) :
    Calls Try.prog 101 #[.pointer (some ⟨g, 0, none⟩), .int .i64 bits, .bool true] w (fun e w' => ∃ x, e = .returned (.int .u64 x) ∧ 0 ≤ x ∧ x ≤ 18446744073709551615 ∧ RfAt5 w' g (nx (pS bits) s) ∧ (∀ a l', bd s (pS bits) = .ok (a, l') → x = a % 18446744073709551616) ∧ Chg (fun k => k = g) w w') := by
  rcases s with e | l
  · have HH := Lib.hid h
    obtain ⟨A, n, c, h1, he, he2, hn⟩ := h
    obtain ⟨hc0, hc1, hf0, hf1⟩ := own_cells2 h1
    clear h1
    have hne2 : (e != 0) = true := by simp; omega
    go_enter Try.func101, Try.ntmps101
    go_wp2
    go_ret
    exact ⟨0, rfl, by omega, by omega, HH.out, (fun a l' h => by cases h), Chg.refl _ _⟩
  · obtain ⟨A, c, h1, hr, hlc, hcm, hlm⟩ := h
    obtain ⟨hc0, hc1, hf0, hf1⟩ := own_cells2 h1
    have HU := Lib.hid (numberS A l l.length c bits w hr.rd rfl (by unfold maxLen; omega) hb hb2)
    have key : ∀ (u x : Int) (m : Nat), rdN bits l = (u, (m : Int), x) → m ≤ l.length → 0 ≤ u → u < 18446744073709551616 → (x = 0 ∨ (0 < x ∧ x ≤ 100)) → Calls Try.prog 101 #[.pointer (some ⟨g, 0, none⟩), .int .i64 bits, .bool true] w (fun e w' => ∃ x, e = .returned (.int .u64 x) ∧ 0 ≤ x ∧ x ≤ 18446744073709551615 ∧ RfAt5 w' g (nx (pS bits) (.ok l)) ∧ (∀ a l', bd (.ok l) (pS bits) = .ok (a, l') → x = a % 18446744073709551616) ∧ Chg (fun k => k = g) w w') := by
      intro u x m hd hm3 hu0 hu1 hx
      obtain ⟨A', c', hE, hc', hX⟩ := cutB_l A l.length c (m : Int) m (l.length - m) rfl rfl hm3 hlc
      have HD := Lib.hid hd
      have HW : Hid (∀ W, W = ((w.setCell ⟨g, 1, none⟩ (.int .i64 x)).setCell ⟨g, 0, none⟩ (.slice A' (l.length - m) c')).drew → RfAt5 W g (nx (pS bits) (.ok l)) ∧ (∀ a l', bd (.ok l) (pS bits) = .ok (a, l') → u = a % 18446744073709551616) ∧ Chg (fun k => k = g) w W) := by
        rintro W rfl
        have hch : Chg (fun k => k = g) w ((w.setCell ⟨g, 1, none⟩ (.int .i64 x)).setCell ⟨g, 0, none⟩ (.slice A' (l.length - m) c')).drew := ((chgSet _ _ _ _).trans (chgSet _ _ _ _) fun k _ e => e).drew
        have hO : Own ((w.setCell ⟨g, 1, none⟩ (.int .i64 x)).setCell ⟨g, 0, none⟩ (.slice A' (l.length - m) c')).drew g 58 [.slice A' (l.length - m) c', .int .i64 x] := (h1.set 1 _).set 0 _
        have hR := (hX _ _ _ hlc hr).chg hch fun k _ hk e => by omega
        rcases hx with rfl | ⟨hx1, hx2⟩
        · obtain ⟨sa, hp, hsa⟩ := pN_ok hd
          rw [Int.toNat_natCast] at hp
          rw [nx_ok, hp]
          refine ⟨⟨A', c', by rw [List.length_drop]; exact hO, hR, by rw [List.length_drop]; omega, by omega, by rw [List.length_drop]; omega⟩, (fun a l' h => by rw [bd_ok, hp] at h; injection h with h; injection h with h _; rw [← h]; exact hsa), hch⟩
        · have hp := pN_no hd (by omega)
          rw [nx_ok, hp]
          exact ⟨⟨A', _, c', hO, hx1, hx2, by omega⟩, (fun a l' h => by rw [bd_ok, hp] at h; cases h), hch⟩
      clear h1 hr hd hX hlc hcm hc' hm3 hx
      generalize hmm : l.length - m = m2 at *
      clear hmm
      generalize l.length = q at *
      go_enter Try.func101, Try.ntmps101
      go_wp2_with fail
      refine HU.out.mono ?_
      rw [HD.out]
      simp only [three]
      rintro e w' ⟨rfl, rfl⟩
      go_wp2
      go_region
      have H3 := Lib.hid (HW.out _ rfl)
      generalize (World.drew _) = W at *
      go_wp2
      go_ret
      exact ⟨u, rfl, hu0, by omega, H3.out.1, H3.out.2.1, H3.out.2.2⟩
    rcases rdN_cases bits hb hb2 l with hd | hd | ⟨u, m, hd, hu0, hu1, hm1, hm2, hm3⟩
    · exact key 0 3 0 hd (Nat.zero_le _) (by omega) (by omega) (.inr ⟨by omega, by omega⟩)
    · exact key 0 2 0 hd (Nat.zero_le _) (by omega) (by omega) (.inr ⟨by omega, by omega⟩)
    · exact key u 0 m hd hm3 hu0 hu1 (.inl rfl)
theorem pS_range {bits : Int} {s : St} {a : Int} {l' : List Int} (h : bd s (pS bits) = .ok (a, l')) : -9223372036854775808 ≤ a ∧ a < 9223372036854775808 := by
  cases s with
  | error e => cases h
  | ok l =>
    simp only [bd_ok, pS] at h
    split at h
    · injection h with h
      injection h with h _
      rw [← h]
      unfold rdS
      split
      · exact sx_range _ _
      · simp
    · cases h

theorem fS325_any (g : Nat) (s : St) (w : World) (h : RfAt5 w g s) :
    Calls Try.prog 67 #[.pointer (some ⟨g, 0, none⟩)] w (fun e w' => ∃ x, e = .returned (.int .u64 x) ∧ 0 ≤ x ∧ x ≤ 4294967295 ∧ RfAt5 w' g (nx (pS 32) s) ∧ (∀ a l', bd s (pS 32) = .ok (a, l') → x = a % 4294967296) ∧ Chg (fun k => k = g) w w') := by
  have HN := Lib.hid (fnumS5_any g s 32 w h (by omega) (by omega))
  clear h
  go_enter Try.func67, Try.ntmps67
  go_wp2_with fail
  refine HN.out.mono ?_
  rintro e w' ⟨x, rfl, h0, h1, h2, h3, h4⟩
  have H2 := Lib.hid (And.intro h2 (And.intro h3 h4))
  clear h2 h3 h4
  have hand : Go.bits .and .u64 x 4294967295 = x % 4294967296 := Go.bits_mask .u64 64 (by decide) (fun n a b => by rw [IntKind.wrap_u64]; omega) 32 (by decide) x h0 (by omega)
  go_wp2
  go_ret
  exact ⟨x % 4294967296, rfl, by omega, by omega, H2.out.1, (fun a l' h => by rw [H2.out.2.1 a l' h]; omega), H2.out.2.2⟩

theorem fS335_any (g : Nat) (s : St) (w : World) (h : RfAt5 w g s) :
    Calls Try.prog 103 #[.pointer (some ⟨g, 0, none⟩)] w (fun e w' => ∃ x, e = .returned (.int .i64 x) ∧ -9223372036854775808 ≤ x ∧ x ≤ 9223372036854775807 ∧ RfAt5 w' g (nx (pS 33) s) ∧ (∀ a l', bd s (pS 33) = .ok (a, l') → x = a) ∧ Chg (fun k => k = g) w w') := by
  have HN := Lib.hid (fnumS5_any g s 33 w h (by omega) (by omega))
  clear h
  go_enter Try.func103, Try.ntmps103
  go_wp2_with fail
  refine HN.out.mono ?_
  rintro e w' ⟨x, rfl, h0, h1, h2, h3, h4⟩
  have H2 := Lib.hid (And.intro h2 (And.intro h3 h4))
  clear h2 h3 h4
  go_wp2
  go_ret
  exact ⟨wrap64 x, rfl, by unfold wrap64; omega, by unfold wrap64; omega, H2.out.1, (fun a l' h => by have e := H2.out.2.1 a l' h; have r := pS_range h; unfold wrap64; omega), H2.out.2.2⟩

theorem fS645_any (g : Nat) (s : St) (w : World) (h : RfAt5 w g s) :
    Calls Try.prog 68 #[.pointer (some ⟨g, 0, none⟩)] w (fun e w' => ∃ x, e = .returned (.int .u64 x) ∧ 0 ≤ x ∧ x ≤ 18446744073709551615 ∧ RfAt5 w' g (nx (pS 64) s) ∧ (∀ a l', bd s (pS 64) = .ok (a, l') → x = a % 18446744073709551616) ∧ Chg (fun k => k = g) w w') := by
  have HN := Lib.hid (fnumS5_any g s 64 w h (by omega) (by omega))
  clear h
  go_enter Try.func68, Try.ntmps68
  go_wp2_with fail
  refine HN.out.mono ?_
  rintro e w' ⟨x, rfl, h0, h1, h2, h3, h4⟩
  have H2 := Lib.hid (And.intro h2 (And.intro h3 h4))
  clear h2 h3 h4
  go_wp2
  go_ret
  exact ⟨x, rfl, h0, h1, H2.out.1, H2.out.2.1, H2.out.2.2⟩
end Go.Proofs.Ytdbbcbffmbcjiaa

/- The document's reader of bodies: a byte that must be 0, an instruction's number, a block's type. -/
namespace Go.Proofs.Ytdbbcbffmbcjiaa
open Go.RowKit
set_option maxRecDepth 100000
set_option linter.unusedVariables false

theorem fzero5_any (g : Nat) (s : St) (w : World) (h : RfAt5 w g s) :
    Calls Try.prog 65 #[.pointer (some ⟨g, 0, none⟩)] w (FPost5 g (nx pZero s) w) := by
  have HB := Lib.hid (fbyte5_any g s w h)
  clear h
  go_enter Try.func65, Try.ntmps65
  go_wp2_with fail
  refine HB.out.mono ?_
  rintro e w1 ⟨x, rfl, x0, x1, h2, h3, h4⟩
  have HK := Lib.hid (zero_key h3)
  have H2 := Lib.hid (And.intro h2 h4)
  clear h2 h3 h4
  by_cases hx : x = 0
  · subst hx
    go_wp2
    go_end0
    have k := HK.out.1 (by simp)
    exact ⟨⟨_, rfl⟩, by rw [k.1]; exact H2.out.1, H2.out.2⟩
  · have hne : (x != 0) = true := by simpa using hx
    have HX := Lib.hid hx
    have HF := Lib.hid (ffail5_any g _ 2 w1 H2.out.1 (by omega) (by omega))
    clear hx
    go_wp2_with fail
    refine HF.out.mono ?_
    rintro e w2 ⟨⟨u, rfl⟩, h2, hc⟩
    have HC := Lib.hid (And.intro h2 hc)
    clear h2 hc
    go_wp2
    go_end0
    have k := HK.out.2 HX.out
    exact ⟨⟨_, rfl⟩, by rw [k.1]; exact HC.out.1, H2.out.2.trans HC.out.2 fun k _ e => e⟩

/-- An int that the document's reader read. -/
def IPost5 (p : PR Int) (g : Nat) (s : St) (w : World) (e : Ending) (w' : World) : Prop :=
  ∃ x, e = .returned (.int .i64 x) ∧ -9223372036854775808 ≤ x ∧ x ≤ 9223372036854775807 ∧ RfAt5 w' g (nx p s) ∧ (∀ a l', bd s p = .ok (a, l') → x = a) ∧ Chg (fun k => k = g) w w'
set_option maxHeartbeats 1000000 in
theorem fop5_any (g : Nat) (s : St) (w : World) (h : RfAt5 w g s) :
    Calls Try.prog 64 #[.pointer (some ⟨g, 0, none⟩)] w (IPost5 pOp g s w) := by
  have HB := Lib.hid (fbyte5_any g s w h)
  clear h
  go_enter Try.func64, Try.ntmps64
  go_wp2_with fail
  refine HB.out.mono ?_
  rintro e w1 ⟨b, rfl, b0, b1, h2, h3, h4⟩
  obtain ⟨ee, hee, hes⟩ := h2.cellE
  have H2 := Lib.hid (And.intro h2 (And.intro h3 h4))
  clear h2 h3 h4 HB
  by_cases hb : b = 252
  · subst hb
    rcases hes with ⟨rfl, l, hl⟩ | ⟨hne, hs⟩
    · have HU := Lib.hid (fU325_any g _ w1 H2.out.1)
      clear hl
      go_wp2_with fail
      refine HU.out.mono ?_
      rintro e w2 ⟨n, rfl, n0, n1, h2, h3, h4⟩
      have H3 := Lib.hid (And.intro h2 (And.intro h3 h4))
      have HK := Lib.hid (op_two H2.out.2.1 h3)
      clear h2 h3 h4 HU hee
      by_cases hn : 255 < n
      · have HF := Lib.hid (ffail5_any g _ 2 w2 H3.out.1 (by omega) (by omega))
        go_wp2_with fail
        refine HF.out.mono ?_
        rintro e w4 ⟨⟨u, rfl⟩, h2, hc⟩
        have HC4 := Lib.hid (And.intro h2 hc)
        clear h2 hc
        go_wp2
        go_ret
        have k := HK.out.2 hn
        exact ⟨64512 + n, rfl, by omega, by omega, by rw [k.1]; exact HC4.out.1, fun a l' h => (k.2 a l' h).elim, (H2.out.2.2.trans H3.out.2.2 fun k _ e => e).trans HC4.out.2 fun k _ e => e⟩
      · go_wp2
        go_ret
        have k := HK.out.1 hn
        exact ⟨64512 + n, rfl, by omega, by omega, by rw [k.1]; exact H3.out.1, k.2, H2.out.2.2.trans H3.out.2.2 fun k _ e => e⟩
    · have hnb : (ee == 0) = false := by simpa using hne
      have HS := Lib.hid hs
      clear hne hs
      go_wp2
      go_ret
      have key : nx pOp s = nx pByte s ∧ ∀ a l', bd s pOp ≠ .ok (a, l') := by
        have := HS.out
        cases s with
        | error e => exact ⟨rfl, fun a l' h => by cases h⟩
        | ok l =>
          simp only [nx_ok, bd_ok, pOp, seq] at this ⊢
          cases hp : pByte l with
          | error e => exact ⟨rfl, fun a l' h => by cases h⟩
          | ok r => rw [hp] at this; cases this
      exact ⟨252, rfl, by omega, by omega, by rw [key.1]; exact H2.out.1, fun a l' h => (key.2 a l' h).elim, H2.out.2.2⟩
  · have hne : (b == 252) = false := by simpa using hb
    have HN := Lib.hid hb
    clear hb hes
    go_wp2
    go_ret
    have k := op_one HN.out H2.out.2.1
    exact ⟨b, rfl, by omega, by omega, by rw [k.1]; exact H2.out.1, k.2, H2.out.2.2⟩

theorem pBlR_cons (b : Int) (r : List Int) : pBlR (b :: r) = if b = 64 ∨ valE b = 0 then .ok (b - 128, r) else if valE b = 5 then .error 5 else bd (pS 33 (b :: r)) fun q => if q.1 < 0 then .error 2 else .ok q := rfl
theorem blR_num {b : Int} {r : List Int} (h1 : ¬ (b = 64 ∨ valE b = 0)) (h2 : valE b ≠ 5) {v : Int} (h3 : ∀ a l', bd (.ok (b :: r)) (pS 33) = .ok (a, l') → v = a) :
    (v < 0 → nx pBlR (.ok (b :: r)) = failS 2 (nx (pS 33) (.ok (b :: r))) ∧ ∀ a l', bd (.ok (b :: r)) pBlR ≠ .ok (a, l')) ∧ (¬ v < 0 → nx pBlR (.ok (b :: r)) = nx (pS 33) (.ok (b :: r)) ∧ ∀ a l', bd (.ok (b :: r)) pBlR = .ok (a, l') → v = a) := by
  simp only [nx_ok, bd_ok, pBlR, if_neg h1, if_neg h2] at h3 ⊢
  cases hp : pS 33 (b :: r) with
  | error e => simp [failS]
  | ok q =>
    have := h3 q.1 q.2 (by rw [hp])
    subst this
    refine ⟨fun hv => ?_, fun hv => ?_⟩
    · simp [hv, failS]
    · simp only [bd_ok, if_neg hv]; exact ⟨trivial, fun a l' h => by injection h with h; rw [h]⟩
set_option maxHeartbeats 2000000 in
theorem fblock5_any (g : Nat) (s : St) (w : World) (h : RfAt5 w g s) :
    Calls Try.prog 69 #[.pointer (some ⟨g, 0, none⟩)] w (IPost5 pBl g s w) := by
  rcases s with e | (_ | ⟨b, r⟩)
  · have HH := Lib.hid h
    obtain ⟨A, n, c, h1, he, he2, hn⟩ := h
    obtain ⟨hc0, hc1, hf0, hf1⟩ := own_cells2 h1
    clear h1
    have hne : (e == 0) = false := by simp; omega
    have hne2 : (e != 0) = true := by simp; omega
    go_enter Try.func69, Try.ntmps69
    go_wp2
    go_ret
    exact ⟨0, rfl, by omega, by omega, HH.out, (fun a l' h => by cases h), Chg.refl _ _⟩
  · have HF := Lib.hid (ffail5_any g _ 3 w h (by omega) (by omega))
    have HH := Lib.hid h
    obtain ⟨A, c, h1, -, -, -, -⟩ := h
    obtain ⟨hc0, hc1, hf0, hf1⟩ := own_cells2 h1
    clear h1
    simp only [List.length_nil] at *
    go_enter Try.func69, Try.ntmps69
    go_wp2_with fail
    refine HF.out.mono ?_
    simp only [failS]
    rintro e w2 ⟨⟨u, rfl⟩, h2, hc⟩
    have HC := Lib.hid (And.intro h2 hc)
    have hc1 := h2.own1
    clear h2 hc
    go_wp2
    go_ret
    exact ⟨0, rfl, by omega, by omega, HC.out.1, (fun a l' h => by cases h), HC.out.2⟩
  · have HH := Lib.hid h
    have HB := Lib.hid (fbyte5_any g _ w h)
    have HU := Lib.hid (fS335_any g _ w h)
    obtain ⟨A, c, h1, hr, hlc, hcm, hlm⟩ := h
    obtain ⟨hc0, hc1, hf0, hf1⟩ := own_cells2 h1
    obtain ⟨bb, o, rfl, hb, hb2, hcell⟩ := hr.2.spot (by simp)
    have hx0 := hcell 0 (.int .u8 b) (by simp)
    rw [Nat.add_zero] at hx0
    have hbb := hr.1 b (by simp)
    have HD := Lib.hid (pBl_doc (b :: r) hr.1)
    have hq0 : (((b :: r).length : Nat) : Int) = 0 ↔ False := by simp; omega
    have hqp : 0 < (b :: r).length := by simp
    have HV := Lib.hid (value_any 102 (by simp) b w hbb.1 hbb.2)
    clear hcell hr h1 hlc hcm hlm
    generalize (b :: r).length = q at *
    by_cases hv : valE b = 0
    · have HP : Hid (pBl (b :: r) = .ok (b - 128, r)) := by unfold Hid; rw [← HD.out]; rw [pBlR_cons, if_pos (.inr hv)]
      have h64 : (b == 64) = false := by
        by_cases e : b = 64
        · subst e; exact absurd hv (by decide)
        · simpa using e
      go_enter Try.func69, Try.ntmps69
      go_wp2_with (go_at_call 102; refine HV.out.mono ?_; unfold valT; rw [hv]; rintro e w' ⟨rfl, rfl⟩)
      refine HB.out.mono ?_
      rintro e w1 ⟨x, rfl, x0, x1, h2, h3, h4⟩
      have H2 := Lib.hid (And.intro h2 h4)
      clear h2 h3 h4
      go_wp2
      go_ret
      refine ⟨b - 128, rfl, by omega, by omega, by rw [nx_ok, HP.out]; exact H2.out.1, fun a l' h => ?_, H2.out.2⟩
      rw [bd_ok, HP.out] at h; injection h with h; injection h
    by_cases h64 : b = 64
    · subst h64
      have HP : Hid (pBl (64 :: r) = .ok (-64, r)) := by unfold Hid; rw [← HD.out]; rw [pBlR_cons, if_pos (.inl rfl)]; rfl
      go_enter Try.func69, Try.ntmps69
      go_wp2_with (go_at_call 102; refine HV.out.mono ?_; unfold valT; rintro e w' ⟨rfl, rfl⟩)
      refine HB.out.mono ?_
      rintro e w1 ⟨x, rfl, x0, x1, h2, h3, h4⟩
      have H2 := Lib.hid (And.intro h2 h4)
      clear h2 h3 h4
      go_wp2
      go_ret
      refine ⟨-64, rfl, by omega, by omega, by rw [nx_ok, HP.out]; exact H2.out.1, fun a l' h => ?_, H2.out.2⟩
      rw [bd_ok, HP.out] at h; injection h with h; injection h
    have hdv : decide (valE b = 0) = false := by simpa using hv
    have h64' : (b == 64) = false := by simpa using h64
    have HNO : Hid (¬ (b = 64 ∨ valE b = 0)) := by unfold Hid; rintro (h | h); exact h64 h; exact hv h
    by_cases h5 : valE b = 5
    · have HP : Hid (pBl (b :: r) = .error 5) := by unfold Hid; rw [← HD.out]; rw [pBlR_cons, if_neg HNO.out, if_pos h5]
      have HF := Lib.hid (ffail5_any g _ 5 w HH.out (by omega) (by omega))
      clear hv h64
      go_enter Try.func69, Try.ntmps69
      go_wp2_with (go_at_call 102; refine HV.out.mono ?_; unfold valT; rw [hdv, h5]; rintro e w' ⟨rfl, rfl⟩)
      refine HF.out.mono ?_
      simp only [failS]
      rintro e w2 ⟨⟨u, rfl⟩, h2, hc⟩
      have HC := Lib.hid (And.intro h2 hc)
      clear h2 hc
      go_wp2
      go_ret
      refine ⟨0, rfl, by omega, by omega, by rw [nx_ok, HP.out]; exact HC.out.1, fun a l' h => ?_, HC.out.2⟩
      rw [bd_ok, HP.out] at h; cases h
    · have h2v : valE b = 2 := by rcases valE_cases b with h | h | h; exact absurd h hv; exact absurd h h5; exact h
      have H5 := Lib.hid h5
      clear hv h64 h5
      go_enter Try.func69, Try.ntmps69
      go_wp2_with (go_at_call 102; refine HV.out.mono ?_; unfold valT; rw [hdv, h2v]; rintro e w' ⟨rfl, rfl⟩)
      refine HU.out.mono ?_
      rintro e w1 ⟨v, rfl, v0, v1, h2, h3, h4⟩
      have HK := Lib.hid (blR_num HNO.out H5.out h3)
      have H2 := Lib.hid (And.intro h2 h4)
      have HE : Hid (nx pBl (.ok (b :: r)) = nx pBlR (.ok (b :: r)) ∧ bd (.ok (b :: r)) pBl = bd (.ok (b :: r)) pBlR) := by unfold Hid; simp only [nx_ok, bd_ok, HD.out]; trivial
      clear h2 h3 h4 hc0 hc1 hf0 hf1 hx0
      by_cases hneg : v < 0
      · have HF := Lib.hid (ffail5_any g _ 2 w1 H2.out.1 (by omega) (by omega))
        go_wp2_with fail
        refine HF.out.mono ?_
        rintro e w2 ⟨⟨u, rfl⟩, h2, hc⟩
        have HC := Lib.hid (And.intro h2 hc)
        clear h2 hc
        go_wp2
        go_ret
        have k := HK.out.1 (by first | exact hneg | simp)
        exact ⟨v, rfl, v0, v1, by rw [HE.out.1, k.1]; exact HC.out.1, fun a l' h => (k.2 a l' (by rw [← HE.out.2]; exact h)).elim, H2.out.2.trans HC.out.2 fun k _ e => e⟩
      · go_wp2
        go_ret
        have k := HK.out.2 (by first | exact hneg | simp | omega)
        exact ⟨v, rfl, v0, v1, by rw [HE.out.1, k.1]; exact H2.out.1, fun a l' h => k.2 a l' (by rw [← HE.out.2]; exact h), H2.out.2⟩
end Go.Proofs.Ytdbbcbffmbcjiaa

/- Tests of one number, joined by || and &&: one step a test, whatever the tests before have told. No function of the program. -/
namespace Go.Proofs.Ytdbbcbffmbcjiaa
open Go.RowKit
set_option maxRecDepth 100000
set_option linter.unusedVariables false

theorem under_int : Try.prog.underlying 3 = some (.int .i64) := Try.underlying3

section
variable {ops : Array Oper} {rest : List Oper} {a : Act} {Q : Exit → Act → World → Prop} {w : World}

theorem st_move (o : Oper) (x : Operand) (d : Nat) (h : o.op = .move x) (hd : o.dst = some d) (hw : Region.wanted o (yielded ops a.tmps) = true)
    (hr : wpList Try.prog ops Q rest ⟨a.tmps.setIfInBounds d (a.eval x), a.defers⟩ w) : wpList Try.prog ops Q (o :: rest) a w := by
  refine wpList_step fun K hK => ?_
  rw [if_pos hw]
  have e : (execOp a.eval o).run Try.prog w = .ok (.value (a.eval x)) w := by
    simp [execOp, h, go_sem]
  rw [Oper.wp, e, Oper.upon_value]
  refine hK _ _ ?_
  rw [hd]; exact hr
theorem st_assign (o : Oper) (x : Operand) (d : Nat) (h : o.op = .assign x) (hd : o.dst = some d) (hw : Region.wanted o (yielded ops a.tmps) = true)
    (hr : wpList Try.prog ops Q rest ⟨a.tmps.setIfInBounds d (a.eval x), a.defers⟩ w) : wpList Try.prog ops Q (o :: rest) a w := by
  refine wpList_step fun K hK => ?_
  rw [if_pos hw]
  have e : (execOp a.eval o).run Try.prog w = .ok (.value (a.eval x)) w := by
    simp [execOp, h, go_sem]
  rw [Oper.wp, e, Oper.upon_value]
  refine hK _ _ ?_
  rw [hd]; exact hr
theorem st_skip (o : Oper) (d : Nat) (hd : o.dst = some d) (hw : Region.wanted o (yielded ops a.tmps) = false)
    (hr : wpList Try.prog ops Q rest ⟨a.tmps.setIfInBounds d undef, a.defers⟩ w) : wpList Try.prog ops Q (o :: rest) a w := by
  refine wpList_step fun K hK => ?_
  rw [if_neg (by simp [hw])]
  refine hK _ _ ?_
  rw [hd]; exact hr
theorem st_pick (o : Oper) (c x y : Operand) (b : Bool) (d : Nat) (h : o.op = .pick c x y) (hc : a.eval c = .bool b) (hd : o.dst = some d) (hw : Region.wanted o (yielded ops a.tmps) = true)
    (hr : wpList Try.prog ops Q rest ⟨a.tmps.setIfInBounds d (if b then a.eval x else a.eval y), a.defers⟩ w) : wpList Try.prog ops Q (o :: rest) a w := by
  refine wpList_step fun K hK => ?_
  rw [if_pos hw]
  have gen : ∀ ρ : Operand → Value, ρ c = .bool b → (execOp ρ o).run Try.prog w = .ok (.value (if b then ρ x else ρ y)) w := by
    intro ρ hρ
    simp [execOp, h, hρ, go_sem]
  have e := gen a.eval hc
  rw [Oper.wp, e, Oper.upon_value]
  refine hK _ _ ?_
  rw [hd]; exact hr
/-- Which number tests there are. -/
inductive Cmp where
  | eq | ge | le | gt
def Cmp.bin : Cmp → BinOp
  | .eq => .eql | .ge => .geq | .le => .leq | .gt => .gtr
def Cmp.tell : Cmp → Int → Int → Bool
  | .eq, x, y => x == y | .ge, x, y => decide (y ≤ x) | .le, x, y => decide (x ≤ y) | .gt, x, y => decide (y < x)
theorem st_cmp (o : Oper) (k : Cmp) (x : Operand) (t : TypeId) (m n : Int) (d : Nat) (h : o.op = .binOp k.bin 3 x (.const (.int .i64 n)) t) (hx : a.eval x = .int .i64 m) (hd : o.dst = some d) (hw : Region.wanted o (yielded ops a.tmps) = true)
    (hr : wpList Try.prog ops Q rest ⟨a.tmps.setIfInBounds d (.bool (k.tell m n)), a.defers⟩ w) : wpList Try.prog ops Q (o :: rest) a w := by
  refine wpList_step fun K hK => ?_
  rw [if_pos hw]
  have gen : ∀ ρ : Operand → Value, ρ x = .int .i64 m → ρ (.const (.int .i64 n)) = .int .i64 n → (execOp ρ o).run Try.prog w = .ok (.value (.bool (k.tell m n))) w := by
    intro ρ hρ hn
    cases k <;> simp [execOp, h, hρ, hn, Cmp.bin, Cmp.tell, go_sem]
  have e := gen a.eval hx rfl
  rw [Oper.wp, e, Oper.upon_value]
  refine hK _ _ ?_
  rw [hd]; exact hr
theorem wanted_none {o : Oper} {y : Nat → Option Bool} (h : o.guard = none) : Region.wanted o y = true := by simp [Region.wanted, h]
theorem wanted_at {o o1 : Oper} {T : Array Value} {i d : Nat} {b p : Bool} (h : o.guard = some (i, b)) (hi : ops[i]? = some o1) (hd : o1.dst = some d) (ht : T[d]? = some (.bool p)) : Region.wanted o (yielded ops T) = (p == b) := by
  simp [Region.wanted, h, yielded, hi, hd, ht]
theorem wanted_un {o o1 : Oper} {T : Array Value} {i d : Nat} {b : Bool} (h : o.guard = some (i, b)) (hi : ops[i]? = some o1) (hd : o1.dst = some d) (ht : T[d]? = some undef) : Region.wanted o (yielded ops T) = false := by
  simp [Region.wanted, h, yielded, hi, hd, ht, undef]
theorem ev_ne {T : Array Value} {D : List Deferred} {s d : Nat} {v : Value} (h : s ≠ d) : (⟨T.setIfInBounds d v, D⟩ : Act).eval (.tmp s) = (⟨T, D⟩ : Act).eval (.tmp s) := by
  simp [Act.eval, Ne.symm h]
theorem ev_eq {T : Array Value} {D : List Deferred} {d : Nat} {v : Value} (h : d < T.size) : (⟨T.setIfInBounds d v, D⟩ : Act).eval (.tmp d) = v := by
  simp [Act.eval, h]
theorem ev_const (a : Act) (v : Value) : a.eval (.const v) = v := rfl
theorem at_ne {T : Array Value} {s d : Nat} {v : Value} (h : s ≠ d) : (T.setIfInBounds d v)[s]? = T[s]? := by simp [Ne.symm h]
theorem at_eq {T : Array Value} {d : Nat} {v : Value} (h : d < T.size) : (T.setIfInBounds d v)[d]? = some v := by simp [h]
/-- p || x ∘ c -/
theorem or_cmp (o1 o2 o3 o4 : Oper) (i d1 d2 d3 d4 s : Nat) (sp : Operand) (k : Cmp) (t : TypeId) (c x : Int) (p : Bool)
    (h1 : o1.op = .move sp ∧ o1.guard = none ∧ o1.dst = some d1) (h2 : o2.op = .move (.tmp s) ∧ o2.guard = some (i, false) ∧ o2.dst = some d2)
    (h3 : o3.op = .binOp k.bin 3 (.tmp d2) (.const (.int .i64 c)) t ∧ o3.guard = some (i, false) ∧ o3.dst = some d3)
    (h4 : o4.op = .pick (.tmp d1) (.const (.bool true)) (.tmp d3) ∧ o4.guard = none ∧ o4.dst = some d4)
    (hi : ops[i]? = some o1) (hd : s < d1 ∧ d1 < d2 ∧ d2 < d3 ∧ d3 < d4 ∧ d4 < a.tmps.size) (hp : a.eval sp = .bool p) (hx : a.eval (.tmp s) = .int .i64 x)
    (h : ∀ u v, wpList Try.prog ops Q rest ⟨(((a.tmps.setIfInBounds d1 (.bool p)).setIfInBounds d2 u).setIfInBounds d3 v).setIfInBounds d4 (.bool (p || k.tell x c)), a.defers⟩ w) : wpList Try.prog ops Q (o1 :: o2 :: o3 :: o4 :: rest) a w := by
  obtain ⟨q1, q2, q3, q4, q5⟩ := hd
  obtain ⟨T, D⟩ := a
  simp only at *
  refine st_move _ _ _ h1.1 h1.2.2 (wanted_none h1.2.1) ?_
  rw [hp]
  dsimp only
  cases p with
  | true =>
    refine st_skip _ _ h2.2.2 (wanted_at (p := true) h2.2.1 hi h1.2.2 (at_eq (by omega))) ?_
    refine st_skip _ _ h3.2.2 (wanted_at (p := true) h3.2.1 hi h1.2.2 (by simp (disch := ((try simp only [Array.size_setIfInBounds]); omega)) only [at_ne, at_eq])) ?_
    refine st_pick _ _ _ _ true _ h4.1 (by simp (disch := ((try simp only [Array.size_setIfInBounds]); omega)) only [ev_ne, ev_eq]) h4.2.2 (wanted_none h4.2.1) ?_
    exact h _ _
  | false =>
    refine st_move _ _ _ h2.1 h2.2.2 (wanted_at (p := false) h2.2.1 hi h1.2.2 (at_eq (by omega))) ?_
    simp (disch := ((try simp only [Array.size_setIfInBounds]); omega)) only [ev_ne, hx]
    refine st_cmp _ k _ _ x c _ h3.1 (by simp (disch := ((try simp only [Array.size_setIfInBounds]); omega)) only [ev_eq]) h3.2.2 (wanted_at (p := false) h3.2.1 hi h1.2.2 (by simp (disch := ((try simp only [Array.size_setIfInBounds]); omega)) only [at_ne, at_eq])) ?_
    refine st_pick _ _ _ _ false _ h4.1 (by simp (disch := ((try simp only [Array.size_setIfInBounds]); omega)) only [ev_ne, ev_eq]) h4.2.2 (wanted_none h4.2.1) ?_
    rw [if_neg (by simp)]
    simp (disch := ((try simp only [Array.size_setIfInBounds]); omega)) only [ev_eq]
    exact h _ _
/-- p && x ∘ c -/
theorem and_cmp (o1 o2 o3 o4 : Oper) (i d1 d2 d3 d4 s : Nat) (sp : Operand) (k : Cmp) (t : TypeId) (c x : Int) (p : Bool)
    (h1 : o1.op = .move sp ∧ o1.guard = none ∧ o1.dst = some d1) (h2 : o2.op = .move (.tmp s) ∧ o2.guard = some (i, true) ∧ o2.dst = some d2)
    (h3 : o3.op = .binOp k.bin 3 (.tmp d2) (.const (.int .i64 c)) t ∧ o3.guard = some (i, true) ∧ o3.dst = some d3)
    (h4 : o4.op = .pick (.tmp d1) (.tmp d3) (.const (.bool false)) ∧ o4.guard = none ∧ o4.dst = some d4)
    (hi : ops[i]? = some o1) (hd : s < d1 ∧ d1 < d2 ∧ d2 < d3 ∧ d3 < d4 ∧ d4 < a.tmps.size) (hp : a.eval sp = .bool p) (hx : a.eval (.tmp s) = .int .i64 x)
    (h : ∀ u v, wpList Try.prog ops Q rest ⟨(((a.tmps.setIfInBounds d1 (.bool p)).setIfInBounds d2 u).setIfInBounds d3 v).setIfInBounds d4 (.bool (p && k.tell x c)), a.defers⟩ w) : wpList Try.prog ops Q (o1 :: o2 :: o3 :: o4 :: rest) a w := by
  obtain ⟨q1, q2, q3, q4, q5⟩ := hd
  obtain ⟨T, D⟩ := a
  simp only at *
  refine st_move _ _ _ h1.1 h1.2.2 (wanted_none h1.2.1) ?_
  rw [hp]
  dsimp only
  cases p with
  | false =>
    refine st_skip _ _ h2.2.2 (wanted_at (p := false) h2.2.1 hi h1.2.2 (at_eq (by omega))) ?_
    refine st_skip _ _ h3.2.2 (wanted_at (p := false) h3.2.1 hi h1.2.2 (by simp (disch := ((try simp only [Array.size_setIfInBounds]); omega)) only [at_ne, at_eq])) ?_
    refine st_pick _ _ _ _ false _ h4.1 (by simp (disch := ((try simp only [Array.size_setIfInBounds]); omega)) only [ev_ne, ev_eq]) h4.2.2 (wanted_none h4.2.1) ?_
    rw [if_neg (by simp), ev_const]
    exact h undef undef
  | true =>
    refine st_move _ _ _ h2.1 h2.2.2 (wanted_at (p := true) h2.2.1 hi h1.2.2 (at_eq (by omega))) ?_
    simp (disch := ((try simp only [Array.size_setIfInBounds]); omega)) only [ev_ne, hx]
    refine st_cmp _ k _ _ x c _ h3.1 (by simp (disch := ((try simp only [Array.size_setIfInBounds]); omega)) only [ev_eq]) h3.2.2 (wanted_at (p := true) h3.2.1 hi h1.2.2 (by simp (disch := ((try simp only [Array.size_setIfInBounds]); omega)) only [at_ne, at_eq])) ?_
    refine st_pick _ _ _ _ true _ h4.1 (by simp (disch := ((try simp only [Array.size_setIfInBounds]); omega)) only [ev_ne, ev_eq]) h4.2.2 (wanted_none h4.2.1) ?_
    rw [if_pos rfl]
    simp (disch := ((try simp only [Array.size_setIfInBounds]); omega)) only [ev_eq]
    exact h _ _
set_option maxHeartbeats 1000000 in
/-- p || lo ≤ x && x ≤ hi -/
theorem or_rng (o1 o2 o3 o4 o5 o6 o7 o8 : Oper) (i j d1 d2 d3 d4 d5 d6 d7 d8 s : Nat) (sp : Operand) (t t' : TypeId) (lo hi x : Int) (p : Bool)
    (h1 : o1.op = .move sp ∧ o1.guard = none ∧ o1.dst = some d1) (h2 : o2.op = .move (.tmp s) ∧ o2.guard = some (i, false) ∧ o2.dst = some d2)
    (h3 : o3.op = .binOp .geq 3 (.tmp d2) (.const (.int .i64 lo)) t ∧ o3.guard = some (i, false) ∧ o3.dst = some d3)
    (h4 : o4.op = .move (.tmp d3) ∧ o4.guard = some (i, false) ∧ o4.dst = some d4)
    (h5 : o5.op = .move (.tmp s) ∧ o5.guard = some (j, true) ∧ o5.dst = some d5)
    (h6 : o6.op = .binOp .leq 3 (.tmp d5) (.const (.int .i64 hi)) t' ∧ o6.guard = some (j, true) ∧ o6.dst = some d6)
    (h7 : o7.op = .pick (.tmp d4) (.tmp d6) (.const (.bool false)) ∧ o7.guard = some (i, false) ∧ o7.dst = some d7)
    (h8 : o8.op = .pick (.tmp d1) (.const (.bool true)) (.tmp d7) ∧ o8.guard = none ∧ o8.dst = some d8)
    (hi1 : ops[i]? = some o1) (hj : ops[j]? = some o4) (hd : s < d1 ∧ d1 < d2 ∧ d2 < d3 ∧ d3 < d4 ∧ d4 < d5 ∧ d5 < d6 ∧ d6 < d7 ∧ d7 < d8 ∧ d8 < a.tmps.size) (hp : a.eval sp = .bool p) (hx : a.eval (.tmp s) = .int .i64 x)
    (h : ∀ u2 u3 u4 u5 u6 u7, wpList Try.prog ops Q rest ⟨(((((((a.tmps.setIfInBounds d1 (.bool p)).setIfInBounds d2 u2).setIfInBounds d3 u3).setIfInBounds d4 u4).setIfInBounds d5 u5).setIfInBounds d6 u6).setIfInBounds d7 u7).setIfInBounds d8 (.bool (p || (decide (lo ≤ x) && decide (x ≤ hi)))), a.defers⟩ w) : wpList Try.prog ops Q (o1 :: o2 :: o3 :: o4 :: o5 :: o6 :: o7 :: o8 :: rest) a w := by
  obtain ⟨q1, q2, q3, q4, q5, q6, q7, q8, q9⟩ := hd
  obtain ⟨T, D⟩ := a
  simp only at *
  refine st_move _ _ _ h1.1 h1.2.2 (wanted_none h1.2.1) ?_
  rw [hp]
  dsimp only
  cases p with
  | true =>
    refine st_skip _ _ h2.2.2 (wanted_at (p := true) h2.2.1 hi1 h1.2.2 (at_eq (by omega))) ?_
    refine st_skip _ _ h3.2.2 (wanted_at (p := true) h3.2.1 hi1 h1.2.2 (by simp (disch := ((try simp only [Array.size_setIfInBounds]); omega)) only [at_ne, at_eq])) ?_
    refine st_skip _ _ h4.2.2 (wanted_at (p := true) h4.2.1 hi1 h1.2.2 (by simp (disch := ((try simp only [Array.size_setIfInBounds]); omega)) only [at_ne, at_eq])) ?_
    refine st_skip _ _ h5.2.2 (wanted_un h5.2.1 hj h4.2.2 (by simp (disch := ((try simp only [Array.size_setIfInBounds]); omega)) only [at_eq])) ?_
    refine st_skip _ _ h6.2.2 (wanted_un h6.2.1 hj h4.2.2 (by simp (disch := ((try simp only [Array.size_setIfInBounds]); omega)) only [at_ne, at_eq])) ?_
    refine st_skip _ _ h7.2.2 (wanted_at (p := true) h7.2.1 hi1 h1.2.2 (by simp (disch := ((try simp only [Array.size_setIfInBounds]); omega)) only [at_ne, at_eq])) ?_
    refine st_pick _ _ _ _ true _ h8.1 (by simp (disch := ((try simp only [Array.size_setIfInBounds]); omega)) only [ev_ne, ev_eq]) h8.2.2 (wanted_none h8.2.1) ?_
    have h' := h undef undef undef undef undef undef
    rw [Bool.true_or] at h'
    rw [if_pos rfl, ev_const]
    dsimp only
    exact h'
  | false =>
    refine st_move _ _ _ h2.1 h2.2.2 (wanted_at (p := false) h2.2.1 hi1 h1.2.2 (at_eq (by omega))) ?_
    simp (disch := ((try simp only [Array.size_setIfInBounds]); omega)) only [ev_ne, hx]
    refine st_cmp _ .ge _ _ x lo _ h3.1 (by simp (disch := ((try simp only [Array.size_setIfInBounds]); omega)) only [ev_eq]) h3.2.2 (wanted_at (p := false) h3.2.1 hi1 h1.2.2 (by simp (disch := ((try simp only [Array.size_setIfInBounds]); omega)) only [at_ne, at_eq])) ?_
    refine st_move _ _ _ h4.1 h4.2.2 (wanted_at (p := false) h4.2.1 hi1 h1.2.2 (by simp (disch := ((try simp only [Array.size_setIfInBounds]); omega)) only [at_ne, at_eq])) ?_
    simp (disch := ((try simp only [Array.size_setIfInBounds]); omega)) only [ev_eq]
    generalize hq : Cmp.ge.tell x lo = q
    have hq' : decide (lo ≤ x) = q := hq
    rw [hq'] at h
    cases q with
    | true =>
      refine st_move _ _ _ h5.1 h5.2.2 (wanted_at (p := true) h5.2.1 hj h4.2.2 (by simp (disch := ((try simp only [Array.size_setIfInBounds]); omega)) only [at_eq])) ?_
      simp (disch := ((try simp only [Array.size_setIfInBounds]); omega)) only [ev_ne, hx]
      refine st_cmp _ .le _ _ x hi _ h6.1 (by simp (disch := ((try simp only [Array.size_setIfInBounds]); omega)) only [ev_eq]) h6.2.2 (wanted_at (p := true) h6.2.1 hj h4.2.2 (by simp (disch := ((try simp only [Array.size_setIfInBounds]); omega)) only [at_ne, at_eq])) ?_
      refine st_pick _ _ _ _ true _ h7.1 (by simp (disch := ((try simp only [Array.size_setIfInBounds]); omega)) only [ev_ne, ev_eq]) h7.2.2 (wanted_at (p := false) h7.2.1 hi1 h1.2.2 (by simp (disch := ((try simp only [Array.size_setIfInBounds]); omega)) only [at_ne, at_eq])) ?_
      rw [if_pos rfl]
      simp (disch := ((try simp only [Array.size_setIfInBounds]); omega)) only [ev_eq]
      refine st_pick _ _ _ _ false _ h8.1 (by simp (disch := ((try simp only [Array.size_setIfInBounds]); omega)) only [ev_ne, ev_eq]) h8.2.2 (wanted_none h8.2.1) ?_
      rw [if_neg (by simp)]
      simp (disch := ((try simp only [Array.size_setIfInBounds]); omega)) only [ev_eq]
      refine (cast ?_ (h (.int .i64 x) (.bool true) (.bool true) (.int .i64 x) (.bool (decide (x ≤ hi))) (.bool (decide (x ≤ hi)))))
      simp only [Bool.false_or, Bool.true_and, Cmp.tell]
    | false =>
      refine st_skip _ _ h5.2.2 (wanted_at (p := false) h5.2.1 hj h4.2.2 (by simp (disch := ((try simp only [Array.size_setIfInBounds]); omega)) only [at_eq])) ?_
      refine st_skip _ _ h6.2.2 (wanted_at (p := false) h6.2.1 hj h4.2.2 (by simp (disch := ((try simp only [Array.size_setIfInBounds]); omega)) only [at_ne, at_eq])) ?_
      refine st_pick _ _ _ _ false _ h7.1 (by simp (disch := ((try simp only [Array.size_setIfInBounds]); omega)) only [ev_ne, ev_eq]) h7.2.2 (wanted_at (p := false) h7.2.1 hi1 h1.2.2 (by simp (disch := ((try simp only [Array.size_setIfInBounds]); omega)) only [at_ne, at_eq])) ?_
      rw [if_neg (by simp), ev_const]
      refine st_pick _ _ _ _ false _ h8.1 (by simp (disch := ((try simp only [Array.size_setIfInBounds]); omega)) only [ev_ne, ev_eq]) h8.2.2 (wanted_none h8.2.1) ?_
      rw [if_neg (by simp)]
      simp (disch := ((try simp only [Array.size_setIfInBounds]); omega)) only [ev_eq]
      refine (cast ?_ (h (.int .i64 x) (.bool false) (.bool false) undef undef (.bool false)))
      simp only [Bool.false_or, Bool.false_and]
end
end Go.Proofs.Ytdbbcbffmbcjiaa
