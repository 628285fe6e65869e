/- types.TakeLimits: which limits bytes are. -/
import Derived.Test.YtnjbijndfbobbaaTypesTake2
namespace Go.Proofs.Ytnjbijndfbobbaa
open Go.RowKit
set_option maxRecDepth 100000
set_option linter.unusedVariables false

theorem NoByte.lim (a b : Int) (h : Bool) : NoByte [.int .u32 a, .int .u32 b, .bool h] := fun u hu x e => by subst e; simp at hu
def put3 (w : World) (g : Nat) (a b c : Value) : World := ((w.setCell ⟨g, 0, none⟩ a).setCell ⟨g, 1, none⟩ b).setCell ⟨g, 2, none⟩ c
theorem chg3 (w : World) (g : Nat) (a b c : Value) : Chg (fun k => k = g) w (put3 w g a b c) := ((chgSet w g 0 _).trans (chgSet _ g 1 _) fun _ _ e => e).trans (chgSet _ g 2 _) fun _ _ e => e
theorem own_put3 {w : World} {g : Nat} {t : TypeId} {b0 b1 b2 : Value} (h : Own w g t [b0, b1, b2]) (a0 a1 a2 : Value) : Own (put3 w g a0 a1 a2) g t [a0, a1, a2] := ((h.set 0 a0).set 1 a1).set 2 a2

set_option maxHeartbeats 2000000 in
theorem take_lim (A : Option Addr) (b : List Int) (n c : Nat) (w : World) (h : Rd w w.heap.size A b) (hn : n = b.length) (hl : n ≤ 1000000) (hc : n ≤ c) (hcm : c ≤ maxLen) :
    Calls Try.prog 33 #[.slice A n c] w (LimPost b w) := by
  have HR := Lib.hid h
  have HN := Lib.hid hn
  clear h hn
  go_enter Try.func33, Try.ntmps33
  go_wp2_with fail
  refine (rnew_any A n c _).mono ?_
  rintro e w1 ⟨rfl, hb1⟩
  have HT0 : Hid (T2 57 w w.heap.size w1.heap.size n [.int .u32 0, .int .u32 0, .bool false] (.ok b) (w1.alloc (.cells #[.slice A n c, .int .i64 0, .int .i64 0] 90))) := by
    have hs := hb1.size
    simp at hs
    have hw1 : Below w.heap.size w w1 := ((Below.refl _ _).alloc (Nat.le_refl _) _).trans (hb1.mono (by simp))
    have hR1 := (HR.out.rx.later hw1).mono (Y := (· < w1.heap.size)) fun k _ hk => by have : k < w.heap.size := hk; omega
    have hA := (Below.refl w1.heap.size w1).alloc (Nat.le_refl _) (.cells #[.slice A n c, .int .i64 0, .int .i64 0] 90)
    refine ⟨⟨A, c, 0, ?_, ?_, by rw [← HN.out]; exact hc, hcm, by rw [← HN.out]; exact hl, by have := HN.out; simp only []; omega, by have := HN.out; simp only []; omega, by simp only []; omega⟩, ?_, by omega, Nat.le_refl _, hw1.trans (hA.mono (by omega))⟩
    · rw [← HN.out]
      exact Own.new w1 90 [.slice A n c, .int .i64 0, .int .i64 0]
    · exact hR1.later hA
    · exact ((Own.new w 57 [.int .u32 0, .int .u32 0, .bool false]).later hb1).later hA
  have HA1 : Hid (RdX (fun k => k ≠ w1.heap.size) ((w1.alloc (.cells #[.slice A n c, .int .i64 0, .int .i64 0] 90)).alloc (.cells #[.int .u8 0, .int .u8 1] 5)) (some ⟨w1.heap.size + 1, 0, none⟩) [0, 1] ∧ Below (w1.alloc (.cells #[.slice A n c, .int .i64 0, .int .i64 0] 90)).heap.size (w1.alloc (.cells #[.slice A n c, .int .i64 0, .int .i64 0] 90)) ((w1.alloc (.cells #[.slice A n c, .int .i64 0, .int .i64 0] 90)).alloc (.cells #[.int .u8 0, .int .u8 1] 5))) := by
    refine ⟨?_, (Below.refl _ _).alloc (Nat.le_refl _) _⟩
    have := rdX_lit (w1.alloc (.cells #[.slice A n c, .int .i64 0, .int .i64 0] 90)) [0, 1] (IsBytes.app (IsBytes.one (z := 0) (by omega) (by omega)) (IsBytes.one (z := 1) (by omega) (by omega)))
    rw [show (w1.alloc (.cells #[.slice A n c, .int .i64 0, .int .i64 0] 90)).heap.size = w1.heap.size + 1 from by simp] at this
    exact this.mono fun k _ hk => by omega
  clear hb1
  go_wp2_with fail
  have HT1 := Lib.hid (HT0.out.below HA1.out.2)
  have HA := Lib.hid HA1.out.1
  clear HA1 HT0
  generalize (w1.alloc (.cells #[.slice A n c, .int .i64 0, .int .i64 0] 90)).alloc (.cells #[.int .u8 0, .int .u8 1] 5) = W at *
  generalize w1.heap.size = g4 at *
  generalize hg2 : w.heap.size = g2 at HT1 ⊢
  have HG2 := Lib.hid hg2
  clear hg2
  refine (among_any g4 _ (n, []) (.ok b) [0, 1] (some ⟨g4 + 1, 0, none⟩) 2 2 W HT1.out.1 HA.out rfl (by omega)).mono ?_
  rintro e w2 ⟨x, rfl, x0, x1, h2, h3, h4⟩
  have hT := HT1.out.step h2 h4
  obtain ⟨k0, k1, k2, f0, f1, f2⟩ := own_cells3 hT.2.1
  have HTh := Lib.hid (fun u => hT.set (NoByte.lim _ _ _) 2 (.bool u))
  have HV0 := Lib.hid h3
  clear h2 h3 h4 HT1 HA hT
  by_cases hx1 : x = 1
  · subst hx1
    have HT := Lib.hid (HTh.out true)
    clear HTh
    go_wp2_with fail
    refine (rU32_any g4 _ (n, []) _ _ HT.out.1).mono ?_
    rintro e w3 ⟨a, rfl, a0, a1, h2, h3, h4⟩
    have hT := HT.out.step h2 h4
    clear k0 k1 k2 f0 f1 f2
    obtain ⟨k0, k1, k2, f0, f1, f2⟩ := own_cells3 hT.2.1
    have HT := Lib.hid (hT.set (NoByte.lim _ _ _) 0 (.int .u32 a))
    have HV1 := Lib.hid h3
    clear h2 h3 h4 hT
    go_wp2_with fail
    refine (rU32_any g4 _ (n, []) _ _ HT.out.1).mono ?_
    rintro e w4 ⟨m, rfl, m0, m1, h2, h3, h4⟩
    have hT := HT.out.step h2 h4
    clear k0 k1 k2 f0 f1 f2
    obtain ⟨k0, k1, k2, f0, f1, f2⟩ := own_cells3 hT.2.1
    have HT := Lib.hid (hT.set (NoByte.lim _ _ _) 1 (.int .u32 m))
    have HV2 := Lib.hid h3
    clear h2 h3 h4 hT
    go_wp2_with fail
    refine (rstop_any g4 _ (n, []) _ _ HT.out.1).mono ?_
    rintro e w5 ⟨rfl, hb5⟩
    have hT := HT.out.below hb5
    clear k0 k1 k2 f0 f1 f2
    obtain ⟨k0, k1, k2, f0, f1, f2⟩ := own_cells3 hT.2.1
    have HO := Lib.hid hT.2.1
    have HB := Lib.hid (And.intro hT.2.2.1 (And.intro hT.2.2.2.1 hT.2.2.2.2))
    have HK : Hid (pLim b = bd (nx (pU 32) (nx (pU 32) (nx (pAmong [0, 1]) (.ok b)))) fun l => .ok ((⟨a, m, true⟩ : Lim), l)) := by
      unfold Hid
      rw [← bd_ok b pLim]
      unfold pLim
      rw [(nx_seq (pAmong [0, 1]) _ (.ok b) _ HV0.out).2, (nx_seq (pU 32) _ _ a HV1.out).2, if_pos rfl, (nx_seq (pU 32) _ _ m HV2.out).2]
    have HF := Lib.hid (end_cases _ HT.out.1.err b (⟨a, m, true⟩ : Lim))
    have HE : Hid ((∃ l, nx (pU 32) (nx (pU 32) (nx (pAmong [0, 1]) (.ok b))) = .ok l) → limOf (pLim b) = (⟨a, m, true⟩ : Lim)) := by
      rintro ⟨l, e⟩; rw [HK.out, e]; rfl
    have HE2 : Hid ((∃ e, nx (pU 32) (nx (pU 32) (nx (pAmong [0, 1]) (.ok b))) = .error e) → limOf (pLim b) = ⟨0, 0, false⟩) := by
      rintro ⟨l, e⟩; rw [HK.out, e]; rfl
    rw [← HK.out, ← HN.out] at HF
    clear HK hT hb5 HT HV0 HV1 HV2
    generalize nx (pU 32) (nx (pU 32) (nx (pAmong [0, 1]) (.ok b))) = sE at *
    rcases HF.out with ⟨h1, h2, h3, h4⟩ | ⟨h1, h2, h3, h4⟩
    · have HZ := Lib.hid (And.intro (HE.out h1) (And.intro h3 h4))
      rw [h2]
      clear h1 h3 h4 HF HE HE2 h2
      generalize readS (n, ([] : List Value)).1 sE = rd at *
      go_wp2
      have hW := own_put3 HO.out (.int .u32 a) (.int .u32 m) (.bool true)
      have hC := chg3 w5 g2 (.int .u32 a) (.int .u32 m) (.bool true)
      show bodyPost _ _ _ _ _ (put3 w5 g2 (.int .u32 a) (.int .u32 m) (.bool true))
      generalize put3 w5 g2 (.int .u32 a) (.int .u32 m) (.bool true) = W2 at *
      clear k0 k1 k2 f0 f1 f2
      obtain ⟨k0, k1, k2, -, -, -⟩ := own_cells3 hW
      refine bodyPost_ret (by simp [results, Try.results33, go_sem, k0, k1, k2]; try rfl) rfl ?_
      obtain ⟨z1, z2, z3⟩ := HZ.out
      have hBB := HB.out
      exact ⟨by rw [z1, ← z3, z2]; rfl, hBB.2.2.trans (hC.below hBB.2.2.size fun i hi e => by omega)⟩
    · have HZ := Lib.hid (And.intro (HE2.out h1) (And.intro h3 h4))
      have hne : (errS sE != 0) = true := by simpa using h2
      clear h1 h3 h4 HF HE HE2 h2
      generalize errS sE = ee at *
      generalize readS (n, ([] : List Value)).1 sE = rd at *
      go_wp2
      have hW := own_put3 HO.out (.int .u32 0) (.int .u32 0) (.bool false)
      have hC := chg3 w5 g2 (.int .u32 0) (.int .u32 0) (.bool false)
      show bodyPost _ _ _ _ _ (put3 w5 g2 (.int .u32 0) (.int .u32 0) (.bool false))
      generalize put3 w5 g2 (.int .u32 0) (.int .u32 0) (.bool false) = W2 at *
      clear k0 k1 k2 f0 f1 f2
      obtain ⟨k0, k1, k2, -, -, -⟩ := own_cells3 hW
      refine bodyPost_ret (by simp [results, Try.results33, go_sem, k0, k1, k2]; try rfl) rfl ?_
      obtain ⟨z1, z2, z3⟩ := HZ.out
      have hBB := HB.out
      exact ⟨by rw [z1, z2, z3]; rfl, hBB.2.2.trans (hC.below hBB.2.2.size fun i hi e => by omega)⟩
  · have hx2 : (x == 1) = false := by simpa using hx1
    have HT := Lib.hid (HTh.out false)
    clear HTh
    go_wp2_with fail
    refine (rU32_any g4 _ (n, []) _ _ HT.out.1).mono ?_
    rintro e w3 ⟨a, rfl, a0, a1, h2, h3, h4⟩
    have hT := HT.out.step h2 h4
    clear k0 k1 k2 f0 f1 f2
    obtain ⟨k0, k1, k2, f0, f1, f2⟩ := own_cells3 hT.2.1
    have HT := Lib.hid (hT.set (NoByte.lim _ _ _) 0 (.int .u32 a))
    have HV1 := Lib.hid h3
    clear h2 h3 h4 hT
    go_wp2_with fail
    refine (rstop_any g4 _ (n, []) _ _ HT.out.1).mono ?_
    rintro e w5 ⟨rfl, hb5⟩
    have hT := HT.out.below hb5
    clear k0 k1 k2 f0 f1 f2
    obtain ⟨k0, k1, k2, f0, f1, f2⟩ := own_cells3 hT.2.1
    have HO := Lib.hid hT.2.1
    have HB := Lib.hid (And.intro hT.2.2.1 (And.intro hT.2.2.2.1 hT.2.2.2.2))
    have HK : Hid (pLim b = bd (nx (pU 32) (nx (pAmong [0, 1]) (.ok b))) fun l => .ok ((⟨a, 0, false⟩ : Lim), l)) := by
      unfold Hid
      rw [← bd_ok b pLim]
      unfold pLim
      rw [(nx_seq (pAmong [0, 1]) _ (.ok b) _ HV0.out).2, (nx_seq (pU 32) _ _ a HV1.out).2, if_neg hx1]
    have HF := Lib.hid (end_cases _ HT.out.1.err b (⟨a, 0, false⟩ : Lim))
    have HE : Hid ((∃ l, nx (pU 32) (nx (pAmong [0, 1]) (.ok b)) = .ok l) → limOf (pLim b) = (⟨a, 0, false⟩ : Lim)) := by
      rintro ⟨l, e⟩; rw [HK.out, e]; rfl
    have HE2 : Hid ((∃ e, nx (pU 32) (nx (pAmong [0, 1]) (.ok b)) = .error e) → limOf (pLim b) = ⟨0, 0, false⟩) := by
      rintro ⟨l, e⟩; rw [HK.out, e]; rfl
    rw [← HK.out, ← HN.out] at HF
    clear HK hT hb5 HT HV0 HV1
    generalize nx (pU 32) (nx (pAmong [0, 1]) (.ok b)) = sE at *
    rcases HF.out with ⟨h1, h2, h3, h4⟩ | ⟨h1, h2, h3, h4⟩
    · have HZ := Lib.hid (And.intro (HE.out h1) (And.intro h3 h4))
      rw [h2]
      clear h1 h3 h4 HF HE HE2 h2
      generalize readS (n, ([] : List Value)).1 sE = rd at *
      go_wp2
      have hW := own_put3 HO.out (.int .u32 a) (.int .u32 0) (.bool false)
      have hC := chg3 w5 g2 (.int .u32 a) (.int .u32 0) (.bool false)
      show bodyPost _ _ _ _ _ (put3 w5 g2 (.int .u32 a) (.int .u32 0) (.bool false))
      generalize put3 w5 g2 (.int .u32 a) (.int .u32 0) (.bool false) = W2 at *
      clear k0 k1 k2 f0 f1 f2
      obtain ⟨k0, k1, k2, -, -, -⟩ := own_cells3 hW
      refine bodyPost_ret (by simp [results, Try.results33, go_sem, k0, k1, k2]; try rfl) rfl ?_
      obtain ⟨z1, z2, z3⟩ := HZ.out
      have hBB := HB.out
      exact ⟨by rw [z1, ← z3, z2]; rfl, hBB.2.2.trans (hC.below hBB.2.2.size fun i hi e => by omega)⟩
    · have HZ := Lib.hid (And.intro (HE2.out h1) (And.intro h3 h4))
      have hne : (errS sE != 0) = true := by simpa using h2
      clear h1 h3 h4 HF HE HE2 h2
      generalize errS sE = ee at *
      generalize readS (n, ([] : List Value)).1 sE = rd at *
      go_wp2
      have hW := own_put3 HO.out (.int .u32 0) (.int .u32 0) (.bool false)
      have hC := chg3 w5 g2 (.int .u32 0) (.int .u32 0) (.bool false)
      show bodyPost _ _ _ _ _ (put3 w5 g2 (.int .u32 0) (.int .u32 0) (.bool false))
      generalize put3 w5 g2 (.int .u32 0) (.int .u32 0) (.bool false) = W2 at *
      clear k0 k1 k2 f0 f1 f2
      obtain ⟨k0, k1, k2, -, -, -⟩ := own_cells3 hW
      refine bodyPost_ret (by simp [results, Try.results33, go_sem, k0, k1, k2]; try rfl) rfl ?_
      obtain ⟨z1, z2, z3⟩ := HZ.out
      have hBB := HB.out
      exact ⟨by rw [z1, z2, z3]; rfl, hBB.2.2.trans (hC.below hBB.2.2.size fun i hi e => by omega)⟩
end Go.Proofs.Ytnjbijndfbobbaa
