/- The document's Limits: what its call comes to. -/
import Derived.Test.YtnjbijndfbobbaaRefTypes2
import Derived.Deep.Cut
namespace Go.Proofs.Ytnjbijndfbobbaa
open Go.RowKit
set_option maxRecDepth 100000
set_option linter.unusedVariables false

theorem lim_end {s sE : St} {q : Lim} {g : Nat} {wr : World} (hK : bd s pLim = bd sE fun l => .ok (q, l)) (hr : RfAt wr g sE) : RfAt wr g (nx pLim s) ∧ ∀ a l', bd s pLim = .ok (a, l') → q = a := by
  refine ⟨?_, fun a l' h => ?_⟩
  · unfold nx
    rw [hK]
    cases sE <;> exact hr
  · rw [hK] at h
    cases sE with
    | error e => cases h
    | ok l => injection h with h; injection h
set_option maxHeartbeats 2000000 in
theorem flim_any (g : Nat) (s : St) (w : World) (h : RfAt w g s) :
    Calls Try.prog 76 #[.pointer (some ⟨g, 0, none⟩)] w (FLPost g s w) := by
  have HT := Lib.hid (F2.new h 57 [.int .u32 0, .int .u32 0, .bool false])
  clear h
  go_enter Try.func76, Try.ntmps76
  go_wp2_with fail
  change Calls _ _ _ (w.alloc (.cells [.int .u32 0, .int .u32 0, .bool false].toArray 57)) _
  generalize w.alloc (.cells [.int .u32 0, .int .u32 0, .bool false].toArray 57) = W0 at *
  generalize hg2 : w.heap.size = g2 at HT ⊢
  have HG := Lib.hid hg2
  clear hg2
  refine (fbyte_any g s W0 HT.out.1).mono ?_
  rintro e w1 ⟨x, rfl, h0, h1, h2, h3, h4⟩
  have HT := Lib.hid (HT.out.step h2 h4)
  have H3 := Lib.hid h3
  clear h2 h3 h4
  rcases show 1 < x ∨ x = 1 ∨ x = 0 from by omega with hx | rfl | rfl
  · have hk := am_out (ps := [0, 1]) (x := x) (by simp; omega) H3.out
    have HF := Lib.hid (ffail_any g _ 2 w1 HT.out.1 (by omega) (by omega))
    rw [← hk.1] at HF
    have HV0 : Hid (∀ a l', bd s (pAmong [0, 1]) = .ok (a, l') → x = a) := fun a l' h => (hk.2 a l' h).elim
    have hx1 : (x == 1) = false := by simp; omega
    have HNE : Hid (¬ x = 1) := by unfold Hid; omega
    clear hk H3
    go_wp2_with fail
    refine HF.out.mono ?_
    rintro e w1' ⟨⟨u, rfl⟩, h2, hc⟩
    have HT := Lib.hid (HT.out.step h2 hc)
    clear h2 hc HF
    go_wp2_with fail
    refine (fU32_any g _ _ HT.out.1).mono ?_
    rintro e w2 ⟨a, rfl, a0, a1, h2, h3, h4⟩
    have HT := Lib.hid (HT.out.step h2 h4)
    have HV1 := Lib.hid h3
    clear h2 h3 h4
    have hg22 := HT.out.2.1.lt
    have hb3 : Below w2.heap.size w2 (w2.alloc (.cells #[.int .u32 a, .int .u32 0, .bool false] 57)) := (Below.refl _ _).alloc (Nat.le_refl _) _
    have HL : Hid (Own (w2.alloc (.cells #[.int .u32 a, .int .u32 0, .bool false] 57)) w2.heap.size 57 [.int .u32 a, .int .u32 0, .bool false]) := Own.new w2 57 [.int .u32 a, .int .u32 0, .bool false]
    have HT := Lib.hid (HT.out.step (HT.out.1.later hb3) (Chg.of_below hb3))
    clear hb3
    go_upto_region 5 with fail
    generalize w2.alloc (.cells #[.int .u32 a, .int .u32 0, .bool false] 57) = w3 at *
    generalize w2.heap.size = g4 at *
    obtain ⟨j0, j1, j2, q0, q1, q2⟩ := own_cells3 HL.out
    obtain ⟨k0, k1, k2, f0, f1, f2⟩ := own_cells3 HT.out.2.1
    go_wp2
    have hW : F2 57 w g g2 [.int .u32 a, .int .u32 0, .bool false] (nx (pU 32) (nx (pAmong [0, 1]) s)) (put3 w3 g2 (.int .u32 a) (.int .u32 0) (.bool false)) := ((HT.out.set 0 (.int .u32 a)).set 1 (.int .u32 0)).set 2 (.bool false)
    show bodyPost _ _ _ _ _ (put3 w3 g2 (.int .u32 a) (.int .u32 0) (.bool false))
    generalize put3 w3 g2 (.int .u32 a) (.int .u32 0) (.bool false) = W2 at *
    clear k0 k1 k2 f0 f1 f2 j0 j1 j2 q0 q1 q2
    obtain ⟨k0, k1, k2, -, -, -⟩ := own_cells3 hW.2.1
    refine bodyPost_ret (by simp [results, Try.results76, go_sem, k0, k1, k2]; try rfl) rfl ?_
    have hK : bd s pLim = bd (nx (pU 32) (nx (pAmong [0, 1]) s)) fun l => .ok ((⟨a, 0, false⟩ : Lim), l) := by
      unfold pLim
      rw [(nx_seq (pAmong [0, 1]) _ s _ HV0.out).2, (nx_seq (pU 32) _ _ a HV1.out).2, if_neg HNE.out]
    have hE := lim_end hK hW.1
    exact ⟨⟨a, 0, false⟩, rfl, hE.1, hE.2, hW.2.2.2.2⟩
  · have hk := am_in (ps := [0, 1]) (x := 1) (by simp) H3.out
    have HT : Hid (F2 57 w g g2 [.int .u32 0, .int .u32 0, .bool false] (nx (pAmong [0, 1]) s) w1) := by unfold Hid; rw [hk.1]; exact HT.out
    have HV0 := Lib.hid hk.2
    clear hk H3
    go_wp2_with fail
    refine (fU32_any g _ _ HT.out.1).mono ?_
    rintro e w2 ⟨a, rfl, a0, a1, h2, h3, h4⟩
    have HT := Lib.hid (HT.out.step h2 h4)
    have HV1 := Lib.hid h3
    clear h2 h3 h4
    have hg22 := HT.out.2.1.lt
    have hb3 : Below w2.heap.size w2 (w2.alloc (.cells #[.int .u32 a, .int .u32 0, .bool false] 57)) := (Below.refl _ _).alloc (Nat.le_refl _) _
    have HL : Hid (Own (w2.alloc (.cells #[.int .u32 a, .int .u32 0, .bool false] 57)) w2.heap.size 57 [.int .u32 a, .int .u32 0, .bool false]) := Own.new w2 57 [.int .u32 a, .int .u32 0, .bool false]
    have HT := Lib.hid (HT.out.step (HT.out.1.later hb3) (Chg.of_below hb3))
    clear hb3
    go_upto_region 5 with fail
    generalize w2.alloc (.cells #[.int .u32 a, .int .u32 0, .bool false] 57) = w3 at *
    generalize w2.heap.size = g4 at *
    go_wp2_with fail
    refine (fU32_any g _ _ HT.out.1).mono ?_
    rintro e w4 ⟨m, rfl, m0, m1, h2, h3, h4⟩
    have hL := HL.out.chg h4 (by have := HT.out.2.2.1; have := HT.out.2.2.2.1; omega)
    have hT := HT.out.step h2 h4
    obtain ⟨j0, j1, j2, q0, q1, q2⟩ := own_cells3 hL
    have hc5 := (chgSet w4 g4 2 (.bool true)).trans (chgSet _ g4 1 (.int .u32 m)) fun _ _ e => e
    have HL : Hid (Own ((w4.setCell ⟨g4, 2, none⟩ (.bool true)).setCell ⟨g4, 1, none⟩ (.int .u32 m)) g4 57 [.int .u32 a, .int .u32 m, .bool true]) := (hL.set 2 (.bool true)).set 1 (.int .u32 m)
    have HT : Hid (F2 57 w g g2 [.int .u32 0, .int .u32 0, .bool false] (nx (pU 32) (nx (pU 32) (nx (pAmong [0, 1]) s))) ((w4.setCell ⟨g4, 2, none⟩ (.bool true)).setCell ⟨g4, 1, none⟩ (.int .u32 m))) := ⟨hT.1.chg hc5 fun k hk => by have := hT.2.2.1; have := hT.2.2.2.1; omega, hT.2.1.chg hc5 (by omega), hT.2.2.1, hT.2.2.2.1, hT.2.2.2.2.trans hc5 fun i hi e => by have := hT.2.2.2.1; omega⟩
    have HV2 := Lib.hid h3
    clear h2 h3 h4 hL hT hc5
    go_upto_region 7 with fail
    clear j0 j1 j2 q0 q1 q2
    generalize (w4.setCell ⟨g4, 2, none⟩ (.bool true)).setCell ⟨g4, 1, none⟩ (.int .u32 m) = w5 at *
    obtain ⟨j0, j1, j2, q0, q1, q2⟩ := own_cells3 HL.out
    obtain ⟨k0, k1, k2, f0, f1, f2⟩ := own_cells3 HT.out.2.1
    go_wp2
    have hW : F2 57 w g g2 [.int .u32 a, .int .u32 m, .bool true] (nx (pU 32) (nx (pU 32) (nx (pAmong [0, 1]) s))) (put3 w5 g2 (.int .u32 a) (.int .u32 m) (.bool true)) := ((HT.out.set 0 (.int .u32 a)).set 1 (.int .u32 m)).set 2 (.bool true)
    show bodyPost _ _ _ _ _ (put3 w5 g2 (.int .u32 a) (.int .u32 m) (.bool true))
    generalize put3 w5 g2 (.int .u32 a) (.int .u32 m) (.bool true) = W2 at *
    clear k0 k1 k2 f0 f1 f2 j0 j1 j2 q0 q1 q2
    obtain ⟨k0, k1, k2, -, -, -⟩ := own_cells3 hW.2.1
    refine bodyPost_ret (by simp [results, Try.results76, go_sem, k0, k1, k2]; try rfl) rfl ?_
    have hK : bd s pLim = bd (nx (pU 32) (nx (pU 32) (nx (pAmong [0, 1]) s))) fun l => .ok ((⟨a, m, true⟩ : Lim), l) := by
      unfold pLim
      rw [(nx_seq (pAmong [0, 1]) _ s _ HV0.out).2, (nx_seq (pU 32) _ _ a HV1.out).2, if_pos rfl, (nx_seq (pU 32) _ _ m HV2.out).2]
    have hE := lim_end hK hW.1
    exact ⟨⟨a, m, true⟩, rfl, hE.1, hE.2, hW.2.2.2.2⟩
  · have hk := am_in (ps := [0, 1]) (x := 0) (by simp) H3.out
    have HT : Hid (F2 57 w g g2 [.int .u32 0, .int .u32 0, .bool false] (nx (pAmong [0, 1]) s) w1) := by unfold Hid; rw [hk.1]; exact HT.out
    have HV0 := Lib.hid hk.2
    clear hk H3
    have HNE : Hid (¬ (0 : Int) = 1) := by unfold Hid; omega
    go_wp2_with fail
    refine (fU32_any g _ _ HT.out.1).mono ?_
    rintro e w2 ⟨a, rfl, a0, a1, h2, h3, h4⟩
    have HT := Lib.hid (HT.out.step h2 h4)
    have HV1 := Lib.hid h3
    clear h2 h3 h4
    have hg22 := HT.out.2.1.lt
    have hb3 : Below w2.heap.size w2 (w2.alloc (.cells #[.int .u32 a, .int .u32 0, .bool false] 57)) := (Below.refl _ _).alloc (Nat.le_refl _) _
    have HL : Hid (Own (w2.alloc (.cells #[.int .u32 a, .int .u32 0, .bool false] 57)) w2.heap.size 57 [.int .u32 a, .int .u32 0, .bool false]) := Own.new w2 57 [.int .u32 a, .int .u32 0, .bool false]
    have HT := Lib.hid (HT.out.step (HT.out.1.later hb3) (Chg.of_below hb3))
    clear hb3
    go_upto_region 5 with fail
    generalize w2.alloc (.cells #[.int .u32 a, .int .u32 0, .bool false] 57) = w3 at *
    generalize w2.heap.size = g4 at *
    obtain ⟨j0, j1, j2, q0, q1, q2⟩ := own_cells3 HL.out
    obtain ⟨k0, k1, k2, f0, f1, f2⟩ := own_cells3 HT.out.2.1
    go_wp2
    have hW : F2 57 w g g2 [.int .u32 a, .int .u32 0, .bool false] (nx (pU 32) (nx (pAmong [0, 1]) s)) (put3 w3 g2 (.int .u32 a) (.int .u32 0) (.bool false)) := ((HT.out.set 0 (.int .u32 a)).set 1 (.int .u32 0)).set 2 (.bool false)
    show bodyPost _ _ _ _ _ (put3 w3 g2 (.int .u32 a) (.int .u32 0) (.bool false))
    generalize put3 w3 g2 (.int .u32 a) (.int .u32 0) (.bool false) = W2 at *
    clear k0 k1 k2 f0 f1 f2 j0 j1 j2 q0 q1 q2
    obtain ⟨k0, k1, k2, -, -, -⟩ := own_cells3 hW.2.1
    refine bodyPost_ret (by simp [results, Try.results76, go_sem, k0, k1, k2]; try rfl) rfl ?_
    have hK : bd s pLim = bd (nx (pU 32) (nx (pAmong [0, 1]) s)) fun l => .ok ((⟨a, 0, false⟩ : Lim), l) := by
      unfold pLim
      rw [(nx_seq (pAmong [0, 1]) _ s _ HV0.out).2, (nx_seq (pU 32) _ _ a HV1.out).2, if_neg HNE.out]
    have hE := lim_end hK hW.1
    exact ⟨⟨a, 0, false⟩, rfl, hE.1, hE.2, hW.2.2.2.2⟩
end Go.Proofs.Ytnjbijndfbobbaa
