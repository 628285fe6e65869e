/- The document's TakeFunc and TakeLimits: what their calls come to. -/
import Derived.Test.YtnjbijndfbobbaaRefTypes3
namespace Go.Proofs.Ytnjbijndfbobbaa
open Go.RowKit
set_option maxRecDepth 100000
set_option linter.unusedVariables false

set_option maxHeartbeats 2000000 in
theorem refTake_fn (A : Option Addr) (b : List Int) (n c : Nat) (w : World) (h : Rd w w.heap.size A b) (hn : n = b.length) (hl : n ≤ 1000000) (hc : n ≤ c) (hcm : c ≤ maxLen) :
    Calls Try.prog 32 #[.slice A n c] w (FnPost b w) := by
  have e1 : (w.alloc (.cells #[.slice none 0 0, .slice none 0 0] 52)).heap.size = w.heap.size + 1 := by simp
  have HT : Hid (RfAt ((w.alloc (.cells #[.slice none 0 0, .slice none 0 0] 52)).alloc (.cells #[.slice A n c, .int .i64 0] 81)) (w.heap.size + 1) (.ok b) ∧ Own ((w.alloc (.cells #[.slice none 0 0, .slice none 0 0] 52)).alloc (.cells #[.slice A n c, .int .i64 0] 81)) w.heap.size 52 [.slice none 0 0, .slice none 0 0] ∧ Below w.heap.size w ((w.alloc (.cells #[.slice none 0 0, .slice none 0 0] 52)).alloc (.cells #[.slice A n c, .int .i64 0] 81))) := by
    have b1 := (Below.refl w.heap.size w).alloc (Nat.le_refl _) (.cells #[.slice none 0 0, .slice none 0 0] 52)
    have o1 := Own.new w 52 [.slice none 0 0, .slice none 0 0]
    simp only [List.toArray] at o1
    generalize w.alloc (.cells #[.slice none 0 0, .slice none 0 0] 52) = w1 at *
    have b2 := (Below.refl w1.heap.size w1).alloc (Nat.le_refl _) (.cells #[.slice A n c, .int .i64 0] 81)
    have o2 := Own.new w1 81 [.slice A n c, .int .i64 0]
    rw [e1] at o2
    refine ⟨⟨A, c, by rw [← hn]; exact o2, (h.rx.later (b1.trans (b2.mono (by omega)))).mono fun k _ hk => by have : k < w.heap.size := hk; omega, by omega, hcm, by omega⟩, o1.later b2, b1.trans (b2.mono (by omega))⟩
  have HN := Lib.hid hn
  clear h hn e1
  go_enter Try.func32, Try.ntmps32
  go_wp2_with fail
  generalize (w.alloc (.cells #[.slice none 0 0, .slice none 0 0] 52)).alloc (.cells #[.slice A n c, .int .i64 0] 81) = W0 at *
  generalize hg2 : w.heap.size = g2 at HT ⊢
  have HG := Lib.hid hg2
  clear hg2
  refine (ffunc_any (g2 + 1) (.ok b) W0 HT.out.1).mono ?_
  rintro e w6 ⟨v, f, rfl, hv, h2, h3, h4⟩
  have hs6 : g2 + 1 < W0.heap.size := HT.out.1.lt
  have hgs := HG.out
  obtain ⟨A1, c1, A2, c2, rfl, hr1, hq1, hm1, hr2, hq2, hm2⟩ := hv
  have HP1 := Lib.hid (And.intro (hr1.mono (Y := fun k => g2 + 1 < k) fun k _ hk => by omega) (And.intro hq1 hm1))
  have HP2 := Lib.hid (And.intro (hr2.mono (Y := fun k => g2 + 1 < k) fun k _ hk => by omega) (And.intro hq2 hm2))
  clear hr1 hq1 hm1 hr2 hq2 hm2
  generalize hl1 : f.1.length = l1 at *
  generalize hl2 : f.2.length = l2 at *
  have HL1 := Lib.hid (And.intro hl1 hl2)
  clear hl1 hl2
  have hO := HT.out.2.1.chg h4 (by omega)
  have hB := HT.out.2.2.trans (h4.below (B := g2) (by omega) fun i hi e => by omega)
  have hs7 := h4.size
  have b7 := (Below.refl w6.heap.size w6).alloc (Nat.le_refl _) (.cells #[.slice A1 l1 c1, .slice A2 l2 c2] 52)
  have H7 : Hid (RfAt (w6.alloc (.cells #[.slice A1 l1 c1, .slice A2 l2 c2] 52)) (g2 + 1) (nx pFn (.ok b)) ∧ Own (w6.alloc (.cells #[.slice A1 l1 c1, .slice A2 l2 c2] 52)) g2 52 [.slice none 0 0, .slice none 0 0] ∧ Own (w6.alloc (.cells #[.slice A1 l1 c1, .slice A2 l2 c2] 52)) w6.heap.size 52 [.slice A1 l1 c1, .slice A2 l2 c2] ∧ Below g2 w (w6.alloc (.cells #[.slice A1 l1 c1, .slice A2 l2 c2] 52))) := ⟨h2.later b7, hO.later b7, Own.new w6 52 [.slice A1 l1 c1, .slice A2 l2 c2], hB.trans (b7.mono (by omega))⟩
  have HV := Lib.hid h3
  have hg7 : g2 ≤ (w6.alloc (.cells #[.slice A1 l1 c1, .slice A2 l2 c2] 52)).heap.size := by simp; omega
  have HP1 := Lib.hid (And.intro (HP1.out.1.later b7) HP1.out.2)
  have HP2 := Lib.hid (And.intro (HP2.out.1.later b7) HP2.out.2)
  clear h2 h3 h4 hO hB b7 HT
  go_upto_region 3 with fail
  generalize w6.alloc (.cells #[.slice A1 l1 c1, .slice A2 l2 c2] 52) = w7 at *
  have hg6 : g2 + 1 < w6.heap.size := by omega
  generalize w6.heap.size = g6 at *
  obtain ⟨ee, hee, hes⟩ := H7.out.1.cellE
  obtain ⟨AA, nn, ccc, h00, hnn, hnl⟩ := H7.out.1.cell0
  have hnil : w7.frozen? ⟨g2 + 1, 0, none⟩ = false ∧ w7.frozen? ⟨g2 + 1, 1, none⟩ = false := by
    have h := H7.out.1
    generalize nx pFn (.ok b) = sE at h
    cases sE with
    | ok l => obtain ⟨_, _, h1, _⟩ := h; exact ⟨h1.frozen 0, h1.frozen 1⟩
    | error e => obtain ⟨_, _, _, h1, _⟩ := h; exact ⟨h1.frozen 0, h1.frozen 1⟩
  obtain ⟨z0, z1⟩ := hnil
  obtain ⟨k0, k1, f0, f1⟩ := own_cells2 H7.out.2.1
  obtain ⟨j0, j1, q0, q1⟩ := own_cells2 H7.out.2.2.1
  have hne1 : ¬ g2 = g2 + 1 := by omega
  have hne2 : ¬ g2 + 1 = g2 := by omega
  have hne3 : ¬ g6 = g2 := by omega
  have hne4 : ¬ g2 = g6 := by omega
  rcases hes with ⟨rfl, l, hl0⟩ | ⟨hne, hs⟩
  · have hnl2 := hnl l hl0
    have HL := Lib.hid (And.intro hl0 hnl2)
    clear hnl hl0 hnl2
    go_wp2
    go_region
    have hW := own_drew (own_put2 H7.out.2.1 (.slice A1 l1 c1) (.slice A2 l2 c2))
    have hC := (chg2 w7 g2 (.slice A1 l1 c1) (.slice A2 l2 c2)).drew
    show Exit.then _ _ _ _ (put2 w7 g2 (.slice A1 l1 c1) (.slice A2 l2 c2)).drew
    generalize (put2 w7 g2 (.slice A1 l1 c1) (.slice A2 l2 c2)).drew = W at *
    clear k0 k1 f0 f1 j0 j1 q0 q1 hee h00 z0 z1
    obtain ⟨k0, k1, -, -⟩ := own_cells2 hW
    go_wp2
    refine bodyPost_ret (by simp [results, Try.results32, go_sem, k0, k1]; try rfl) rfl ?_
    obtain ⟨f', l', hp⟩ : ∃ f' l', pFn b = .ok (f', l') := by
      have := HL.out.1
      rw [nx_ok] at this
      cases hp : pFn b with
      | error e => rw [hp] at this; cases this
      | ok r => exact ⟨r.1, r.2, rfl⟩
    obtain rfl := HV.out f' l' (by rw [bd_ok, hp])
    obtain rfl : l' = l := by have := HL.out.1; rw [nx_ok, hp] at this; injection this
    rw [FnPost, hp]
    refine ⟨_, ?_, ⟨A1, c1, A2, c2, by simp only [fnOf]; rw [HL1.out.1, HL1.out.2], (HP1.out.1.chg hC fun k _ hk e => by omega).mono fun k _ hk => by omega, by simp only [fnOf]; rw [HL1.out.1]; exact HP1.out.2.1, HP1.out.2.2, (HP2.out.1.chg hC fun k _ hk e => by omega).mono fun k _ hk => by omega, by simp only [fnOf]; rw [HL1.out.2]; exact HP2.out.2.1, HP2.out.2.2⟩, by rw [HG.out]; exact H7.out.2.2.2.trans (hC.below hg7 fun i hi e => by omega)⟩
    simp only [readOf, codeOf]
    rw [← HN.out, ← HL.out.2]
  · have hf3 : (ee != 0) = true := by simpa using hne
    have HS := Lib.hid hs
    clear hs hne hnl
    go_wp2
    go_region
    have hW := own_drew (own_put2 H7.out.2.1 (.slice none 0 0) (.slice none 0 0))
    have hC := (chg2 w7 g2 (.slice none 0 0) (.slice none 0 0)).drew
    show Exit.then _ _ _ _ (put2 w7 g2 (.slice none 0 0) (.slice none 0 0)).drew
    generalize (put2 w7 g2 (.slice none 0 0) (.slice none 0 0)).drew = W at *
    clear k0 k1 f0 f1 j0 j1 q0 q1 hee h00 z0 z1
    obtain ⟨k0, k1, -, -⟩ := own_cells2 hW
    go_wp2
    refine bodyPost_ret (by simp [results, Try.results32, go_sem, k0, k1]; try rfl) rfl ?_
    have hp : pFn b = .error ee := by
      have := HS.out
      rw [nx_ok] at this
      cases hp : pFn b with
      | error e => rw [hp] at this; simp only [bd_error] at this; injection this with this; rw [this]
      | ok r => rw [hp] at this; cases this
    rw [FnPost, hp]
    exact ⟨_, rfl, zfn_v _ _, by rw [HG.out]; exact H7.out.2.2.2.trans (hC.below hg7 fun i hi e => by omega)⟩
set_option maxHeartbeats 2000000 in
theorem refTake_lim (A : Option Addr) (b : List Int) (n c : Nat) (w : World) (h : Rd w w.heap.size A b) (hn : n = b.length) (hl : n ≤ 1000000) (hc : n ≤ c) (hcm : c ≤ maxLen) :
    Calls Try.prog 34 #[.slice A n c] w (LimPost b w) := by
  have e1 : (w.alloc (.cells #[.int .u32 0, .int .u32 0, .bool false] 57)).heap.size = w.heap.size + 1 := by simp
  have HT : Hid (RfAt ((w.alloc (.cells #[.int .u32 0, .int .u32 0, .bool false] 57)).alloc (.cells #[.slice A n c, .int .i64 0] 81)) (w.heap.size + 1) (.ok b) ∧ Own ((w.alloc (.cells #[.int .u32 0, .int .u32 0, .bool false] 57)).alloc (.cells #[.slice A n c, .int .i64 0] 81)) w.heap.size 57 [.int .u32 0, .int .u32 0, .bool false] ∧ Below w.heap.size w ((w.alloc (.cells #[.int .u32 0, .int .u32 0, .bool false] 57)).alloc (.cells #[.slice A n c, .int .i64 0] 81))) := by
    have b1 := (Below.refl w.heap.size w).alloc (Nat.le_refl _) (.cells #[.int .u32 0, .int .u32 0, .bool false] 57)
    have o1 := Own.new w 57 [.int .u32 0, .int .u32 0, .bool false]
    simp only [List.toArray] at o1
    generalize w.alloc (.cells #[.int .u32 0, .int .u32 0, .bool false] 57) = w1 at *
    have b2 := (Below.refl w1.heap.size w1).alloc (Nat.le_refl _) (.cells #[.slice A n c, .int .i64 0] 81)
    have o2 := Own.new w1 81 [.slice A n c, .int .i64 0]
    rw [e1] at o2
    refine ⟨⟨A, c, by rw [← hn]; exact o2, (h.rx.later (b1.trans (b2.mono (by omega)))).mono fun k _ hk => by have : k < w.heap.size := hk; omega, by omega, hcm, by omega⟩, o1.later b2, b1.trans (b2.mono (by omega))⟩
  have HN := Lib.hid hn
  clear h hn e1
  go_enter Try.func34, Try.ntmps34
  go_wp2_with fail
  generalize (w.alloc (.cells #[.int .u32 0, .int .u32 0, .bool false] 57)).alloc (.cells #[.slice A n c, .int .i64 0] 81) = W0 at *
  generalize hg2 : w.heap.size = g2 at HT ⊢
  have HG := Lib.hid hg2
  clear hg2
  refine (flim_any (g2 + 1) (.ok b) W0 HT.out.1).mono ?_
  rintro e w6 ⟨q, rfl, h2, h3, h4⟩
  have hs6 : g2 + 1 < W0.heap.size := HT.out.1.lt
  have hgs := HG.out
  obtain ⟨qa, qb, qh⟩ := q
  simp only [limV]
  have hO := HT.out.2.1.chg h4 (by omega)
  have hB := HT.out.2.2.trans (h4.below (B := g2) (by omega) fun i hi e => by omega)
  have hs7 := h4.size
  have b7 := (Below.refl w6.heap.size w6).alloc (Nat.le_refl _) (.cells #[.int .u32 qa, .int .u32 qb, .bool qh] 57)
  have H7 : Hid (RfAt (w6.alloc (.cells #[.int .u32 qa, .int .u32 qb, .bool qh] 57)) (g2 + 1) (nx pLim (.ok b)) ∧ Own (w6.alloc (.cells #[.int .u32 qa, .int .u32 qb, .bool qh] 57)) g2 57 [.int .u32 0, .int .u32 0, .bool false] ∧ Own (w6.alloc (.cells #[.int .u32 qa, .int .u32 qb, .bool qh] 57)) w6.heap.size 57 [.int .u32 qa, .int .u32 qb, .bool qh] ∧ Below g2 w (w6.alloc (.cells #[.int .u32 qa, .int .u32 qb, .bool qh] 57))) := ⟨h2.later b7, hO.later b7, Own.new w6 57 [.int .u32 qa, .int .u32 qb, .bool qh], hB.trans (b7.mono (by omega))⟩
  have HV := Lib.hid h3
  have hg7 : g2 ≤ (w6.alloc (.cells #[.int .u32 qa, .int .u32 qb, .bool qh] 57)).heap.size := by simp; omega
  clear h2 h3 h4 hO hB b7 HT
  go_upto_region 3 with fail
  generalize w6.alloc (.cells #[.int .u32 qa, .int .u32 qb, .bool qh] 57) = w7 at *
  have hg6 : g2 + 1 < w6.heap.size := by omega
  generalize w6.heap.size = g6 at *
  obtain ⟨ee, hee, hes⟩ := H7.out.1.cellE
  obtain ⟨AA, nn, ccc, h00, hnn, hnl⟩ := H7.out.1.cell0
  have hnil : w7.frozen? ⟨g2 + 1, 0, none⟩ = false ∧ w7.frozen? ⟨g2 + 1, 1, none⟩ = false := by
    have h := H7.out.1
    generalize nx pLim (.ok b) = sE at h
    cases sE with
    | ok l => obtain ⟨_, _, h1, _⟩ := h; exact ⟨h1.frozen 0, h1.frozen 1⟩
    | error e => obtain ⟨_, _, _, h1, _⟩ := h; exact ⟨h1.frozen 0, h1.frozen 1⟩
  obtain ⟨z0, z1⟩ := hnil
  obtain ⟨k0, k1, k2, f0, f1, f2⟩ := own_cells3 H7.out.2.1
  obtain ⟨j0, j1, j2, q0, q1, q2⟩ := own_cells3 H7.out.2.2.1
  have hne1 : ¬ g2 = g2 + 1 := by omega
  have hne2 : ¬ g2 + 1 = g2 := by omega
  have hne3 : ¬ g6 = g2 := by omega
  have hne4 : ¬ g2 = g6 := by omega
  rcases hes with ⟨rfl, l, hl0⟩ | ⟨hne, hs⟩
  · have hnl2 := hnl l hl0
    have HL := Lib.hid (And.intro hl0 hnl2)
    clear hnl hl0 hnl2
    go_wp2
    go_region
    have hW := own_drew (own_put3 H7.out.2.1 (.int .u32 qa) (.int .u32 qb) (.bool qh))
    have hC := (chg3 w7 g2 (.int .u32 qa) (.int .u32 qb) (.bool qh)).drew
    show Exit.then _ _ _ _ (put3 w7 g2 (.int .u32 qa) (.int .u32 qb) (.bool qh)).drew
    generalize (put3 w7 g2 (.int .u32 qa) (.int .u32 qb) (.bool qh)).drew = W at *
    clear k0 k1 k2 f0 f1 f2 j0 j1 j2 q0 q1 q2 hee h00 z0 z1
    obtain ⟨k0, k1, k2, -, -, -⟩ := own_cells3 hW
    go_wp2
    refine bodyPost_ret (by simp [results, Try.results34, go_sem, k0, k1, k2]; try rfl) rfl ?_
    obtain ⟨f', l', hp⟩ : ∃ f' l', pLim b = .ok (f', l') := by
      have := HL.out.1
      rw [nx_ok] at this
      cases hp : pLim b with
      | error e => rw [hp] at this; cases this
      | ok r => exact ⟨r.1, r.2, rfl⟩
    obtain rfl := HV.out f' l' (by rw [bd_ok, hp])
    obtain rfl : l' = l := by have := HL.out.1; rw [nx_ok, hp] at this; injection this
    rw [LimPost, hp]
    refine ⟨?_, by rw [HG.out]; exact H7.out.2.2.2.trans (hC.below hg7 fun i hi e => by omega)⟩
    simp only [readOf, codeOf, limOf, limV]
    rw [← HN.out, ← HL.out.2]
  · have hf3 : (ee != 0) = true := by simpa using hne
    have HS := Lib.hid hs
    clear hs hne hnl
    go_wp2
    go_region
    have hW := own_drew (own_put3 H7.out.2.1 (.int .u32 0) (.int .u32 0) (.bool false))
    have hC := (chg3 w7 g2 (.int .u32 0) (.int .u32 0) (.bool false)).drew
    show Exit.then _ _ _ _ (put3 w7 g2 (.int .u32 0) (.int .u32 0) (.bool false)).drew
    generalize (put3 w7 g2 (.int .u32 0) (.int .u32 0) (.bool false)).drew = W at *
    clear k0 k1 k2 f0 f1 f2 j0 j1 j2 q0 q1 q2 hee h00 z0 z1
    obtain ⟨k0, k1, k2, -, -, -⟩ := own_cells3 hW
    go_wp2
    refine bodyPost_ret (by simp [results, Try.results34, go_sem, k0, k1, k2]; try rfl) rfl ?_
    have hp : pLim b = .error ee := by
      have := HS.out
      rw [nx_ok] at this
      cases hp : pLim b with
      | error e => rw [hp] at this; simp only [bd_error] at this; injection this with this; rw [this]
      | ok r => rw [hp] at this; cases this
    rw [LimPost, hp]
    exact ⟨rfl, by rw [HG.out]; exact H7.out.2.2.2.trans (hC.below hg7 fun i hi e => by omega)⟩
end Go.Proofs.Ytnjbijndfbobbaa
