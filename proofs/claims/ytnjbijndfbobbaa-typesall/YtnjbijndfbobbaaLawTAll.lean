/- The walk of TypesAll: out of the contracts. -/
import Derived.Test.YtnjbijndfbobbaaLawTOne
import Derived.Test.YtnjbijndfbobbaaRefTypes4
namespace Go.Proofs.Ytnjbijndfbobbaa
open Go.RowKit
set_option maxRecDepth 100000
set_option linter.unusedVariables false

set_option maxRecDepth 100000 in
set_option maxHeartbeats 8000000 in
theorem typesAll_core {Y : Nat → Prop} (A : Option Addr) (b : List Int) (n c : Nat) (x : Int) (w : World) (hb : RdX Y w A b) (hn : n = b.length) (hnc : n ≤ c) (hcm : c ≤ maxLen) (hx : 0 ≤ x ∧ x ≤ 255) :
    Calls Try.prog 8 #[.slice A n c, .int .u8 x] w fun e w' => e = .returned (.bool true) ∧ Below w.heap.size w w' := by
  have HB := Lib.hid (And.intro hb (And.intro hn (And.intro hnc hcm)))
  obtain ⟨x0, x1⟩ := hx
  clear hb hn hnc hcm
  go_enter Try.func8, Try.ntmps8
  go_wp2_with fail
  refine (begun4_any w).mono ?_
  rintro e w1 ⟨rfl, hb1⟩
  have HW1 := Lib.hid hb1
  clear hb1
  by_cases hbig : (40 : Int) < n
  · go_wp2
    go_ret
    exact ⟨rfl, HW1.out⟩
  have HR : Hid (∀ W, Below w1.heap.size w1 W → Rd W W.heap.size A b) := fun W hW => ((HB.out.1.later HW1.out).later hW).rd
  go_wp2_with fail
  refine (value_any 29 (by simp) x w1 x0 x1).mono ?_
  rintro e w' ⟨rfl, rfl⟩
  unfold valT
  go_wp2_with fail
  refine (value_any 30 (by simp) x w1 x0 x1).mono ?_
  rintro e w' ⟨rfl, rfl⟩
  unfold valT
  generalize decide (valE x = 0) = bv at *
  generalize valE x = ve at *
  go_wp2_with fail
  refine (take_fn A b n c w1 (HR.out w1 (Below.refl _ _)) HB.out.2.1 (by omega) HB.out.2.2.1 HB.out.2.2.2).mono ?_
  rintro e w2 ⟨v2, rfl, hv2, hb2⟩
  generalize hrf : readOf b (pFn b) = rf at *
  generalize hcf : codeOf (pFn b) = cf at *
  generalize hff : fnOf (pFn b) = f at *
  have HE := Lib.hid (And.intro hrf (And.intro hcf hff))
  clear hrf hcf hff
  obtain ⟨A2, c2, B2, d2, rfl, -⟩ := id hv2
  have hc3 := (Below.refl w2.heap.size w2).alloc (Nat.le_refl _) (.cells #[.slice A2 f.1.length c2, .slice B2 f.2.length d2] 52)
  have H3 : Hid (FnV (fun _ => True) (w2.alloc (.cells #[.slice A2 f.1.length c2, .slice B2 f.2.length d2] 52)) (.agg #[.slice A2 f.1.length c2, .slice B2 f.2.length d2]) f ∧ Own (w2.alloc (.cells #[.slice A2 f.1.length c2, .slice B2 f.2.length d2] 52)) w2.heap.size 52 [.slice A2 f.1.length c2, .slice B2 f.2.length d2] ∧ Below w1.heap.size w1 (w2.alloc (.cells #[.slice A2 f.1.length c2, .slice B2 f.2.length d2] 52))) := ⟨(hv2.mono fun _ _ _ => trivial).later hc3, Own.new w2 52 [.slice A2 f.1.length c2, .slice B2 f.2.length d2], hb2.trans (hc3.mono hb2.size)⟩
  clear hv2 hb2 hc3
  go_upto_region 8 with fail
  generalize w2.alloc (.cells #[.slice A2 f.1.length c2, .slice B2 f.2.length d2] 52) = w3 at *
  generalize w2.heap.size = g2 at *
  go_wp2_with fail
  refine (refTake_fn A b n c w3 (HR.out w3 H3.out.2.2) HB.out.2.1 (by omega) HB.out.2.2.1 HB.out.2.2.2).mono ?_
  rintro e w4 ⟨v4, rfl, hv4, hb4⟩
  rw [HE.out.2.2] at hv4
  rw [HE.out.1, HE.out.2.1]
  obtain ⟨A4, c4, B4, d4, rfl, -⟩ := id hv4
  have hc5 := (Below.refl w4.heap.size w4).alloc (Nat.le_refl _) (.cells #[.slice A4 f.1.length c4, .slice B4 f.2.length d4] 52)
  have h45 := hb4.trans (hc5.mono hb4.size)
  have H5 : Hid (FnV (fun _ => True) (w4.alloc (.cells #[.slice A4 f.1.length c4, .slice B4 f.2.length d4] 52)) (.agg #[.slice A4 f.1.length c4, .slice B4 f.2.length d4]) f ∧ Own (w4.alloc (.cells #[.slice A4 f.1.length c4, .slice B4 f.2.length d4] 52)) w4.heap.size 52 [.slice A4 f.1.length c4, .slice B4 f.2.length d4] ∧ Below w3.heap.size w3 (w4.alloc (.cells #[.slice A4 f.1.length c4, .slice B4 f.2.length d4] 52))) := ⟨(hv4.mono fun _ _ _ => trivial).later hc5, Own.new w4 52 [.slice A4 f.1.length c4, .slice B4 f.2.length d4], h45⟩
  clear hv4 hb4 hc5 h45 HE
  go_upto_region 9 with fail
  generalize w4.alloc (.cells #[.slice A4 f.1.length c4, .slice B4 f.2.length d4] 52) = w5 at *
  generalize w4.heap.size = g4 at *
  have H15 := Lib.hid (H3.out.2.2.trans (H5.out.2.2.mono H3.out.2.2.size))
  go_wp2_with fail
  refine (take_lim A b n c w5 (HR.out w5 H15.out) HB.out.2.1 (by omega) HB.out.2.2.1 HB.out.2.2.2).mono ?_
  rintro e w6 ⟨rfl, hb6⟩
  generalize hrf : readOf b (pLim b) = rl at *
  generalize hcf : codeOf (pLim b) = cl at *
  generalize hff : limOf (pLim b) = l at *
  have HE := Lib.hid (And.intro hrf (And.intro hcf hff))
  clear hrf hcf hff
  simp only [limV]
  have hc7 := (Below.refl w6.heap.size w6).alloc (Nat.le_refl _) (.cells #[.int .u32 l.min, .int .u32 l.max, .bool l.has] 57)
  have H7 : Hid (Own (w6.alloc (.cells #[.int .u32 l.min, .int .u32 l.max, .bool l.has] 57)) w6.heap.size 57 [.int .u32 l.min, .int .u32 l.max, .bool l.has] ∧ Below w5.heap.size w5 (w6.alloc (.cells #[.int .u32 l.min, .int .u32 l.max, .bool l.has] 57))) := ⟨Own.new w6 57 [.int .u32 l.min, .int .u32 l.max, .bool l.has], hb6.trans (hc7.mono hb6.size)⟩
  clear hb6 hc7
  go_upto_region 10 with fail
  generalize w6.alloc (.cells #[.int .u32 l.min, .int .u32 l.max, .bool l.has] 57) = w7 at *
  generalize w6.heap.size = g6 at *
  have H17 := Lib.hid (H15.out.trans (H7.out.2.mono H15.out.size))
  go_wp2_with fail
  refine (refTake_lim A b n c w7 (HR.out w7 H17.out) HB.out.2.1 (by omega) HB.out.2.2.1 HB.out.2.2.2).mono ?_
  rintro e w8 ⟨rfl, hb8⟩
  rw [HE.out.1, HE.out.2.1, HE.out.2.2]
  simp only [limV]
  have hc9 := (Below.refl w8.heap.size w8).alloc (Nat.le_refl _) (.cells #[.int .u32 l.min, .int .u32 l.max, .bool l.has] 57)
  have H9 : Hid (Own (w8.alloc (.cells #[.int .u32 l.min, .int .u32 l.max, .bool l.has] 57)) w8.heap.size 57 [.int .u32 l.min, .int .u32 l.max, .bool l.has] ∧ Below w7.heap.size w7 (w8.alloc (.cells #[.int .u32 l.min, .int .u32 l.max, .bool l.has] 57))) := ⟨Own.new w8 57 [.int .u32 l.min, .int .u32 l.max, .bool l.has], hb8.trans (hc9.mono hb8.size)⟩
  clear hb8 hc9 HE
  go_upto_region 11 with fail
  generalize w8.alloc (.cells #[.int .u32 l.min, .int .u32 l.max, .bool l.has] 57) = w9 at *
  generalize w8.heap.size = g8 at *
  have h59 := H7.out.2.trans (H9.out.2.mono H7.out.2.size)
  have h39 := H5.out.2.2.trans (h59.mono H5.out.2.2.size)
  have h19 := H17.out.trans (H9.out.2.mono H17.out.size)
  have SM : Hid (Calls Try.prog 37 #[.agg #[.slice A2 f.1.length c2, .slice B2 f.2.length d2], .agg #[.slice A4 f.1.length c4, .slice B4 f.2.length d4]] w9 fun e w' => e = .returned (.bool true) ∧ Below w9.heap.size w9 w') := (sameFnD_any _ _ f f w9 (H3.out.1.later h39) (H5.out.1.later h59)).mono fun e w' h => by simpa using h
  have HK : Hid (∀ W : World, Below w9.heap.size w9 W → (W.cell? ⟨g6, 0, none⟩ = some (.int .u32 l.min) ∧ W.cell? ⟨g6, 1, none⟩ = some (.int .u32 l.max) ∧ W.cell? ⟨g6, 2, none⟩ = some (.bool l.has)) ∧ (W.cell? ⟨g8, 0, none⟩ = some (.int .u32 l.min) ∧ W.cell? ⟨g8, 1, none⟩ = some (.int .u32 l.max) ∧ W.cell? ⟨g8, 2, none⟩ = some (.bool l.has)) ∧ Below w.heap.size w W) := fun W hW => by
    have h := own_cells3 ((H7.out.1.later H9.out.2).later hW)
    have h2 := own_cells3 (H9.out.1.later hW)
    exact ⟨⟨h.1, h.2.1, h.2.2.1⟩, ⟨h2.1, h2.2.1, h2.2.2.1⟩, HW1.out.trans ((h19.trans (hW.mono h19.size)).mono HW1.out.size)⟩
  obtain ⟨o0, o1, -, -⟩ := own_cells2 (H3.out.2.1.later h39)
  obtain ⟨p0, p1, -, -⟩ := own_cells2 (H5.out.2.1.later h59)
  have hEQ := eqLim l l
  rw [show decide (l = l) = true from by simp] at hEQ
  clear h59 h39 h19 H3 H5 H7 H9 H15 H17 HR HB HW1
  generalize f.1.length = f1 at *
  generalize f.2.length = f2 at *
  go_wp2_with (first | (go_at_call 37; refine SM.out.mono ?_; rintro e w20 ⟨rfl, hb20⟩; obtain ⟨⟨y0, y1, y2⟩, ⟨z0, z1, z2⟩, hfin⟩ := HK.out w20 hb20; have HFIN := Lib.hid hfin; clear hfin hb20) | (go_at_call 35; refine (ref_any 35 (by simp) _ _).mono ?_; rintro e w21 ⟨rfl, rfl⟩) | (go_at_call 36; refine (ref_any 36 (by simp) _ _).mono ?_; rintro e w21 ⟨rfl, rfl⟩))
  go_ret
  exact ⟨rfl, HFIN.out⟩
end Go.Proofs.Ytnjbijndfbobbaa
