/- The walk of TypesPuts: out of the contracts. -/
import Derived.Test.YtnjbijndfbobbaaLawTOne
import Derived.Test.YtnjbijndfbobbaaRefTypesPut2
namespace Go.Proofs.Ytnjbijndfbobbaa
open Go.RowKit
set_option maxRecDepth 100000
set_option linter.unusedVariables false

/-- Two types of functions, limits, boxed. -/
def Three (w : World) (P Q R : List Value) (wx : World) : Prop :=
  Own wx w.heap.size 52 P ∧ Own wx (w.heap.size + 1) 52 Q ∧ Own wx (w.heap.size + 2) 57 R ∧ Below w.heap.size w wx
section
variable {w wx w' : World} {P Q R : List Value}
theorem Three.new (w : World) (P Q R : List Value) : Three w P Q R (((w.alloc (.cells P.toArray 52)).alloc (.cells Q.toArray 52)).alloc (.cells R.toArray 57)) := by
  have e1 : (w.alloc (.cells P.toArray 52)).heap.size = w.heap.size + 1 := by simp
  generalize hw1 : w.alloc (.cells P.toArray 52) = w1 at *
  have b1 : Below w.heap.size w w1 := by rw [← hw1]; exact (Below.refl _ _).alloc (Nat.le_refl _) _
  have o1 : Own w1 w.heap.size 52 P := by rw [← hw1]; exact Own.new w _ P
  have e2 : (w1.alloc (.cells Q.toArray 52)).heap.size = w.heap.size + 2 := by simp; omega
  generalize hw2 : w1.alloc (.cells Q.toArray 52) = w2 at *
  have b2 : Below w1.heap.size w1 w2 := by rw [← hw2]; exact (Below.refl _ _).alloc (Nat.le_refl _) _
  have o2 : Own w2 (w.heap.size + 1) 52 Q := by rw [← hw2, ← e1]; exact Own.new w1 _ Q
  have b3 : Below w2.heap.size w2 (w2.alloc (.cells R.toArray 57)) := (Below.refl _ _).alloc (Nat.le_refl _) _
  have o3 : Own (w2.alloc (.cells R.toArray 57)) (w.heap.size + 2) 57 R := by rw [← e2]; exact Own.new w2 _ R
  exact ⟨(o1.later b2).later b3, o2.later b3, o3, b1.trans ((b2.trans (b3.mono b2.size)).mono b1.size)⟩
theorem Three.later (h : Three w P Q R wx) (hb : Below wx.heap.size wx w') : Three w P Q R w' :=
  ⟨h.1.later hb, h.2.1.later hb, h.2.2.1.later hb, h.2.2.2.trans (hb.mono h.2.2.2.size)⟩
theorem Three.cells {a b c d x y z : Value} (h : Three w [a, b] [c, d] [x, y, z] wx) :
    (wx.cell? ⟨w.heap.size, 0, none⟩ = some a ∧ wx.cell? ⟨w.heap.size, 1, none⟩ = some b) ∧ (wx.cell? ⟨w.heap.size + 1, 0, none⟩ = some c ∧ wx.cell? ⟨w.heap.size + 1, 1, none⟩ = some d) ∧ (wx.cell? ⟨w.heap.size + 2, 0, none⟩ = some x ∧ wx.cell? ⟨w.heap.size + 2, 1, none⟩ = some y ∧ wx.cell? ⟨w.heap.size + 2, 2, none⟩ = some z) :=
  ⟨⟨h.1.cell 0, h.1.cell 1⟩, ⟨h.2.1.cell 0, h.2.1.cell 1⟩, ⟨h.2.2.1.cell 0, h.2.2.1.cell 1, h.2.2.1.cell 2⟩⟩
end

set_option maxRecDepth 100000 in
set_option maxHeartbeats 16000000 in
theorem typesPuts_core {X Y Z : Nat → Prop} (v u : Value) (f g : Fn) (l : Lim) (A : Option Addr) (b : List Int) (n c : Nat) (w : World) (hv : FnV X w v f) (hu : FnV Y w u g) (hl : l.Ok) (hb : RdX Z w A b) (hn : n = b.length) (hnc : n ≤ c) (hcm : c ≤ maxLen) (hsz : f.1.length ≤ reachBytes ∧ f.2.length ≤ reachBytes ∧ g.1.length ≤ reachBytes ∧ g.2.length ≤ reachBytes) :
    Calls Try.prog 9 #[v, u, limV l, .slice A n c] w fun e w' => e = .returned (.bool true) ∧ Below w.heap.size w w' := by
  have HV := Lib.hid (And.intro (hv.mono (Y := fun _ => True) fun _ _ _ => trivial) (hu.mono (Y := fun _ => True) fun _ _ _ => trivial))
  obtain ⟨A1, c1, B1, d1, rfl, -⟩ := hv
  obtain ⟨A2, c2, B2, d2, rfl, -⟩ := hu
  have hbd : f.1.length ≤ 1000000000000000 ∧ f.2.length ≤ 1000000000000000 ∧ g.1.length ≤ 1000000000000000 ∧ g.2.length ≤ 1000000000000000 := by unfold reachBytes at hsz; omega
  clear hsz
  have H3 := Lib.hid (Three.new w [.slice A1 f.1.length c1, .slice B1 f.2.length d1] [.slice A2 g.1.length c2, .slice B2 g.2.length d2] (limC l))
  have HB : Hid (FnV (fun _ => True) w (.agg #[.slice A1 f.1.length c1, .slice B1 f.2.length d1]) f ∧ FnV (fun _ => True) w (.agg #[.slice A2 g.1.length c2, .slice B2 g.2.length d2]) g) := HV.out
  clear HV
  have HL : Hid (l.Ok ∧ RdX (fun _ => True) w A b ∧ n = b.length ∧ n ≤ c ∧ c ≤ maxLen) := ⟨hl, hb.mono fun _ _ _ => trivial, hn, hnc, hcm⟩
  clear hl hb hn hnc hcm
  unfold limV
  go_enter Try.func9, Try.ntmps9
  go_upto_region 1 with fail
  change Code.wp _ _ _ _ (((w.alloc (.cells [.slice A1 f.1.length c1, .slice B1 f.2.length d1].toArray 52)).alloc (.cells [.slice A2 g.1.length c2, .slice B2 g.2.length d2].toArray 52)).alloc (.cells (limC l).toArray 57))
  generalize ((w.alloc (.cells [.slice A1 f.1.length c1, .slice B1 f.2.length d1].toArray 52)).alloc (.cells [.slice A2 g.1.length c2, .slice B2 g.2.length d2].toArray 52)).alloc (.cells (limC l).toArray 57) = w0 at *
  go_wp2_with fail
  refine (begun4_any w0).mono ?_
  rintro e wc ⟨rfl, hb1⟩
  have H3 := Lib.hid (H3.out.later hb1)
  clear hb1
  obtain ⟨⟨a0, a1⟩, ⟨b0, b1⟩, x0, x1, x2⟩ := H3.out.cells
  generalize hf1 : f.1.length = f1 at *
  generalize hf2 : f.2.length = f2 at *
  generalize hg1 : g.1.length = g1 at *
  generalize hg2 : g.2.length = g2 at *
  have HLN := Lib.hid (And.intro hf1 (And.intro hf2 (And.intro hg1 hg2)))
  clear hf1 hf2 hg1 hg2
  obtain ⟨k1, k2, k3, k4⟩ := hbd
  by_cases hbig : (40 : Int) < f1 + f2 + g1 + g2
  · go_wp2
    go_ret
    exact ⟨rfl, H3.out.2.2.2⟩
  by_cases hb20 : (20 : Int) < n
  · go_wp2
    go_ret
    exact ⟨rfl, H3.out.2.2.2⟩
  go_upto_region 5 with fail
  clear a0 a1 b0 b1 x0 x1 x2
  have HFV := Lib.hid (And.intro (HB.out.1.later H3.out.2.2.2) (HB.out.2.later H3.out.2.2.2))
  have HRB : Hid (RdX (fun _ => True) wc A b) := HL.out.2.1.later H3.out.2.2.2
  have KS : Hid (∀ W : World, Below wc.heap.size wc W → (W.cell? ⟨w.heap.size, 0, none⟩ = some (.slice A1 f1 c1) ∧ W.cell? ⟨w.heap.size, 1, none⟩ = some (.slice B1 f2 d1)) ∧ (W.cell? ⟨w.heap.size + 1, 0, none⟩ = some (.slice A2 g1 c2) ∧ W.cell? ⟨w.heap.size + 1, 1, none⟩ = some (.slice B2 g2 d2)) ∧ (W.cell? ⟨w.heap.size + 2, 0, none⟩ = some (.int .u32 l.min) ∧ W.cell? ⟨w.heap.size + 2, 1, none⟩ = some (.int .u32 l.max) ∧ W.cell? ⟨w.heap.size + 2, 2, none⟩ = some (.bool l.has))) := fun W hW => (H3.out.later hW).cells
  have hok1 : f.1.length ≤ 1000000 ∧ f.2.length ≤ 1000000 ∧ n ≤ 1000000 := by have := HLN.out; omega
  obtain ⟨pf, hpf⟩ : ∃ pf, pf = b ++ putFn f := ⟨_, rfl⟩
  obtain ⟨pl, hpl⟩ : ∃ pl, pl = b ++ putLim l := ⟨_, rfl⟩
  have IS1 : IsBytes pf := by rw [hpf]; exact HRB.out.1.app (putFn_is f HFV.out.1.is.1 HFV.out.1.is.2 hok1.1 hok1.2.1)
  have IS2 : IsBytes pl := by rw [hpl]; exact HRB.out.1.app (putLim_is l HL.out.1)
  have IS := Lib.hid (And.intro IS1 IS2)
  clear IS1 IS2
  have P1 : Hid (∀ W, Below wc.heap.size wc W → Calls Try.prog 38 #[.slice A n c, .agg #[.slice A1 f1 c1, .slice B1 f2 d1]] W (fun e w' => ∃ Ap kp, e = .returned (.slice Ap pf.length kp) ∧ Below W.heap.size W w' ∧ Rd w' w'.heap.size Ap pf)) := fun W hW => (put_fn A b n c _ f W (HRB.out.later hW).rd HL.out.2.2.1 HL.out.2.2.2.1 HL.out.2.2.2.2 hok1.2.2 (HFV.out.1.later hW) hok1.1 hok1.2.1).mono fun e w' h => by
    rw [← hpf] at h
    obtain ⟨Ap, kp, he, hr, -, -, hb⟩ := h.arg IS.out.1
    exact ⟨Ap, kp, he, hb, hr⟩
  have P2 : Hid (∀ W, Below wc.heap.size wc W → Calls Try.prog 39 #[.slice A n c, .agg #[.slice A1 f1 c1, .slice B1 f2 d1]] W (fun e w' => ∃ Ap kp, e = .returned (.slice Ap pf.length kp) ∧ Below W.heap.size W w' ∧ Rd w' w'.heap.size Ap pf)) := fun W hW => (refPut_fn A b n c _ f W (HRB.out.later hW).rd HL.out.2.2.1 hok1.2.2 (HFV.out.1.later hW) hok1.1 hok1.2.1).mono fun e w' h => by
    rw [← hpf] at h
    obtain ⟨Ap, kp, he, hr, -, -, hb⟩ := h.arg IS.out.1
    exact ⟨Ap, kp, he, hb, hr⟩
  have PL1 : Hid (∀ W, Below wc.heap.size wc W → Calls Try.prog 40 #[.slice A n c, .agg #[.int .u32 l.min, .int .u32 l.max, .bool l.has]] W (fun e w' => ∃ Ap kp, e = .returned (.slice Ap pl.length kp) ∧ Below W.heap.size W w' ∧ Rd w' w'.heap.size Ap pl)) := fun W hW => (put_lim A b n c l W (HRB.out.later hW).rd HL.out.2.2.1 HL.out.2.2.2.1 HL.out.2.2.2.2 hok1.2.2 HL.out.1).mono fun e w' h => by
    rw [← hpl] at h
    obtain ⟨Ap, kp, he, hr, -, -, hb⟩ := h.arg IS.out.2
    exact ⟨Ap, kp, he, hb, hr⟩
  have PL2 : Hid (∀ W, Below wc.heap.size wc W → Calls Try.prog 41 #[.slice A n c, .agg #[.int .u32 l.min, .int .u32 l.max, .bool l.has]] W (fun e w' => ∃ Ap kp, e = .returned (.slice Ap pl.length kp) ∧ Below W.heap.size W w' ∧ Rd w' w'.heap.size Ap pl)) := fun W hW => (refPut_lim A b n c l W (HRB.out.later hW).rd HL.out.2.2.1 hok1.2.2 HL.out.1).mono fun e w' h => by
    rw [← hpl] at h
    obtain ⟨Ap, kp, he, hr, -, -, hb⟩ := h.arg IS.out.2
    exact ⟨Ap, kp, he, hb, hr⟩
  have SM1 : Hid (∀ W, Below wc.heap.size wc W → Calls Try.prog 42 #[.agg #[.slice A1 f1 c1, .slice B1 f2 d1], .agg #[.slice A2 g1 c2, .slice B2 g2 d2]] W fun e w' => e = .returned (.bool (decide (f = g))) ∧ Below W.heap.size W w') := fun W hW => sameFn_any _ _ f g W (HFV.out.1.later hW) (HFV.out.2.later hW)
  have SM2 : Hid (∀ W, Below wc.heap.size wc W → Calls Try.prog 37 #[.agg #[.slice A1 f1 c1, .slice B1 f2 d1], .agg #[.slice A2 g1 c2, .slice B2 g2 d2]] W fun e w' => e = .returned (.bool (decide (f = g))) ∧ Below W.heap.size W w') := fun W hW => sameFnD_any _ _ f g W (HFV.out.1.later hW) (HFV.out.2.later hW)
  have HD : Hid (Below wc.heap.size wc wc.drew) := (Below.refl _ _).drew
  have HZ := Lib.hid H3.out.2.2.2
  clear H3 IS HFV HB HLN HL HRB hok1 k1 k2 k3 k4 hbig hb20 hpf hpl
  generalize decide (f = g) = bb at *
  have hbb : (bb == bb) = true := by simp
  have hq1 : ((strOfNums pf).toList == (strOfNums pf).toList) = true := by simp
  have hq2 : ((strOfNums pl).toList == (strOfNums pl).toList) = true := by simp
  go_wp2_with fail
  go_region_held (fun (w' : World) => (w'.cell? ⟨w.heap.size, 0, none⟩ = some (.slice A1 f1 c1) ∧ w'.cell? ⟨w.heap.size, 1, none⟩ = some (.slice B1 f2 d1)) ∧ (w'.cell? ⟨w.heap.size + 1, 0, none⟩ = some (.slice A2 g1 c2) ∧ w'.cell? ⟨w.heap.size + 1, 1, none⟩ = some (.slice B2 g2 d2)) ∧ (w'.cell? ⟨w.heap.size + 2, 0, none⟩ = some (.int .u32 l.min) ∧ w'.cell? ⟨w.heap.size + 2, 1, none⟩ = some (.int .u32 l.max) ∧ w'.cell? ⟨w.heap.size + 2, 2, none⟩ = some (.bool l.has))) (exact KS.out _ (by first | exact HB7.out | exact HB6.out | exact HB5.out | exact HB4.out | exact HB3.out | exact HB2.out | exact HD.out))
    (first
      | (go_at_call 37; refine (SM2.out w6 HB6.out).mono ?_; rintro e w7 ⟨rfl, hb⟩; have HB7 := Lib.hid (HB6.out.trans (hb.mono HB6.out.size)); clear hb)
      | (go_at_call 42; refine (SM1.out w5 HB5.out).mono ?_; rintro e w6 ⟨rfl, hb⟩; have HB6 := Lib.hid (HB5.out.trans (hb.mono HB5.out.size)); clear hb)
      | (go_at_call 41; refine (PL2.out w4 HB4.out).mono ?_; rintro e w5 ⟨A5, k5, rfl, hb, hr⟩; have hsD := hr.string k5; have hsC2 := (HR4.out.later hb).string k4; have HB5 := Lib.hid (HB4.out.trans (hb.mono HB4.out.size)); clear hb hr)
      | (go_at_call 40; refine (PL1.out w3 HB3.out).mono ?_; rintro e w4 ⟨A4, k4, rfl, hb, hr⟩; have hsC := hr.string k4; have HR4 := Lib.hid hr; have HB4 := Lib.hid (HB3.out.trans (hb.mono HB3.out.size)); clear hb hr)
      | (go_at_call 39; refine (P2.out w2 HB2.out).mono ?_; rintro e w3 ⟨A3, k3, rfl, hb, hr⟩; have hsB := hr.string k3; have hsA2 := (HR2.out.later hb).string k2; have HB3 := Lib.hid (HB2.out.trans (hb.mono HB2.out.size)); clear hb hr)
      | (go_at_call 38; refine (P1.out wc.drew HD.out).mono ?_; rintro e w2 ⟨A2', k2, rfl, hb, hr⟩; have hsA := hr.string k2; have HR2 := Lib.hid hr; have HB2 := Lib.hid (HD.out.trans (hb.mono HD.out.size)); clear hb hr))
  all_goals go_wp2
  all_goals go_ret
  all_goals exact ⟨rfl, HZ.out.trans (HB7.out.mono HZ.out.size)⟩
end Go.Proofs.Ytnjbijndfbobbaa
