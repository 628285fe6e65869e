/- The walk of TypesBack: out of the contracts. -/
import Derived.Test.YtnjbijndfbobbaaLawTOne
import Derived.Test.YtnjbijndfbobbaaPlace
import Derived.Test.YtnjbijndfbobbaaReplyPut
import Derived.Deep.RegionLaw
namespace Go.Proofs.Ytnjbijndfbobbaa
open Go.RowKit
set_option maxRecDepth 100000
set_option linter.unusedVariables false

/-- A type of functions and limits, boxed. -/
def Two (w : World) (P R : List Value) (wx : World) : Prop :=
  Own wx w.heap.size 52 P ∧ Own wx (w.heap.size + 1) 57 R ∧ Below w.heap.size w wx
section
variable {w wx w' : World} {P R : List Value}
theorem Two.new (w : World) (P R : List Value) : Two w P R ((w.alloc (.cells P.toArray 52)).alloc (.cells R.toArray 57)) := by
  have e1 : (w.alloc (.cells P.toArray 52)).heap.size = w.heap.size + 1 := by simp
  generalize hw1 : w.alloc (.cells P.toArray 52) = w1 at *
  have b1 : Below w.heap.size w w1 := by rw [← hw1]; exact (Below.refl _ _).alloc (Nat.le_refl _) _
  have o1 : Own w1 w.heap.size 52 P := by rw [← hw1]; exact Own.new w _ P
  have b2 : Below w1.heap.size w1 (w1.alloc (.cells R.toArray 57)) := (Below.refl _ _).alloc (Nat.le_refl _) _
  have o2 : Own (w1.alloc (.cells R.toArray 57)) (w.heap.size + 1) 57 R := by rw [← e1]; exact Own.new w1 _ R
  exact ⟨o1.later b2, o2, b1.trans (b2.mono b1.size)⟩
theorem Two.later (h : Two w P R wx) (hb : Below wx.heap.size wx w') : Two w P R w' :=
  ⟨h.1.later hb, h.2.1.later hb, h.2.2.trans (hb.mono h.2.2.size)⟩
theorem Two.set1 (h : Two w P R wx) (j : Nat) (u : Value) : Two w P (R.set j u) (wx.setCell ⟨w.heap.size + 1, j, none⟩ u) := by
  have hc := chgSet wx (w.heap.size + 1) j u
  obtain ⟨h1, h3, h5⟩ := h
  exact ⟨h1.chg hc (by omega), h3.set j u, h5.trans (hc.below h5.size fun i hi e => by omega)⟩
theorem Two.cells {a b x y z : Value} (h : Two w [a, b] [x, y, z] wx) :
    (wx.cell? ⟨w.heap.size, 0, none⟩ = some a ∧ wx.cell? ⟨w.heap.size, 1, none⟩ = some b) ∧ (wx.cell? ⟨w.heap.size + 1, 0, none⟩ = some x ∧ wx.cell? ⟨w.heap.size + 1, 1, none⟩ = some y ∧ wx.cell? ⟨w.heap.size + 1, 2, none⟩ = some z) ∧ wx.frozen? ⟨w.heap.size + 1, 1, none⟩ = false :=
  ⟨⟨h.1.cell 0, h.1.cell 1⟩, ⟨h.2.1.cell 0, h.2.1.cell 1, h.2.1.cell 2⟩, h.2.1.frozen 1⟩
end

set_option maxRecDepth 100000 in
set_option maxHeartbeats 16000000 in
theorem typesBack_core {X Y : Nat → Prop} (v : Value) (f : Fn) (l : Lim) (A : Option Addr) (b : List Int) (n c : Nat) (cut : Int) (w : World) (hv : FnV X w v f) (hl : l.Ok) (hb : RdX Y w A b) (hn : n = b.length) (hnc : n ≤ c) (hcm : c ≤ maxLen) (hcut : -9223372036854775808 ≤ cut ∧ cut < 9223372036854775808) :
    Calls Try.prog 10 #[v, limV l, .slice A n c, .int .i64 cut] w fun e w' => e = .returned (.bool true) ∧ Below w.heap.size w w' := by
  have HV := Lib.hid (hv.mono (Y := fun _ => True) fun _ _ _ => trivial)
  obtain ⟨A1, c1, B1, d1, rfl, -⟩ := hv
  have H2 := Lib.hid (Two.new w [.slice A1 f.1.length c1, .slice B1 f.2.length d1] (limC l))
  have HB : Hid (FnV (fun _ => True) w (.agg #[.slice A1 f.1.length c1, .slice B1 f.2.length d1]) f ∧ RdX (fun _ => True) w A b ∧ n = b.length ∧ l.Ok ∧ n ≤ c ∧ c ≤ maxLen) := ⟨HV.out, hb.mono fun _ _ _ => trivial, hn, hl, hnc, hcm⟩
  have HCUT := Lib.hid hcut
  clear HV hl hb hn hnc hcm hcut
  unfold limV
  go_enter Try.func10, Try.ntmps10
  go_upto_region 1 with fail
  change Code.wp _ _ _ _ ((w.alloc (.cells [.slice A1 f.1.length c1, .slice B1 f.2.length d1].toArray 52)).alloc (.cells (limC l).toArray 57))
  generalize (w.alloc (.cells [.slice A1 f.1.length c1, .slice B1 f.2.length d1].toArray 52)).alloc (.cells (limC l).toArray 57) = w0 at *
  go_wp2_with fail
  refine (begun4_any w0).mono ?_
  rintro e w1 ⟨rfl, hb1⟩
  have H2 := Lib.hid (H2.out.later hb1)
  clear hb1
  obtain ⟨⟨a0, a1⟩, ⟨x0, x1, x2⟩, z1⟩ := H2.out.cells
  generalize hf1 : f.1.length = f1 at *
  generalize hf2 : f.2.length = f2 at *
  have HLN := Lib.hid (And.intro hf1 hf2)
  clear hf1 hf2
  by_cases h1 : (8 : Int) < f1
  · go_wp2
    go_ret
    exact ⟨rfl, H2.out.2.2⟩
  by_cases h2 : (8 : Int) < f2
  · go_wp2
    go_ret
    exact ⟨rfl, H2.out.2.2⟩
  by_cases h3 : (10 : Int) < n
  · go_wp2
    go_ret
    exact ⟨rfl, H2.out.2.2⟩
  go_upto_region 5 with fail
  have HF := Lib.hid (And.intro (HB.out.1.later H2.out.2.2) (HB.out.2.1.later H2.out.2.2))
  go_cut [9] from 27 (fun s9 wx => ∃ A3 c3, s9 = .slice A3 (f1 + f2) c3 ∧ Hid (RdX (fun _ => True) wx A3 (f.1 ++ f.2) ∧ Below w1.heap.size w1 wx))
  case first =>
    have hx1 : RdX (fun _ => True) w1 A1 f.1 := by
      obtain ⟨Ax, cx, Bx, dx, e, q1, -, -, q2, -, -⟩ := HF.out.1
      injection e with e
      have e3 := congrArg Array.toList e
      simp only [List.cons.injEq, Value.slice.injEq, and_true] at e3
      obtain ⟨⟨rfl, -, rfl⟩, rfl, -, rfl⟩ := e3
      exact q1
    have hx2 : RdX (fun _ => True) w1 B1 f.2 := by
      obtain ⟨Ax, cx, Bx, dx, e, q1, -, -, q2, -, -⟩ := HF.out.1
      injection e with e
      have e3 := congrArg Array.toList e
      simp only [List.cons.injEq, Value.slice.injEq, and_true] at e3
      obtain ⟨⟨rfl, -, rfl⟩, rfl, -, rfl⟩ := e3
      exact q2
    have HX := Lib.hid (And.intro hx1 (And.intro hx2 HLN.out))
    clear hx1 hx2
    have HO0 : Hid (OwnB (w1.alloc (.cells #[] 5)).drew w1.heap.size (.slice (some ⟨w1.heap.size, 0, none⟩) 0 0) [] ∧ Below w1.heap.size w1 (w1.alloc (.cells #[] 5)).drew) := ⟨(ownB_lit0 w1).later (Below.refl _ _).drew, ((Below.refl _ _).alloc (Nat.le_refl _) _).drew⟩
    have HC : Hid (∀ W : World, Below w1.heap.size w1 W → (W.cell? ⟨w.heap.size, 0, none⟩ = some (.slice A1 f1 c1) ∧ W.cell? ⟨w.heap.size, 1, none⟩ = some (.slice B1 f2 d1))) := fun W hW => (H2.out.later hW).cells.1
    obtain ⟨y0, y1⟩ := HC.out _ HO0.out.2
    go_region_law (first
      | (refine step_appX (X := fun _ => True) rfl (.tmp 47) (.tmp 49) rfl w1.heap.size v4 ([] ++ f.1) (by simp [Act.eval]) HO4.out.1 B1 f2 d1 f.2 (by simp [Act.eval]) HX.out.2.2.2.symm (HX.out.2.1.later HO4.out.2) (by have := HX.out.2.2.1; simp; omega) HO4.out.2.size ?_; intro v5 w5 hv5 hw5; have HO5 := Lib.hid (And.intro hv5 (HO4.out.2.trans (hw5.below HO4.out.2.size (fun k hk => owns_ge HO4.out.1 hk)))); clear hv5 hw5)
      | (refine step_appX (X := fun _ => True) rfl (.tmp 44) (.tmp 46) rfl w1.heap.size (.slice (some ⟨w1.heap.size, 0, none⟩) 0 0) [] (by simp [Act.eval]) HO0.out.1 A1 f1 c1 f.1 (by simp [Act.eval]) HX.out.2.2.1.symm (HX.out.1.later HO0.out.2) (by simp; omega) HO0.out.2.size ?_; intro v4 w4 hv4 hw4; have HO4 := Lib.hid (And.intro hv4 (HO0.out.2.trans (hw4.below HO0.out.2.size (fun k hk => owns_ge HO0.out.1 hk)))); obtain ⟨q0, q1⟩ := HC.out _ HO4.out.2; clear hv4 hw4))
    all_goals (
      have hI5 : IsBytes ([] ++ f.1 ++ f.2) := (IsBytes.nil.app HX.out.1.1).app HX.out.2.1.1
      have hl5 : ([] ++ f.1 ++ f.2).length = f1 + f2 := by have := HX.out.2.2; simp; omega
      obtain ⟨A5, c5, e5, -, -, hr5⟩ := HO5.out.1.rdX hI5
      rw [hl5] at e5
      subst e5
      have HR5 : Hid (RdX (fun _ => True) w5 A5 (f.1 ++ f.2)) := hr5.mono fun _ _ _ => trivial
      clear hI5 hl5 hr5
      go_wp2_with fail
      go_meet
      exact ⟨A5, c5, rfl, HR5.out, HO5.out.2⟩)
  case rest =>
    obtain ⟨A3, c3, rfl, H3⟩ := hcut
    have HBC := Lib.hid H3.out.2
    have H2 := Lib.hid (H2.out.later H3.out.2)
    have HR := Lib.hid (And.intro H3.out.1 HLN.out)
    clear H3 a0 a1 x0 x1 x2 z1
    go_wp2
    go_loop [10] (fun i => ∃ k : Nat, k ≤ f1 + f2 ∧ i = .int .i64 k ∧ Hid (∀ z ∈ (f.1 ++ f.2).take k, valE z = 0)) (fun i => f1 + f2 - (intOf i).toNat)
    case atStart => exact ⟨0, by omega, rfl, by unfold Hid; simp⟩
    case round =>
      obtain ⟨k, hk, rfl, HK⟩ := hrel
      by_cases hlt : k < f1 + f2
      · have hkl : k < (f.1 ++ f.2).length := by have := HR.out.2; simp; omega
        have hlt2 : (k : Int) < ((f1 + f2 : Nat) : Int) := by omega
        obtain ⟨bb, oo, rfl, hb, hb2, hcell⟩ := HR.out.1.2.spot (by rw [List.length_map]; omega)
        have hc := hcell k (.int .u8 ((f.1 ++ f.2).getD k 0)) (map_u8_get hkl)
        have hy := HR.out.1.1 ((f.1 ++ f.2).getD k 0) (getD_mem hkl)
        have HS : Hid (valE ((f.1 ++ f.2).getD k 0) = 0 → ∀ z ∈ (f.1 ++ f.2).take (k + 1), valE z = 0) := fun h z hz => by
          rw [List.take_add_one, List.getElem?_eq_getElem hkl] at hz
          rw [List.getD_eq_getElem?_getD, List.getElem?_eq_getElem hkl] at h
          simp only [Option.toList_some, List.mem_append, List.mem_singleton] at hz
          rcases hz with hz | hz
          · exact HK.out z (by simpa using hz)
          · rw [hz]; simpa using h
        clear hcell hb hb2 hkl
        generalize (f.1 ++ f.2).getD k 0 = y at *
        generalize hff : f1 + f2 = ff at *
        go_wp2_with fail
        refine (value_any 29 (by simp) y _ hy.1 hy.2).mono ?_
        rintro e w' ⟨rfl, rfl⟩
        unfold valT
        by_cases hv0 : valE y = 0
        · have HN := Lib.hid (HS.out hv0)
          rw [hv0]
          clear hv0 HS
          go_wp2
          exact ⟨⟨k + 1, by omega, by go_num, HN.out⟩, by simp [intOf]; omega⟩
        · have hd : decide (valE y = 0) = false := by simpa using hv0
          rw [hd]
          clear hv0 HS hd
          generalize valE y = ve at *
          go_wp2
          go_ret
          exact ⟨rfl, H2.out.2.2⟩
      · obtain rfl : k = f1 + f2 := by omega
        have HVAL : Hid (∀ z ∈ f.1 ++ f.2, valE z = 0) := fun z hz => HK.out z (by rw [List.take_of_length_le (by have := HR.out.2; simp; omega)]; exact hz)
        clear HK HR
        obtain ⟨⟨a0, a1⟩, ⟨x0, x1, x2⟩, z1⟩ := H2.out.cells
        go_upto_if 69 with fail
        go_cut [8] from 9 (fun s8 wx => Hid (Two w [.slice A1 f1 c1, .slice B1 f2 d1] (limC l.norm) wx))
        case first =>
          obtain ⟨la, lb, lh⟩ := l
          cases lh with
          | true =>
            go_wp2_with fail
            go_meet
            exact H2.out
          | false =>
            have H5 := Lib.hid (H2.out.set1 1 (.int .u32 0))
            go_wp2_with fail
            go_meet
            exact H5.out
        case rest =>
          have H5 := hcut
          clear hcut
          have HVP : Hid ((∀ z ∈ f.1, valE z = 0) ∧ ∀ z ∈ f.2, valE z = 0) := ⟨fun z hz => HVAL.out z (by simp [hz]), fun z hz => HVAL.out z (by simp [hz])⟩
          have HOK : Hid (l.norm.Ok ∧ l.norm.Plain) := ⟨Lim.norm_ok HB.out.2.2.2.1, l.norm_plain⟩
          clear H2 a0 a1 x0 x1 x2 z1 HVAL HBC
          generalize l.norm = l at *
          have hL8 : f.1.length ≤ 8 ∧ f.2.length ≤ 8 := by have := HLN.out; omega
          have EF := enc_fn f HVP.out.1 HVP.out.2 hL8.1 hL8.2
          have EL := enc_lim l HOK.out.1 HOK.out.2
          have HFV := Lib.hid (HB.out.1.later H5.out.2.2)
          have IS : Hid (IsBytes (putFn f) ∧ IsBytes (putLim l)) := ⟨putFn_is f HB.out.1.is.1 HB.out.1.is.2 (by omega) (by omega), putLim_is l HOK.out.1⟩
          have HLP : Hid (0 < (putFn f).length ∧ (putFn f).length ≤ 37 ∧ 0 < (putLim l).length ∧ (putLim l).length ≤ 21) := ⟨by unfold putFn; simp, by have := putFn_len f; omega, (putLim_len l).2, (putLim_len l).1⟩
          have HEN : Hid ((∀ more, pFn (putFn f ++ more) = .ok (f, more)) ∧ (∀ j, j < (putFn f).length → pFn ((putFn f).take j) = .error 3) ∧ (∀ more, pLim (putLim l ++ more) = .ok (l, more)) ∧ (∀ j, j < (putLim l).length → pLim ((putLim l).take j) = .error 3)) := ⟨EF.1, EF.2, EL.1, EL.2⟩
          clear EF EL
          have KS : Hid (∀ W : World, Below wc.heap.size wc W → (W.cell? ⟨w.heap.size, 0, none⟩ = some (.slice A1 f1 c1) ∧ W.cell? ⟨w.heap.size, 1, none⟩ = some (.slice B1 f2 d1)) ∧ (W.cell? ⟨w.heap.size + 1, 0, none⟩ = some (.int .u32 l.min) ∧ W.cell? ⟨w.heap.size + 1, 1, none⟩ = some (.int .u32 l.max) ∧ W.cell? ⟨w.heap.size + 1, 2, none⟩ = some (.bool l.has))) := fun W hW => ⟨(H5.out.later hW).cells.1, (H5.out.later hW).cells.2.1⟩
          go_upto_region 14 with fail
          go_cut [13, 14] from 15 (fun s13 s14 wx => ∃ P p Q q, s13 = .slice P (putFn f).length p ∧ s14 = .slice Q (putLim l).length q ∧ Hid (RdX (fun _ => True) wx P (putFn f) ∧ RdX (fun _ => True) wx Q (putLim l) ∧ Below wc.heap.size wc wx ∧ (putFn f).length ≤ p ∧ p ≤ maxLen ∧ (putLim l).length ≤ q ∧ q ≤ maxLen))
          case first =>
            have P1 : Hid (∀ W, Below wc.heap.size wc W → Calls Try.prog 38 #[.slice none 0 0, .agg #[.slice A1 f1 c1, .slice B1 f2 d1]] W (fun e w' => ∃ Ap kp, e = .returned (.slice Ap (putFn f).length kp) ∧ Below W.heap.size W w' ∧ RdX (fun _ => True) w' Ap (putFn f) ∧ (putFn f).length ≤ kp ∧ kp ≤ maxLen)) := fun W hW => (put_fn none [] 0 0 _ f W (Rd.nil _ _ _) rfl (by omega) (by simp [maxLen]) (by omega) (HFV.out.later hW) (by omega) (by omega)).mono fun e w' h => by
              rw [List.nil_append] at h
              obtain ⟨Ap, kp, he, hr, h1, h2, hb⟩ := h.arg IS.out.1
              exact ⟨Ap, kp, he, hb, hr.rx.mono fun _ _ _ => trivial, h1, h2⟩
            have PL : Hid (∀ (W : World), Calls Try.prog 40 #[.slice none 0 0, .agg #[.int .u32 l.min, .int .u32 l.max, .bool l.has]] W (fun e w' => ∃ Ap kp, e = .returned (.slice Ap (putLim l).length kp) ∧ Below W.heap.size W w' ∧ RdX (fun _ => True) w' Ap (putLim l) ∧ (putLim l).length ≤ kp ∧ kp ≤ maxLen)) := fun W => (put_lim none [] 0 0 l W (Rd.nil _ _ _) rfl (by omega) (by simp [maxLen]) (by omega) HOK.out.1).mono fun e w' h => by
              rw [List.nil_append] at h
              obtain ⟨Ap, kp, he, hr, h1, h2, hb⟩ := h.arg IS.out.2
              exact ⟨Ap, kp, he, hb, hr.rx.mono fun _ _ _ => trivial, h1, h2⟩
            have HD : Hid (Below wc.heap.size wc wc.drew) := (Below.refl _ _).drew
            generalize (putFn f).length = pl at *
            generalize (putLim l).length = ql at *
            go_region_held (fun (w' : World) => (w'.cell? ⟨w.heap.size, 0, none⟩ = some (.slice A1 f1 c1) ∧ w'.cell? ⟨w.heap.size, 1, none⟩ = some (.slice B1 f2 d1)) ∧ (w'.cell? ⟨w.heap.size + 1, 0, none⟩ = some (.int .u32 l.min) ∧ w'.cell? ⟨w.heap.size + 1, 1, none⟩ = some (.int .u32 l.max) ∧ w'.cell? ⟨w.heap.size + 1, 2, none⟩ = some (.bool l.has))) (exact KS.out _ (by first | exact HB5.out | exact HB4.out | exact HD.out))
              (first
                | (go_at_call 40; refine (PL.out w4).mono ?_; rintro e w5 ⟨A5, k5, rfl, hb, hr⟩; have HR5 := Lib.hid (And.intro hr (HR4.out.1.later hb)); have HB5 := Lib.hid (HB4.out.trans (hb.mono HB4.out.size)); clear hb hr)
                | (go_at_call 38; refine (P1.out wc.drew HD.out).mono ?_; rintro e w4 ⟨A4, k4, rfl, hb, hr⟩; have HR4 := Lib.hid hr; have HB4 := Lib.hid (HD.out.trans (hb.mono HD.out.size)); clear hb hr))
            all_goals go_wp2_with fail
            all_goals go_meet
            all_goals exact ⟨A4, k4, A5, k5, rfl, rfl, HR5.out.2, HR5.out.1.1, HB5.out, HR4.out.2.1, HR4.out.2.2, HR5.out.1.2.1, HR5.out.1.2.2⟩
          case rest =>
            obtain ⟨P, p, Q, q, rfl, rfl, H6⟩ := hcut
            have H7 := Lib.hid (H5.out.later H6.out.2.2.1)
            have HFV := Lib.hid (HFV.out.later H6.out.2.2.1)
            have HBB : Hid (RdX (fun _ => True) wc A b) := HB.out.2.1.later H7.out.2.2
            have HBN := Lib.hid HB.out.2.2.1
            have HRP := Lib.hid H6.out.1
            have HRQ := Lib.hid H6.out.2.1
            have HCP := Lib.hid H6.out.2.2.2
            clear H5 KS HB H6
            generalize hpl : (putFn f).length = pl at *
            generalize hql : (putLim l).length = ql at *
            have HPL := Lib.hid hpl
            have HQL := Lib.hid hql
            have hpb := HLP.out
            clear hpl hql
            go_wp2_with (first
              | (at_builtin; refine wpList_app rfl (.tmp 78) (.tmp 79) rfl wc.heap.size (.slice A8 pl c8) ([] ++ putFn f) rfl HO8.out.1 A n c b rfl HBN.out ((HBB.out.later HO8.out.2).rd) (by have := HPL.out; simp; omega) HO8.out.2.size ?_; intro v9 w9 hv hw; have HO9 := Lib.hid (And.intro hv (HO8.out.2.trans hw)); clear hv hw; obtain ⟨A9, c9, e9, -⟩ := HO9.out.1.rdX (((IsBytes.nil.app HRP.out.1).app HBB.out.1)); rw [show (([] : List Int) ++ putFn f ++ b).length = pl + n from by have := HPL.out; have := HBN.out; simp; omega] at e9; subst e9)
              | (at_builtin; refine wpList_app rfl (.tmp 76) (.tmp 77) rfl wc.heap.size (.slice (some ⟨wc.heap.size, 0, none⟩) 0 0) [] rfl (ownB_lit0 wc) P pl p (putFn f) rfl HPL.out.symm ((HRP.out.later ((Below.refl _ _).alloc (Nat.le_refl _) _)).rd) (by simp; omega) (by simp) ?_; intro v8 w8 hv hw; have HO8 := Lib.hid (And.intro hv ((((Below.refl wc.heap.size wc).alloc (Nat.le_refl _) (.cells #[] 5))).trans hw)); clear hv hw; obtain ⟨A8, c8, e8, -⟩ := HO8.out.1.rdX (IsBytes.nil.app HRP.out.1); rw [show (([] : List Int) ++ putFn f).length = pl from by have := HPL.out; simp; omega] at e8; subst e8))
            have hT := take_fn A9 (putFn f ++ b) (pl + n) c9 w9 (by
                obtain ⟨Ax, cx, ex, -, -, hr⟩ := HO9.out.1.rdX (((IsBytes.nil.app HRP.out.1).app HBB.out.1))
                injection ex with e1 e2 e3
                rw [e1]
                exact hr.rd) (by have := HPL.out; have := HBN.out; simp; omega) (by omega) (by
                obtain ⟨Ax, cx, ex, h1, -, hr⟩ := HO9.out.1.rdX (((IsBytes.nil.app HRP.out.1).app HBB.out.1))
                injection ex with e1 e2 e3
                rw [e2, e3]; exact h1) (by
                obtain ⟨Ax, cx, ex, h1, h2, hr⟩ := HO9.out.1.rdX (((IsBytes.nil.app HRP.out.1).app HBB.out.1))
                injection ex with e1 e2 e3
                rw [e3]; exact h2)
            refine hT.mono ?_
            clear hT
            rintro e w10 ⟨v10, rfl, hv10, hb10⟩
            rw [HEN.out.1 b] at hv10 ⊢
            simp only [fnOf, codeOf, readOf] at hv10 ⊢
            rw [show ((putFn f ++ b).length : Int) - b.length = pl from by have := HPL.out; simp; omega]
            have hv10' := hv10
            obtain ⟨A10, c10, B10, d10, rfl, -⟩ := hv10'
            rw [HLN.out.1, HLN.out.2] at hv10 ⊢
            have hc11 := (Below.refl w10.heap.size w10).alloc (Nat.le_refl _) (.cells #[.slice A10 f1 c10, .slice B10 f2 d10] 52)
            have h1011 := HO9.out.2.trans (hb10.mono HO9.out.2.size)
            have H11 : Hid (FnV (fun _ => True) (w10.alloc (.cells #[.slice A10 f1 c10, .slice B10 f2 d10] 52)) (.agg #[.slice A10 f1 c10, .slice B10 f2 d10]) f ∧ Own (w10.alloc (.cells #[.slice A10 f1 c10, .slice B10 f2 d10] 52)) w10.heap.size 52 [.slice A10 f1 c10, .slice B10 f2 d10] ∧ Below wc.heap.size wc (w10.alloc (.cells #[.slice A10 f1 c10, .slice B10 f2 d10] 52))) := ⟨(hv10.mono fun _ _ _ => trivial).later hc11, Own.new w10 52 [.slice A10 f1 c10, .slice B10 f2 d10], h1011.trans (hc11.mono h1011.size)⟩
            clear hv10 hb10 hc11 h1011 HO9 HO8
            go_upto_region 16 with fail
            generalize w10.alloc (.cells #[.slice A10 f1 c10, .slice B10 f2 d10] 52) = w11 at *
            generalize w10.heap.size = g10 at *
            have HRQ2 := Lib.hid (HRQ.out.later H11.out.2.2)
            have HBB2 := Lib.hid (HBB.out.later H11.out.2.2)
            go_wp2_with (first
              | (at_builtin; refine wpList_app rfl (.tmp 88) (.tmp 89) rfl w11.heap.size (.slice A12 ql c12) ([] ++ putLim l) rfl HO12.out.1 A n c b rfl HBN.out ((HBB2.out.later HO12.out.2).rd) (by have := HQL.out; simp; omega) HO12.out.2.size ?_; intro v13 w13 hv hw; have HO13 := Lib.hid (And.intro hv (HO12.out.2.trans hw)); clear hv hw; obtain ⟨A13, c13, e13, -⟩ := HO13.out.1.rdX (((IsBytes.nil.app HRQ2.out.1).app HBB2.out.1)); rw [show (([] : List Int) ++ putLim l ++ b).length = ql + n from by have := HQL.out; have := HBN.out; simp; omega] at e13; subst e13)
              | (at_builtin; refine wpList_app rfl (.tmp 86) (.tmp 87) rfl w11.heap.size (.slice (some ⟨w11.heap.size, 0, none⟩) 0 0) [] rfl (ownB_lit0 w11) Q ql q (putLim l) rfl HQL.out.symm ((HRQ2.out.later ((Below.refl _ _).alloc (Nat.le_refl _) _)).rd) (by simp; omega) (by simp) ?_; intro v12 w12 hv hw; have HO12 := Lib.hid (And.intro hv ((((Below.refl w11.heap.size w11).alloc (Nat.le_refl _) (.cells #[] 5))).trans hw)); clear hv hw; obtain ⟨A12, c12, e12, -⟩ := HO12.out.1.rdX (IsBytes.nil.app HRQ2.out.1); rw [show (([] : List Int) ++ putLim l).length = ql from by have := HQL.out; simp; omega] at e12; subst e12))
            have hT := take_lim A13 (putLim l ++ b) (ql + n) c13 w13 (by
                obtain ⟨Ax, cx, ex, -, -, hr⟩ := HO13.out.1.rdX (((IsBytes.nil.app HRQ.out.1).app HBB.out.1))
                injection ex with e1 e2 e3
                rw [e1]
                exact hr.rd) (by have := HQL.out; have := HBN.out; simp; omega) (by omega) (by
                obtain ⟨Ax, cx, ex, h1, -, hr⟩ := HO13.out.1.rdX (((IsBytes.nil.app HRQ.out.1).app HBB.out.1))
                injection ex with e1 e2 e3
                rw [e2, e3]; exact h1) (by
                obtain ⟨Ax, cx, ex, h1, h2, hr⟩ := HO13.out.1.rdX (((IsBytes.nil.app HRQ.out.1).app HBB.out.1))
                injection ex with e1 e2 e3
                rw [e3]; exact h2)
            refine hT.mono ?_
            clear hT
            rintro e w14 ⟨rfl, hb14⟩
            rw [HEN.out.2.2.1 b]
            simp only [limOf, codeOf, readOf, limV]
            rw [show ((putLim l ++ b).length : Int) - b.length = ql from by have := HQL.out; simp; omega]
            have hc15 := (Below.refl w14.heap.size w14).alloc (Nat.le_refl _) (.cells #[.int .u32 l.min, .int .u32 l.max, .bool l.has] 57)
            have h1415 := HO13.out.2.trans (hb14.mono HO13.out.2.size)
            have H15 : Hid (Own (w14.alloc (.cells #[.int .u32 l.min, .int .u32 l.max, .bool l.has] 57)) w14.heap.size 57 [.int .u32 l.min, .int .u32 l.max, .bool l.has] ∧ Below w11.heap.size w11 (w14.alloc (.cells #[.int .u32 l.min, .int .u32 l.max, .bool l.has] 57))) := ⟨Own.new w14 57 [.int .u32 l.min, .int .u32 l.max, .bool l.has], h1415.trans (hc15.mono h1415.size)⟩
            clear hb14 hc15 h1415 HO13 HO12
            go_upto_region 17 with fail
            generalize w14.alloc (.cells #[.int .u32 l.min, .int .u32 l.max, .bool l.has] 57) = w15 at *
            generalize w14.heap.size = g14 at *
            go_wp2_with fail
            refine (place_any cut pl w15 (by omega) (by omega) HCUT.out).mono ?_
            rintro e w15' ⟨j, rfl, hj, rfl⟩
            obtain ⟨Ac, cc, hE, hcc, hX⟩ := cutB_h P pl p (j : Int) j rfl (by have := HCP.out.1; omega)
            have hrl : RdX (fun _ => True) w15 Ac ((putFn f).take j) := hX _ _ _ (by rw [HPL.out]; exact HCP.out.1) ((HRP.out.later H11.out.2.2).later H15.out.2)
            have hln : j = ((putFn f).take j).length := by rw [List.length_take, HPL.out]; omega
            have HC := Lib.hid (And.intro hrl.rd (And.intro hln (And.intro (show j ≤ cc by have := HCP.out.1; omega) (show cc ≤ maxLen by have := HCP.out.2.1; omega))))
            clear hrl hln hX hcc
            go_wp2_with fail
            refine (take_fn Ac ((putFn f).take j) j cc w15 HC.out.1 HC.out.2.1 (by omega) HC.out.2.2.1 HC.out.2.2.2).mono ?_
            rintro e w16 ⟨v16, rfl, hv16, hb16⟩
            rw [HEN.out.2.1 j hj] at hv16 ⊢
            simp only [fnOf, codeOf, readOf] at hv16 ⊢
            obtain ⟨A16, c16, B16, d16, rfl, -⟩ := hv16
            simp only [List.length_nil]
            have HB17 : Hid (Below w15.heap.size w15 (w16.alloc (.cells #[.slice A16 0 c16, .slice B16 0 d16] 52))) := hb16.alloc hb16.size _
            clear hb16 hE HC
            go_upto_region 18 with fail
            generalize w16.alloc (.cells #[.slice A16 0 c16, .slice B16 0 d16] 52) = w17 at *
            generalize w16.heap.size = g16 at *
            go_wp2_with fail
            refine (place_any cut ql w17 (by omega) (by omega) HCUT.out).mono ?_
            rintro e w17' ⟨j2, rfl, hj2, rfl⟩
            obtain ⟨Ac, cc, hE, hcc, hX⟩ := cutB_h Q ql q (j2 : Int) j2 rfl (by have := HCP.out.2.2.1; omega)
            have hrl : RdX (fun _ => True) w17 Ac ((putLim l).take j2) := hX _ _ _ (by rw [HQL.out]; exact HCP.out.2.2.1) (((HRQ.out.later H11.out.2.2).later H15.out.2).later HB17.out)
            have hln : j2 = ((putLim l).take j2).length := by rw [List.length_take, HQL.out]; omega
            have HC := Lib.hid (And.intro hrl.rd (And.intro hln (And.intro (show j2 ≤ cc by have := HCP.out.2.2.1; omega) (show cc ≤ maxLen by have := HCP.out.2.2.2; omega))))
            clear hrl hln hX hcc
            go_wp2_with fail
            refine (take_lim Ac ((putLim l).take j2) j2 cc w17 HC.out.1 HC.out.2.1 (by omega) HC.out.2.2.1 HC.out.2.2.2).mono ?_
            rintro e w18 ⟨rfl, hb18⟩
            rw [HEN.out.2.2.2 j2 hj2]
            simp only [limOf, codeOf, readOf, limV]
            have HB19 : Hid (Below w17.heap.size w17 (w18.alloc (.cells #[.int .u32 0, .int .u32 0, .bool false] 57))) := hb18.alloc hb18.size _
            clear hb18 hE HC
            go_upto_region 19 with fail
            generalize w18.alloc (.cells #[.int .u32 0, .int .u32 0, .bool false] 57) = w19 at *
            generalize w18.heap.size = g18 at *
            have h1519 := HB17.out.trans (HB19.out.mono HB17.out.size)
            have h1119 := H15.out.2.trans (h1519.mono H15.out.2.size)
            have hc19 := H11.out.2.2.trans (h1119.mono H11.out.2.2.size)
            have hOX := own_cells2 (H11.out.2.1.later h1119)
            have hOL := own_cells3 (H15.out.1.later h1519)
            have hTw := H7.out.later hc19
            have SM : Hid (Calls Try.prog 42 #[.agg #[.slice A10 f1 c10, .slice B10 f2 d10], .agg #[.slice A1 f1 c1, .slice B1 f2 d1]] w19 fun e w' => e = .returned (.bool true) ∧ Below w19.heap.size w19 w') := (sameFn_any _ _ f f w19 (H11.out.1.later h1119) (HFV.out.later hc19)).mono fun e w' h => by simpa using h
            have HK : Hid (∀ W : World, Below w19.heap.size w19 W → (W.cell? ⟨g14, 0, none⟩ = some (.int .u32 l.min) ∧ W.cell? ⟨g14, 1, none⟩ = some (.int .u32 l.max) ∧ W.cell? ⟨g14, 2, none⟩ = some (.bool l.has)) ∧ (W.cell? ⟨w.heap.size + 1, 0, none⟩ = some (.int .u32 l.min) ∧ W.cell? ⟨w.heap.size + 1, 1, none⟩ = some (.int .u32 l.max) ∧ W.cell? ⟨w.heap.size + 1, 2, none⟩ = some (.bool l.has)) ∧ Below w.heap.size w W) := fun W hW => by
              have h := own_cells3 ((H15.out.1.later h1519).later hW)
              have h2 := (hTw.later hW)
              exact ⟨⟨h.1, h.2.1, h.2.2.1⟩, h2.cells.2.1, h2.2.2⟩
            obtain ⟨o0, o1, -, -⟩ := hOX
            obtain ⟨⟨a0, a1⟩, -, -⟩ := hTw.cells
            clear h1519 h1119 hc19 hOL hTw H11 H15 HB17 HB19 H7 HFV HRP HRQ HRQ2 HBB HBB2 HEN HCP HF H2
            have hEQ := eqLim l l
            rw [show decide (l = l) = true from by simp] at hEQ
            go_wp2_with (go_at_call 42; refine SM.out.mono ?_; rintro e w20 ⟨rfl, hb20⟩; obtain ⟨⟨y0, y1, y2⟩, ⟨x0, x1, x2⟩, hfin⟩ := HK.out w20 hb20; have HFIN := Lib.hid hfin; clear hfin hb20)
            go_ret
            exact ⟨rfl, HFIN.out⟩
end Go.Proofs.Ytnjbijndfbobbaa
