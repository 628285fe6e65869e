/- The walk of TypesOne: out of the contracts. -/
import Derived.Test.YtnjbijndfbobbaaBegun4
import Derived.Test.YtnjbijndfbobbaaRowsT
import Derived.Deep.Cut
import Derived.Deep.RegionHeld3
import Derived.Laws.StructEq
namespace Go.Proofs.Ytnjbijndfbobbaa
open Go.RowKit
set_option maxRecDepth 100000
set_option linter.unusedVariables false

/-- Limits, a Max that they have not struck out. -/
def Lim.norm (l : Lim) : Lim := ⟨l.min, if l.has then l.max else 0, l.has⟩
theorem Lim.norm_ok {l : Lim} (h : l.Ok) : l.norm.Ok := by
  obtain ⟨a, b, has⟩ := l
  cases has with
  | true => exact h
  | false => exact ⟨h.1, by simp [Lim.norm]⟩
theorem Lim.norm_plain (l : Lim) : l.norm.Plain := fun h => by
  obtain ⟨a, b, has⟩ := l
  simp only [Lim.norm] at h
  simp [Lim.norm, h]
def limC (l : Lim) : List Value := [.int .u32 l.min, .int .u32 l.max, .bool l.has]
/-- Two types of functions, two limits, boxed. -/
def Four (w : World) (P Q R S : List Value) (wx : World) : Prop :=
  Own wx w.heap.size 52 P ∧ Own wx (w.heap.size + 1) 52 Q ∧ Own wx (w.heap.size + 2) 57 R ∧ Own wx (w.heap.size + 3) 57 S ∧ Below w.heap.size w wx
section
variable {w wx w' : World} {P Q R S : List Value}
theorem Four.new (w : World) (P Q R S : List Value) : Four w P Q R S ((((w.alloc (.cells P.toArray 52)).alloc (.cells Q.toArray 52)).alloc (.cells R.toArray 57)).alloc (.cells S.toArray 57)) := by
  have e1 : (w.alloc (.cells P.toArray 52)).heap.size = w.heap.size + 1 := by simp
  generalize hw1 : w.alloc (.cells P.toArray 52) = w1 at *
  have b1 : Below w.heap.size w w1 := by rw [← hw1]; exact (Below.refl _ _).alloc (Nat.le_refl _) _
  have o1 : Own w1 w.heap.size 52 P := by rw [← hw1]; exact Own.new w _ P
  have e2 : (w1.alloc (.cells Q.toArray 52)).heap.size = w.heap.size + 2 := by simp; omega
  generalize hw2 : w1.alloc (.cells Q.toArray 52) = w2 at *
  have b2 : Below w1.heap.size w1 w2 := by rw [← hw2]; exact (Below.refl _ _).alloc (Nat.le_refl _) _
  have o2 : Own w2 (w.heap.size + 1) 52 Q := by rw [← hw2, ← e1]; exact Own.new w1 _ Q
  have e3 : (w2.alloc (.cells R.toArray 57)).heap.size = w.heap.size + 3 := by simp; omega
  generalize hw3 : w2.alloc (.cells R.toArray 57) = w3 at *
  have b3 : Below w2.heap.size w2 w3 := by rw [← hw3]; exact (Below.refl _ _).alloc (Nat.le_refl _) _
  have o3 : Own w3 (w.heap.size + 2) 57 R := by rw [← hw3, ← e2]; exact Own.new w2 _ R
  have b4 : Below w3.heap.size w3 (w3.alloc (.cells S.toArray 57)) := (Below.refl _ _).alloc (Nat.le_refl _) _
  have o4 : Own (w3.alloc (.cells S.toArray 57)) (w.heap.size + 3) 57 S := by rw [← e3]; exact Own.new w3 _ S
  exact ⟨((o1.later b2).later b3).later b4, (o2.later b3).later b4, o3.later b4, o4, b1.trans ((b2.trans ((b3.trans (b4.mono b3.size)).mono b2.size)).mono b1.size)⟩
theorem Four.later (h : Four w P Q R S wx) (hb : Below wx.heap.size wx w') : Four w P Q R S w' :=
  ⟨h.1.later hb, h.2.1.later hb, h.2.2.1.later hb, h.2.2.2.1.later hb, h.2.2.2.2.trans (hb.mono h.2.2.2.2.size)⟩
theorem Four.set2 (h : Four w P Q R S wx) (j : Nat) (u : Value) : Four w P Q (R.set j u) S (wx.setCell ⟨w.heap.size + 2, j, none⟩ u) := by
  have hc := chgSet wx (w.heap.size + 2) j u
  obtain ⟨h1, h2, h3, h4, h5⟩ := h
  exact ⟨h1.chg hc (by omega), h2.chg hc (by omega), h3.set j u, h4.chg hc (by omega), h5.trans (hc.below h5.size fun i hi e => by omega)⟩
theorem Four.set3 (h : Four w P Q R S wx) (j : Nat) (u : Value) : Four w P Q R (S.set j u) (wx.setCell ⟨w.heap.size + 3, j, none⟩ u) := by
  have hc := chgSet wx (w.heap.size + 3) j u
  obtain ⟨h1, h2, h3, h4, h5⟩ := h
  exact ⟨h1.chg hc (by omega), h2.chg hc (by omega), h3.chg hc (by omega), h4.set j u, h5.trans (hc.below h5.size fun i hi e => by omega)⟩
theorem Four.cells {a b c d x y z x' y' z' : Value} (h : Four w [a, b] [c, d] [x, y, z] [x', y', z'] wx) :
    (wx.cell? ⟨w.heap.size, 0, none⟩ = some a ∧ wx.cell? ⟨w.heap.size, 1, none⟩ = some b) ∧ (wx.cell? ⟨w.heap.size + 1, 0, none⟩ = some c ∧ wx.cell? ⟨w.heap.size + 1, 1, none⟩ = some d) ∧ (wx.cell? ⟨w.heap.size + 2, 0, none⟩ = some x ∧ wx.cell? ⟨w.heap.size + 2, 1, none⟩ = some y ∧ wx.cell? ⟨w.heap.size + 2, 2, none⟩ = some z) ∧ (wx.cell? ⟨w.heap.size + 3, 0, none⟩ = some x' ∧ wx.cell? ⟨w.heap.size + 3, 1, none⟩ = some y' ∧ wx.cell? ⟨w.heap.size + 3, 2, none⟩ = some z') :=
  ⟨⟨h.1.cell 0, h.1.cell 1⟩, ⟨h.2.1.cell 0, h.2.1.cell 1⟩, ⟨h.2.2.1.cell 0, h.2.2.1.cell 1, h.2.2.1.cell 2⟩, ⟨h.2.2.2.1.cell 0, h.2.2.2.1.cell 1, h.2.2.2.1.cell 2⟩⟩
theorem Four.soft (h : Four w P Q R S wx) : wx.frozen? ⟨w.heap.size + 2, 1, none⟩ = false ∧ wx.frozen? ⟨w.heap.size + 3, 1, none⟩ = false := ⟨h.2.2.1.frozen 1, h.2.2.2.1.frozen 1⟩
end

theorem lim_ways (l m : Lim) : l = m ∨ ((l.min == m.min) = false ∧ decide (l = m) = false) ∨ ((l.min == m.min) = true ∧ (l.max == m.max) = false ∧ decide (l = m) = false) ∨ ((l.min == m.min) = true ∧ (l.max == m.max) = true ∧ (l.has == m.has) = false ∧ decide (l = m) = false) := by
  obtain ⟨a, b, c⟩ := l
  obtain ⟨d, e, f⟩ := m
  by_cases h1 : a = d
  · by_cases h2 : b = e
    · by_cases h3 : c = f
      · exact .inl (by rw [h1, h2, h3])
      · exact .inr (.inr (.inr ⟨by simpa using h1, by simpa using h2, by simpa using h3, by simp [h3]⟩))
    · exact .inr (.inr (.inl ⟨by simpa using h1, by simpa using h2, by simp [h2]⟩))
  · exact .inr (.inl ⟨by simpa using h1, by simp [h1]⟩)
set_option maxRecDepth 100000 in
theorem eqLim (l m : Lim) (W : World) : (binOp .eql 57 (.agg #[.int .u32 l.min, .int .u32 l.max, .bool l.has]) (.agg #[.int .u32 m.min, .int .u32 m.max, .bool m.has])).run Try.prog W = .ok (.bool (decide (l = m))) W := by
  have hf : Try.prog.fieldsOf 57 = #[⟨"Min", 55, 0, false, "", "", 0⟩, ⟨"Max", 55, 1, false, "", "", 4⟩, ⟨"Has", 4, 2, false, "", "", 8⟩] := by kernel_rfl
  have hp : Try.prog.stoodInHeld 57 = false := by kernel_rfl
  have hu := Try.underlying57
  have hu1 := Try.underlying55
  have hu2 := Try.underlying4
  have hs1 : (Try.prog.info? 55).map (·.size) = some 1 := by kernel_rfl
  have hs2 : (Try.prog.info? 4).map (·.size) = some 1 := by kernel_rfl
  rw [run_eql_struct, run_equalIn_struct W 9999 _ _ _ (by rw [hf]; exact hu) hp, hf]
  rcases lim_ways l m with rfl | ⟨q1, qd⟩ | ⟨q1, q2, qd⟩ | ⟨q1, q2, q3, qd⟩
  · simp [go_sem, *]
  · rw [qd]; simp [go_sem, *]
  · rw [qd]; simp [go_sem, *]
  · rw [qd]; simp [go_sem, *]
set_option maxRecDepth 100000 in
set_option maxHeartbeats 16000000 in
theorem typesOne_core {X Y : Nat → Prop} (v u : Value) (f g : Fn) (l m : Lim) (w : World) (hv : FnV X w v f) (hu : FnV Y w u g) (hl : l.Ok) (hm : m.Ok) (hsz : f.1.length ≤ reachBytes ∧ f.2.length ≤ reachBytes ∧ g.1.length ≤ reachBytes ∧ g.2.length ≤ reachBytes) :
    Calls Try.prog 12 #[v, u, limV l, limV m] w fun e w' => e = .returned (.bool true) ∧ Below w.heap.size w w' := by
  have HV := Lib.hid (And.intro (hv.mono (Y := fun _ => True) fun _ _ _ => trivial) (hu.mono (Y := fun _ => True) fun _ _ _ => trivial))
  obtain ⟨A1, c1, B1, d1, rfl, -⟩ := hv
  obtain ⟨A2, c2, B2, d2, rfl, -⟩ := hu
  have hbd : f.1.length ≤ 1000000000000000 ∧ f.2.length ≤ 1000000000000000 ∧ g.1.length ≤ 1000000000000000 ∧ g.2.length ≤ 1000000000000000 := by unfold reachBytes at hsz; omega
  clear hsz
  have H4 := Lib.hid (Four.new w [.slice A1 f.1.length c1, .slice B1 f.2.length d1] [.slice A2 g.1.length c2, .slice B2 g.2.length d2] (limC l) (limC m))
  have HB : Hid (FnV (fun _ => True) w (.agg #[.slice A1 f.1.length c1, .slice B1 f.2.length d1]) f ∧ FnV (fun _ => True) w (.agg #[.slice A2 g.1.length c2, .slice B2 g.2.length d2]) g) := HV.out
  clear HV
  have HL := Lib.hid (And.intro hl hm)
  clear hl hm
  unfold limV
  go_enter Try.func12, Try.ntmps12
  go_upto_region 1 with fail
  change Code.wp _ _ _ _ ((((w.alloc (.cells [.slice A1 f.1.length c1, .slice B1 f.2.length d1].toArray 52)).alloc (.cells [.slice A2 g.1.length c2, .slice B2 g.2.length d2].toArray 52)).alloc (.cells (limC l).toArray 57)).alloc (.cells (limC m).toArray 57))
  generalize (((w.alloc (.cells [.slice A1 f.1.length c1, .slice B1 f.2.length d1].toArray 52)).alloc (.cells [.slice A2 g.1.length c2, .slice B2 g.2.length d2].toArray 52)).alloc (.cells (limC l).toArray 57)).alloc (.cells (limC m).toArray 57) = w0 at *
  go_wp2_with fail
  refine (begun4_any w0).mono ?_
  rintro e w1 ⟨rfl, hb1⟩
  have H4 := Lib.hid (H4.out.later hb1)
  clear hb1
  obtain ⟨⟨a0, a1⟩, ⟨b0, b1⟩, ⟨x0, x1, x2⟩, y0, y1, y2⟩ := H4.out.cells
  obtain ⟨z1, z2⟩ := H4.out.soft
  generalize hf1 : f.1.length = f1 at *
  generalize hf2 : f.2.length = f2 at *
  generalize hg1 : g.1.length = g1 at *
  generalize hg2 : g.2.length = g2 at *
  have HLN := Lib.hid (And.intro hf1 (And.intro hf2 (And.intro hg1 hg2)))
  clear hf1 hf2 hg1 hg2
  obtain ⟨k1, k2, k3, k4⟩ := hbd
  by_cases hbig : (40 : Int) < f1 + f2 + g1 + g2
  · go_wp2
    go_ret
    exact ⟨rfl, H4.out.2.2.2.2⟩
  · go_upto_if 29 with fail
    go_cut [8] from 9 (fun s8 wx => s8 = .bool false ∧ Hid (Four w [.slice A1 f1 c1, .slice B1 f2 d1] [.slice A2 g1 c2, .slice B2 g2 d2] (limC l.norm) (limC m) wx))
    case first =>
      obtain ⟨la, lb, lh⟩ := l
      cases lh with
      | true =>
        go_wp2_with fail
        go_meet
        exact ⟨rfl, H4.out⟩
      | false =>
        have H5 := Lib.hid (H4.out.set2 1 (.int .u32 0))
        go_wp2_with fail
        go_meet
        exact ⟨rfl, H5.out⟩
    case rest =>
      obtain ⟨rfl, H5⟩ := hcut
      clear H4 a0 a1 b0 b1 x0 x1 x2 y0 y1 y2 z1 z2
      obtain ⟨⟨a0, a1⟩, ⟨b0, b1⟩, ⟨x0, x1, x2⟩, y0, y1, y2⟩ := H5.out.cells
      obtain ⟨z1, z2⟩ := H5.out.soft
      go_upto_if 33 with fail
      go_cut [8] from 9 (fun s8 wx => s8 = .bool false ∧ Hid (Four w [.slice A1 f1 c1, .slice B1 f2 d1] [.slice A2 g1 c2, .slice B2 g2 d2] (limC l.norm) (limC m.norm) wx))
      case first =>
        obtain ⟨la, lb, lh⟩ := m
        cases lh with
        | true =>
          go_wp2_with fail
          go_meet
          exact ⟨rfl, H5.out⟩
        | false =>
          have H6 := Lib.hid (H5.out.set3 1 (.int .u32 0))
          go_wp2_with fail
          go_meet
          exact ⟨rfl, H6.out⟩
      case rest =>
        obtain ⟨rfl, H6⟩ := hcut
        have HOK := Lib.hid (And.intro (Lim.norm_ok HL.out.1) (And.intro (Lim.norm_ok HL.out.2) (And.intro l.norm_plain m.norm_plain)))
        clear H5 a0 a1 b0 b1 x0 x1 x2 y0 y1 y2 z1 z2 HL
        generalize l.norm = l at *
        generalize m.norm = m at *
        have HFV := Lib.hid (And.intro (HB.out.1.later H6.out.2.2.2.2) (HB.out.2.later H6.out.2.2.2.2))
        have KS : Hid (∀ W : World, Below wc.heap.size wc W → (W.cell? ⟨w.heap.size, 0, none⟩ = some (.slice A1 f1 c1) ∧ W.cell? ⟨w.heap.size, 1, none⟩ = some (.slice B1 f2 d1)) ∧ (W.cell? ⟨w.heap.size + 1, 0, none⟩ = some (.slice A2 g1 c2) ∧ W.cell? ⟨w.heap.size + 1, 1, none⟩ = some (.slice B2 g2 d2)) ∧ (W.cell? ⟨w.heap.size + 2, 0, none⟩ = some (.int .u32 l.min) ∧ W.cell? ⟨w.heap.size + 2, 1, none⟩ = some (.int .u32 l.max) ∧ W.cell? ⟨w.heap.size + 2, 2, none⟩ = some (.bool l.has)) ∧ (W.cell? ⟨w.heap.size + 3, 0, none⟩ = some (.int .u32 m.min) ∧ W.cell? ⟨w.heap.size + 3, 1, none⟩ = some (.int .u32 m.max) ∧ W.cell? ⟨w.heap.size + 3, 2, none⟩ = some (.bool m.has))) := fun W hW => (H6.out.later hW).cells
        have hok1 : f.1.length ≤ 1000000 ∧ f.2.length ≤ 1000000 ∧ g.1.length ≤ 1000000 ∧ g.2.length ≤ 1000000 := by have := HLN.out; omega
        have IS := Lib.hid (And.intro (putFn_is f HFV.out.1.is.1 HFV.out.1.is.2 hok1.1 hok1.2.1) (And.intro (putFn_is g HFV.out.2.is.1 HFV.out.2.is.2 hok1.2.2.1 hok1.2.2.2) (And.intro (putLim_is l HOK.out.1) (putLim_is m HOK.out.2.1))))
        have SM : Hid (Calls Try.prog 42 #[.agg #[.slice A1 f1 c1, .slice B1 f2 d1], .agg #[.slice A2 g1 c2, .slice B2 g2 d2]] wc.drew fun e w' => e = .returned (.bool (decide (f = g))) ∧ Below wc.drew.heap.size wc.drew w') := sameFn_any _ _ f g wc.drew (HFV.out.1.later (Below.refl _ _).drew) (HFV.out.2.later (Below.refl _ _).drew)
        have P1 : Hid (∀ W, Below wc.heap.size wc W → Calls Try.prog 38 #[.slice none 0 0, .agg #[.slice A1 f1 c1, .slice B1 f2 d1]] W (fun e w' => ∃ Ap kp, e = .returned (.slice Ap (putFn f).length kp) ∧ Below W.heap.size W w' ∧ Rd w' w'.heap.size Ap (putFn f))) := fun W hW => (put_fn none [] 0 0 _ f W (Rd.nil _ _ _) rfl (by omega) (by simp [maxLen]) (by omega) (HFV.out.1.later hW) hok1.1 hok1.2.1).mono fun e w' h => by
          rw [List.nil_append] at h
          obtain ⟨Ap, kp, he, hr, -, -, hb⟩ := h.arg IS.out.1
          exact ⟨Ap, kp, he, hb, hr⟩
        have P2 : Hid (∀ W, Below wc.heap.size wc W → Calls Try.prog 38 #[.slice none 0 0, .agg #[.slice A2 g1 c2, .slice B2 g2 d2]] W (fun e w' => ∃ Ap kp, e = .returned (.slice Ap (putFn g).length kp) ∧ Below W.heap.size W w' ∧ Rd w' w'.heap.size Ap (putFn g))) := fun W hW => (put_fn none [] 0 0 _ g W (Rd.nil _ _ _) rfl (by omega) (by simp [maxLen]) (by omega) (HFV.out.2.later hW) hok1.2.2.1 hok1.2.2.2).mono fun e w' h => by
          rw [List.nil_append] at h
          obtain ⟨Ap, kp, he, hr, -, -, hb⟩ := h.arg IS.out.2.1
          exact ⟨Ap, kp, he, hb, hr⟩
        have PL : Hid (∀ (W : World) (l : Lim), l.Ok → Calls Try.prog 40 #[.slice none 0 0, .agg #[.int .u32 l.min, .int .u32 l.max, .bool l.has]] W (fun e w' => ∃ Ap kp, e = .returned (.slice Ap (putLim l).length kp) ∧ Below W.heap.size W w' ∧ Rd w' w'.heap.size Ap (putLim l))) := fun W l hl => (put_lim none [] 0 0 l W (Rd.nil _ _ _) rfl (by omega) (by simp [maxLen]) (by omega) hl).mono fun e w' h => by
          rw [List.nil_append] at h
          obtain ⟨Ap, kp, he, hr, -, -, hb⟩ := h.arg (putLim_is l hl)
          exact ⟨Ap, kp, he, hb, hr⟩
        have heq : ((strOfNums (putFn f)).toList == (strOfNums (putFn g)).toList) = decide (f = g) := by rw [strOfNums_eq IS.out.1 IS.out.2.1, putFn_eq f g hok1.1 hok1.2.1 hok1.2.2.1 hok1.2.2.2]
        have heq2 : ((strOfNums (putLim l)).toList == (strOfNums (putLim m)).toList) = decide (l = m) := by rw [strOfNums_eq IS.out.2.2.1 IS.out.2.2.2, putLim_eq l m HOK.out.1 HOK.out.2.1 HOK.out.2.2.1 HOK.out.2.2.2]
        have PL1 := Lib.hid (fun W => PL.out W l HOK.out.1)
        have PL2 := Lib.hid (fun W => PL.out W m HOK.out.2.1)
        have HD : Hid (Below wc.heap.size wc wc.drew) := (Below.refl _ _).drew
        have HZ := Lib.hid H6.out.2.2.2.2
        clear H6 PL IS HOK HFV HB HLN hok1 k1 k2 k3 k4 hbig
        generalize decide (f = g) = bb at *
        have hbb : (bb == bb) = true := by simp
        have hEQ := eqLim l m
        generalize decide (l = m) = b2 at *
        have hbb2 : (b2 == b2) = true := by simp
        go_wp2_with fail
        go_region_held (fun (w' : World) => (w'.cell? ⟨w.heap.size, 0, none⟩ = some (.slice A1 f1 c1) ∧ w'.cell? ⟨w.heap.size, 1, none⟩ = some (.slice B1 f2 d1)) ∧ (w'.cell? ⟨w.heap.size + 1, 0, none⟩ = some (.slice A2 g1 c2) ∧ w'.cell? ⟨w.heap.size + 1, 1, none⟩ = some (.slice B2 g2 d2)) ∧ (w'.cell? ⟨w.heap.size + 2, 0, none⟩ = some (.int .u32 l.min) ∧ w'.cell? ⟨w.heap.size + 2, 1, none⟩ = some (.int .u32 l.max) ∧ w'.cell? ⟨w.heap.size + 2, 2, none⟩ = some (.bool l.has)) ∧ (w'.cell? ⟨w.heap.size + 3, 0, none⟩ = some (.int .u32 m.min) ∧ w'.cell? ⟨w.heap.size + 3, 1, none⟩ = some (.int .u32 m.max) ∧ w'.cell? ⟨w.heap.size + 3, 2, none⟩ = some (.bool m.has))) (exact KS.out _ (by first | exact HB5.out | exact HB4.out | exact HB3.out | exact HB2.out | exact HB1.out | exact HD.out))
          (first
            | (go_at_call 40; have hz := HR4.out; refine (PL2.out w4).mono ?_; rintro e w5 ⟨A5, k5, rfl, hb, hr⟩; have hsD := hr.string k5; have hsC2 := (HR4.out.later hb).string k4; have HB5 := Lib.hid (HB4.out.trans (hb.mono HB4.out.size)); clear hb hr hz)
            | (go_at_call 40; refine (PL1.out w3).mono ?_; rintro e w4 ⟨A4, k4, rfl, hb, hr⟩; have hsC := hr.string k4; have HR4 := Lib.hid hr; have HB4 := Lib.hid (HB3.out.trans (hb.mono HB3.out.size)); clear hb hr)
            | (go_at_call 38; refine (P2.out w2 HB2.out).mono ?_; rintro e w3 ⟨A3, k3, rfl, hb, hr⟩; have hsB := hr.string k3; have hsA2 := (HR2.out.later hb).string k2; have HB3 := Lib.hid (HB2.out.trans (hb.mono HB2.out.size)); clear hb hr)
            | (go_at_call 38; refine (P1.out w1' HB1.out).mono ?_; rintro e w2 ⟨A2', k2, rfl, hb, hr⟩; have hsA := hr.string k2; have HR2 := Lib.hid hr; have HB2 := Lib.hid (HB1.out.trans (hb.mono HB1.out.size)); clear hb hr)
            | (go_at_call 42; refine SM.out.mono ?_; rintro e w1' ⟨rfl, hb⟩; have HB1 := Lib.hid (HD.out.trans (hb.mono HD.out.size)); clear hb))
        all_goals go_wp2
        all_goals go_ret
        all_goals exact ⟨rfl, HZ.out.trans (HB5.out.mono HZ.out.size)⟩
end Go.Proofs.Ytnjbijndfbobbaa
