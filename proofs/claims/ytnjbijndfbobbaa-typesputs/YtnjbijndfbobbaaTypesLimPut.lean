/- types.PutLimits: which bytes limits have. -/
import Derived.Test.YtnjbijndfbobbaaTypesPut
import Derived.Deep.Cut
namespace Go.Proofs.Ytnjbijndfbobbaa
open Go.RowKit
set_option maxRecDepth 100000
set_option linter.unusedVariables false

theorem putLim_no (a b : Int) : putLim ⟨a, b, false⟩ = [0] ++ encU a := by simp [putLim]
theorem putLim_yes (a b : Int) : putLim ⟨a, b, true⟩ = [1] ++ (encU a ++ encU b) := by simp [putLim]
def Lim.Ok (l : Lim) : Prop := (0 ≤ l.min ∧ l.min ≤ 4294967295) ∧ (0 ≤ l.max ∧ l.max ≤ 4294967295)
set_option maxHeartbeats 2000000 in
theorem put_lim (A0 : Option Addr) (bs : List Int) (n0 c0 : Nat) (l : Lim) (w : World) (h0 : Rd w w.heap.size A0 bs) (hn0 : n0 = bs.length) (hc0 : n0 ≤ c0) (hcm : c0 ≤ maxLen) (hl0 : n0 ≤ 1000000) (hl : l.Ok) :
    Calls Try.prog 40 #[.slice A0 n0 c0, limV l] w (WPost (bs ++ putLim l) w) := by
  obtain ⟨mn, mx, has⟩ := l
  obtain ⟨⟨a0, a1⟩, b0, b1⟩ := hl
  simp only [] at a0 a1 b0 b1
  have S0 : Hid (SlV w (.slice A0 n0 c0) bs) := ⟨A0, c0, by rw [hn0], by omega, hcm, h0.rx.mono fun _ _ _ => trivial⟩
  have HN := Lib.hid hn0
  have I1 := Lib.hid (encU_is mn (by omega) (by omega))
  have I2 := Lib.hid (encU_is mx (by omega) (by omega))
  have L1 := Lib.hid (encU_len mn)
  have L2 := Lib.hid (encU_len mx)
  have KS0 : Hid (∀ W : World, Below (w.alloc (.cells #[.int .u32 mn, .int .u32 mx, .bool has] 57)).heap.size (w.alloc (.cells #[.int .u32 mn, .int .u32 mx, .bool has] 57)) W → W.cell? ⟨w.heap.size, 0, none⟩ = some (.int .u32 mn) ∧ W.cell? ⟨w.heap.size, 1, none⟩ = some (.int .u32 mx) ∧ W.cell? ⟨w.heap.size, 2, none⟩ = some (.bool has)) := fun W hW => by
    have ho := (Own.new w 57 [.int .u32 mn, .int .u32 mx, .bool has]).later hW
    exact ⟨ho.cell 0, ho.cell 1, ho.cell 2⟩
  have HB1 : Hid (Below w.heap.size w (w.alloc (.cells #[.int .u32 mn, .int .u32 mx, .bool has] 57))) := (Below.refl _ _).alloc (Nat.le_refl _) _
  have hw1 : IntKind.u64.wrap mn = mn := by rw [IntKind.wrap_u64]; omega
  have hw2 : IntKind.u64.wrap mx = mx := by rw [IntKind.wrap_u64]; omega
  clear h0 hn0
  unfold limV
  go_enter Try.func40, Try.ntmps40
  go_upto_region 1 with fail
  have KS := KS0
  clear KS0
  generalize w.alloc (.cells #[.int .u32 mn, .int .u32 mx, .bool has] 57) = w1 at *
  obtain ⟨k0, k1, k2⟩ := KS.out w1 (Below.refl _ _)
  go_wp2_with fail
  refine (number_any mn w1 (by omega) (by omega)).mono ?_
  rintro e w2 ⟨v2, rfl, ho2, hb2⟩
  clear k0 k1 k2
  obtain ⟨k0, k1, k2⟩ := KS.out w2 hb2
  obtain ⟨B2, d2, rfl, -, -, -⟩ := ho2.rdX I1.out
  have S2 := Lib.hid (SlV.own ho2 I1.out)
  have S0 := Lib.hid ((S0.out.later HB1.out).later hb2)
  have HB2 := Lib.hid (HB1.out.trans (hb2.mono HB1.out.size))
  have KS := Lib.hid (fun (W : World) (hW : Below w2.heap.size w2 W) => KS.out W (hb2.trans (hW.mono hb2.size)))
  clear ho2 hb2
  generalize hq2 : (encU mn).length = q2 at *
  have HQ2 := Lib.hid hq2
  clear hq2
  have HLb : Hid (∀ (W : World) (x : Int), 0 ≤ x → x ≤ 255 → SlV (W.alloc (.cells #[.int .u8 x] 5)) (.slice (some ⟨W.heap.size, 0, none⟩) 1 1) [x] ∧ Below W.heap.size W (W.alloc (.cells #[.int .u8 x] 5))) := fun W x p q => ⟨SlV.lit W [x] (IsBytes.one p q) (by simp [maxLen]), (Below.refl _ _).alloc (Nat.le_refl _) _⟩
  cases has with
  | false =>
    have hX := HLb.out w2 0 (by omega) (by omega)
    have HC := Lib.hid (concat3_any (w2.alloc (.cells #[.int .u8 0] 5)) (w2.heap.size + 1) (by simp) (.slice A0 n0 c0) (.slice (some ⟨w2.heap.size, 0, none⟩) 1 1) (.slice B2 q2 d2) bs [0] (encU mn) (S0.out.later hX.2) hX.1 (S2.out.later hX.2) (by have := HN.out; have := L1.out; have := HQ2.out; simp only [List.length_append, List.length_cons, List.length_nil]; omega))
    have HX := Lib.hid hX.2
    clear hX
    go_wp2_with fail
    refine HC.out.mono ?_
    rintro e w3 ⟨v3, rfl, ho3, hb3⟩
    have HO := Lib.hid (And.intro ho3 hb3)
    clear ho3 hb3
    go_wp2
    go_ret
    have h1 := HB2.out.trans (HX.out.mono HB2.out.size)
    have e1 : bs ++ putLim ⟨mn, mx, false⟩ = bs ++ ([0] ++ encU mn) := by rw [putLim_no]
    exact ⟨_, rfl, by rw [e1]; exact HO.out.1.base h1.size, h1.trans (HO.out.2.mono h1.size)⟩
  | true =>
    have hX := HLb.out w2 1 (by omega) (by omega)
    have HX := Lib.hid hX
    clear hX
    have hk := KS.out _ HX.out.2
    obtain ⟨j0, j1, j2⟩ := hk
    go_wp2_with fail
    refine (number_any mx _ (by omega) (by omega)).mono ?_
    rintro e w3 ⟨v3, rfl, ho3, hb3⟩
    obtain ⟨B3, d3, rfl, -, -, -⟩ := ho3.rdX I2.out
    have S3 := Lib.hid (SlV.own ho3 I2.out)
    have S1 := Lib.hid (HX.out.1.later hb3)
    have h13 := HX.out.2.trans (hb3.mono HX.out.2.size)
    have HB3 := Lib.hid (HB2.out.trans (h13.mono HB2.out.size))
    generalize hq3 : (encU mx).length = q3 at *
    have HQ3 := Lib.hid hq3
    clear hq3
    have HC := Lib.hid (concat4_any w3 w3.heap.size rfl (.slice A0 n0 c0) (.slice (some ⟨w2.heap.size, 0, none⟩) 1 1) (.slice B2 q2 d2) (.slice B3 q3 d3) bs [1] (encU mn) (encU mx) (S0.out.later h13) S1.out (S2.out.later h13) S3.out (by have := HN.out; have := L1.out; have := L2.out; have := HQ2.out; have := HQ3.out; simp only [List.length_append, List.length_cons, List.length_nil]; omega))
    clear ho3 hb3 h13 k0 k1 k2 j0 j1 j2
    go_wp2_with fail
    refine HC.out.mono ?_
    rintro e w4 ⟨v4, rfl, ho4, hb4⟩
    have HO := Lib.hid (And.intro ho4 hb4)
    clear ho4 hb4
    go_wp2
    go_ret
    have h1 := HB3.out
    have e1 : bs ++ putLim ⟨mn, mx, true⟩ = bs ++ ([1] ++ (encU mn ++ encU mx)) := by rw [putLim_yes]
    exact ⟨_, rfl, by rw [e1]; exact HO.out.1.base h1.size, h1.trans (HO.out.2.mono h1.size)⟩
end Go.Proofs.Ytnjbijndfbobbaa
