/- The walk of SectTwice. -/
import Derived.Test.YtgbjlcedabkdkaaDoorBegun7
import Derived.Test.YtgbjlcedabkdkaaDoorRefSplit
namespace Go.Proofs.YtgbjlcedabkdkaaDoor
open Go.RowKit
set_option maxRecDepth 100000
set_option linter.unusedVariables false

def twOrder : List Int := [0, 1, 2, 3, 4, 5, 6, 7, 8, 9, 11, 12, 10]
theorem tw_all : ∀ x : Fin 12, ∀ y : Fin 12, (spE (split (secFront ++ joinS [((x.val : Int) + 1, []), ((y.val : Int) + 1, [])])) == (if twOrder.getD (y.val + 1) 0 > twOrder.getD (x.val + 1) 0 then 0 else 2)) && (spL (split (secFront ++ joinS [((x.val : Int) + 1, []), ((y.val : Int) + 1, [])]))).length == (if twOrder.getD (y.val + 1) 0 > twOrder.getD (x.val + 1) 0 then 2 else 0) := by decide +kernel
theorem rdS_lit (w : World) (a b : Int) (ha : 0 ≤ a ∧ a ≤ 255) (hb : 0 ≤ b ∧ b ≤ 255) : RdS (fun _ => True) (w.alloc (.cells #[.int .u8 a, .slice none 0 0, .int .u8 b, .slice none 0 0] 33)) (.slice (some ⟨w.heap.size, 0, none⟩) 2 2) [⟨a, [], none, 0⟩, ⟨b, [], none, 0⟩] :=
  ⟨_, 2, rfl, by simp, by decide, (rdV_sec w 33 [⟨a, [], none, 0⟩, ⟨b, [], none, 0⟩]).mono fun _ _ _ => trivial, fun i hi => by
    simp only [List.mem_cons, List.mem_nil_iff, or_false] at hi
    rcases hi with rfl | rfl
    · exact ⟨ha.1, ha.2, RdX.nil _ _ _, by simp, by simp, by simp⟩
    · exact ⟨hb.1, hb.2, RdX.nil _ _ _, by simp, by simp, by simp⟩⟩
set_option maxHeartbeats 4000000 in
theorem sectTwice_core (a b : Int) (w : World) (hT : Tabs w) (ha : 0 ≤ a ∧ a ≤ 255) (hb : 0 ≤ b ∧ b ≤ 255) :
    Calls Tryd.prog 7 #[.int .u8 a, .int .u8 b] w fun e w' => e = .returned (.bool true) ∧ Below w.heap.size w w' := by
  have HT := Lib.hid hT
  have HG := Lib.hid (begun7_any w hT)
  obtain ⟨x, hx, hx1⟩ : ∃ x : Nat, a.tmod 12 = x ∧ x < 12 := ⟨(a % 12).toNat, by rw [Int.tmod_eq_emod_of_nonneg ha.1]; omega, by omega⟩
  obtain ⟨y, hy, hy1⟩ : ∃ y : Nat, b.tmod 12 = y ∧ y < 12 := ⟨(b % 12).toNat, by rw [Int.tmod_eq_emod_of_nonneg hb.1]; omega, by omega⟩
  have hwx : IntKind.u8.wrap (1 + (x : Int)) = (x : Int) + 1 := by rw [IntKind.wrap_u8]; omega
  have hwy : IntKind.u8.wrap (1 + (y : Int)) = (y : Int) + 1 := by rw [IntKind.wrap_u8]; omega
  have key := tw_all ⟨x, hx1⟩ ⟨y, hy1⟩
  simp only [Bool.and_eq_true, beq_iff_eq] at key
  have HK := Lib.hid key
  clear key hT
  go_enter Tryd.func7, Tryd.ntmps7
  go_wp2_with fail
  refine HG.out.mono ?_
  rintro e w1 ⟨rfl, hb1⟩
  have HB1 := Lib.hid hb1
  clear hb1
  go_upto_region 5 with fail
  have HO1 : Hid (RdX (fun _ => True) (w1.alloc (.cells #[.int .u8 0, .int .u8 1, .int .u8 2, .int .u8 3, .int .u8 4, .int .u8 5, .int .u8 6, .int .u8 7, .int .u8 8, .int .u8 9, .int .u8 11, .int .u8 12, .int .u8 10] 5)) (some ⟨w1.heap.size, 0, none⟩) twOrder) :=
    (rdX_lit w1 twOrder (by intro z hz; simp [twOrder] at hz; omega)).mono fun _ _ _ => trivial
  have HB2 : Hid (Below w.heap.size w (w1.alloc (.cells #[.int .u8 0, .int .u8 1, .int .u8 2, .int .u8 3, .int .u8 4, .int .u8 5, .int .u8 6, .int .u8 7, .int .u8 8, .int .u8 9, .int .u8 11, .int .u8 12, .int .u8 10] 5))) := HB1.out.alloc HB1.out.size _
  generalize w1.alloc (.cells #[.int .u8 0, .int .u8 1, .int .u8 2, .int .u8 3, .int .u8 4, .int .u8 5, .int .u8 6, .int .u8 7, .int .u8 8, .int .u8 9, .int .u8 11, .int .u8 12, .int .u8 10] 5) = w2 at *
  generalize hg1 : w1.heap.size = g1 at *
  clear hg1
  have HRS := Lib.hid (rdS_lit w2 ((x : Int) + 1) ((y : Int) + 1) (by omega) (by omega))
  have hbA : Below w2.heap.size w2 (w2.alloc (.cells #[.int .u8 ((x : Int) + 1), .slice none 0 0, .int .u8 ((y : Int) + 1), .slice none 0 0] 33)) := (Below.refl _ _).alloc (Nat.le_refl _) _
  have HJ := Lib.hid (sjoin_any _ [⟨(x : Int) + 1, [], none, 0⟩, ⟨(y : Int) + 1, [], none, 0⟩] 0 _ HRS.out (by intro i hi; simp at hi; rcases hi with rfl | rfl <;> simp) (by simp))
  have HB3 := Lib.hid (And.intro (HB2.out.trans (hbA.mono HB2.out.size)) hbA)
  clear hbA
  go_wp2_with fail
  refine HJ.out.mono ?_
  rintro e w3 ⟨A3, c3, rfl, p1, p2, p3, p4⟩
  simp only [List.map_cons, List.map_nil, SV.sec] at p1 p2 ⊢
  have HB4 := Lib.hid (And.intro (HB3.out.1.trans (p4.mono HB3.out.1.size)) (HB3.out.2.trans (p4.mono HB3.out.2.size)))
  have HN : Hid ((secFront ++ joinS [((x : Int) + 1, []), ((y : Int) + 1, [])]).length ≤ 1000) := by
    have e0 : (encU 0).length ≤ 10 := (encU_len7 0).2
    unfold Hid
    simp only [secFront, joinS, secB, List.length_append, List.length_cons, List.length_nil, List.append_nil]
    simp
    omega
  generalize hLL : secFront ++ joinS [((x : Int) + 1, []), ((y : Int) + 1, [])] = LL at *
  have HS := Lib.hid (ssplit_any A3 LL LL.length c3 w3 p1.rd rfl (by have := HN.out; omega) p2 p3 (HT.out.later HB4.out.1))
  have HR3 := Lib.hid (HO1.out.later HB4.out.2)
  clear p1 p2 p3 p4 HJ HRS
  generalize LL.length = ln at *
  go_wp2_with fail
  refine HS.out.mono ?_
  rintro e w4 ⟨v, is, rfl, p1, p2, p3, p4⟩
  obtain ⟨A4, k4, rfl, -, -, -⟩ := RdV.of_own p1.1
  have hil : is.length = (spL (split LL)).length := by have := congrArg List.length p2; simpa using this
  have HB5 := Lib.hid (HB4.out.1.trans (p3.mono HB4.out.1.size))
  obtain ⟨bo, oo, hbo, -, -, hcell⟩ := (HR3.out.later p3).2.spot (by decide)
  have hbo2 : bo = g1 ∧ oo = 0 := by injection hbo with hbo; injection hbo with h1 h2; exact ⟨h1.symm, h2.symm⟩
  obtain ⟨rfl, rfl⟩ := hbo2
  have hcy := hcell (y + 1) (.int .u8 (twOrder.getD (y + 1) 0)) (map_u8_get (by simp [twOrder]; omega))
  have hcx := hcell (x + 1) (.int .u8 (twOrder.getD (x + 1) 0)) (map_u8_get (by simp [twOrder]; omega))
  rw [HK.out.1]
  rw [hil, HK.out.2]
  have hy0 : ((y : Int) + 1) < 13 := by omega
  have hx0 : ((x : Int) + 1) < 13 := by omega
  have hy00 : (0 : Int) ≤ (y : Int) + 1 := by omega
  have hx00 : (0 : Int) ≤ (x : Int) + 1 := by omega
  rw [Nat.zero_add] at hcy hcx
  have hyn : ((y : Int) + 1).toNat = y + 1 := by omega
  have hxn : ((x : Int) + 1).toNat = x + 1 := by omega
  clear p1 p2 p3 p4 HS hil hcell
  generalize twOrder.getD (y + 1) 0 = ty at *
  generalize twOrder.getD (x + 1) 0 = tx at *
  by_cases hc : ty > tx
  · simp only [hc, if_true]
    go_wp2_with fail
    go_quiet (fail)
    go_wp2
    go_ret
    exact ⟨rfl, below_drewN' HB5.out _⟩
  · simp only [hc, if_false]
    go_wp2_with fail
    go_quiet (fail)
    go_wp2
    go_ret
    exact ⟨rfl, below_drewN' HB5.out _⟩
end Go.Proofs.YtgbjlcedabkdkaaDoor
