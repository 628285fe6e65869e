/- What the document's writers come to. -/
import Derived.Test.YtnjbijndfbobbaaLebPut
namespace Go.Proofs.Ytnjbijndfbobbaa
open Go.RowKit
set_option maxRecDepth 100000
set_option linter.unusedVariables false

set_option maxHeartbeats 4000000 in
theorem refPutU_any (A : Option Addr) (l : List Int) (n c : Nat) (v0 : Int) (w : World) (h : Rd w w.heap.size A l) (hn : n = l.length) (hl : n ≤ 10000000) (h0 : 0 ≤ v0) (h1 : v0 < 18446744073709551616) :
    Calls Try.prog 66 #[.slice A n c, .int .u64 v0] w fun e w' => ∃ v, e = .returned v ∧ OwnB w' w.heap.size v (l ++ encU v0) ∧ Below w.heap.size w w' := by
  have HR := Lib.hid h
  have HN := Lib.hid hn
  clear h hn
  have H0 := Lib.hid (And.intro h0 h1)
  clear h0 h1
  go_enter Try.func66, Try.ntmps66
  go_wp2_with (at_builtin; refine wpList_app rfl (.tmp 6) (.tmp 7) rfl w.heap.size _ [] rfl (ownB_lit0 w) A n c l rfl HN.out (by exact HR.out.later ((Below.refl _ _).alloc (Nat.le_refl _) _)) (by simp; omega) (by simp) ?_; intro v0' w0 hv0 hw0; have HV0 := Lib.hid (And.intro hv0 (((Below.refl w.heap.size w).alloc (Nat.le_refl _) _).trans hw0)); clear hv0 hw0)
  go_loopw [1, 5] (fun v u wr => ∃ (x : Int) (k : Nat) (gs : List Int), k ≤ 9 ∧ v = .int .u64 x ∧ Hid (0 ≤ x ∧ x < 128 ^ (9 - k + 1) ∧ 0 ≤ x ∧ x < 18446744073709551616 ∧ gs.length = k ∧ IsBytes gs ∧ encU v0 = gs ++ bytesOf (dgU (9 - k) x) ∧ OwnB wr w.heap.size u (l ++ gs) ∧ Below w.heap.size w wr)) (fun v _ _ => (intOf v).toNat)
  case atStart => have := H0.out; exact ⟨v0, 0, [], by omega, rfl, by omega, by simp; omega, by omega, by omega, rfl, IsBytes.nil, rfl, by simpa using HV0.out.1, HV0.out.2⟩
  case round =>
    obtain ⟨x, k, gs, hk, rfl, HX⟩ := hrel
    clear HV0
    obtain ⟨x1, x2, x8, x9, x3, x4, x5, x6, x7⟩ := HX.out
    have ho := or128 x
    by_cases hlt : 128 ≤ x
    · have hk9 : k < 9 := by
        rcases Nat.lt_or_ge k 9 with h | h
        · exact h
        · obtain rfl : k = 9 := by omega
          simp at x1 x2; omega
      have HY : Hid (0 ≤ x / 128 ∧ x / 128 < 128 ^ (9 - (k + 1) + 1) ∧ encU v0 = (gs ++ [x % 128 + 128]) ++ bytesOf (dgU (9 - (k + 1)) (x / 128))) := by
        refine ⟨by omega, ?_, ?_⟩
        · rw [show 9 - (k + 1) + 1 = 9 - k from by omega]
          rw [Int.pow_succ] at x2
          omega
        · rw [x5, show 9 - k = 9 - (k + 1) + 1 from by omega, bytesU_more _ x hlt]
          simp
      clear x1 x2 x3 x4 x5 x6 x7
      go_wp2_with (first | (at_builtin; refine wpList_app1 rfl (.tmp 11) (.tmp 15) rfl w.heap.size u5 (l ++ gs) rfl HX.out.2.2.2.2.2.2.2.1 _ rfl (by omega) (by omega) (by simp [HX.out.2.2.2.2.1]; rw [← HN.out]; omega) HX.out.2.2.2.2.2.2.2.2.size ?_; intro v1 w1 hv1 hw1; have HV := Lib.hid (And.intro hv1 hw1); clear hv1 hw1))
      all_goals exact ⟨⟨x / 128, k + 1, gs ++ [x % 128 + 128], by omega, rfl, HY.out.1, HY.out.2.1, by omega, by omega, by simp [HX.out.2.2.2.2.1], HX.out.2.2.2.2.2.1.app (IsBytes.one (by omega) (by omega)), HY.out.2.2, by rw [← List.append_assoc]; exact HV.out.1, HX.out.2.2.2.2.2.2.2.2.trans HV.out.2⟩, by simp [intOf]; omega⟩
    · have HY : Hid (encU v0 = gs ++ [x]) := by
        have := x5
        rw [bytesU_last _ x (by omega)] at this
        exact this
      have hm : x % 256 = x := by omega
      clear x1 x2 x3 x4 x5 x6 x7 ho
      go_wp2_with (first | (at_builtin; refine wpList_app1 rfl (.tmp 19) (.tmp 22) rfl w.heap.size u5 (l ++ gs) rfl HX.out.2.2.2.2.2.2.2.1 _ rfl (by omega) (by omega) (by simp [HX.out.2.2.2.2.1]; rw [← HN.out]; omega) HX.out.2.2.2.2.2.2.2.2.size ?_; intro v1 w1 hv1 hw1; have HV := Lib.hid (And.intro hv1 hw1); clear hv1 hw1))
      go_ret
      exact ⟨_, rfl, by rw [HY.out, ← List.append_assoc]; exact HV.out.1, HX.out.2.2.2.2.2.2.2.2.trans HV.out.2⟩

end Go.Proofs.Ytnjbijndfbobbaa
