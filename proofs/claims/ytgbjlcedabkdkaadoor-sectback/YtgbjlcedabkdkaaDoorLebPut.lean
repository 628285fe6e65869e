/- What leb's writers come to. -/
import Derived.Test.YtgbjlcedabkdkaaDoorLebRead
import Derived.Test.YtgbjlcedabkdkaaDoorLebPut0
namespace Go.Proofs.YtgbjlcedabkdkaaDoor
open Go.RowKit
set_option maxRecDepth 100000
set_option linter.unusedVariables false

theorem bytesU_is (n : Nat) (v : Int) (h0 : 0 ≤ v) (h : v < 128 ^ (n + 1)) : IsBytes (bytesOf (dgU n v)) := by
  induction n generalizing v with
  | zero => rw [bytesU_last 0 v (by simpa using h)]; exact IsBytes.one h0 (by simp at h; omega)
  | succ n ih =>
    by_cases hv : v < 128
    · rw [bytesU_last _ v hv]; exact IsBytes.one h0 (by omega)
    · rw [bytesU_more n v (by omega)]
      have := ih (v / 128) (by omega) (by rw [Int.pow_succ] at h; omega)
      intro z hz
      rcases List.mem_cons.1 hz with rfl | hz
      · omega
      · exact this z hz
theorem bytesS_is (n : Nat) (v : Int) : IsBytes (bytesOf (dgS n v)) := by
  induction n generalizing v with
  | zero => simp only [dgS, bytesOf]; exact IsBytes.one (by omega) (by omega)
  | succ n ih =>
    by_cases hv : -64 ≤ v ∧ v ≤ 63
    · rw [bytesS_last _ v hv]; exact IsBytes.one (by omega) (by omega)
    · rw [bytesS_more n v hv]
      intro z hz
      rcases List.mem_cons.1 hz with rfl | hz
      · omega
      · exact ih (v / 128) z hz

theorem andp127 (c : Int) : Go.bits .and .u8 (c % 256) 127 = c % 128 := by
  rw [u8_and _ 127 (by omega) (by omega) (by omega) (by omega), show (127 : Int).toNat = 127 from rfl, nat_mask7]
  omega

set_option maxHeartbeats 4000000 in
theorem putU_any (A : Option Addr) (l : List Int) (n c : Nat) (v0 : Int) (w : World) (h : Rd w w.heap.size A l) (hn : n = l.length) (hl : n ≤ 10000000) (h0 : 0 ≤ v0) (h1 : v0 < 18446744073709551616) :
    Calls Tryd.prog 25 #[.slice A n c, .int .u64 v0] w fun e w' => ∃ v, e = .returned v ∧ OwnB w' w.heap.size v (l ++ encU v0) ∧ Below w.heap.size w w' := by
  have HR := Lib.hid h
  have HN := Lib.hid hn
  clear h hn
  have H0 := Lib.hid (And.intro h0 h1)
  clear h0 h1
  go_enter Tryd.func25, Tryd.ntmps25
  go_wp2
  go_loopw [1, 5] (fun v u wr => ∃ (x : Int) (k : Nat) (gs : List Int), k ≤ 9 ∧ v = .int .u64 x ∧ Hid (0 ≤ x ∧ x < 128 ^ (9 - k + 1) ∧ 0 ≤ x ∧ x < 18446744073709551616 ∧ gs.length = k ∧ IsBytes gs ∧ encU v0 = gs ++ bytesOf (dgU (9 - k) x) ∧ OwnB wr w.heap.size u (gs) ∧ Below w.heap.size w wr)) (fun v _ _ => (intOf v).toNat)
  case atStart => have := H0.out; exact ⟨v0, 0, [], by omega, rfl, by omega, by simp; omega, by omega, by omega, rfl, IsBytes.nil, rfl, OwnB.nil _ _, Below.refl _ _⟩
  case round =>
    obtain ⟨x, k, gs, hk, rfl, HX⟩ := hrel
    obtain ⟨x1, x2, x8, x9, x3, x4, x5, x6, x7⟩ := HX.out
    have ho := or128 x
    by_cases hlt : 128 ≤ x
    · have hk9 : k < 9 := by
        rcases Nat.lt_or_ge k 9 with h | h
        · exact h
        · obtain rfl : k = 9 := by omega
          simp at x1 x2; omega
      have HY : Hid (0 ≤ x / 128 ∧ x / 128 < 128 ^ (9 - (k + 1) + 1) ∧ encU v0 = (gs ++ [x % 128 + 128]) ++ bytesOf (dgU (9 - (k + 1)) (x / 128))) := by
        refine ⟨by omega, ?_, ?_⟩
        · rw [show 9 - (k + 1) + 1 = 9 - k from by omega]
          rw [Int.pow_succ] at x2
          omega
        · rw [x5, show 9 - k = 9 - (k + 1) + 1 from by omega, bytesU_more _ x hlt]
          simp
      clear x1 x2 x3 x4 x5 x6 x7
      go_wp2_with (first | (at_builtin; refine wpList_app1 rfl (.tmp 8) (.tmp 12) rfl w.heap.size u5 (gs) rfl HX.out.2.2.2.2.2.2.2.1 _ rfl (by omega) (by omega) (by rw [HX.out.2.2.2.2.1]; omega) HX.out.2.2.2.2.2.2.2.2.size ?_; intro v1 w1 hv1 hw1; have HV := Lib.hid (And.intro hv1 hw1); clear hv1 hw1))
      all_goals exact ⟨⟨x / 128, k + 1, gs ++ [x % 128 + 128], by omega, rfl, HY.out.1, HY.out.2.1, by omega, by omega, by simp [HX.out.2.2.2.2.1], HX.out.2.2.2.2.2.1.app (IsBytes.one (by omega) (by omega)), HY.out.2.2, HV.out.1, HX.out.2.2.2.2.2.2.2.2.trans HV.out.2⟩, by simp [intOf]; omega⟩
    · have HY : Hid (encU v0 = gs ++ [x]) := by
        have := x5
        rw [bytesU_last _ x (by omega)] at this
        exact this
      have hm : x % 256 = x := by omega
      clear x1 x2 x3 x4 x5 x6 x7 ho
      go_wp2_with (first | (at_builtin; refine wpList_app1 rfl (.tmp 17) (.tmp 20) rfl w.heap.size u5 (gs) rfl HX.out.2.2.2.2.2.2.2.1 _ rfl (by omega) (by omega) (by rw [HX.out.2.2.2.2.1]; omega) HX.out.2.2.2.2.2.2.2.2.size ?_; intro v1 w1 hv1 hw1; obtain ⟨A2, c2, hv2, hr2, hl2⟩ := hv1.form (HX.out.2.2.2.2.2.1.app (IsBytes.one (by omega) (by omega))); subst hv2; have HV := Lib.hid (And.intro hr2 hw1); clear hv1 hw1 hr2 hl2))
      have hb2 : Below w.heap.size w w1 := HX.out.2.2.2.2.2.2.2.2.trans HV.out.2
      refine (put_any A A2 l (gs ++ [x]) n _ c c2 w1 (HR.out.later hb2) HV.out.1 HN.out (by simp) (by omega) (by simp [HX.out.2.2.2.2.1]; omega)).mono ?_
      rintro e w' ⟨v, rfl, ho, hb⟩
      have HO := Lib.hid (And.intro (ho.base hb2.size) (hb2.trans (hb.mono hb2.size)))
      clear ho hb hb2
      go_wp2
      go_ret
      exact ⟨_, rfl, by rw [HY.out]; exact HO.out.1, HO.out.2⟩

end Go.Proofs.YtgbjlcedabkdkaaDoor
