/- The document's list of instructions. -/
import Derived.Test.YtonkcfnegnghcaaOpNames
import Derived.Test.YtonkcfnegnghcaaRefOp
namespace Go.Proofs.Ytonkcfnegnghcaa
open Go.RowKit
set_option maxRecDepth 100000
set_option linter.unusedVariables false

theorem upto_add (f : Int) (a b : Nat) : upto f (a + b) = upto f a ++ upto (f + a) b := by
  induction b with
  | zero => simp [upto]
  | succ b ih =>
    rw [← Nat.add_assoc, upto, ih, upto, List.append_assoc, show f + ((a + b : Nat) : Int) = f + (a : Int) + (b : Int) by omega]
theorem upto_none (b : Nat) (h : b ≤ 64256) : upto 256 b = [] := by
  induction b with
  | zero => rfl
  | succ b ih => rw [upto, ih (by omega), (out_kd (x := 256 + (b : Int)) (by omega)).1]; rfl
theorem upto_all : upto 0 64768 = all5 := by
  have h1 := upto_add 0 (256 + 64256) 256
  have h2 := upto_add 0 256 64256
  rw [show (256 + 64256 + 256 : Nat) = 64768 from rfl] at h1
  rw [h1, h2, show ((0 : Int) + ((256 : Nat) : Int)) = 256 by omega, upto_none 64256 (by omega), List.append_nil, show ((0 : Int) + ((256 + 64256 : Nat) : Int)) = 64512 by omega]
  rfl
set_option maxHeartbeats 1000000 in
theorem refNames_any (w : World) : Calls Try.prog 13 #[] w (IPost all5 w) := by
  rw [← upto_all]
  generalize hN : (64768 : Nat) = N
  have hN' : (64768 : Int) = N := by omega
  have HN := Lib.hid hN
  have hN2 : N ≤ 100000 := by omega
  clear hN
  go_enter Try.func13, Try.ntmps13
  go_wp2
  go_loopw [1, 2] (fun v i wr => ∃ (k : Nat), k ≤ N ∧ i = .int .i64 k ∧ w.heap.size ≤ wr.heap.size ∧ Hid (OwnI wr w.heap.size v (upto 0 k) ∧ Below w.heap.size w wr)) (fun _ i _ => N - (intOf i).toNat)
  case atStart => exact ⟨0, by omega, by simp, by omega, OwnI.nil _ _, Below.refl _ _⟩
  case round =>
    obtain ⟨k, hk, rfl, hsz, HX⟩ := hrel
    by_cases hlt : k < N
    · have hlt2 : (k : Int) < 64768 := by omega
      have hlen := upto_len 0 k
      go_wp2_with fail
      refine (refKind_any k wr).mono ?_
      rintro e w2 ⟨rfl, rfl⟩
      unfold pr
      by_cases he : (kd (k : Int)).2 = 0
      · have hu : upto 0 (k + 1) = upto 0 k ++ [(k : Int)] := by rw [upto, Int.zero_add, if_pos he]
        have HU := Lib.hid hu
        clear hu
        generalize (kd (k : Int)).1 = i1 at *
        rw [he]
        clear he
        go_wp2_with (at_builtin; refine wpList_appI1 rfl (.tmp 16) (.tmp 18) rfl w.heap.size u1 (upto 0 k) rfl HX.out.1 (k : Int) rfl (by omega) (by omega) ?_; intro v1 w3 hv1 hw1; have HV := Lib.hid (And.intro hv1 hw1); clear hv1 hw1)
        go_wp2
        have hb := HV.out.2.below (B := w.heap.size) (by omega) fun k hk => owns_ge HX.out.1 hk
        have hs3 := hb.size
        refine ⟨⟨k + 1, by omega, by go_num, by omega, ?_, HX.out.2.trans hb⟩, ?_⟩
        · rw [HU.out]; exact HV.out.1
        · simp [intOf]; omega
      · have hu : upto 0 (k + 1) = upto 0 k := by rw [upto, Int.zero_add, if_neg he, List.append_nil]
        have HU := Lib.hid hu
        clear hu
        generalize (kd (k : Int)).1 = i1 at *
        generalize (kd (k : Int)).2 = e1 at *
        have he' : (e1 == 0) = false := by simpa using he
        go_wp2
        refine ⟨⟨k + 1, by omega, by go_num, by omega, ?_, HX.out.2⟩, ?_⟩
        · rw [HU.out]; exact HX.out.1
        · simp [intOf]; omega
    · obtain rfl : k = N := by omega
      go_wp2
      go_ret
      exact ⟨_, rfl, HX.out.1, HX.out.2⟩
end Go.Proofs.Ytonkcfnegnghcaa
