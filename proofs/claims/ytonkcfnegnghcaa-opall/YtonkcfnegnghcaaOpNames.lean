/- op.Names: all instructions of the profile. -/
import Derived.Test.YtonkcfnegnghcaaOpKind
namespace Go.Proofs.Ytonkcfnegnghcaa
open Go.RowKit
set_option maxRecDepth 100000
set_option linter.unusedVariables false

/-- Of the k numbers from f on those that are instructions. -/
def upto (f : Int) : Nat → List Int
  | 0 => []
  | k + 1 => upto f k ++ (if (kd (f + k)).2 = 0 then [f + k] else [])
theorem upto_len (f : Int) (k : Nat) : (upto f k).length ≤ k := by
  induction k with
  | zero => simp [upto]
  | succ k ih => unfold upto; split <;> simp <;> omega
/-- Answers these ints, in a block of its own. -/
def IPost (l : List Int) (w : World) (e : Ending) (w' : World) : Prop := ∃ v, e = .returned v ∧ OwnI w' w.heap.size v l ∧ Below w.heap.size w w'

set_option maxHeartbeats 1000000 in
theorem named_any (f : Int) (w : World) (h0 : 0 ≤ f) (h1 : f ≤ 1000000) : Calls Try.prog 19 #[.int .i64 f] w (IPost (upto f 256) w) := by
  go_enter Try.func19, Try.ntmps19
  go_wp2
  go_loopw [2, 3] (fun v i wr => ∃ (k : Nat), k ≤ 256 ∧ i = .int .i64 (f + k) ∧ w.heap.size ≤ wr.heap.size ∧ Hid (OwnI wr w.heap.size v (upto f k) ∧ Below w.heap.size w wr)) (fun _ i _ => (f + 256 - intOf i).toNat)
  case atStart => exact ⟨0, by omega, by simp, by omega, OwnI.nil _ _, Below.refl _ _⟩
  case round =>
    obtain ⟨k, hk, rfl, hsz, HX⟩ := hrel
    by_cases hlt : k < 256
    · have hlt2 : f + (k : Int) ≤ f + 255 := by omega
      have hlen := upto_len f k
      go_wp2_with fail
      refine (kind_any (f + k) wr).mono ?_
      rintro e w2 ⟨rfl, rfl⟩
      unfold pr
      by_cases he : (kd (f + k)).2 = 0
      · have hu : upto f (k + 1) = upto f k ++ [f + k] := by rw [upto, if_pos he]
        have HU := Lib.hid hu
        clear hu
        generalize (kd (f + k)).1 = i1 at *
        rw [he]
        clear he
        go_wp2_with (at_builtin; refine wpList_appI1 rfl (.tmp 20) (.tmp 22) rfl w.heap.size u2 (upto f k) rfl HX.out.1 (f + k) rfl (by omega) (by omega) ?_; intro v1 w3 hv1 hw1; have HV := Lib.hid (And.intro hv1 hw1); clear hv1 hw1)
        go_wp2
        have hb := HV.out.2.below (B := w.heap.size) (by omega) fun k hk => owns_ge HX.out.1 hk
        have hs3 := hb.size
        refine ⟨⟨k + 1, by omega, by go_num, by omega, ?_, HX.out.2.trans hb⟩, ?_⟩
        · rw [HU.out]; exact HV.out.1
        · simp [intOf]; omega
      · have hu : upto f (k + 1) = upto f k := by rw [upto, if_neg he, List.append_nil]
        have HU := Lib.hid hu
        clear hu
        generalize (kd (f + k)).1 = i1 at *
        generalize (kd (f + k)).2 = e1 at *
        have he' : (e1 == 0) = false := by simpa using he
        go_wp2
        refine ⟨⟨k + 1, by omega, by go_num, by omega, ?_, HX.out.2⟩, ?_⟩
        · rw [HU.out]; exact HX.out.1
        · simp [intOf]; omega
    · obtain rfl : k = 256 := by omega
      go_wp2
      go_ret
      exact ⟨_, rfl, HX.out.1, HX.out.2⟩
/-- All instructions of the profile. -/
def all5 : List Int := upto 0 256 ++ upto 64512 256
theorem all5_len : all5.length = 125 := by decide +kernel

set_option maxHeartbeats 1000000 in
theorem names_any (w : World) : Calls Try.prog 12 #[] w (IPost all5 w) := by
  go_enter Try.func12, Try.ntmps12
  go_wp2_with fail
  refine (named_any 0 w (by omega) (by omega)).mono ?_
  rintro e w1 ⟨v1, rfl, h1, hb1⟩
  have H1 := Lib.hid (And.intro h1 hb1)
  have hs1 := hb1.size
  clear h1 hb1
  go_wp2_with fail
  refine (named_any 64512 w1 (by omega) (by omega)).mono ?_
  rintro e w2 ⟨v2, rfl, h2, hb2⟩
  have hs2 := hb2.size
  obtain ⟨A, c, rfl, hc1, hc2, hr⟩ := h2.rdI
  have ho := H1.out.1.later hb2
  have HB := Lib.hid (H1.out.2.trans (hb2.mono hs1))
  have l1 := upto_len 0 256
  have l2 := upto_len 64512 256
  clear h2 hb2 H1
  generalize hl : (upto 64512 256).length = m at *
  have HL := Lib.hid hl
  clear hl
  go_wp2_with (at_builtin; refine wpList_appI rfl (.tmp 1) (.tmp 2) rfl w.heap.size v1 (upto 0 256) rfl ho A m c (upto 64512 256) rfl HL.out.symm hr (by omega) (by omega) ?_; intro v3 w3 hv3 hw3; have HV := Lib.hid (And.intro hv3 hw3); clear hv3 hw3)
  go_ret
  have hb := HV.out.2.below (B := w.heap.size) (by omega) fun k hk => owns_ge ho hk
  exact ⟨_, rfl, HV.out.1, HB.out.trans hb⟩
end Go.Proofs.Ytonkcfnegnghcaa
