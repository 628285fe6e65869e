/- leb has begun: what each statement of layer 1 asks first. -/
import Derived.Test.YtdbiljmkhchihaaLebRead2
import Derived.Test.YtdbiljmkhchihaaLebPut
namespace Go.Proofs.Ytdbiljmkhchihaa
open Go.RowKit
set_option linter.unusedVariables false

theorem begun1_any (w : World) :
    Calls Try.prog 9 #[] w fun e w' => e = .returned (.bool true) ∧ Below w.heap.size w w' := by
  have H1 := Lib.hid (rd_lit w [128, 1] (fun z hz => by simp at hz; omega))
  have e1 : on1 IntKind.u32.wrap (rdU 32 [128, 1]) = (128, 2, 0) := by decide +kernel
  have e2 : rdS 64 ([] ++ encS (-65)) = (-65, 2, 0) := by decide +kernel
  have e3 : [] ++ encU 128 = [128, 1] := by decide +kernel
  have E := Lib.hid (And.intro e1 (And.intro e2 e3))
  clear e1 e2 e3
  go_enter Try.func9, Try.ntmps9
  go_wp2_with fail
  have hb1 : Below w.heap.size w (w.alloc (.cells #[.int .u8 128, .int .u8 1] 5)) := (Below.refl _ _).alloc (Nat.le_refl _) _
  refine (U32_any _ [128, 1] 2 2 _ (by simpa using H1.out) rfl (by simp [maxLen])).mono ?_
  rintro e w' ⟨rfl, rfl⟩
  rw [E.out.1]
  unfold three
  generalize hw1 : w.alloc (.cells #[.int .u8 128, .int .u8 1] 5) = w1 at *
  clear hw1 H1
  have HB1 := Lib.hid hb1
  clear hb1
  go_wp2_with fail
  refine (putS_any none [] 0 0 (-65) w1 (Rd.nil _ _ _) rfl (by omega) (by omega) (by omega)).mono ?_
  rintro e w2 ⟨v, rfl, ho, hb⟩
  obtain ⟨A2, c2, rfl, hr2, hl2⟩ := ho.form (IsBytes.nil.app (bytesS_is 9 (-65)))
  have HB2 := Lib.hid (And.intro hr2 (HB1.out.trans (hb.mono HB1.out.size)))
  clear ho hb hr2 HB1
  generalize hq : ([] ++ encS (-65)).length = q at *
  have HQ := Lib.hid hq
  clear hq
  go_wp2_with fail
  refine (S64_any A2 ([] ++ encS (-65)) q c2 w2 HB2.out.1 HQ.out.symm hl2).mono ?_
  rintro e w' ⟨rfl, rfl⟩
  rw [E.out.2.1]
  unfold three
  go_wp2_with fail
  refine (putU_any none [] 0 0 128 w2 (Rd.nil _ _ _) rfl (by omega) (by omega) (by omega)).mono ?_
  rintro e w3 ⟨v, rfl, ho, hb⟩
  rw [E.out.2.2] at ho
  obtain ⟨A3, c3, rfl, hr3, hl3⟩ := ho.form (fun z hz => by simp at hz; omega)
  have hs : (convert 22 9 (.slice A3 2 c3)).run Try.prog w3 = .ok (.string (strOfNums [128, 1])) w3 := hr3.string c3
  have hst : ((strOfNums [128, 1]).toList == [128, 1]) = true := by decide +kernel
  have HB3 := Lib.hid (HB2.out.2.trans (hb.mono HB2.out.2.size))
  clear ho hb hr3 HB2
  go_wp2
  go_ret
  exact ⟨rfl, HB3.out⟩
end Go.Proofs.Ytdbiljmkhchihaa
