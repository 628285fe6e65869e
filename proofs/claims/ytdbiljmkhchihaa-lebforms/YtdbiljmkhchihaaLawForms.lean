/- The walk of LebForms: out of the contracts. -/
import Derived.Test.YtdbiljmkhchihaaLebRead2
import Derived.Test.YtdbiljmkhchihaaLebPut
import Derived.Test.YtdbiljmkhchihaaBegun1
namespace Go.Proofs.Ytdbiljmkhchihaa
open Go.RowKit
set_option linter.unusedVariables false

set_option maxRecDepth 100000 in
set_option maxHeartbeats 8000000 in
theorem lebForms_core (w : World) :
    Calls Try.prog 7 #[] w fun e w' => e = .returned (.bool true) ∧ Below w.heap.size w w' := by
  have E0 := Lib.hid (show on1 IntKind.u32.wrap (rdU 32 [255, 255, 255, 255, 16]) = (0, 0, 2) by decide +kernel)
  have E1 := Lib.hid (show on1 IntKind.u32.wrap (rdU 32 [255, 255, 255, 255, 15]) = (4294967295, 5, 0) by decide +kernel)
  have E2 := Lib.hid (show on1 IntKind.u32.wrap (rdU 32 [128, 128, 128, 128, 128, 0]) = (0, 0, 2) by decide +kernel)
  have E3 := Lib.hid (show on1 IntKind.u32.wrap (rdU 32 [128, 128, 0]) = (0, 3, 0) by decide +kernel)
  have E4 := Lib.hid (show on1 wrap32 (rdS 32 [128, 128, 128, 128, 120]) = (-2147483648, 5, 0) by decide +kernel)
  have E5 := Lib.hid (show on1 wrap32 (rdS 32 [128, 128, 128, 128, 112]) = (0, 0, 2) by decide +kernel)
  have E6 := Lib.hid (show on1 wrap32 (rdS 32 [255, 255, 255, 255, 15]) = (0, 0, 2) by decide +kernel)
  have E7 := Lib.hid (show rdS 33 [64] = (-64, 1, 0) by decide +kernel)
  have E8 := Lib.hid (show rdS 64 [128, 128, 128, 128, 128, 128, 128, 128, 128, 127] = (-9223372036854775808, 10, 0) by decide +kernel)
  have E9 := Lib.hid (show rdS 64 [128, 128, 128, 128, 128, 128, 128, 128, 128, 1] = (0, 0, 2) by decide +kernel)
  have E10 := Lib.hid (show rdU 64 [] = (0, 0, 3) by decide +kernel)
  have E11 := Lib.hid (show rdU 64 [255, 255, 255, 255, 255, 255, 255, 255, 255, 2] = (0, 0, 2) by decide +kernel)
  have F1 := Lib.hid (show [] ++ encS 64 = [192, 0] by decide +kernel)
  have F2 := Lib.hid (show [] ++ encS (-64) = [64] by decide +kernel)
  have F3 := Lib.hid (show [] ++ encU 0 = [0] by decide +kernel)
  go_enter Try.func7, Try.ntmps7
  go_wp2_with fail
  refine (begun1_any w).mono ?_
  rintro e v0 ⟨rfl, hb0⟩
  have HB := Lib.hid hb0
  clear hb0
  go_wp2_with fail
  have hr := rd_lit v0 [255, 255, 255, 255, 16] (fun z hz => by simp at hz; omega)
  have hb : Below w.heap.size w (v0.alloc (.cells #[.int .u8 255, .int .u8 255, .int .u8 255, .int .u8 255, .int .u8 16] 5)) := HB.out.trans (((Below.refl v0.heap.size v0).alloc (Nat.le_refl _) _).mono HB.out.size)
  refine (U32_any (some ⟨v0.heap.size, 0, none⟩) [255, 255, 255, 255, 16] 5 5 (v0.alloc (.cells #[.int .u8 255, .int .u8 255, .int .u8 255, .int .u8 255, .int .u8 16] 5)) (by simpa using hr) rfl (by simp [maxLen])).mono ?_
  rintro e w' ⟨rfl, rfl⟩
  rw [E0.out]
  unfold three
  clear hr HB
  generalize v0.alloc (.cells #[.int .u8 255, .int .u8 255, .int .u8 255, .int .u8 255, .int .u8 16] 5) = v1 at *
  have HB := Lib.hid hb
  clear hb
  go_wp2_with fail
  have hr := rd_lit v1 [255, 255, 255, 255, 15] (fun z hz => by simp at hz; omega)
  have hb : Below w.heap.size w (v1.alloc (.cells #[.int .u8 255, .int .u8 255, .int .u8 255, .int .u8 255, .int .u8 15] 5)) := HB.out.trans (((Below.refl v1.heap.size v1).alloc (Nat.le_refl _) _).mono HB.out.size)
  refine (U32_any (some ⟨v1.heap.size, 0, none⟩) [255, 255, 255, 255, 15] 5 5 (v1.alloc (.cells #[.int .u8 255, .int .u8 255, .int .u8 255, .int .u8 255, .int .u8 15] 5)) (by simpa using hr) rfl (by simp [maxLen])).mono ?_
  rintro e w' ⟨rfl, rfl⟩
  rw [E1.out]
  unfold three
  clear hr HB
  generalize v1.alloc (.cells #[.int .u8 255, .int .u8 255, .int .u8 255, .int .u8 255, .int .u8 15] 5) = v2 at *
  have HB := Lib.hid hb
  clear hb
  go_wp2_with fail
  have hr := rd_lit v2 [128, 128, 128, 128, 128, 0] (fun z hz => by simp at hz; omega)
  have hb : Below w.heap.size w (v2.alloc (.cells #[.int .u8 128, .int .u8 128, .int .u8 128, .int .u8 128, .int .u8 128, .int .u8 0] 5)) := HB.out.trans (((Below.refl v2.heap.size v2).alloc (Nat.le_refl _) _).mono HB.out.size)
  refine (U32_any (some ⟨v2.heap.size, 0, none⟩) [128, 128, 128, 128, 128, 0] 6 6 (v2.alloc (.cells #[.int .u8 128, .int .u8 128, .int .u8 128, .int .u8 128, .int .u8 128, .int .u8 0] 5)) (by simpa using hr) rfl (by simp [maxLen])).mono ?_
  rintro e w' ⟨rfl, rfl⟩
  rw [E2.out]
  unfold three
  clear hr HB
  generalize v2.alloc (.cells #[.int .u8 128, .int .u8 128, .int .u8 128, .int .u8 128, .int .u8 128, .int .u8 0] 5) = v3 at *
  have HB := Lib.hid hb
  clear hb
  go_wp2_with fail
  have hr := rd_lit v3 [128, 128, 0] (fun z hz => by simp at hz; omega)
  have hb : Below w.heap.size w (v3.alloc (.cells #[.int .u8 128, .int .u8 128, .int .u8 0] 5)) := HB.out.trans (((Below.refl v3.heap.size v3).alloc (Nat.le_refl _) _).mono HB.out.size)
  refine (U32_any (some ⟨v3.heap.size, 0, none⟩) [128, 128, 0] 3 3 (v3.alloc (.cells #[.int .u8 128, .int .u8 128, .int .u8 0] 5)) (by simpa using hr) rfl (by simp [maxLen])).mono ?_
  rintro e w' ⟨rfl, rfl⟩
  rw [E3.out]
  unfold three
  clear hr HB
  generalize v3.alloc (.cells #[.int .u8 128, .int .u8 128, .int .u8 0] 5) = v4 at *
  have HB := Lib.hid hb
  clear hb
  go_wp2_with fail
  have hr := rd_lit v4 [128, 128, 128, 128, 120] (fun z hz => by simp at hz; omega)
  have hb : Below w.heap.size w (v4.alloc (.cells #[.int .u8 128, .int .u8 128, .int .u8 128, .int .u8 128, .int .u8 120] 5)) := HB.out.trans (((Below.refl v4.heap.size v4).alloc (Nat.le_refl _) _).mono HB.out.size)
  refine (S32_any (some ⟨v4.heap.size, 0, none⟩) [128, 128, 128, 128, 120] 5 5 (v4.alloc (.cells #[.int .u8 128, .int .u8 128, .int .u8 128, .int .u8 128, .int .u8 120] 5)) (by simpa using hr) rfl (by simp [maxLen])).mono ?_
  rintro e w' ⟨rfl, rfl⟩
  rw [E4.out]
  unfold three
  clear hr HB
  generalize v4.alloc (.cells #[.int .u8 128, .int .u8 128, .int .u8 128, .int .u8 128, .int .u8 120] 5) = v5 at *
  have HB := Lib.hid hb
  clear hb
  go_wp2_with fail
  have hr := rd_lit v5 [128, 128, 128, 128, 112] (fun z hz => by simp at hz; omega)
  have hb : Below w.heap.size w (v5.alloc (.cells #[.int .u8 128, .int .u8 128, .int .u8 128, .int .u8 128, .int .u8 112] 5)) := HB.out.trans (((Below.refl v5.heap.size v5).alloc (Nat.le_refl _) _).mono HB.out.size)
  refine (S32_any (some ⟨v5.heap.size, 0, none⟩) [128, 128, 128, 128, 112] 5 5 (v5.alloc (.cells #[.int .u8 128, .int .u8 128, .int .u8 128, .int .u8 128, .int .u8 112] 5)) (by simpa using hr) rfl (by simp [maxLen])).mono ?_
  rintro e w' ⟨rfl, rfl⟩
  rw [E5.out]
  unfold three
  clear hr HB
  generalize v5.alloc (.cells #[.int .u8 128, .int .u8 128, .int .u8 128, .int .u8 128, .int .u8 112] 5) = v6 at *
  have HB := Lib.hid hb
  clear hb
  go_wp2_with fail
  have hr := rd_lit v6 [255, 255, 255, 255, 15] (fun z hz => by simp at hz; omega)
  have hb : Below w.heap.size w (v6.alloc (.cells #[.int .u8 255, .int .u8 255, .int .u8 255, .int .u8 255, .int .u8 15] 5)) := HB.out.trans (((Below.refl v6.heap.size v6).alloc (Nat.le_refl _) _).mono HB.out.size)
  refine (S32_any (some ⟨v6.heap.size, 0, none⟩) [255, 255, 255, 255, 15] 5 5 (v6.alloc (.cells #[.int .u8 255, .int .u8 255, .int .u8 255, .int .u8 255, .int .u8 15] 5)) (by simpa using hr) rfl (by simp [maxLen])).mono ?_
  rintro e w' ⟨rfl, rfl⟩
  rw [E6.out]
  unfold three
  clear hr HB
  generalize v6.alloc (.cells #[.int .u8 255, .int .u8 255, .int .u8 255, .int .u8 255, .int .u8 15] 5) = v7 at *
  have HB := Lib.hid hb
  clear hb
  go_wp2_with fail
  have hr := rd_lit v7 [64] (fun z hz => by simp at hz; omega)
  have hb : Below w.heap.size w (v7.alloc (.cells #[.int .u8 64] 5)) := HB.out.trans (((Below.refl v7.heap.size v7).alloc (Nat.le_refl _) _).mono HB.out.size)
  refine (S33_any (some ⟨v7.heap.size, 0, none⟩) [64] 1 1 (v7.alloc (.cells #[.int .u8 64] 5)) (by simpa using hr) rfl (by simp [maxLen])).mono ?_
  rintro e w' ⟨rfl, rfl⟩
  rw [E7.out]
  unfold three
  clear hr HB
  generalize v7.alloc (.cells #[.int .u8 64] 5) = v8 at *
  have HB := Lib.hid hb
  clear hb
  go_wp2_with fail
  have hr := rd_lit v8 [128, 128, 128, 128, 128, 128, 128, 128, 128, 127] (fun z hz => by simp at hz; omega)
  have hb : Below w.heap.size w (v8.alloc (.cells #[.int .u8 128, .int .u8 128, .int .u8 128, .int .u8 128, .int .u8 128, .int .u8 128, .int .u8 128, .int .u8 128, .int .u8 128, .int .u8 127] 5)) := HB.out.trans (((Below.refl v8.heap.size v8).alloc (Nat.le_refl _) _).mono HB.out.size)
  refine (S64_any (some ⟨v8.heap.size, 0, none⟩) [128, 128, 128, 128, 128, 128, 128, 128, 128, 127] 10 10 (v8.alloc (.cells #[.int .u8 128, .int .u8 128, .int .u8 128, .int .u8 128, .int .u8 128, .int .u8 128, .int .u8 128, .int .u8 128, .int .u8 128, .int .u8 127] 5)) (by simpa using hr) rfl (by simp [maxLen])).mono ?_
  rintro e w' ⟨rfl, rfl⟩
  rw [E8.out]
  unfold three
  clear hr HB
  generalize v8.alloc (.cells #[.int .u8 128, .int .u8 128, .int .u8 128, .int .u8 128, .int .u8 128, .int .u8 128, .int .u8 128, .int .u8 128, .int .u8 128, .int .u8 127] 5) = v9 at *
  have HB := Lib.hid hb
  clear hb
  go_wp2_with fail
  have hr := rd_lit v9 [128, 128, 128, 128, 128, 128, 128, 128, 128, 1] (fun z hz => by simp at hz; omega)
  have hb : Below w.heap.size w (v9.alloc (.cells #[.int .u8 128, .int .u8 128, .int .u8 128, .int .u8 128, .int .u8 128, .int .u8 128, .int .u8 128, .int .u8 128, .int .u8 128, .int .u8 1] 5)) := HB.out.trans (((Below.refl v9.heap.size v9).alloc (Nat.le_refl _) _).mono HB.out.size)
  refine (S64_any (some ⟨v9.heap.size, 0, none⟩) [128, 128, 128, 128, 128, 128, 128, 128, 128, 1] 10 10 (v9.alloc (.cells #[.int .u8 128, .int .u8 128, .int .u8 128, .int .u8 128, .int .u8 128, .int .u8 128, .int .u8 128, .int .u8 128, .int .u8 128, .int .u8 1] 5)) (by simpa using hr) rfl (by simp [maxLen])).mono ?_
  rintro e w' ⟨rfl, rfl⟩
  rw [E9.out]
  unfold three
  clear hr HB
  generalize v9.alloc (.cells #[.int .u8 128, .int .u8 128, .int .u8 128, .int .u8 128, .int .u8 128, .int .u8 128, .int .u8 128, .int .u8 128, .int .u8 128, .int .u8 1] 5) = v10 at *
  have HB := Lib.hid hb
  clear hb
  go_wp2_with fail
  refine (U64_any none [] 0 0 v10 (Rd.nil _ _ _) rfl (by simp)).mono ?_
  rintro e w' ⟨rfl, rfl⟩
  rw [E10.out]
  unfold three
  go_wp2_with fail
  have hr := rd_lit v10 [255, 255, 255, 255, 255, 255, 255, 255, 255, 2] (fun z hz => by simp at hz; omega)
  have hb : Below w.heap.size w (v10.alloc (.cells #[.int .u8 255, .int .u8 255, .int .u8 255, .int .u8 255, .int .u8 255, .int .u8 255, .int .u8 255, .int .u8 255, .int .u8 255, .int .u8 2] 5)) := HB.out.trans (((Below.refl v10.heap.size v10).alloc (Nat.le_refl _) _).mono HB.out.size)
  refine (U64_any (some ⟨v10.heap.size, 0, none⟩) [255, 255, 255, 255, 255, 255, 255, 255, 255, 2] 10 10 (v10.alloc (.cells #[.int .u8 255, .int .u8 255, .int .u8 255, .int .u8 255, .int .u8 255, .int .u8 255, .int .u8 255, .int .u8 255, .int .u8 255, .int .u8 2] 5)) (by simpa using hr) rfl (by simp [maxLen])).mono ?_
  rintro e w' ⟨rfl, rfl⟩
  rw [E11.out]
  unfold three
  clear hr HB
  generalize v10.alloc (.cells #[.int .u8 255, .int .u8 255, .int .u8 255, .int .u8 255, .int .u8 255, .int .u8 255, .int .u8 255, .int .u8 255, .int .u8 255, .int .u8 2] 5) = v12 at *
  have HB := Lib.hid hb
  clear hb
  go_wp2_with fail
  refine (putS_any none [] 0 0 64 v12 (Rd.nil _ _ _) rfl (by omega) (by omega) (by omega)).mono ?_
  rintro e x0 ⟨v, rfl, ho, hb⟩
  rw [F1.out] at ho
  obtain ⟨A0, c0, rfl, hr, hl⟩ := ho.form (fun z hz => by simp at hz; omega)
  have hs : (convert 22 9 (.slice A0 2 c0)).run Try.prog x0 = .ok (.string (strOfNums [192, 0])) x0 := hr.string c0
  have hst : ((strOfNums [192, 0]).toList == [192, 0]) = true := by decide +kernel
  have HB0 := Lib.hid (HB.out.trans (hb.mono HB.out.size))
  clear ho hb hr hl HB
  have HB := HB0
  clear HB0
  go_wp2_with fail
  refine (putS_any none [] 0 0 (-64) x0 (Rd.nil _ _ _) rfl (by omega) (by omega) (by omega)).mono ?_
  rintro e x1 ⟨v, rfl, ho, hb⟩
  rw [F2.out] at ho
  obtain ⟨A1, c1, rfl, hr, hl⟩ := ho.form (fun z hz => by simp at hz; omega)
  have hs : (convert 22 9 (.slice A1 1 c1)).run Try.prog x1 = .ok (.string (strOfNums [64])) x1 := hr.string c1
  have hst : ((strOfNums [64]).toList == [64]) = true := by decide +kernel
  have HB1 := Lib.hid (HB.out.trans (hb.mono HB.out.size))
  clear ho hb hr hl HB
  have HB := HB1
  clear HB1
  go_wp2_with fail
  refine (putU_any none [] 0 0 0 x1 (Rd.nil _ _ _) rfl (by omega) (by omega) (by omega)).mono ?_
  rintro e x2 ⟨v, rfl, ho, hb⟩
  rw [F3.out] at ho
  obtain ⟨A2, c2, rfl, hr, hl⟩ := ho.form (fun z hz => by simp at hz; omega)
  have hs : (convert 22 9 (.slice A2 1 c2)).run Try.prog x2 = .ok (.string (strOfNums [0])) x2 := hr.string c2
  have hst : ((strOfNums [0]).toList == [0]) = true := by decide +kernel
  have HB2 := Lib.hid (HB.out.trans (hb.mono HB.out.size))
  clear ho hb hr hl HB
  have HB := HB2
  clear HB2
  go_wp2
  go_ret
  exact ⟨rfl, HB.out⟩
end Go.Proofs.Ytdbiljmkhchihaa
