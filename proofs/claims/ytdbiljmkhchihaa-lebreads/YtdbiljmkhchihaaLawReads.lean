/- The walk of LebReads: out of the contracts. -/
import Derived.Test.YtdbiljmkhchihaaLebRef
import Derived.Test.YtdbiljmkhchihaaKept
import Derived.Test.YtdbiljmkhchihaaBegun1
import Derived.Test.YtdbiljmkhchihaaRows1
namespace Go.Proofs.Ytdbiljmkhchihaa
open Go.RowKit
set_option linter.unusedVariables false

theorem sx_range (u n : Int) : -9223372036854775808 ≤ sx u n ∧ sx u n < 9223372036854775808 := by
  unfold sx
  generalize IntKind.u64.wrap (u * 2 ^ (max 0 (64 - n * 7)).toNat) = y
  have h : -9223372036854775808 ≤ wrap64 y ∧ wrap64 y < 9223372036854775808 := by unfold wrap64; omega
  generalize wrap64 y = z at *
  obtain ⟨p, hp⟩ : ∃ p : Nat, (2 : Int) ^ (max 0 (64 - n * 7)).toNat = p ∧ 0 < p := ⟨2 ^ (max 0 (64 - n * 7)).toNat, by simp, Nat.two_pow_pos _⟩
  rw [hp.1]
  constructor
  · refine Int.le_ediv_of_mul_le (by omega) ?_
    have : (-9223372036854775808 : Int) * p ≤ -9223372036854775808 * 1 := Int.mul_le_mul_of_nonpos_left (by omega) (by omega)
    omega
  · refine Int.ediv_lt_of_lt_mul (by omega) ?_
    have : (9223372036854775808 : Int) * 1 ≤ 9223372036854775808 * p := Int.mul_le_mul_of_nonneg_left (by omega) (by omega)
    omega
theorem rdS_range (bits : Int) (l : List Int) : -9223372036854775808 ≤ (rdS bits l).1 ∧ (rdS bits l).1 < 9223372036854775808 := by
  unfold rdS
  split
  · exact sx_range _ _
  · simp
theorem back64 (bits : Int) (l : List Int) : on1 wrap64 (rdN bits l) = rdS bits l := by
  have h := rdS_range bits l
  unfold rdN on1
  generalize rdS bits l = r at *
  obtain ⟨a, b, c⟩ := r
  simp only [Prod.mk.injEq, and_true] at *
  unfold wrap64; omega
theorem back32 (bits : Int) (l : List Int) : on1 wrap32 (rdN bits l) = on1 wrap32 (rdS bits l) := by
  unfold rdN on1
  generalize rdS bits l = r at *
  obtain ⟨a, b, c⟩ := r
  simp only [Prod.mk.injEq, and_true] at *
  unfold wrap32; omega

set_option maxRecDepth 100000 in
set_option maxHeartbeats 4000000 in
theorem lebReads_core (A : Option Addr) (l : List Int) (n c : Nat) (w : World) (h : Rd w w.heap.size A l) (hn : n = l.length) (hl : n ≤ maxLen) :
    Calls Try.prog 3 #[.slice A n c] w fun e w' => e = .returned (.bool true) ∧ Below w.heap.size w w' := by
  have HR := Lib.hid h
  have HN := Lib.hid hn
  clear h hn
  unfold maxLen at hl
  by_cases h20 : 20 < n
  · go_enter Try.func3, Try.ntmps3
    go_wp2_with fail
    refine (begun1_any w).mono ?_
    rintro e w1 ⟨rfl, hb1⟩
    have HB1 := Lib.hid hb1
    clear hb1
    go_wp2
    go_ret
    exact ⟨rfl, HB1.out⟩
  · go_enter Try.func3, Try.ntmps3
    go_wp2_with fail
    refine (begun1_any w).mono ?_
    rintro e w1 ⟨rfl, hb1⟩
    have HR1 := Lib.hid (HR.out.later hb1)
    have HB1 := Lib.hid hb1
    clear hb1
    go_wp2_with fail
    refine (twin_any A l n c w1 HR1.out HN.out (by omega)).mono ?_
    rintro e w2 ⟨rfl, ho, hb2⟩
    have HO := Lib.hid ho
    have HT := Lib.hid ((show Own w2 w1.heap.size 5 (l.map (Value.int .u8) ++ [.int .u8 229, .int .u8 229, .int .u8 229]) from ho).rd HR.out.1)
    have HR2 := Lib.hid (HR1.out.later hb2)
    have HB2 := Lib.hid (HB1.out.trans (hb2.mono HB1.out.size))
    clear ho hb2 HR HR1 HB1
    have hm : n ≤ maxLen := by simp only [maxLen]; omega
    have C1 := Lib.hid (U32_any _ l n (n + 3) w2 HT.out HN.out hm)
    have C2 := Lib.hid (refU32_any _ l n c w2 HR2.out HN.out hm)
    have C3 := Lib.hid (U64_any _ l n (n + 3) w2 HT.out HN.out hm)
    have C4 := Lib.hid (refU64_any _ l n c w2 HR2.out HN.out hm)
    have C5 := Lib.hid (S32_any _ l n (n + 3) w2 HT.out HN.out hm)
    have C6 := Lib.hid (refS32_any _ l n c w2 HR2.out HN.out hm)
    have C7 := Lib.hid (S33_any _ l n (n + 3) w2 HT.out HN.out hm)
    have C8 := Lib.hid (refS33_any _ l n c w2 HR2.out HN.out hm)
    have C9 := Lib.hid (S64_any _ l n (n + 3) w2 HT.out HN.out hm)
    have C10 := Lib.hid (refS64_any _ l n c w2 HR2.out HN.out hm)
    rw [back32] at C6
    rw [back64] at C8 C10
    generalize on1 IntKind.u32.wrap (rdU 32 l) = r1 at *
    generalize rdU 64 l = r2 at *
    generalize on1 wrap32 (rdS 32 l) = r3 at *
    generalize rdS 33 l = r4 at *
    generalize rdS 64 l = r5 at *
    obtain ⟨a1, b1, d1⟩ := r1
    obtain ⟨a2, b2, d2⟩ := r2
    obtain ⟨a3, b3, d3⟩ := r3
    obtain ⟨a4, b4, d4⟩ := r4
    obtain ⟨a5, b5, d5⟩ := r5
    unfold three at *
    have C11 := Lib.hid (kept_any w1.heap.size A l n c w2 HR2.out HN.out (by omega) HO.out)
    clear HO HT HR2 hm
    go_wp2_with (first
      | (go_at_call 11; refine C1.out.mono ?_; rintro e w' ⟨rfl, rfl⟩)
      | (go_at_call 12; refine C2.out.mono ?_; rintro e w' ⟨rfl, rfl⟩)
      | (go_at_call 13; refine C3.out.mono ?_; rintro e w' ⟨rfl, rfl⟩)
      | (go_at_call 14; refine C4.out.mono ?_; rintro e w' ⟨rfl, rfl⟩)
      | (go_at_call 15; refine C5.out.mono ?_; rintro e w' ⟨rfl, rfl⟩)
      | (go_at_call 16; refine C6.out.mono ?_; rintro e w' ⟨rfl, rfl⟩)
      | (go_at_call 17; refine C7.out.mono ?_; rintro e w' ⟨rfl, rfl⟩)
      | (go_at_call 18; refine C8.out.mono ?_; rintro e w' ⟨rfl, rfl⟩)
      | (go_at_call 19; refine C9.out.mono ?_; rintro e w' ⟨rfl, rfl⟩)
      | (go_at_call 20; refine C10.out.mono ?_; rintro e w' ⟨rfl, rfl⟩)
      | (go_at_call 21; refine C11.out.mono ?_; rintro e w' ⟨rfl, rfl⟩))
    go_ret
    exact ⟨rfl, HB2.out⟩
end Go.Proofs.Ytdbiljmkhchihaa
