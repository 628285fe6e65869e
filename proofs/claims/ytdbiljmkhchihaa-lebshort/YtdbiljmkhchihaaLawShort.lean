/- The walk of LebShort: out of the contracts. -/
import Derived.Test.YtdbiljmkhchihaaLebMath4
import Derived.Test.YtdbiljmkhchihaaLebRead2
import Derived.Test.YtdbiljmkhchihaaLebPut
import Derived.Test.YtdbiljmkhchihaaBegun1
import Derived.Test.YtdbiljmkhchihaaRows1
namespace Go.Proofs.Ytdbiljmkhchihaa
open Go.RowKit
set_option linter.unusedVariables false

theorem dgU_len_more (n : Nat) (x : Int) (h : 128 ≤ x) : (dgU (n + 1) x).length = (dgU n (x / 128)).length + 1 := by
  rw [dgU, if_neg (by omega)]; rfl
theorem dgU_len_one (n : Nat) (x : Int) (h : x < 128) : (dgU n x).length = 1 := by
  cases n <;> simp [dgU, h]

/-- How the second loop's bounds stand to the number of groups. -/
theorem short_range (s : Int) (L m : Nat) (hm1 : 1 ≤ m) (hmL : m ≤ L) (hL : L ≤ 10) (i3 : -(64 * 128 ^ (L - 1)) ≤ s) (i4 : s < 64 * 128 ^ (L - 1)) (i5 : L = 1 ∨ s < -(64 * 128 ^ (L - 2)) ∨ 64 * 128 ^ (L - 2) ≤ s) :
    (m = L → -(64 * 128 ^ (m - 1)) ≤ s ∧ s < 64 * 128 ^ (m - 1)) ∧ (m < L → s < -(64 * 128 ^ (m - 1)) ∨ 64 * 128 ^ (m - 1) ≤ s) := by
  refine ⟨fun h => by subst h; exact ⟨i3, i4⟩, fun h => ?_⟩
  have hp : (128 : Int) ^ (m - 1) ≤ 128 ^ (L - 2) := by
    rw [show L - 2 = m - 1 + (L - 2 - (m - 1)) from by omega, Int.pow_add]
    have hP : (0 : Int) < 128 ^ (m - 1) := Int.pow_pos (by omega)
    have hQ : (0 : Int) < 128 ^ (L - 2 - (m - 1)) := Int.pow_pos (by omega)
    generalize (128 : Int) ^ (m - 1) = P at *
    generalize (128 : Int) ^ (L - 2 - (m - 1)) = Q at *
    have : P * 1 ≤ P * Q := Int.mul_le_mul_of_nonneg_left (by omega) (by omega)
    omega
  rcases i5 with i5 | i5 | i5 <;> omega

theorem pow_lit (m : Nat) (h1 : 1 ≤ m) (h2 : m ≤ 8) : (128 : Int) ^ (m - 1) ≤ 562949953421312 ∧ 0 < (128 : Int) ^ (m - 1) := by
  rcases len_cases m h1 (by omega) with rfl | rfl | rfl | rfl | rfl | rfl | rfl | rfl | rfl | rfl <;> simp at * 

set_option maxRecDepth 100000 in
set_option maxHeartbeats 8000000 in
theorem lebShort_core (v s : Int) (w : World) (hv : 0 ≤ v ∧ v < 18446744073709551616) (hs : -9223372036854775808 ≤ s ∧ s < 9223372036854775808) :
    Calls Try.prog 8 #[.int .u64 v, .int .i64 s] w fun e w' => e = .returned (.bool true) ∧ Below w.heap.size w w' := by
  obtain ⟨hv1, hv2⟩ := hv
  obtain ⟨hs1, hs2⟩ := hs
  obtain ⟨u1, u2, u3, u4, u5⟩ := dgU_spec 9 v hv1 (by simp; omega)
  obtain ⟨d1, d2, d3, d4, d5, d6⟩ := dgS_spec 9 s (by simp; omega) (by simp; omega)
  have C1 := Lib.hid (fun W => putU_any none [] 0 0 v W (Rd.nil _ _ _) rfl (by omega) hv1 hv2)
  have C2 := Lib.hid (fun W => putS_any none [] 0 0 s W (Rd.nil _ _ _) rfl (by omega) hs1 hs2)
  simp only [List.nil_append] at C1 C2
  have E2 := Lib.hid (rdS_enc 64 (by omega) s [] hs1 hs2)
  rw [if_pos (by simp; omega), List.append_nil] at E2
  obtain ⟨nU, hnU⟩ : ∃ q, q = (dgU 9 v).length := ⟨_, rfl⟩
  obtain ⟨nS, hnS⟩ : ∃ q, q = (dgS 9 s).length := ⟨_, rfl⟩
  have lu : (encU v).length = nU := by unfold encU; rw [bytesOf_length, hnU]
  have ls : (encS s).length = nS := by unfold encS; rw [bytesOf_length, hnS]
  have pU : 1 ≤ nU ∧ nU ≤ 10 := by rw [hnU]; exact ⟨List.length_pos_iff.2 (dgU_ne _ _), dgU_len 9 v⟩
  have pS : 1 ≤ nS ∧ nS ≤ 10 := by rw [hnS]; exact ⟨List.length_pos_iff.2 (dgS_ne _ _), dgS_len 9 s⟩
  have HR := Lib.hid (fun m (a : 1 ≤ m) (b : m ≤ nS) => short_range s nS m a b pS.2 (by rw [hnS]; exact d3) (by rw [hnS]; exact d4) (by rw [hnS]; exact d5))
  have bU := bytesOf_is _ u1
  have bS := bytesOf_is _ d1
  have big := bytesOf_big _ u1
  have lst := bytesOf_last _ (dgU_ne 9 v) u1
  rw [← hnU] at big lst
  have HBU := Lib.hid (show IsBytes (encU v) ∧ (∀ j, j < nU - 1 → ∀ z ∈ (encU v)[j]?, 128 ≤ z) ∧ (encU v).getD (nU - 1) 0 < 128 from ⟨bU, big, lst.2⟩)
  have HBS := Lib.hid (show IsBytes (encS s) from bS)
  have HU := Lib.hid hnU
  rw [ls] at E2
  have LU := Lib.hid lu
  have LS := Lib.hid ls
  obtain ⟨pU1, pU2⟩ := pU
  obtain ⟨pS1, pS2⟩ := pS
  clear u1 u2 u3 u4 u5 d1 d2 d3 d4 d5 d6 hnU hnS lu ls bU bS big lst
  generalize encU v = lU at *
  generalize encS s = lS at *
  go_enter Try.func8, Try.ntmps8
  go_wp2_with fail
  refine (begun1_any w).mono ?_
  rintro e w1 ⟨rfl, hb1⟩
  have HB1 := Lib.hid hb1
  clear hb1
  go_wp2_with fail
  go_loop [5, 7] (fun n x => ∃ (k : Nat) (y : Int), k ≤ 9 ∧ 0 ≤ y ∧ y < 18446744073709551616 ∧ n = .int .i64 ((k : Int) + 1) ∧ x = .int .u64 y ∧ Hid (y < 128 ^ (9 - k + 1) ∧ nU = k + (dgU (9 - k) y).length)) (fun _ x => (intOf x).toNat)
  case atStart => exact ⟨0, v, by omega, hv1, hv2, rfl, rfl, by simp; omega, by simp; exact HU.out⟩
  case round =>
    obtain ⟨k, y, hk, hy, hy2, rfl, rfl, HY⟩ := hrel
    by_cases hlt : 128 ≤ y
    · have HZ : Hid (k < 9 ∧ y / 128 < 128 ^ (9 - (k + 1) + 1) ∧ nU = (k + 1) + (dgU (9 - (k + 1)) (y / 128)).length) := by
        obtain ⟨y1, y2⟩ := HY.out
        have hk9 : k < 9 := by
          rcases Nat.lt_or_ge k 9 with h | h
          · exact h
          · obtain rfl : k = 9 := by omega
            simp at y1; omega
        refine ⟨hk9, ?_, ?_⟩
        · rw [show 9 - (k + 1) + 1 = 9 - k from by omega]; rw [Int.pow_succ] at y1; omega
        · rw [show 9 - k = 9 - (k + 1) + 1 from by omega, dgU_len_more _ _ hlt] at y2; omega
      have hk9 := HZ.out.1
      have hdq : IntKind.u64.wrap (y.tdiv 128) = y / 128 := by rw [Int.tdiv_eq_ediv_of_nonneg hy, IntKind.wrap_u64]; omega
      go_wp2
      exact ⟨⟨k + 1, y / 128, by omega, by omega, by omega, by go_num, rfl, HZ.out.2⟩, by simp [intOf]; omega⟩
    · have hnk : nU = k + 1 := by have := HY.out.2; rw [dgU_len_one _ _ (by omega)] at this; exact this
      have HK := Lib.hid hnk
      clear HY hnk
      have ek : ((k : Int) + 1) = (nU : Int) := by rw [HK.out]; omega
      rw [ek]
      clear ek
      go_wp2_with fail
      go_loop [6, 8, 9] (fun m lo hi => ∃ (q : Nat) (a b : Int), 1 ≤ q ∧ q ≤ nS ∧ m = .int .i64 q ∧ lo = .int .i64 a ∧ hi = .int .i64 b ∧ Hid (q ≤ 9 → a = -(64 * 128 ^ (q - 1)) ∧ b = 64 * 128 ^ (q - 1) - 1)) (fun m _ _ => 10 - (intOf m).toNat)
      case atStart => exact ⟨1, _, _, by omega, by omega, rfl, rfl, rfl, fun _ => by simp⟩
      case round =>
        obtain ⟨q, a, b, hq1, hq2, rfl, rfl, rfl, HQ⟩ := hrel
        by_cases hqn : q < nS
        · have hout := (HR.out q hq1 hq2).2 hqn
          obtain ⟨ha, hb⟩ := HQ.out (by omega)
          have HN : Hid (q + 1 ≤ 9 → wrap64 (a * 128) = -(64 * 128 ^ (q + 1 - 1)) ∧ wrap64 (wrap64 (b * 128) + 127) = 64 * 128 ^ (q + 1 - 1) - 1) := by
            intro hq9
            have hp := pow_lit q hq1 (by omega)
            rw [show q + 1 - 1 = q - 1 + 1 from by omega, Int.pow_succ, ha, hb]
            unfold wrap64
            omega
          rw [← ha] at hout
          have hout2 : s < a ∨ b < s := by omega
          clear ha hb hout HQ
          rcases hout2 with h | h
          all_goals
            go_wp2
            all_goals exact ⟨⟨q + 1, _, _, by omega, by omega, by go_num, rfl, rfl, HN⟩, by simp [intOf]; omega⟩
        · obtain rfl : q = nS := by omega
          have hin := (HR.out q hq1 hq2).1 rfl
          have hfin : q = 10 ∨ (q < 10 ∧ a ≤ s ∧ s ≤ b) := by
            rcases Nat.lt_or_ge q 10 with h | h
            · right; obtain ⟨ha, hb⟩ := HQ.out (by omega); exact ⟨h, by omega, by omega⟩
            · left; omega
          clear hin HQ HR
          have hb10 : (q : Int) ≤ 10 := by omega
          rcases hfin with rfl | ⟨h0, h1, h2⟩
          all_goals
            go_wp2_with fail
            refine (C1.out w1).mono ?_
            rintro e w2 ⟨v2, rfl, ho2, hb2⟩
            obtain ⟨AU, cU, rfl, hrU, hcU, hcU2⟩ := ho2.form2 HBU.out.1
            rw [LU.out] at hcU ⊢
            have HU2 := Lib.hid hrU
            have HB2 := Lib.hid (HB1.out.trans (hb2.mono HB1.out.size))
            clear ho2 hb2 hrU
            go_wp2_with fail
            refine (C2.out w2).mono ?_
            rintro e w3 ⟨v3, rfl, ho3, hb3⟩
            obtain ⟨AS, cS, rfl, hrS, hcS, hcS2⟩ := ho3.form2 HBS.out
            rw [LS.out] at hcS ⊢
            have HS3 := Lib.hid hrS
            have HU3 := Lib.hid (HU2.out.later hb3)
            have HB3 := Lib.hid (HB2.out.trans (hb3.mono HB2.out.size))
            clear ho3 hb3 hrS HU2 HB2
            unfold maxLen at hcU2 hcS2
            go_wp2_with fail
            go_loop [12] (fun i => ∃ j : Nat, j ≤ nU ∧ i = .int .i64 j) (fun i => nU - (intOf i).toNat)
            case atStart => exact ⟨0, by omega, rfl⟩
            case round =>
              obtain ⟨j, hj, rfl⟩ := hrel
              by_cases hjn : j < nU
              · have hj' : j < lU.length := by rw [LU.out]; exact hjn
                obtain ⟨⟨bk, of, sp⟩, rfl, hbl, hc⟩ := HU3.out.2 j hj'
                obtain ⟨hc0, hc1⟩ := HU3.out.byte hj'
                have hcmp : (j < nU - 1 → 128 ≤ lU.getD j 0) ∧ (¬ j < nU - 1 → lU.getD j 0 < 128) := by
                  refine ⟨fun h => HBU.out.2.1 j h _ ?_, fun h => ?_⟩
                  · rw [List.getD_eq_getElem?_getD, List.getElem?_eq_getElem hj']; simp
                  · rw [show j = nU - 1 from by omega]; exact HBU.out.2.2
                generalize lU.getD j 0 = cc at *
                by_cases hlast : j < nU - 1
                · have h128 := hcmp.1 hlast
                  have hlast' : (j : Int) < (nU : Int) - 1 := by omega
                  clear hcmp
                  go_wp2
                  exact ⟨⟨j + 1, by omega, by go_num⟩, by simp [intOf]; omega⟩
                · have h128 := hcmp.2 hlast
                  have hlast' : ¬ (j : Int) < (nU : Int) - 1 := by omega
                  clear hcmp
                  go_wp2
                  exact ⟨⟨j + 1, by omega, by go_num⟩, by simp [intOf]; omega⟩
              · go_wp2_with fail
                refine (S64_any AS lS _ cS w3 HS3.out LS.out.symm (by simp only [maxLen]; omega)).mono ?_
                rintro e w' ⟨rfl, rfl⟩
                rw [E2.out]
                unfold three
                go_wp2
                go_ret
                exact ⟨rfl, HB3.out⟩
end Go.Proofs.Ytdbiljmkhchihaa
