/- The walk of LebBack: out of the contracts. -/
import Derived.Test.YtdbiljmkhchihaaLebMath3
import Derived.Test.YtdbiljmkhchihaaLebRead2
import Derived.Test.YtdbiljmkhchihaaLebPut
import Derived.Test.YtdbiljmkhchihaaBegun1
import Derived.Test.YtdbiljmkhchihaaRows1
import Derived.Test.YtdbiljmkhchihaaPlace
namespace Go.Proofs.Ytdbiljmkhchihaa
open Go.RowKit
set_option linter.unusedVariables false

theorem encU_pos (v : Int) : 0 < (encU v).length ∧ (encU v).length ≤ 10 := by
  unfold encU; rw [bytesOf_length]; exact ⟨List.length_pos_iff.2 (dgU_ne _ _), dgU_len 9 v⟩
theorem encS_pos (v : Int) : 0 < (encS v).length ∧ (encS v).length ≤ 10 := by
  unfold encS; rw [bytesOf_length]; exact ⟨List.length_pos_iff.2 (dgS_ne _ _), dgS_len 9 v⟩
theorem rdU_cut (v : Int) (h0 : 0 ≤ v) (h1 : v < 18446744073709551616) (j : Nat) (hj : j < (encU v).length) : rdU 64 ((encU v).take j) = (0, 0, 3) := by
  have := encU_pos v
  unfold rdU encU at *
  rw [bytesOf_length] at *
  exact dec_cut 64 fitU _ (dgU_spec 9 v h0 (by simp; omega)).1 j hj (by omega)
theorem rdS_cut (v : Int) (h0 : -9223372036854775808 ≤ v) (h1 : v < 9223372036854775808) (j : Nat) (hj : j < (encS v).length) : rdS 64 ((encS v).take j) = (0, 0, 3) := by
  have := encS_pos v
  unfold encS at *
  rw [bytesOf_length] at *
  unfold rdS
  rw [dec_cut 64 fitS _ (dgS_spec 9 v (by simp; omega) (by simp; omega)).1 j hj (by omega)]
  rfl

set_option maxRecDepth 100000 in
set_option maxHeartbeats 8000000 in
theorem lebBack_core (A : Option Addr) (l : List Int) (n c : Nat) (v s : Int) (cut : Int) (w : World) (h : Rd w w.heap.size A l) (hn : n = l.length) (hl : n ≤ maxLen) (hv : 0 ≤ v ∧ v < 18446744073709551616) (hs : -9223372036854775808 ≤ s ∧ s < 9223372036854775808) (hcut : -9223372036854775808 ≤ cut ∧ cut < 9223372036854775808) :
    Calls Try.prog 5 #[.int .u64 v, .int .i64 s, .slice A n c, .int .i64 cut] w fun e w' => e = .returned (.bool true) ∧ Below w.heap.size w w' := by
  have HR := Lib.hid h
  have HN := Lib.hid hn
  have HV := Lib.hid (And.intro hv (And.intro hs hcut))
  clear h hn hcut
  obtain ⟨hv1, hv2⟩ := hv
  obtain ⟨hs1, hs2⟩ := hs
  unfold maxLen at hl
  by_cases h10 : 10 < n
  · go_enter Try.func5, Try.ntmps5
    go_wp2_with fail
    refine (begun1_any w).mono ?_
    rintro e w1 ⟨rfl, hb1⟩
    have HB1 := Lib.hid hb1
    clear hb1
    go_wp2
    go_ret
    exact ⟨rfl, HB1.out⟩
  · have hbU : IsBytes (encU v) := bytesU_is 9 v hv1 (by simp; omega)
    have hbS : IsBytes (encS s) := bytesS_is 9 s
    obtain ⟨hpU, hpU2⟩ := encU_pos v
    obtain ⟨hpS, hpS2⟩ := encS_pos s
    have C1 := Lib.hid (fun W => putU_any none [] 0 0 v W (Rd.nil _ _ _) rfl (by omega) hv1 hv2)
    have C2 := Lib.hid (fun W => putS_any none [] 0 0 s W (Rd.nil _ _ _) rfl (by omega) hs1 hs2)
    simp only [List.nil_append] at C1 C2
    have E1 := Lib.hid (rdU64_enc v l hv1 hv2)
    have E2 := Lib.hid (rdS_enc 64 (by omega) s l hs1 hs2)
    rw [if_pos (by simp; omega)] at E2
    have E3 := Lib.hid (fun j hj => rdU_cut v hv1 hv2 j hj)
    have E4 := Lib.hid (fun j hj => rdS_cut s hs1 hs2 j hj)
    have E5 := Lib.hid (rdU32_enc v [] hv1 hv2)
    have E6 := Lib.hid (rdS_enc 32 (by omega) s [] hs1 hs2)
    have E7 := Lib.hid (rdS_enc 33 (by omega) s [] hs1 hs2)
    rw [List.append_nil] at E5 E6 E7
    have BU := Lib.hid hbU
    have BS := Lib.hid hbS
    clear hbU hbS
    generalize encU v = LU at *
    generalize encS s = LS at *
    obtain ⟨nU, hnU⟩ : ∃ k, k = LU.length := ⟨_, rfl⟩
    obtain ⟨nS, hnS⟩ : ∃ k, k = LS.length := ⟨_, rfl⟩
    have hnU1 : 0 < nU ∧ nU ≤ 10 := by omega
    have hnS1 : 0 < nS ∧ nS ≤ 10 := by omega
    obtain ⟨hnU1, hnU2⟩ := hnU1
    obtain ⟨hnS1, hnS2⟩ := hnS1
    have NU := Lib.hid hnU
    have NS := Lib.hid hnS
    clear hnU hnS hpU hpU2 hpS hpS2
    rw [← NU.out] at E1 E3 E5
    rw [← NS.out] at E2 E4 E6 E7
    go_enter Try.func5, Try.ntmps5
    go_wp2_with fail
    refine (begun1_any w).mono ?_
    rintro e w1 ⟨rfl, hb1⟩
    have HB1 := Lib.hid hb1
    have HR1 := Lib.hid (HR.out.later hb1)
    clear hb1 HR
    go_wp2_with fail
    refine (C1.out w1).mono ?_
    rintro e w2 ⟨v2, rfl, ho2, hb2⟩
    obtain ⟨AU, cU, rfl, hrU, hcU, hcU2⟩ := ho2.form2 BU.out
    rw [← NU.out] at hcU ⊢
    have HU := Lib.hid hrU
    have HB2 := Lib.hid (HB1.out.trans (hb2.mono HB1.out.size))
    have HR2 := Lib.hid (HR1.out.later hb2)
    clear ho2 hb2 hrU C1 HB1 HR1
    go_wp2_with fail
    refine (C2.out w2).mono ?_
    rintro e w3 ⟨v3, rfl, ho3, hb3⟩
    obtain ⟨AS, cS, rfl, hrS, hcS, hcS2⟩ := ho3.form2 BS.out
    rw [← NS.out] at hcS ⊢
    have HS := Lib.hid hrS
    have HU3 := Lib.hid (HU.out.later hb3)
    have HB3 := Lib.hid (HB2.out.trans (hb3.mono HB2.out.size))
    have HR3 := Lib.hid (HR2.out.later hb3)
    clear ho3 hb3 hrS C2 HB2 HR2 HU
    unfold maxLen at hcU2 hcS2
    go_wp2_with (first
      | (at_builtin; refine wpList_app rfl (.tmp 42) (.tmp 43) rfl w3.heap.size _ [] rfl (ownB_lit0 w3) AU nU cU LU rfl NU.out (by exact HU3.out.later ((Below.refl _ _).alloc (Nat.le_refl _) _)) (by simp; omega) (by simp) ?_; intro v4 w4 hv4 hw4; have H4 := Lib.hid (And.intro hv4 (((Below.refl w3.heap.size w3).alloc (Nat.le_refl _) (.cells #[] 5)).trans hw4)); clear hv4 hw4)
      | (at_builtin; refine wpList_app rfl (.tmp 44) (.tmp 45) rfl w3.heap.size v4 _ rfl H4.out.1 A n c l rfl HN.out (by exact HR3.out.later H4.out.2) (by simp; rw [← NU.out]; omega) H4.out.2.size ?_; intro v5 w5 hv5 hw5; rw [List.nil_append] at hv5; obtain ⟨A5, c5, hf5, hr5, _, _⟩ := hv5.form2 (BU.out.app HR3.out.1); subst hf5; have H5 := Lib.hid (And.intro hr5 (H4.out.2.trans hw5)); clear hv5 hw5 hr5 H4))
    refine (U64_any A5 (LU ++ l) (LU.length + l.length) c5 w5 H5.out.1 (by simp) (by rw [← NU.out, ← HN.out]; simp only [maxLen]; omega)).mono ?_
    rintro e w' ⟨rfl, rfl⟩
    rw [E1.out]
    unfold three
    have HB5 := Lib.hid (HB3.out.trans (H5.out.2.mono HB3.out.size))
    have HR5 := Lib.hid (HR3.out.later H5.out.2)
    have HU5 := Lib.hid (HU3.out.later H5.out.2)
    have HS5 := Lib.hid (HS.out.later H5.out.2)
    clear H5 HB3 HR3 HU3 HS E1
    go_wp2_with (first
      | (at_builtin; refine wpList_app rfl (.tmp 52) (.tmp 53) rfl w5.heap.size _ [] rfl (ownB_lit0 w5) AS nS cS LS rfl NS.out (by exact HS5.out.later ((Below.refl _ _).alloc (Nat.le_refl _) _)) (by simp; omega) (by simp) ?_; intro v6 w6 hv6 hw6; have H6 := Lib.hid (And.intro hv6 (((Below.refl w5.heap.size w5).alloc (Nat.le_refl _) (.cells #[] 5)).trans hw6)); clear hv6 hw6)
      | (at_builtin; refine wpList_app rfl (.tmp 54) (.tmp 55) rfl w5.heap.size v6 _ rfl H6.out.1 A n c l rfl HN.out (by exact HR5.out.later H6.out.2) (by simp; rw [← NS.out]; omega) H6.out.2.size ?_; intro v7 w7 hv7 hw7; rw [List.nil_append] at hv7; obtain ⟨A7, c7, hf7, hr7, _, _⟩ := hv7.form2 (BS.out.app HR5.out.1); subst hf7; have H7 := Lib.hid (And.intro hr7 (H6.out.2.trans hw7)); clear hv7 hw7 hr7 H6))
    refine (S64_any A7 (LS ++ l) (LS.length + l.length) c7 w7 H7.out.1 (by simp) (by rw [← NS.out, ← HN.out]; simp only [maxLen]; omega)).mono ?_
    rintro e w' ⟨rfl, rfl⟩
    rw [E2.out]
    unfold three
    have HB7 := Lib.hid (HB5.out.trans (H7.out.2.mono HB5.out.size))
    have HU7 := Lib.hid (HU5.out.later H7.out.2)
    have HS7 := Lib.hid (HS5.out.later H7.out.2)
    clear H7 HB5 HR5 HU5 HS5 E2
    go_wp2_with fail
    refine (place_any cut nU w7 hnU1 (by omega) HV.out.2.2).mono ?_
    rintro e w' ⟨j, rfl, hj, rfl⟩
    go_wp2_with fail
    refine (U64_any AU (LU.take j) j cU w7 (HU7.out.take j) (by simp; rw [← NU.out]; omega) (by simp only [maxLen]; omega)).mono ?_
    rintro e w' ⟨rfl, rfl⟩
    rw [E3.out j hj]
    unfold three
    clear E3
    go_wp2_with fail
    refine (place_any cut nS w7 hnS1 (by omega) HV.out.2.2).mono ?_
    rintro e w' ⟨i, rfl, hi, rfl⟩
    go_wp2_with fail
    refine (S64_any AS (LS.take i) i cS w7 (HS7.out.take i) (by simp; rw [← NS.out]; omega) (by simp only [maxLen]; omega)).mono ?_
    rintro e w' ⟨rfl, rfl⟩
    rw [E4.out i hi]
    unfold three
    clear E4
    go_wp2_with fail
    refine (U32_any AU LU nU cU w7 HU7.out NU.out (by simp only [maxLen]; omega)).mono ?_
    rintro e w' ⟨rfl, rfl⟩
    rw [E5.out]
    unfold three on1
    generalize hr1 : (if v < 4294967296 then (v, (nU : Int), (0 : Int)) else (0, 0, 2)) = r1
    have R1 := Lib.hid hr1
    clear hr1
    obtain ⟨p1, p2, p3⟩ := r1
    go_wp2_with fail
    refine (S32_any AS LS nS cS w7 HS7.out NS.out (by simp only [maxLen]; omega)).mono ?_
    rintro e w' ⟨rfl, rfl⟩
    rw [E6.out]
    unfold three on1
    generalize hr2 : (if -2 ^ ((32 : Int) - 1).toNat ≤ s ∧ s < 2 ^ ((32 : Int) - 1).toNat then (s, (nS : Int), (0 : Int)) else (0, 0, 2)) = r2
    have R2 := Lib.hid hr2
    clear hr2
    obtain ⟨q1, q2, q3⟩ := r2
    go_wp2_with fail
    refine (S33_any AS LS nS cS w7 HS7.out NS.out (by simp only [maxLen]; omega)).mono ?_
    rintro e w' ⟨rfl, rfl⟩
    rw [E7.out]
    unfold three
    generalize hr3 : (if -2 ^ ((33 : Int) - 1).toNat ≤ s ∧ s < 2 ^ ((33 : Int) - 1).toNat then (s, (nS : Int), (0 : Int)) else (0, 0, 2)) = r3
    have R3 := Lib.hid hr3
    clear hr3
    obtain ⟨t1, t2, t3⟩ := r3
    clear E5 E6 E7 HU7 HS7 BU BS HV
    have P1 : (v < 4294967296 ∧ p1 = v ∧ p3 = 0) ∨ (¬ v < 4294967296 ∧ p1 = 0 ∧ p3 = 2) := by
      have := R1.out
      split at this <;> simp only [Prod.mk.injEq] at this
      · exact .inl ⟨by assumption, by omega, by omega⟩
      · exact .inr ⟨by assumption, by omega, by omega⟩
    have P2 : (-2147483648 ≤ s ∧ s < 2147483648 ∧ q1 = s ∧ q3 = 0 ∧ t1 = s ∧ t3 = 0) ∨ (-4294967296 ≤ s ∧ s < -2147483648 ∧ q1 = 0 ∧ q3 = 2 ∧ t1 = s ∧ t3 = 0) ∨ (2147483648 ≤ s ∧ s < 4294967296 ∧ q1 = 0 ∧ q3 = 2 ∧ t1 = s ∧ t3 = 0) ∨ (s < -4294967296 ∧ s < -2147483648 ∧ q1 = 0 ∧ q3 = 2 ∧ t1 = 0 ∧ t3 = 2) ∨ (2147483648 ≤ s ∧ 4294967296 ≤ s ∧ q1 = 0 ∧ q3 = 2 ∧ t1 = 0 ∧ t3 = 2) := by
      have a := R2.out
      have b := R3.out
      simp only [show ((32 : Int) - 1).toNat = 31 from rfl, show ((33 : Int) - 1).toNat = 32 from rfl, show (2 : Int) ^ 31 = 2147483648 from rfl, show (2 : Int) ^ 32 = 4294967296 from rfl] at a b
      split at a <;> split at b <;> simp only [Prod.mk.injEq] at a b
      · left; omega
      · omega
      · right
        rcases Int.lt_or_le s 0 with h | h
        · left; omega
        · right; left; omega
      · right; right; right
        rcases Int.lt_or_le s 0 with h | h
        · left; omega
        · right; omega
    clear R1 R2 R3
    obtain ⟨y, hy⟩ : ∃ y, wrap32 s = y := ⟨_, rfl⟩
    have hy3 : wrap64 y = y := by rw [← hy]; unfold wrap64 wrap32; omega
    have HY : Hid ((s < -2147483648 → (s == y) = false) ∧ (2147483648 ≤ s → (s == y) = false)) := by
      refine ⟨fun h => ?_, fun h => ?_⟩ <;> rw [← hy] <;> simp [wrap32] <;> omega
    have HW : Hid (-2147483648 ≤ s → s < 2147483648 → wrap32 s = s) := by intro h h'; unfold wrap32; omega
    rcases P1 with ⟨a1, rfl, rfl⟩ | ⟨a1, rfl, rfl⟩
    · rcases P2 with ⟨b1, b2, rfl, rfl, rfl, rfl⟩ | ⟨b1, b2, rfl, rfl, rfl, rfl⟩ | ⟨b1, b2, rfl, rfl, rfl, rfl⟩ | ⟨b1, b2, rfl, rfl, rfl, rfl⟩ | ⟨b1, b2, rfl, rfl, rfl, rfl⟩
      · have hw := HW.out b1 b2
        clear HW HY hy hy3
        go_wp2
        go_ret
        exact ⟨rfl, HB7.out⟩
      · have hw := HY.out.1 b2
        clear HW HY
        go_wp2
        go_ret
        exact ⟨rfl, HB7.out⟩
      · have hw := HY.out.2 b1
        clear HW HY
        go_wp2
        go_ret
        exact ⟨rfl, HB7.out⟩
      · have hw := HY.out.1 b2
        clear HW HY
        go_wp2
        go_ret
        exact ⟨rfl, HB7.out⟩
      · have hw := HY.out.2 b1
        have hd : decide (s < 4294967296) = false := by simp; omega
        clear HW HY
        go_wp2
        go_ret
        exact ⟨rfl, HB7.out⟩
    · rcases P2 with ⟨b1, b2, rfl, rfl, rfl, rfl⟩ | ⟨b1, b2, rfl, rfl, rfl, rfl⟩ | ⟨b1, b2, rfl, rfl, rfl, rfl⟩ | ⟨b1, b2, rfl, rfl, rfl, rfl⟩ | ⟨b1, b2, rfl, rfl, rfl, rfl⟩
      · have hw := HW.out b1 b2
        clear HW HY hy hy3
        go_wp2
        go_ret
        exact ⟨rfl, HB7.out⟩
      · have hw := HY.out.1 b2
        clear HW HY
        go_wp2
        go_ret
        exact ⟨rfl, HB7.out⟩
      · have hw := HY.out.2 b1
        clear HW HY
        go_wp2
        go_ret
        exact ⟨rfl, HB7.out⟩
      · have hw := HY.out.1 b2
        clear HW HY
        go_wp2
        go_ret
        exact ⟨rfl, HB7.out⟩
      · have hw := HY.out.2 b1
        have hd : decide (s < 4294967296) = false := by simp; omega
        clear HW HY
        go_wp2
        go_ret
        exact ⟨rfl, HB7.out⟩
end Go.Proofs.Ytdbiljmkhchihaa
