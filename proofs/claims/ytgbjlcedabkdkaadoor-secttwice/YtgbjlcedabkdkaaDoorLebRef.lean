/- What the document's readers come to: the same numbers. -/
import Derived.Test.YtgbjlcedabkdkaaDoorLebRead2
namespace Go.Proofs.YtgbjlcedabkdkaaDoor
open Go.RowKit
set_option maxRecDepth 100000
set_option linter.unusedVariables false

theorem and127 (c : Int) (h0 : 0 ≤ c) (h1 : c ≤ 255) : Go.bits .and .u8 c 127 = c % 128 := by
  rw [u8_and c 127 h0 (by omega) (by omega) (by omega), show (127 : Int).toNat = 127 from rfl, nat_mask7]
  omega
theorem and64 (c : Int) (h0 : 0 ≤ c) (h1 : c < 128) : Go.bits .and .u8 c 64 = if c < 64 then 0 else 64 := by
  obtain ⟨c, rfl⟩ : ∃ n : Nat, c = n := ⟨c.toNat, by omega⟩
  have key : ∀ a : Fin 128, Go.bits .and .u8 (a.val : Int) 64 = if (a.val : Int) < 64 then 0 else 64 := by decide +kernel
  exact key ⟨c, by omega⟩
theorem acc_eq7 (x c : Int) (k : Nat) (h0 : 0 ≤ x) (hx : x < 2 ^ (k * 7)) (hk : k ≤ 9) (h1 : 0 ≤ c) (h2 : c ≤ 255) :
    Go.bits .or .u64 x (IntKind.u64.wrap (c % 128 * 2 ^ (7 * k))) = (x + c % 128 * 2 ^ (k * 7)) % 18446744073709551616 := by
  rw [Nat.mul_comm 7 k]; exact acc_eq x c k h0 hx hk h1 h2
theorem three_err (a : Int) : three .u64 .i64 .i64 (0, 0, a) = .returned (.tuple #[.int .u64 0, .int .i64 0, .int .i64 a]) := rfl
/-- What the document's reader gives of a signed number: the same, as an unsigned one. -/
def rdN (bits : Int) (l : List Int) : Int × Int × Int := on1 (· % 18446744073709551616) (rdS bits l)
theorem rdN_ok (bits : Int) (l : List Int) (u m : Int) (h : dec bits fitS l 0 0 = (u, m, 0)) : rdN bits l = (sx u m % 18446744073709551616, m, 0) := by
  simp [rdN, rdS, on1, h]
theorem rdN_no (bits : Int) (l : List Int) (e : Int) (he : e ≠ 0) (h : dec bits fitS l 0 0 = (0, 0, e)) : rdN bits l = (0, 0, e) := by
  simp [rdN, rdS, on1, h, he]
theorem sx_top (u : Int) (m : Nat) (h : 64 ≤ (m : Int) * 7) (h0 : 0 ≤ u) (h1 : u < 18446744073709551616) : sx u m % 18446744073709551616 = u := by
  rw [sx_ge u m h, IntKind.wrap_u64]; unfold wrap64; omega
theorem sx_plus (x c : Int) (k : Nat) (h0 : 0 ≤ x) (hx : x < 2 ^ (k * 7)) (hk : k ≤ 8) (h1 : 0 ≤ c) (h2 : c < 64) :
    sx ((x + c % 128 * 2 ^ (k * 7)) % 18446744073709551616) ((k : Int) + 1) % 18446744073709551616 = (x + c % 128 * 2 ^ (k * 7)) % 18446744073709551616 := by
  rw [sx_last x c k h0 hx hk h1 (by omega), if_pos h2, show c % 128 = c from by omega]

set_option maxHeartbeats 4000000 in
set_option maxRecDepth 100000 in
theorem numberU (A : Option Addr) (l : List Int) (n c : Nat) (bits : Int) (w : World) (h : Rd w w.heap.size A l) (hn : n = l.length) (hl : n ≤ maxLen) (hb : 1 ≤ bits) (hb2 : bits ≤ 64) :
    Calls Tryd.prog 40 #[.slice A n c, .int .i64 bits, .bool false] w fun e w' => e = three .u64 .i64 .i64 (dec bits fitU l 0 0) ∧ w = w' := by
  have HN := Lib.hid hn
  clear hn
  have HR := Lib.hid h
  clear h
  unfold maxLen at hl
  go_enter Tryd.func40, Tryd.ntmps40
  go_wp2
  go_loop [9, 11] (fun v i => ∃ (x : Int) (k : Nat), k ≤ n ∧ 7 * k < bits ∧ 0 ≤ x ∧ x < 2 ^ (k * 7) ∧ Hid (dec bits fitU l 0 0 = dec bits fitU (l.drop k) k x) ∧ i = .int .i64 k ∧ v = .int .u64 x) (fun _ i => n - (intOf i).toNat)
  case atStart => exact ⟨0, 0, Nat.zero_le _, by omega, by omega, by simp, rfl, rfl, rfl⟩
  case round =>
    obtain ⟨x, k, hk, hk7, hx0, hx1, HD, rfl, rfl⟩ := hrel
    have hm : (k : Int) < (bits + 6) / 7 := by omega
    by_cases hlt : k < n
    · have hlt' : k < l.length := by rw [← HN.out]; exact hlt
      obtain ⟨⟨b, o, sp⟩, rfl, hbl, hc⟩ := HR.out.2 k hlt'
      obtain ⟨hc0, hc1⟩ := HR.out.byte hlt'
      have HS := Lib.hid (dec_drop bits fitU l k x hlt')
      generalize l.getD k 0 = cc at *
      have ha := and127 cc hc0 hc1
      have HA := Lib.hid (acc_eq7 x cc k hx0 hx1 (by omega) hc0 hc1)
      have HP := Lib.hid hx1
      clear hx1
      by_cases h7 : bits - k * 7 ≤ 7
      · have hq : ((k : Int) == (bits + 6) / 7 - 1) = true := by simp; omega
        by_cases h128 : 128 ≤ cc
        · have hres : dec bits fitU l 0 0 = (0, 0, 2) := by
            have hd : dec bits fitU l 0 0 = (0, 0, 2) := by rw [HD.out, HS.out, if_pos ⟨h7, .inl h128⟩]
            exact hd
          have HQ := Lib.hid hres
          clear hres
          go_wp2
          go_ret3
          exact ⟨by rw [HQ.out]; rfl, rfl⟩
        · have HF := Lib.hid (show fitU (cc % 128) (bits - k * 7) = (cc % 128 / 2 ^ (bits - 7 * (k : Int)).toNat == 0) from by rw [show 7 * (k : Int) = k * 7 from by omega]; rfl)
          by_cases hf : fitU (cc % 128) (bits - k * 7) = true
          · have hd : dec bits fitU l 0 0 = ((x + cc % 128 * 2 ^ (k * 7)) % 18446744073709551616, (k : Int) + 1, 0) := by
              rw [HD.out, HS.out, if_neg (by simp [hf]; omega), if_pos (by omega)]
            have ht : (cc % 128 / 2 ^ (bits - 7 * (k : Int)).toNat != 0) = false := by
              rw [HF.out] at hf; simpa using hf
            clear hf
            have HQ := Lib.hid hd
            clear hd
            go_wp2
            go_ret3
            refine ⟨?_, rfl⟩
            rw [HQ.out]
            unfold three
            rw [← HA.out]
            rfl
          · have hf' : fitU (cc % 128) (bits - k * 7) = false := by simpa using hf
            have hd : dec bits fitU l 0 0 = (0, 0, 2) := by rw [HD.out, HS.out, if_pos ⟨h7, .inr hf'⟩]
            have ht : (cc % 128 / 2 ^ (bits - 7 * (k : Int)).toNat != 0) = true := by
              rw [HF.out] at hf; simpa using hf
            have HQ := Lib.hid hd
            clear hd hf hf'
            go_wp2
            go_ret3
            exact ⟨by rw [HQ.out]; rfl, rfl⟩
      · have hq : ((k : Int) == (bits + 6) / 7 - 1) = false := by simp; omega
        have HB := Lib.hid (acc_bd x cc k hx0 HP.out (by omega) hc0 hc1)
        by_cases h128 : cc < 128
        · have hd : dec bits fitU l 0 0 = ((x + cc % 128 * 2 ^ (k * 7)) % 18446744073709551616, (k : Int) + 1, 0) := by
            rw [HD.out, HS.out, if_neg (by omega), if_pos h128]
          have HQ := Lib.hid hd
          clear hd
          go_wp2
          go_ret3
          refine ⟨?_, rfl⟩
          rw [HQ.out]
          unfold three
          rw [← HA.out]
          rfl
        · have hres : dec bits fitU l 0 0 = dec bits fitU (l.drop (k + 1)) (k + 1) ((x + cc % 128 * 2 ^ (k * 7)) % 18446744073709551616) := by
            rw [HD.out, HS.out, if_neg (by omega), if_neg h128]
          have HQ := Lib.hid hres
          clear hres
          go_wp2
          rw [HA.out]
          refine ⟨⟨_, k + 1, by omega, by omega, HB.out.1, HB.out.2, HQ, by go_num, rfl⟩, ?_⟩
          simp [intOf]; omega
    · have hres : dec bits fitU l 0 0 = (0, 0, 3) := by
        have hd : dec bits fitU l 0 0 = (0, 0, 3) := by
          rw [HD.out, List.drop_of_length_le (by rw [← HN.out]; omega)]; rfl
        exact hd
      have HQ := Lib.hid hres
      clear hres
      go_wp2
      go_ret3
      exact ⟨by rw [HQ.out]; rfl, rfl⟩

set_option maxHeartbeats 4000000 in
set_option maxRecDepth 100000 in
theorem numberS (A : Option Addr) (l : List Int) (n c : Nat) (bits : Int) (w : World) (h : Rd w w.heap.size A l) (hn : n = l.length) (hl : n ≤ maxLen) (hb : 1 ≤ bits) (hb2 : bits ≤ 64) :
    Calls Tryd.prog 40 #[.slice A n c, .int .i64 bits, .bool true] w fun e w' => e = three .u64 .i64 .i64 (rdN bits l) ∧ w = w' := by
  have HN := Lib.hid hn
  clear hn
  have HR := Lib.hid h
  clear h
  unfold maxLen at hl
  go_enter Tryd.func40, Tryd.ntmps40
  go_wp2
  go_loop [9, 11] (fun v i => ∃ (x : Int) (k : Nat), k ≤ n ∧ 7 * k < bits ∧ 0 ≤ x ∧ x < 2 ^ (k * 7) ∧ Hid (dec bits fitS l 0 0 = dec bits fitS (l.drop k) k x) ∧ i = .int .i64 k ∧ v = .int .u64 x) (fun _ i => n - (intOf i).toNat)
  case atStart => exact ⟨0, 0, Nat.zero_le _, by omega, by omega, by simp, rfl, rfl, rfl⟩
  case round =>
    obtain ⟨x, k, hk, hk7, hx0, hx1, HD, rfl, rfl⟩ := hrel
    have hm : (k : Int) < (bits + 6) / 7 := by omega
    by_cases hlt : k < n
    · have hlt' : k < l.length := by rw [← HN.out]; exact hlt
      obtain ⟨⟨b, o, sp⟩, rfl, hbl, hc⟩ := HR.out.2 k hlt'
      obtain ⟨hc0, hc1⟩ := HR.out.byte hlt'
      have HS := Lib.hid (dec_drop bits fitS l k x hlt')
      generalize l.getD k 0 = cc at *
      have ha := and127 cc hc0 hc1
      have HA := Lib.hid (acc_eq7 x cc k hx0 hx1 (by omega) hc0 hc1)
      have HP := Lib.hid hx1
      clear hx1
      by_cases h7 : bits - k * 7 ≤ 7
      · have hq : ((k : Int) == (bits + 6) / 7 - 1) = true := by simp; omega
        by_cases h128 : 128 ≤ cc
        · have hres : rdN bits l = (0, 0, 2) := by
            have hd : dec bits fitS l 0 0 = (0, 0, 2) := by rw [HD.out, HS.out, if_pos ⟨h7, .inl h128⟩]
            exact rdN_no bits l 2 (by omega) hd
          have HQ := Lib.hid hres
          clear hres
          go_wp2
          go_ret3
          exact ⟨by rw [HQ.out]; rfl, rfl⟩
        · have HF := Lib.hid (show fitS (cc % 128) (bits - k * 7) = !(cc % 128 / 2 ^ ((bits - 7 * (k : Int)).toNat - 1) != 0 && cc % 128 / 2 ^ ((bits - 7 * (k : Int)).toNat - 1) != 127 / 2 ^ ((bits - 7 * (k : Int)).toNat - 1)) from by rw [show 7 * (k : Int) = k * 7 from by omega, show (bits - (k : Int) * 7).toNat - 1 = (bits - (k : Int) * 7 - 1).toNat from by omega]; exact fitS_eq _ _ (by omega) (by omega) (by omega) (by omega))
          by_cases hf : fitS (cc % 128) (bits - k * 7) = true
          · have hd : dec bits fitS l 0 0 = ((x + cc % 128 * 2 ^ (k * 7)) % 18446744073709551616, (k : Int) + 1, 0) := by
              rw [HD.out, HS.out, if_neg (by simp [hf]; omega), if_pos (by omega)]
            by_cases ht0 : cc % 128 / 2 ^ ((bits - 7 * (k : Int)).toNat - 1) = 0
            · have ht : (cc % 128 / 2 ^ ((bits - 7 * (k : Int)).toNat - 1) != 0) = false := by simpa using ht0
              clear hf ht0
              have hcm : cc % 128 = cc := by omega
              have HCM := Lib.hid hcm
              clear hcm
              by_cases h64 : cc < 64
              · have h6 : (Go.bits .and .u8 cc 64 != 0) = false := by rw [and64 cc hc0 (by omega), if_pos h64]; rfl
                have hres : rdN bits l = ((x + cc % 128 * 2 ^ (k * 7)) % 18446744073709551616, (k : Int) + 1, 0) := by
                  rw [rdN_ok bits l _ _ hd]
                  by_cases h8 : k ≤ 8
                  · rw [sx_plus x cc k hx0 HP.out h8 hc0 h64]
                  · have := sx_top ((x + cc % 128 * 2 ^ (k * 7)) % 18446744073709551616) (k + 1) (by omega) (by omega) (by omega)
                    rw [show ((k + 1 : Nat) : Int) = (k : Int) + 1 from by omega] at this
                    rw [this]
                have HQ := Lib.hid hres
                clear hres hd
                go_wp2
                go_ret3
                refine ⟨?_, rfl⟩
                rw [HQ.out]
                unfold three
                rw [← HA.out]
                rfl
              · have h6 : (Go.bits .and .u8 cc 64 != 0) = true := by rw [and64 cc hc0 (by omega), if_neg h64]; rfl
                by_cases h8 : k ≤ 8
                · have hres : rdN bits l = (Go.bits .or .u64 ((x + cc % 128 * 2 ^ (k * 7)) % 18446744073709551616) (IntKind.u64.wrap (18446744073709551615 * 2 ^ (k * 7 + 7))), (k : Int) + 1, 0) := by
                    rw [rdN_ok bits l _ _ hd, signed_or x cc k hx0 HP.out h8 (by omega) (by omega)]
                  have HQ := Lib.hid hres
                  have h9 : 7 * (k : Int) + 7 < 64 := by omega
                  clear hres hd
                  go_wp2
                  go_ret3
                  refine ⟨?_, rfl⟩
                  rw [HQ.out]
                  unfold three
                  rw [← HA.out, Nat.mul_comm k 7]
                  rfl
                · have hres : rdN bits l = ((x + cc % 128 * 2 ^ (k * 7)) % 18446744073709551616, (k : Int) + 1, 0) := by
                    rw [rdN_ok bits l _ _ hd]
                    have := sx_top ((x + cc % 128 * 2 ^ (k * 7)) % 18446744073709551616) (k + 1) (by omega) (by omega) (by omega)
                    rw [show ((k + 1 : Nat) : Int) = (k : Int) + 1 from by omega] at this
                    rw [this]
                  have HQ := Lib.hid hres
                  clear hres hd
                  go_wp2
                  go_ret3
                  refine ⟨?_, rfl⟩
                  rw [HQ.out]
                  unfold three
                  rw [← HA.out]
                  rfl
            · have ht : (cc % 128 / 2 ^ ((bits - 7 * (k : Int)).toNat - 1) != 0) = true := by simpa using ht0
              have ht2 : (cc % 128 / 2 ^ ((bits - 7 * (k : Int)).toNat - 1) != 127 / 2 ^ ((bits - 7 * (k : Int)).toNat - 1)) = false := by
                rw [HF.out, ht] at hf; simpa using hf
              clear hf ht0
              have hcm : cc % 128 = cc := by omega
              have HCM := Lib.hid hcm
              clear hcm
              by_cases h64 : cc < 64
              · have h6 : (Go.bits .and .u8 cc 64 != 0) = false := by rw [and64 cc hc0 (by omega), if_pos h64]; rfl
                have hres : rdN bits l = ((x + cc % 128 * 2 ^ (k * 7)) % 18446744073709551616, (k : Int) + 1, 0) := by
                  rw [rdN_ok bits l _ _ hd]
                  by_cases h8 : k ≤ 8
                  · rw [sx_plus x cc k hx0 HP.out h8 hc0 h64]
                  · have := sx_top ((x + cc % 128 * 2 ^ (k * 7)) % 18446744073709551616) (k + 1) (by omega) (by omega) (by omega)
                    rw [show ((k + 1 : Nat) : Int) = (k : Int) + 1 from by omega] at this
                    rw [this]
                have HQ := Lib.hid hres
                clear hres hd
                go_wp2
                go_ret3
                refine ⟨?_, rfl⟩
                rw [HQ.out]
                unfold three
                rw [← HA.out]
                rfl
              · have h6 : (Go.bits .and .u8 cc 64 != 0) = true := by rw [and64 cc hc0 (by omega), if_neg h64]; rfl
                by_cases h8 : k ≤ 8
                · have hres : rdN bits l = (Go.bits .or .u64 ((x + cc % 128 * 2 ^ (k * 7)) % 18446744073709551616) (IntKind.u64.wrap (18446744073709551615 * 2 ^ (k * 7 + 7))), (k : Int) + 1, 0) := by
                    rw [rdN_ok bits l _ _ hd, signed_or x cc k hx0 HP.out h8 (by omega) (by omega)]
                  have HQ := Lib.hid hres
                  have h9 : 7 * (k : Int) + 7 < 64 := by omega
                  clear hres hd
                  go_wp2
                  go_ret3
                  refine ⟨?_, rfl⟩
                  rw [HQ.out]
                  unfold three
                  rw [← HA.out, Nat.mul_comm k 7]
                  rfl
                · have hres : rdN bits l = ((x + cc % 128 * 2 ^ (k * 7)) % 18446744073709551616, (k : Int) + 1, 0) := by
                    rw [rdN_ok bits l _ _ hd]
                    have := sx_top ((x + cc % 128 * 2 ^ (k * 7)) % 18446744073709551616) (k + 1) (by omega) (by omega) (by omega)
                    rw [show ((k + 1 : Nat) : Int) = (k : Int) + 1 from by omega] at this
                    rw [this]
                  have HQ := Lib.hid hres
                  clear hres hd
                  go_wp2
                  go_ret3
                  refine ⟨?_, rfl⟩
                  rw [HQ.out]
                  unfold three
                  rw [← HA.out]
                  rfl
          · have hf' : fitS (cc % 128) (bits - k * 7) = false := by simpa using hf
            have hd : dec bits fitS l 0 0 = (0, 0, 2) := by rw [HD.out, HS.out, if_pos ⟨h7, .inr hf'⟩]
            have hres := rdN_no bits l 2 (by omega) hd
            have ht12 : (cc % 128 / 2 ^ ((bits - 7 * (k : Int)).toNat - 1) != 0) = true ∧ (cc % 128 / 2 ^ ((bits - 7 * (k : Int)).toNat - 1) != 127 / 2 ^ ((bits - 7 * (k : Int)).toNat - 1)) = true := by
              rw [HF.out] at hf; simpa using hf
            obtain ⟨ht, ht2⟩ := ht12
            have HQ := Lib.hid hres
            clear hres hd hf hf'
            go_wp2
            go_ret3
            exact ⟨by rw [HQ.out]; rfl, rfl⟩
      · have hq : ((k : Int) == (bits + 6) / 7 - 1) = false := by simp; omega
        have HB := Lib.hid (acc_bd x cc k hx0 HP.out (by omega) hc0 hc1)
        by_cases h128 : cc < 128
        · have hd : dec bits fitS l 0 0 = ((x + cc % 128 * 2 ^ (k * 7)) % 18446744073709551616, (k : Int) + 1, 0) := by
            rw [HD.out, HS.out, if_neg (by omega), if_pos h128]
          have hcm : cc % 128 = cc := by omega
          have HCM := Lib.hid hcm
          clear hcm
          by_cases h64 : cc < 64
          · have h6 : (Go.bits .and .u8 cc 64 != 0) = false := by rw [and64 cc hc0 (by omega), if_pos h64]; rfl
            have hres : rdN bits l = ((x + cc % 128 * 2 ^ (k * 7)) % 18446744073709551616, (k : Int) + 1, 0) := by
              rw [rdN_ok bits l _ _ hd]
              by_cases h8 : k ≤ 8
              · rw [sx_plus x cc k hx0 HP.out h8 hc0 h64]
              · have := sx_top ((x + cc % 128 * 2 ^ (k * 7)) % 18446744073709551616) (k + 1) (by omega) (by omega) (by omega)
                rw [show ((k + 1 : Nat) : Int) = (k : Int) + 1 from by omega] at this
                rw [this]
            have HQ := Lib.hid hres
            clear hres hd
            go_wp2
            go_ret3
            refine ⟨?_, rfl⟩
            rw [HQ.out]
            unfold three
            rw [← HA.out]
            rfl
          · have h6 : (Go.bits .and .u8 cc 64 != 0) = true := by rw [and64 cc hc0 (by omega), if_neg h64]; rfl
            by_cases h8 : k ≤ 8
            · have hres : rdN bits l = (Go.bits .or .u64 ((x + cc % 128 * 2 ^ (k * 7)) % 18446744073709551616) (IntKind.u64.wrap (18446744073709551615 * 2 ^ (k * 7 + 7))), (k : Int) + 1, 0) := by
                rw [rdN_ok bits l _ _ hd, signed_or x cc k hx0 HP.out h8 (by omega) (by omega)]
              have HQ := Lib.hid hres
              have h9 : 7 * (k : Int) + 7 < 64 := by omega
              clear hres hd
              go_wp2
              go_ret3
              refine ⟨?_, rfl⟩
              rw [HQ.out]
              unfold three
              rw [← HA.out, Nat.mul_comm k 7]
              rfl
            · exfalso; omega
        · have hres : dec bits fitS l 0 0 = dec bits fitS (l.drop (k + 1)) (k + 1) ((x + cc % 128 * 2 ^ (k * 7)) % 18446744073709551616) := by
            rw [HD.out, HS.out, if_neg (by omega), if_neg h128]
          have HQ := Lib.hid hres
          clear hres
          go_wp2
          rw [HA.out]
          refine ⟨⟨_, k + 1, by omega, by omega, HB.out.1, HB.out.2, HQ, by go_num, rfl⟩, ?_⟩
          simp [intOf]; omega
    · have hres : rdN bits l = (0, 0, 3) := by
        have hd : dec bits fitS l 0 0 = (0, 0, 3) := by
          rw [HD.out, List.drop_of_length_le (by rw [← HN.out]; omega)]; rfl
        exact rdN_no bits l 3 (by omega) hd
      have HQ := Lib.hid hres
      clear hres
      go_wp2
      go_ret3
      exact ⟨by rw [HQ.out]; rfl, rfl⟩

end Go.Proofs.YtgbjlcedabkdkaaDoor
