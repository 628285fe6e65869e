/- Texts joined: Begun6, LebRef, RefReader5. -/
import Derived.Test.YtdbbcbffmbcjiaaJoin10
import Derived.Test.YtdbbcbffmbcjiaaJoin3
import Derived.Test.YtdbbcbffmbcjiaaJoin5
/- code has begun: what each statement of layer 6 asks first. -/
namespace Go.Proofs.Ytdbbcbffmbcjiaa
open Go.RowKit
set_option maxRecDepth 100000
set_option linter.unusedVariables false

theorem code_b1 : pCode [1, 11, 9] = .ok ([⟨1, 0, 0, 0, [], 0⟩, ⟨11, 0, 0, 0, [], 0⟩], [9]) := by kernel_rfl
theorem code_b2 : pCode [5, 11] = .error 2 := by kernel_rfl
theorem code_b3 : encB [⟨1, 0, 0, 0, [], 0⟩, ⟨11, 0, 0, 0, [], 0⟩] = [1, 11] := by decide +kernel
theorem rdX_of_lit (w : World) (l : List Int) (hl : IsBytes l) : Rd (w.alloc (.cells (l.map (Value.int .u8)).toArray 5)) (w.alloc (.cells (l.map (Value.int .u8)).toArray 5)).heap.size (some ⟨w.heap.size, 0, none⟩) l := by
  have := rd_lit w l hl
  simpa using this
set_option maxHeartbeats 2000000 in
theorem begun6_any (w : World) :
    Calls Try.prog 7 #[] w fun e w' => e = .returned (.bool true) ∧ Below w.heap.size w w' := by
  have H1 := Lib.hid (ctake_any (some ⟨w.heap.size, 0, none⟩) [1, 11, 9] 3 3 _ (rdX_of_lit w [1, 11, 9] (fun z hz => by simp at hz; omega)) rfl (by omega) (by omega) (by decide))
  have HB0 := Lib.hid (below_a w (.cells #[.int .u8 1, .int .u8 11, .int .u8 9] 5))
  go_enter Try.func7, Try.ntmps7
  go_wp2_with fail
  refine H1.out.mono ?_
  rintro e w1 ⟨v, is, rfl, hO, hM, hb, hil⟩
  rw [code_b1] at *
  simp only [tkL, tkN, tkE, List.length_cons, List.length_nil] at *
  have hlen : is.length = 2 := by have := congrArg List.length hM; simpa using this
  obtain ⟨A, c, rfl, -, -, -⟩ := RdV.of_own hO.1
  have HO := Lib.hid (And.intro hO (And.intro hM (HB0.out.trans (hb.mono (by simp)))))
  clear hO hM hb H1 HB0
  rw [hlen] at *
  have H2 := Lib.hid (ctake_any (some ⟨w1.heap.size, 0, none⟩) [5, 11] 2 2 _ (rdX_of_lit w1 [5, 11] (fun z hz => by simp at hz; omega)) rfl (by omega) (by omega) (by decide))
  go_wp2_with fail
  refine H2.out.mono ?_
  rintro e w2 ⟨v2, is2, rfl, -, -, hb, -⟩
  rw [code_b2] at *
  simp only [tkN, tkE] at *
  have HB2 := Lib.hid ((below_a w1 (.cells #[.int .u8 5, .int .u8 11] 5)).trans (hb.mono (by simp)))
  clear hb H2
  have hR := HO.out.1.rd.later HB2.out
  have HR := Lib.hid hR
  have HI : Hid (∃ i, is[0]? = some i ∧ i.x.op = 1) := by
    have hM := HO.out.2.1
    match is, hM with
    | i :: t, hM => simp only [List.map_cons, List.cons.injEq] at hM; exact ⟨i, rfl, by rw [hM.1]⟩
  obtain ⟨i, hi, hi1⟩ := HI.out
  obtain ⟨bb, ob, rfl, -, -, a0, -⟩ := hR.at_ hi
  rw [hi1] at a0
  simp only [Nat.zero_mul, Nat.add_zero] at a0
  have HP := Lib.hid (cput_any none [] 0 0 (.slice (some ⟨bb, ob, none⟩) 2 c) is w2 (Rd.nil _ _ _) rfl (by omega) HR.out (by omega) (fun j hj => by
    have hM := HO.out.2.1
    have : j.x ∈ is.map IV.x := List.mem_map_of_mem hj
    rw [hM] at this
    simp at this
    rcases this with h | h <;> rw [h] <;> simp [OpOk]))
  clear hR hi hi1
  rw [HO.out.2.1, code_b3] at HP
  rw [List.nil_append] at HP
  go_wp2_with fail
  refine HP.out.mono ?_
  rintro e w3 ⟨v, rfl, ho, hb⟩
  obtain ⟨A3, c3, rfl, -, -, hr3⟩ := ho.rdX (fun z hz => by simp at hz; omega)
  simp only [List.length_cons, List.length_nil] at *
  have hs : (convert 22 9 (.slice A3 2 c3)).run Try.prog w3 = .ok (.string (strOfNums [1, 11])) w3 := hr3.rd.string c3
  have hst : ((strOfNums [1, 11]).toList == [1, 11]) = true := by decide +kernel
  have HB3 := Lib.hid hb
  have HR3 := Lib.hid (HR.out.later hb)
  clear ho hb hr3 a0 HP
  have HS1 := Lib.hid (csame_any _ _ is is w3 HR3.out HR3.out)
  have hd1 : decide (bodyX is = bodyX is) = true := by simp
  rw [hd1] at HS1
  go_wp2_with fail
  refine HS1.out.mono ?_
  rintro e w4 ⟨rfl, hb4⟩
  have HS2 := Lib.hid (csame_any _ _ is [] w4 (HR3.out.later hb4) (RdN.nil (fun _ => True) w4))
  have hd2 : decide (bodyX is = bodyX []) = false := by
    have hM := HO.out.2.1
    unfold bodyX
    rw [hM]
    decide
  rw [hd2] at HS2
  have HB4 := Lib.hid hb4
  clear hb4 hs hst hd1 hd2 HS1
  go_wp2_with fail
  refine HS2.out.mono ?_
  rintro e w5 ⟨rfl, hb5⟩
  have HB5 := Lib.hid hb5
  clear hb5
  go_wp2
  go_ret
  refine ⟨rfl, ?_⟩
  have q1 := HO.out.2.2
  have q2 := q1.trans (HB2.out.mono q1.size)
  have q3 := q2.trans (HB3.out.mono q2.size)
  have q4 := q3.trans (HB4.out.mono q3.size)
  exact q4.trans (HB5.out.mono q4.size)
end Go.Proofs.Ytdbbcbffmbcjiaa

/- What the document's readers come to: the same numbers. -/
namespace Go.Proofs.Ytdbbcbffmbcjiaa
open Go.RowKit
set_option maxRecDepth 100000
set_option linter.unusedVariables false

theorem and127 (c : Int) (h0 : 0 ≤ c) (h1 : c ≤ 255) : Go.bits .and .u8 c 127 = c % 128 := by
  rw [u8_and c 127 h0 (by omega) (by omega) (by omega), show (127 : Int).toNat = 127 from rfl, nat_mask7]
  omega
theorem and64 (c : Int) (h0 : 0 ≤ c) (h1 : c < 128) : Go.bits .and .u8 c 64 = if c < 64 then 0 else 64 := by
  obtain ⟨c, rfl⟩ : ∃ n : Nat, c = n := ⟨c.toNat, by omega⟩
  have key : ∀ a : Fin 128, Go.bits .and .u8 (a.val : Int) 64 = if (a.val : Int) < 64 then 0 else 64 := by decide +kernel
  exact key ⟨c, by omega⟩
theorem acc_eq7 (x c : Int) (k : Nat) (h0 : 0 ≤ x) (hx : x < 2 ^ (k * 7)) (hk : k ≤ 9) (h1 : 0 ≤ c) (h2 : c ≤ 255) :
    Go.bits .or .u64 x (IntKind.u64.wrap (c % 128 * 2 ^ (7 * k))) = (x + c % 128 * 2 ^ (k * 7)) % 18446744073709551616 := by
  rw [Nat.mul_comm 7 k]; exact acc_eq x c k h0 hx hk h1 h2
theorem three_err (a : Int) : three .u64 .i64 .i64 (0, 0, a) = .returned (.tuple #[.int .u64 0, .int .i64 0, .int .i64 a]) := rfl
/-- What the document's reader gives of a signed number: the same, as an unsigned one. -/
def rdN (bits : Int) (l : List Int) : Int × Int × Int := on1 (· % 18446744073709551616) (rdS bits l)
theorem rdN_ok (bits : Int) (l : List Int) (u m : Int) (h : dec bits fitS l 0 0 = (u, m, 0)) : rdN bits l = (sx u m % 18446744073709551616, m, 0) := by
  simp [rdN, rdS, on1, h]
theorem rdN_no (bits : Int) (l : List Int) (e : Int) (he : e ≠ 0) (h : dec bits fitS l 0 0 = (0, 0, e)) : rdN bits l = (0, 0, e) := by
  simp [rdN, rdS, on1, h, he]
theorem sx_top (u : Int) (m : Nat) (h : 64 ≤ (m : Int) * 7) (h0 : 0 ≤ u) (h1 : u < 18446744073709551616) : sx u m % 18446744073709551616 = u := by
  rw [sx_ge u m h, IntKind.wrap_u64]; unfold wrap64; omega
theorem sx_plus (x c : Int) (k : Nat) (h0 : 0 ≤ x) (hx : x < 2 ^ (k * 7)) (hk : k ≤ 8) (h1 : 0 ≤ c) (h2 : c < 64) :
    sx ((x + c % 128 * 2 ^ (k * 7)) % 18446744073709551616) ((k : Int) + 1) % 18446744073709551616 = (x + c % 128 * 2 ^ (k * 7)) % 18446744073709551616 := by
  rw [sx_last x c k h0 hx hk h1 (by omega), if_pos h2, show c % 128 = c from by omega]

set_option maxHeartbeats 4000000 in
set_option maxRecDepth 100000 in
theorem numberU (A : Option Addr) (l : List Int) (n c : Nat) (bits : Int) (w : World) (h : Rd w w.heap.size A l) (hn : n = l.length) (hl : n ≤ maxLen) (hb : 1 ≤ bits) (hb2 : bits ≤ 64) :
    Calls Try.prog 115 #[.slice A n c, .int .i64 bits, .bool false] w fun e w' => e = three .u64 .i64 .i64 (dec bits fitU l 0 0) ∧ w = w' := by
  have HN := Lib.hid hn
  clear hn
  have HR := Lib.hid h
  clear h
  unfold maxLen at hl
  go_enter Try.func115, Try.ntmps115
  go_wp2
  go_loop [9, 11] (fun v i => ∃ (x : Int) (k : Nat), k ≤ n ∧ 7 * k < bits ∧ 0 ≤ x ∧ x < 2 ^ (k * 7) ∧ Hid (dec bits fitU l 0 0 = dec bits fitU (l.drop k) k x) ∧ i = .int .i64 k ∧ v = .int .u64 x) (fun _ i => n - (intOf i).toNat)
  case atStart => exact ⟨0, 0, Nat.zero_le _, by omega, by omega, by simp, rfl, rfl, rfl⟩
  case round =>
    obtain ⟨x, k, hk, hk7, hx0, hx1, HD, rfl, rfl⟩ := hrel
    have hm : (k : Int) < (bits + 6) / 7 := by omega
    by_cases hlt : k < n
    · have hlt' : k < l.length := by rw [← HN.out]; exact hlt
      obtain ⟨⟨b, o, sp⟩, rfl, hbl, hc⟩ := HR.out.2 k hlt'
      obtain ⟨hc0, hc1⟩ := HR.out.byte hlt'
      have HS := Lib.hid (dec_drop bits fitU l k x hlt')
      generalize l.getD k 0 = cc at *
      have ha := and127 cc hc0 hc1
      have HA := Lib.hid (acc_eq7 x cc k hx0 hx1 (by omega) hc0 hc1)
      have HP := Lib.hid hx1
      clear hx1
      by_cases h7 : bits - k * 7 ≤ 7
      · have hq : ((k : Int) == (bits + 6) / 7 - 1) = true := by simp; omega
        by_cases h128 : 128 ≤ cc
        · have hres : dec bits fitU l 0 0 = (0, 0, 2) := by
            have hd : dec bits fitU l 0 0 = (0, 0, 2) := by rw [HD.out, HS.out, if_pos ⟨h7, .inl h128⟩]
            exact hd
          have HQ := Lib.hid hres
          clear hres
          go_wp2
          go_ret3
          exact ⟨by rw [HQ.out]; rfl, rfl⟩
        · have HF := Lib.hid (show fitU (cc % 128) (bits - k * 7) = (cc % 128 / 2 ^ (bits - 7 * (k : Int)).toNat == 0) from by rw [show 7 * (k : Int) = k * 7 from by omega]; rfl)
          by_cases hf : fitU (cc % 128) (bits - k * 7) = true
          · have hd : dec bits fitU l 0 0 = ((x + cc % 128 * 2 ^ (k * 7)) % 18446744073709551616, (k : Int) + 1, 0) := by
              rw [HD.out, HS.out, if_neg (by simp [hf]; omega), if_pos (by omega)]
            have ht : (cc % 128 / 2 ^ (bits - 7 * (k : Int)).toNat != 0) = false := by
              rw [HF.out] at hf; simpa using hf
            clear hf
            have HQ := Lib.hid hd
            clear hd
            go_wp2
            go_ret3
            refine ⟨?_, rfl⟩
            rw [HQ.out]
            unfold three
            rw [← HA.out]
            rfl
          · have hf' : fitU (cc % 128) (bits - k * 7) = false := by simpa using hf
            have hd : dec bits fitU l 0 0 = (0, 0, 2) := by rw [HD.out, HS.out, if_pos ⟨h7, .inr hf'⟩]
            have ht : (cc % 128 / 2 ^ (bits - 7 * (k : Int)).toNat != 0) = true := by
              rw [HF.out] at hf; simpa using hf
            have HQ := Lib.hid hd
            clear hd hf hf'
            go_wp2
            go_ret3
            exact ⟨by rw [HQ.out]; rfl, rfl⟩
      · have hq : ((k : Int) == (bits + 6) / 7 - 1) = false := by simp; omega
        have HB := Lib.hid (acc_bd x cc k hx0 HP.out (by omega) hc0 hc1)
        by_cases h128 : cc < 128
        · have hd : dec bits fitU l 0 0 = ((x + cc % 128 * 2 ^ (k * 7)) % 18446744073709551616, (k : Int) + 1, 0) := by
            rw [HD.out, HS.out, if_neg (by omega), if_pos h128]
          have HQ := Lib.hid hd
          clear hd
          go_wp2
          go_ret3
          refine ⟨?_, rfl⟩
          rw [HQ.out]
          unfold three
          rw [← HA.out]
          rfl
        · have hres : dec bits fitU l 0 0 = dec bits fitU (l.drop (k + 1)) (k + 1) ((x + cc % 128 * 2 ^ (k * 7)) % 18446744073709551616) := by
            rw [HD.out, HS.out, if_neg (by omega), if_neg h128]
          have HQ := Lib.hid hres
          clear hres
          go_wp2
          rw [HA.out]
          refine ⟨⟨_, k + 1, by omega, by omega, HB.out.1, HB.out.2, HQ, by go_num, rfl⟩, ?_⟩
          simp [intOf]; omega
    · have hres : dec bits fitU l 0 0 = (0, 0, 3) := by
        have hd : dec bits fitU l 0 0 = (0, 0, 3) := by
          rw [HD.out, List.drop_of_length_le (by rw [← HN.out]; omega)]; rfl
        exact hd
      have HQ := Lib.hid hres
      clear hres
      go_wp2
      go_ret3
      exact ⟨by rw [HQ.out]; rfl, rfl⟩

set_option maxHeartbeats 4000000 in
set_option maxRecDepth 100000 in
theorem numberS (A : Option Addr) (l : List Int) (n c : Nat) (bits : Int) (w : World) (h : Rd w w.heap.size A l) (hn : n = l.length) (hl : n ≤ maxLen) (hb : 1 ≤ bits) (hb2 : bits ≤ 64) :
    Calls Try.prog 115 #[.slice A n c, .int .i64 bits, .bool true] w fun e w' => e = three .u64 .i64 .i64 (rdN bits l) ∧ w = w' := by
  have HN := Lib.hid hn
  clear hn
  have HR := Lib.hid h
  clear h
  unfold maxLen at hl
  go_enter Try.func115, Try.ntmps115
  go_wp2
  go_loop [9, 11] (fun v i => ∃ (x : Int) (k : Nat), k ≤ n ∧ 7 * k < bits ∧ 0 ≤ x ∧ x < 2 ^ (k * 7) ∧ Hid (dec bits fitS l 0 0 = dec bits fitS (l.drop k) k x) ∧ i = .int .i64 k ∧ v = .int .u64 x) (fun _ i => n - (intOf i).toNat)
  case atStart => exact ⟨0, 0, Nat.zero_le _, by omega, by omega, by simp, rfl, rfl, rfl⟩
  case round =>
    obtain ⟨x, k, hk, hk7, hx0, hx1, HD, rfl, rfl⟩ := hrel
    have hm : (k : Int) < (bits + 6) / 7 := by omega
    by_cases hlt : k < n
    · have hlt' : k < l.length := by rw [← HN.out]; exact hlt
      obtain ⟨⟨b, o, sp⟩, rfl, hbl, hc⟩ := HR.out.2 k hlt'
      obtain ⟨hc0, hc1⟩ := HR.out.byte hlt'
      have HS := Lib.hid (dec_drop bits fitS l k x hlt')
      generalize l.getD k 0 = cc at *
      have ha := and127 cc hc0 hc1
      have HA := Lib.hid (acc_eq7 x cc k hx0 hx1 (by omega) hc0 hc1)
      have HP := Lib.hid hx1
      clear hx1
      by_cases h7 : bits - k * 7 ≤ 7
      · have hq : ((k : Int) == (bits + 6) / 7 - 1) = true := by simp; omega
        by_cases h128 : 128 ≤ cc
        · have hres : rdN bits l = (0, 0, 2) := by
            have hd : dec bits fitS l 0 0 = (0, 0, 2) := by rw [HD.out, HS.out, if_pos ⟨h7, .inl h128⟩]
            exact rdN_no bits l 2 (by omega) hd
          have HQ := Lib.hid hres
          clear hres
          go_wp2
          go_ret3
          exact ⟨by rw [HQ.out]; rfl, rfl⟩
        · have HF := Lib.hid (show fitS (cc % 128) (bits - k * 7) = !(cc % 128 / 2 ^ ((bits - 7 * (k : Int)).toNat - 1) != 0 && cc % 128 / 2 ^ ((bits - 7 * (k : Int)).toNat - 1) != 127 / 2 ^ ((bits - 7 * (k : Int)).toNat - 1)) from by rw [show 7 * (k : Int) = k * 7 from by omega, show (bits - (k : Int) * 7).toNat - 1 = (bits - (k : Int) * 7 - 1).toNat from by omega]; exact fitS_eq _ _ (by omega) (by omega) (by omega) (by omega))
          by_cases hf : fitS (cc % 128) (bits - k * 7) = true
          · have hd : dec bits fitS l 0 0 = ((x + cc % 128 * 2 ^ (k * 7)) % 18446744073709551616, (k : Int) + 1, 0) := by
              rw [HD.out, HS.out, if_neg (by simp [hf]; omega), if_pos (by omega)]
            by_cases ht0 : cc % 128 / 2 ^ ((bits - 7 * (k : Int)).toNat - 1) = 0
            · have ht : (cc % 128 / 2 ^ ((bits - 7 * (k : Int)).toNat - 1) != 0) = false := by simpa using ht0
              clear hf ht0
              have hcm : cc % 128 = cc := by omega
              have HCM := Lib.hid hcm
              clear hcm
              by_cases h64 : cc < 64
              · have h6 : (Go.bits .and .u8 cc 64 != 0) = false := by rw [and64 cc hc0 (by omega), if_pos h64]; rfl
                have hres : rdN bits l = ((x + cc % 128 * 2 ^ (k * 7)) % 18446744073709551616, (k : Int) + 1, 0) := by
                  rw [rdN_ok bits l _ _ hd]
                  by_cases h8 : k ≤ 8
                  · rw [sx_plus x cc k hx0 HP.out h8 hc0 h64]
                  · have := sx_top ((x + cc % 128 * 2 ^ (k * 7)) % 18446744073709551616) (k + 1) (by omega) (by omega) (by omega)
                    rw [show ((k + 1 : Nat) : Int) = (k : Int) + 1 from by omega] at this
                    rw [this]
                have HQ := Lib.hid hres
                clear hres hd
                go_wp2
                go_ret3
                refine ⟨?_, rfl⟩
                rw [HQ.out]
                unfold three
                rw [← HA.out]
                rfl
              · have h6 : (Go.bits .and .u8 cc 64 != 0) = true := by rw [and64 cc hc0 (by omega), if_neg h64]; rfl
                by_cases h8 : k ≤ 8
                · have hres : rdN bits l = (Go.bits .or .u64 ((x + cc % 128 * 2 ^ (k * 7)) % 18446744073709551616) (IntKind.u64.wrap (18446744073709551615 * 2 ^ (k * 7 + 7))), (k : Int) + 1, 0) := by
                    rw [rdN_ok bits l _ _ hd, signed_or x cc k hx0 HP.out h8 (by omega) (by omega)]
                  have HQ := Lib.hid hres
                  have h9 : 7 * (k : Int) + 7 < 64 := by omega
                  clear hres hd
                  go_wp2
                  go_ret3
                  refine ⟨?_, rfl⟩
                  rw [HQ.out]
                  unfold three
                  rw [← HA.out, Nat.mul_comm k 7]
                  rfl
                · have hres : rdN bits l = ((x + cc % 128 * 2 ^ (k * 7)) % 18446744073709551616, (k : Int) + 1, 0) := by
                    rw [rdN_ok bits l _ _ hd]
                    have := sx_top ((x + cc % 128 * 2 ^ (k * 7)) % 18446744073709551616) (k + 1) (by omega) (by omega) (by omega)
                    rw [show ((k + 1 : Nat) : Int) = (k : Int) + 1 from by omega] at this
                    rw [this]
                  have HQ := Lib.hid hres
                  clear hres hd
                  go_wp2
                  go_ret3
                  refine ⟨?_, rfl⟩
                  rw [HQ.out]
                  unfold three
                  rw [← HA.out]
                  rfl
            · have ht : (cc % 128 / 2 ^ ((bits - 7 * (k : Int)).toNat - 1) != 0) = true := by simpa using ht0
              have ht2 : (cc % 128 / 2 ^ ((bits - 7 * (k : Int)).toNat - 1) != 127 / 2 ^ ((bits - 7 * (k : Int)).toNat - 1)) = false := by
                rw [HF.out, ht] at hf; simpa using hf
              clear hf ht0
              have hcm : cc % 128 = cc := by omega
              have HCM := Lib.hid hcm
              clear hcm
              by_cases h64 : cc < 64
              · have h6 : (Go.bits .and .u8 cc 64 != 0) = false := by rw [and64 cc hc0 (by omega), if_pos h64]; rfl
                have hres : rdN bits l = ((x + cc % 128 * 2 ^ (k * 7)) % 18446744073709551616, (k : Int) + 1, 0) := by
                  rw [rdN_ok bits l _ _ hd]
                  by_cases h8 : k ≤ 8
                  · rw [sx_plus x cc k hx0 HP.out h8 hc0 h64]
                  · have := sx_top ((x + cc % 128 * 2 ^ (k * 7)) % 18446744073709551616) (k + 1) (by omega) (by omega) (by omega)
                    rw [show ((k + 1 : Nat) : Int) = (k : Int) + 1 from by omega] at this
                    rw [this]
                have HQ := Lib.hid hres
                clear hres hd
                go_wp2
                go_ret3
                refine ⟨?_, rfl⟩
                rw [HQ.out]
                unfold three
                rw [← HA.out]
                rfl
              · have h6 : (Go.bits .and .u8 cc 64 != 0) = true := by rw [and64 cc hc0 (by omega), if_neg h64]; rfl
                by_cases h8 : k ≤ 8
                · have hres : rdN bits l = (Go.bits .or .u64 ((x + cc % 128 * 2 ^ (k * 7)) % 18446744073709551616) (IntKind.u64.wrap (18446744073709551615 * 2 ^ (k * 7 + 7))), (k : Int) + 1, 0) := by
                    rw [rdN_ok bits l _ _ hd, signed_or x cc k hx0 HP.out h8 (by omega) (by omega)]
                  have HQ := Lib.hid hres
                  have h9 : 7 * (k : Int) + 7 < 64 := by omega
                  clear hres hd
                  go_wp2
                  go_ret3
                  refine ⟨?_, rfl⟩
                  rw [HQ.out]
                  unfold three
                  rw [← HA.out, Nat.mul_comm k 7]
                  rfl
                · have hres : rdN bits l = ((x + cc % 128 * 2 ^ (k * 7)) % 18446744073709551616, (k : Int) + 1, 0) := by
                    rw [rdN_ok bits l _ _ hd]
                    have := sx_top ((x + cc % 128 * 2 ^ (k * 7)) % 18446744073709551616) (k + 1) (by omega) (by omega) (by omega)
                    rw [show ((k + 1 : Nat) : Int) = (k : Int) + 1 from by omega] at this
                    rw [this]
                  have HQ := Lib.hid hres
                  clear hres hd
                  go_wp2
                  go_ret3
                  refine ⟨?_, rfl⟩
                  rw [HQ.out]
                  unfold three
                  rw [← HA.out]
                  rfl
          · have hf' : fitS (cc % 128) (bits - k * 7) = false := by simpa using hf
            have hd : dec bits fitS l 0 0 = (0, 0, 2) := by rw [HD.out, HS.out, if_pos ⟨h7, .inr hf'⟩]
            have hres := rdN_no bits l 2 (by omega) hd
            have ht12 : (cc % 128 / 2 ^ ((bits - 7 * (k : Int)).toNat - 1) != 0) = true ∧ (cc % 128 / 2 ^ ((bits - 7 * (k : Int)).toNat - 1) != 127 / 2 ^ ((bits - 7 * (k : Int)).toNat - 1)) = true := by
              rw [HF.out] at hf; simpa using hf
            obtain ⟨ht, ht2⟩ := ht12
            have HQ := Lib.hid hres
            clear hres hd hf hf'
            go_wp2
            go_ret3
            exact ⟨by rw [HQ.out]; rfl, rfl⟩
      · have hq : ((k : Int) == (bits + 6) / 7 - 1) = false := by simp; omega
        have HB := Lib.hid (acc_bd x cc k hx0 HP.out (by omega) hc0 hc1)
        by_cases h128 : cc < 128
        · have hd : dec bits fitS l 0 0 = ((x + cc % 128 * 2 ^ (k * 7)) % 18446744073709551616, (k : Int) + 1, 0) := by
            rw [HD.out, HS.out, if_neg (by omega), if_pos h128]
          have hcm : cc % 128 = cc := by omega
          have HCM := Lib.hid hcm
          clear hcm
          by_cases h64 : cc < 64
          · have h6 : (Go.bits .and .u8 cc 64 != 0) = false := by rw [and64 cc hc0 (by omega), if_pos h64]; rfl
            have hres : rdN bits l = ((x + cc % 128 * 2 ^ (k * 7)) % 18446744073709551616, (k : Int) + 1, 0) := by
              rw [rdN_ok bits l _ _ hd]
              by_cases h8 : k ≤ 8
              · rw [sx_plus x cc k hx0 HP.out h8 hc0 h64]
              · have := sx_top ((x + cc % 128 * 2 ^ (k * 7)) % 18446744073709551616) (k + 1) (by omega) (by omega) (by omega)
                rw [show ((k + 1 : Nat) : Int) = (k : Int) + 1 from by omega] at this
                rw [this]
            have HQ := Lib.hid hres
            clear hres hd
            go_wp2
            go_ret3
            refine ⟨?_, rfl⟩
            rw [HQ.out]
            unfold three
            rw [← HA.out]
            rfl
          · have h6 : (Go.bits .and .u8 cc 64 != 0) = true := by rw [and64 cc hc0 (by omega), if_neg h64]; rfl
            by_cases h8 : k ≤ 8
            · have hres : rdN bits l = (Go.bits .or .u64 ((x + cc % 128 * 2 ^ (k * 7)) % 18446744073709551616) (IntKind.u64.wrap (18446744073709551615 * 2 ^ (k * 7 + 7))), (k : Int) + 1, 0) := by
                rw [rdN_ok bits l _ _ hd, signed_or x cc k hx0 HP.out h8 (by omega) (by omega)]
              have HQ := Lib.hid hres
              have h9 : 7 * (k : Int) + 7 < 64 := by omega
              clear hres hd
              go_wp2
              go_ret3
              refine ⟨?_, rfl⟩
              rw [HQ.out]
              unfold three
              rw [← HA.out, Nat.mul_comm k 7]
              rfl
            · exfalso; omega
        · have hres : dec bits fitS l 0 0 = dec bits fitS (l.drop (k + 1)) (k + 1) ((x + cc % 128 * 2 ^ (k * 7)) % 18446744073709551616) := by
            rw [HD.out, HS.out, if_neg (by omega), if_neg h128]
          have HQ := Lib.hid hres
          clear hres
          go_wp2
          rw [HA.out]
          refine ⟨⟨_, k + 1, by omega, by omega, HB.out.1, HB.out.2, HQ, by go_num, rfl⟩, ?_⟩
          simp [intOf]; omega
    · have hres : rdN bits l = (0, 0, 3) := by
        have hd : dec bits fitS l 0 0 = (0, 0, 3) := by
          rw [HD.out, List.drop_of_length_le (by rw [← HN.out]; omega)]; rfl
        exact rdN_no bits l 3 (by omega) hd
      have HQ := Lib.hid hres
      clear hres
      go_wp2
      go_ret3
      exact ⟨by rw [HQ.out]; rfl, rfl⟩

end Go.Proofs.Ytdbbcbffmbcjiaa

/- The document's Reader at the front of its reader of modules: what its calls come to. (Written by gen_RefReader5.py.) -/
namespace Go.Proofs.Ytdbbcbffmbcjiaa
open Go.RowKit
set_option maxRecDepth 100000
set_option linter.unusedVariables false

/-- The document's Reader in block g. -/
def RfAt5 (w : World) (g : Nat) (s : St) : Prop := match s with
  | .ok l => ∃ A c, Own w g 58 [.slice A l.length c, .int .i64 0] ∧ RdX (· < g) w A l ∧ l.length ≤ c ∧ c ≤ maxLen ∧ l.length ≤ 1000000
  | .error e => ∃ A n c, Own w g 58 [.slice A n c, .int .i64 e] ∧ 0 < e ∧ e ≤ 100 ∧ n ≤ 1000000
theorem RfAt5.chg {S : Nat → Prop} {w w' : World} {g : Nat} {s : St} (h : RfAt5 w g s) (hc : Chg S w w') (hs : ∀ k, k ≤ g → ¬ S k) : RfAt5 w' g s := by
  cases s with
  | ok l => obtain ⟨A, c, h1, h2, h3, h4, h5⟩ := h; exact ⟨A, c, h1.chg hc (hs g (Nat.le_refl _)), h2.chg hc fun k _ hk => hs k (by omega), h3, h4, h5⟩
  | error e => obtain ⟨A, n, c, h1, h2⟩ := h; exact ⟨A, n, c, h1.chg hc (hs g (Nat.le_refl _)), h2⟩
theorem RfAt5.later {w w' : World} {g : Nat} {s : St} (h : RfAt5 w g s) (hc : Below w.heap.size w w') : RfAt5 w' g s := h.chg (S := fun _ => False) (Chg.of_below hc) fun _ _ => id
theorem RfAt5.below {B : Nat} {w w' : World} {g : Nat} {s : St} (h : RfAt5 w g s) (hb : Below B w w') (hg : g < B) (hB : B ≤ w.heap.size) : RfAt5 w' g s :=
  h.chg (S := fun k => B ≤ k) ⟨hb.os, hb.tape, hb.output, hb.size, fun k _ hk => hb.block k (by omega)⟩ fun k hk => by omega
theorem RfAt5.lt {w : World} {g : Nat} {s : St} (h : RfAt5 w g s) : g < w.heap.size := by
  cases s with
  | ok l => obtain ⟨A, c, h1, _⟩ := h; exact h1.lt
  | error e => obtain ⟨A, n, c, h1, _⟩ := h; exact h1.lt
theorem RfAt5.err {w : World} {g : Nat} {s : St} (h : RfAt5 w g s) : ∀ e, s = .error e → 0 < e := fun e he => by subst he; obtain ⟨_, _, _, _, h, _⟩ := h; exact h
theorem RfAt5.fail {w : World} {g : Nat} {l : List Int} (h : RfAt5 w g (.ok l)) (x : Int) (hx : 0 < x) (hx2 : x ≤ 100) : RfAt5 (w.setCell ⟨g, 1, none⟩ (.int .i64 x)) g (.error x) := by
  obtain ⟨A, c, h1, _, _, _, h5⟩ := h
  exact ⟨A, _, c, h1.set 1 _, hx, hx2, h5⟩
theorem rfAt_tail5 {w : World} {g : Nat} {l : List Int} {A A' : Option Addr} {c c' m : Nat} (ho : Own w g 58 [.slice A l.length c, .int .i64 0]) (hx : RdX (· < g) w A' (l.drop m)) (hm : m ≤ l.length) (hc : c' = c - m) (hlc : l.length ≤ c) (hcm : c ≤ maxLen) (hlm : l.length ≤ 1000000) :
    RfAt5 (w.setCell ⟨g, 0, none⟩ (.slice A' (l.length - m) c')) g (.ok (l.drop m)) := by
  refine ⟨A', c', ?_, hx.chg (Chg.setCell _ _ _) fun k _ hk e => by simp at e; omega, ?_, by omega, ?_⟩
  · rw [List.length_drop]; exact ho.set 0 _
  · rw [List.length_drop]; omega
  · rw [List.length_drop]; omega

def FPost5 (g : Nat) (s : St) (w : World) (e : Ending) (w' : World) : Prop := (∃ u, e = .returned u) ∧ RfAt5 w' g s ∧ Chg (fun k => k = g) w w'
/-- A number that the document's Reader read. -/
def NPost5 (K : IntKind) (hi : Int) (p : PR Int) (g : Nat) (s : St) (w : World) (e : Ending) (w' : World) : Prop :=
  ∃ x, e = .returned (.int K x) ∧ 0 ≤ x ∧ x ≤ hi ∧ RfAt5 w' g (nx p s) ∧ (∀ a l', bd s p = .ok (a, l') → x = a) ∧ Chg (fun k => k = g) w w'

theorem ffail5_any (g : Nat) (s : St) (x : Int) (w : World) (h : RfAt5 w g s) (hx : 0 < x) (hx2 : x ≤ 100) :
    Calls Try.prog 36 #[.pointer (some ⟨g, 0, none⟩), .int .i64 x] w (FPost5 g (failS x s) w) := by
  cases s with
  | ok l =>
    have HF := Lib.hid (h.fail x hx hx2)
    obtain ⟨A, c, h1, -, -, -, -⟩ := h
    obtain ⟨hc0, hc1, hf0, hf1⟩ := own_cells2 h1
    clear h1
    generalize l.length = q at *
    go_enter Try.func36, Try.ntmps36
    go_wp2
    go_end0
    exact ⟨⟨_, rfl⟩, HF.out, chgSet _ _ _ _⟩
  | error e =>
    have HF := Lib.hid h
    obtain ⟨A, n, c, h1, he, he2, hn⟩ := h
    obtain ⟨hc0, hc1, hf0, hf1⟩ := own_cells2 h1
    clear h1
    have hne : (e == 0) = false := by simp; omega
    go_enter Try.func36, Try.ntmps36
    go_wp2
    go_end0
    exact ⟨⟨_, rfl⟩, HF.out, Chg.refl _ _⟩

def overS5 (s : St) : St := match s with
  | .error e => .error e
  | .ok [] => .ok []
  | .ok (_ :: _) => .error 2
set_option maxHeartbeats 1000000 in
theorem fbyte5_any (g : Nat) (s : St) (w : World) (h : RfAt5 w g s) :
    Calls Try.prog 100 #[.pointer (some ⟨g, 0, none⟩)] w (NPost5 .u8 255 pByte g s w) := by
  rcases s with e | (_ | ⟨x, l⟩)
  · have HH := Lib.hid h
    obtain ⟨A, n, c, h1, he, he2, hn⟩ := h
    obtain ⟨hc0, hc1, hf0, hf1⟩ := own_cells2 h1
    clear h1
    have hne : (e == 0) = false := by simp; omega
    have hne2 : (e != 0) = true := by simp; omega
    go_enter Try.func100, Try.ntmps100
    go_wp2
    go_ret
    exact ⟨0, rfl, by omega, by omega, HH.out, (fun a l' h => by cases h), Chg.refl _ _⟩
  · have HF := Lib.hid (h.fail 3 (by omega) (by omega))
    obtain ⟨A, c, h1, -, -, -, -⟩ := h
    obtain ⟨hc0, hc1, hf0, hf1⟩ := own_cells2 h1
    clear h1
    simp only [List.length_nil] at *
    go_enter Try.func100, Try.ntmps100
    go_wp2
    go_ret
    exact ⟨0, rfl, by omega, by omega, HF.out, (fun a l' h => by cases h), chgSet _ _ _ _⟩
  · obtain ⟨A, c, h1, hr, hlc, hcm, hlm⟩ := h
    obtain ⟨hc0, hc1, hf0, hf1⟩ := own_cells2 h1
    obtain ⟨A', c', hE, hc', hX⟩ := cutB_l A (x :: l).length c 1 1 ((x :: l).length - 1) rfl rfl (by simp) hlc
    have HT := Lib.hid (rfAt_tail5 h1 (hX _ _ _ hlc hr) (by simp) hc' hlc hcm hlm)
    obtain ⟨b, o, rfl, hb, hb2, hcell⟩ := hr.2.spot (by simp)
    have hx0 := hcell 0 (.int .u8 x) (by simp)
    rw [Nat.add_zero] at hx0
    have hxb := hr.1 x (by simp)
    have hq0 : (((x :: l).length : Nat) : Int) = 0 ↔ False := by simp; omega
    have hqp : 0 < (x :: l).length := by simp
    clear hX hcell hr h1 hlc hcm hc'
    generalize hm2 : (x :: l).length - 1 = m2 at *
    clear hm2
    generalize (x :: l).length = q at *
    go_enter Try.func100, Try.ntmps100
    go_wp2
    go_ret
    exact ⟨x, rfl, by omega, by omega, HT.out, (fun a l' h => by simp [pByte] at h; exact h.1), chgSet _ _ _ _⟩

set_option maxHeartbeats 1000000 in
theorem fnum5_any (g : Nat) (s : St) (bits : Int) (w : World) (h : RfAt5 w g s) (hb : 1 ≤ bits) (hb2 : bits ≤ 64) :
    Calls Try.prog 101 #[.pointer (some ⟨g, 0, none⟩), .int .i64 bits, .bool false] w (fun e w' => ∃ x, e = .returned (.int .u64 x) ∧ 0 ≤ x ∧ x ≤ 18446744073709551615 ∧ RfAt5 w' g (nx (pU bits) s) ∧ (∀ a l', bd s (pU bits) = .ok (a, l') → x % 2 ^ bits.toNat = a) ∧ Chg (fun k => k = g) w w') := by
  rcases s with e | l
  · have HH := Lib.hid h
    obtain ⟨A, n, c, h1, he, he2, hn⟩ := h
    obtain ⟨hc0, hc1, hf0, hf1⟩ := own_cells2 h1
    clear h1
    have hne2 : (e != 0) = true := by simp; omega
    go_enter Try.func101, Try.ntmps101
    go_wp2
    go_ret
    exact ⟨0, rfl, by omega, by omega, HH.out, (fun a l' h => by cases h), Chg.refl _ _⟩
  · obtain ⟨A, c, h1, hr, hlc, hcm, hlm⟩ := h
    obtain ⟨hc0, hc1, hf0, hf1⟩ := own_cells2 h1
    have HU := Lib.hid (numberU A l l.length c bits w hr.rd rfl (by unfold maxLen; omega) hb hb2)
    have key : ∀ (u x : Int) (m : Nat), rdU bits l = (u, (m : Int), x) → m ≤ l.length → 0 ≤ u → u < 18446744073709551616 → (x = 0 ∨ (0 < x ∧ x ≤ 100)) → Calls Try.prog 101 #[.pointer (some ⟨g, 0, none⟩), .int .i64 bits, .bool false] w (fun e w' => ∃ x, e = .returned (.int .u64 x) ∧ 0 ≤ x ∧ x ≤ 18446744073709551615 ∧ RfAt5 w' g (nx (pU bits) (.ok l)) ∧ (∀ a l', bd (.ok l) (pU bits) = .ok (a, l') → x % 2 ^ bits.toNat = a) ∧ Chg (fun k => k = g) w w') := by
      intro u x m hd hm3 hu0 hu1 hx
      obtain ⟨A', c', hE, hc', hX⟩ := cutB_l A l.length c (m : Int) m (l.length - m) rfl rfl hm3 hlc
      have HD := Lib.hid hd
      have HW : Hid (∀ W, W = ((w.setCell ⟨g, 1, none⟩ (.int .i64 x)).setCell ⟨g, 0, none⟩ (.slice A' (l.length - m) c')).drew → RfAt5 W g (nx (pU bits) (.ok l)) ∧ (∀ a l', bd (.ok l) (pU bits) = .ok (a, l') → u % 2 ^ bits.toNat = a) ∧ Chg (fun k => k = g) w W) := by
        rintro W rfl
        have hch : Chg (fun k => k = g) w ((w.setCell ⟨g, 1, none⟩ (.int .i64 x)).setCell ⟨g, 0, none⟩ (.slice A' (l.length - m) c')).drew := ((chgSet _ _ _ _).trans (chgSet _ _ _ _) fun k _ e => e).drew
        have hO : Own ((w.setCell ⟨g, 1, none⟩ (.int .i64 x)).setCell ⟨g, 0, none⟩ (.slice A' (l.length - m) c')).drew g 58 [.slice A' (l.length - m) c', .int .i64 x] := (h1.set 1 _).set 0 _
        have hR := (hX _ _ _ hlc hr).chg hch fun k _ hk e => by omega
        rcases hx with rfl | ⟨hx1, hx2⟩
        · have hp := pU_ok hd
          rw [Int.toNat_natCast] at hp
          rw [nx_ok, hp]
          refine ⟨⟨A', c', by rw [List.length_drop]; exact hO, hR, by rw [List.length_drop]; omega, by omega, by rw [List.length_drop]; omega⟩, (fun a l' h => by rw [bd_ok, hp] at h; injection h with h; injection h), hch⟩
        · have hp := pU_no hd (by omega)
          rw [nx_ok, hp]
          exact ⟨⟨A', _, c', hO, hx1, hx2, by omega⟩, (fun a l' h => by rw [bd_ok, hp] at h; cases h), hch⟩
      clear h1 hr hd hX hlc hcm hc' hm3 hx
      generalize hmm : l.length - m = m2 at *
      clear hmm
      generalize l.length = q at *
      go_enter Try.func101, Try.ntmps101
      go_wp2_with fail
      refine HU.out.mono ?_
      unfold rdU at HD
      rw [HD.out]
      simp only [three]
      rintro e w' ⟨rfl, rfl⟩
      go_wp2
      go_region
      have H3 := Lib.hid (HW.out _ rfl)
      generalize (World.drew _) = W at *
      go_wp2
      go_ret
      exact ⟨u, rfl, hu0, by omega, H3.out.1, H3.out.2.1, H3.out.2.2⟩
    rcases rdU_cases bits hb hb2 l with hd | hd | ⟨u, m, hd, hu0, hu1, hm1, hm2, hm3⟩
    · exact key 0 3 0 hd (Nat.zero_le _) (by omega) (by omega) (.inr ⟨by omega, by omega⟩)
    · exact key 0 2 0 hd (Nat.zero_le _) (by omega) (by omega) (.inr ⟨by omega, by omega⟩)
    · exact key u 0 m hd hm3 hu0 hu1 (.inl rfl)

theorem fU325_any (g : Nat) (s : St) (w : World) (h : RfAt5 w g s) :
    Calls Try.prog 66 #[.pointer (some ⟨g, 0, none⟩)] w (NPost5 .u32 4294967295 (pU 32) g s w) := by
  have HN := Lib.hid (fnum5_any g s 32 w h (by omega) (by omega))
  clear h
  go_enter Try.func66, Try.ntmps66
  go_wp2_with fail
  refine HN.out.mono ?_
  rintro e w' ⟨x, rfl, h0, h1, h2, h3, h4⟩
  have H2 := Lib.hid (And.intro h2 (And.intro h3 h4))
  clear h2 h3 h4
  go_wp2
  go_ret
  refine ⟨x % 4294967296, ?_, by omega, by omega, H2.out.1, fun a l' h => by rw [← H2.out.2.1 a l' h]; rfl, H2.out.2.2⟩
  first | rfl | simp [IntKind.wrap_u32]

/-- Bytes that the document's Reader took. -/
def TPost5 (p : PR (List Int)) (g : Nat) (s : St) (w : World) (e : Ending) (w' : World) : Prop :=
  ∃ v y, e = .returned v ∧ OwnB w' w.heap.size v y ∧ IsBytes y ∧ RfAt5 w' g (nx p s) ∧ (∀ a l', bd s p = .ok (a, l') → y = a) ∧ Chg (fun k => k = g) w w' ∧ y.length ≤ 1000000
theorem count_fail5 {most x : Int} {s : St} (hx : most < x) (h3 : ∀ a l', bd s (pU 32) = .ok (a, l') → x = a) : nx (pCount most) s = failS 4 (nx (pU 32) s) ∧ ∃ e, nx (pCount most) s = .error e ∧ bd s (pCount most) = .error e := by
  cases s with
  | error e => exact ⟨rfl, e, rfl, rfl⟩
  | ok l =>
    simp only [nx_ok, bd_ok, pCount, seq] at h3 ⊢
    cases hp : pU 32 l with
    | error e => exact ⟨rfl, e, rfl, rfl⟩
    | ok r =>
      have := h3 r.1 r.2 (by rw [hp])
      subst this
      rw [bd_ok, if_pos hx]
      exact ⟨rfl, 4, rfl, rfl⟩
theorem count_ok5 {most x : Int} {s : St} (hx : ¬ most < x) (h3 : ∀ a l', bd s (pU 32) = .ok (a, l') → x = a) : nx (pCount most) s = nx (pU 32) s ∧ ∀ a l', bd s (pCount most) = .ok (a, l') → x = a := by
  cases s with
  | error e => exact ⟨rfl, fun a l' h => by cases h⟩
  | ok l =>
    simp only [nx_ok, bd_ok, pCount, seq] at h3 ⊢
    cases hp : pU 32 l with
    | error e => simp
    | ok r =>
      have := h3 r.1 r.2 (by rw [hp])
      subst this
      rw [bd_ok, if_neg hx]
      exact ⟨rfl, fun a l' h => by injection h with h; injection h⟩

/-- A text that the document's Reader read. -/
def XPost5 (p : PR (List Int)) (g : Nat) (s : St) (w : World) (e : Ending) (w' : World) : Prop :=
  ∃ y, e = .returned (.string (strOfNums y)) ∧ IsBytes y ∧ RfAt5 w' g (nx p s) ∧ (∀ a l', bd s p = .ok (a, l') → y = a) ∧ Chg (fun k => k = g) w w' ∧ y.length ≤ 1000000
theorem RfAt5.own1 {w : World} {g : Nat} {e : Int} (h : RfAt5 w g (.error e)) : w.cell? ⟨g, 1, none⟩ = some (.int .i64 e) := by obtain ⟨A, n, c, h1, _⟩ := h; exact h1.cell 1
theorem RfAt5.own0 {w : World} {g : Nat} {l : List Int} (h : RfAt5 w g (.ok l)) : w.cell? ⟨g, 1, none⟩ = some (.int .i64 0) := by obtain ⟨A, c, h1, _⟩ := h; exact h1.cell 1
theorem RfAt5.cellE {w : World} {g : Nat} {s : St} (h : RfAt5 w g s) : ∃ e, w.cell? ⟨g, 1, none⟩ = some (.int .i64 e) ∧ ((e = 0 ∧ ∃ l, s = .ok l) ∨ (e ≠ 0 ∧ s = .error e)) := by
  cases s with
  | ok l => exact ⟨0, h.own0, .inl ⟨rfl, l, rfl⟩⟩
  | error e => exact ⟨e, h.own1, .inr ⟨by have := h.err e rfl; omega, rfl⟩⟩

theorem ffail05_any (g : Nat) (l : List Int) (w : World) (h : RfAt5 w g (.ok l)) :
    Calls Try.prog 36 #[.pointer (some ⟨g, 0, none⟩), .int .i64 0] w (FPost5 g (.ok l) w) := by
  obtain ⟨A, c, h1, h2, h3⟩ := h
  obtain ⟨hc0, hc1, hf0, hf1⟩ := own_cells2 h1
  have HH := Lib.hid (And.intro h1 (And.intro h2 h3))
  clear h1 h2 h3
  generalize hq : l.length = q at *
  have HQ := Lib.hid hq
  clear hq
  go_enter Try.func36, Try.ntmps36
  go_wp2
  go_end0
  have hc := chgSet w g 1 (.int .i64 0)
  obtain rfl := HQ.out
  exact ⟨⟨_, rfl⟩, ⟨A, c, HH.out.1.set 1 _, HH.out.2.1.chg hc fun k _ hk e => by omega, HH.out.2.2⟩, hc⟩

theorem val_dead5 {s : St} {e : Int} (h : nx pByte s = .error e) : nx pVal s = .error e ∧ ∀ a l', bd s pVal ≠ .ok (a, l') := by
  cases s with
  | error e' => exact ⟨h, fun a l' h => by cases h⟩
  | ok l =>
    simp only [nx_ok, bd_ok, pVal, seq] at h ⊢
    cases hp : pByte l with
    | error e' => rw [hp] at h; exact ⟨h, fun a l' h => by cases h⟩
    | ok r => rw [hp] at h; cases h
set_option maxHeartbeats 1000000 in
theorem fvalue5_any (g : Nat) (s : St) (w : World) (h : RfAt5 w g s) :
    Calls Try.prog 70 #[.pointer (some ⟨g, 0, none⟩)] w (NPost5 .u8 255 pVal g s w) := by
  have HH := Lib.hid h
  clear h
  go_enter Try.func70, Try.ntmps70
  go_wp2_with fail
  refine (fbyte5_any g s w HH.out).mono ?_
  rintro e w1 ⟨x, rfl, h0, h1, h2, h3, h4⟩
  have H2 := Lib.hid (And.intro h2 (And.intro h3 h4))
  obtain ⟨ee, hee, hes⟩ := h2.cellE
  clear h2 h3 h4
  rcases hes with ⟨rfl, l, hl⟩ | ⟨hne, hs⟩
  · have HL := Lib.hid hl
    clear hl
    go_wp2_with fail
    refine (value_any 102 (by simp) x w1 h0 h1).mono ?_
    rintro e w' ⟨rfl, rfl⟩
    unfold valT
    by_cases hx : valE x = 0
    · have HK := Lib.hid (val_in hx H2.out.2.1)
      rw [hx]
      have HF : Hid (Calls Try.prog 36 #[.pointer (some ⟨g, 0, none⟩), .int .i64 0] w1 (FPost5 g (.ok l) w1)) := ffail05_any g l w1 (by rw [← HL.out]; exact H2.out.1)
      clear hx
      go_wp2_with fail
      refine HF.out.mono ?_
      rintro e w2 ⟨⟨u, rfl⟩, h2, hc⟩
      have HC := Lib.hid (And.intro h2 hc)
      clear h2 hc
      go_wp2
      go_ret
      exact ⟨x, rfl, h0, h1, by rw [HK.out.1, HL.out]; exact HC.out.1, HK.out.2, H2.out.2.2.trans HC.out.2 fun k _ e => e⟩
    · have HK := Lib.hid (val_out hx H2.out.2.1)
      have hp : 0 < valE x ∧ valE x ≤ 100 := by rcases valE_cases x with h | h | h <;> omega
      have HF := Lib.hid (ffail5_any g _ (valE x) w1 H2.out.1 hp.1 hp.2)
      have hd : decide (valE x = 0) = false := by simpa using hx
      rw [hd]
      clear hx hd
      generalize valE x = ve at *
      go_wp2_with fail
      refine HF.out.mono ?_
      rintro e w2 ⟨⟨u, rfl⟩, h2, hc⟩
      have HC := Lib.hid (And.intro h2 hc)
      clear h2 hc
      go_wp2
      go_ret
      exact ⟨x, rfl, h0, h1, by rw [HK.out.1]; exact HC.out.1, (fun a l' h => (HK.out.2 a l' h).elim), H2.out.2.2.trans HC.out.2 fun k _ e => e⟩
  · have HK := Lib.hid (And.intro (val_dead5 hs) hs)
    have hne2 : (ee == 0) = false := by simpa using hne
    clear hs hne
    go_wp2
    go_ret
    refine ⟨x, rfl, h0, h1, ?_, (fun a l' h => (HK.out.1.2 a l' h).elim), H2.out.2.2⟩
    rw [HK.out.1.1, ← HK.out.2]
    exact H2.out.1
end Go.Proofs.Ytdbbcbffmbcjiaa
