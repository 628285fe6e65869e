/- What leb's readers come to, over the given translation: each function's contract. -/
import Derived.Test.YtgbjlcedabkdkaaDoorBytes
import Derived.Test.YtgbjlcedabkdkaaDoorLebMath
namespace Go.Proofs.YtgbjlcedabkdkaaDoor
open Go.RowKit
set_option maxRecDepth 100000
set_option linter.unusedVariables false

theorem noughts_any (g r : Int) (w : World) (hg : 0 ≤ g) (hg2 : g < 128) (hr : 1 ≤ r) (hr2 : r ≤ 7) :
    Calls Tryd.prog 48 #[.int .u8 g, .int .i64 r] w fun e w' => e = .returned (.bool (fitU g r)) ∧ w = w' := by
  unfold fitU
  go_enter Tryd.func48, Tryd.ntmps48
  go_wp2
  go_ret
  exact ⟨rfl, rfl⟩

/-- What 'take' hands back. -/
def three (a b c : IntKind) (r : Int × Int × Int) : Ending := .returned (.tuple #[.int a r.1, .int b r.2.1, .int c r.2.2])

set_option maxHeartbeats 1000000 in
theorem take_any (F : Nat) (hFF : F = 48 ∨ False) (fit : Int → Int → Bool) (A : Option Addr) (l : List Int) (n c : Nat) (bits : Int) (w : World) (h : Rd w w.heap.size A l) (hn : n = l.length) (hl : n ≤ maxLen) (hb : 1 ≤ bits) (hb2 : bits ≤ 64)
    (hF : ∀ g r, 0 ≤ g → g < 128 → 1 ≤ r → r ≤ 7 → Calls Tryd.prog F #[.int .u8 g, .int .i64 r] w fun e w' => e = .returned (.bool (fit g r)) ∧ w = w') :
    Calls Tryd.prog 47 #[.slice A n c, .int .i64 bits, .func (.func F) #[] #[]] w fun e w' => e = three .u64 .i64 .i64 (dec bits fit l 0 0) ∧ w = w' := by
  rcases hFF with rfl | ⟨⟨⟩⟩
  all_goals
    have HN := Lib.hid hn
    clear hn
    have HH := Lib.hid hF
    clear hF
    have HR := Lib.hid h
    clear h
    unfold maxLen at hl
    go_enter Tryd.func47, Tryd.ntmps47
    go_wp2
    go_loop [6, 15] (fun v i => ∃ (x : Int) (k : Nat), k ≤ n ∧ 7 * k < bits ∧ 0 ≤ x ∧ x < 2 ^ (k * 7) ∧ Hid (dec bits fit l 0 0 = dec bits fit (l.drop k) k x) ∧ i = .int .i64 k ∧ v = .int .u64 x) (fun _ i => n - (intOf i).toNat)
    case atStart => exact ⟨0, 0, Nat.zero_le _, by omega, by omega, by simp, rfl, rfl, rfl⟩
    case round =>
      obtain ⟨x, k, hk, hk7, hx0, hx1, HD, rfl, rfl⟩ := hrel
      by_cases hlt : k < n
      · have hlt' : k < l.length := by rw [← HN.out]; exact hlt
        obtain ⟨⟨b, o, sp⟩, rfl, hbl, hc⟩ := HR.out.2 k hlt'
        obtain ⟨hc0, hc1⟩ := HR.out.byte hlt'
        have HS := Lib.hid (dec_drop bits fit l k x hlt')
        generalize l.getD k 0 = cc at *
        have ha := and128 cc hc0 hc1
        have HA := Lib.hid (acc_eq x cc k hx0 hx1 (by omega) hc0 hc1)
        have HP := Lib.hid hx1
        clear hx1
        by_cases h7 : bits - k * 7 ≤ 7
        · by_cases h128 : 128 ≤ cc
          · have hres : dec bits fit l 0 0 = (0, 0, 2) := by rw [HD.out, HS.out, if_pos ⟨h7, .inl h128⟩]
            have HQ := Lib.hid hres
            clear hres
            go_wp2
            go_ret3
            exact ⟨by rw [HQ.out]; rfl, rfl⟩
          · by_cases hf : fit (cc % 128) (bits - k * 7) = true
            · have hres : dec bits fit l 0 0 = ((x + cc % 128 * 2 ^ (k * 7)) % 18446744073709551616, (k : Int) + 1, 0) := by
                rw [HD.out, HS.out, if_neg (by simp [hf]; omega), if_pos (by omega)]
              have HQ := Lib.hid hres
              clear hres
              go_wp2_with fail
              refine (HH.out _ _ (by omega) (by omega) (by omega) (by omega)).mono ?_
              rintro e w' ⟨rfl, rfl⟩
              go_wp2
              go_ret3
              refine ⟨?_, rfl⟩
              rw [HQ.out]
              unfold three
              rw [← HA.out]
              rfl
            · have hf' : fit (cc % 128) (bits - k * 7) = false := by simpa using hf
              have hres : dec bits fit l 0 0 = (0, 0, 2) := by rw [HD.out, HS.out, if_pos ⟨h7, .inr hf'⟩]
              have HQ := Lib.hid hres
              clear hres hf
              go_wp2_with fail
              refine (HH.out _ _ (by omega) (by omega) (by omega) (by omega)).mono ?_
              rintro e w' ⟨rfl, rfl⟩
              go_wp2
              go_ret3
              exact ⟨by rw [HQ.out]; rfl, rfl⟩
        · have hbd := acc_bd x cc k hx0 HP.out (by omega) hc0 hc1
          have HB := Lib.hid hbd
          clear hbd
          by_cases h128 : cc < 128
          · have hres : dec bits fit l 0 0 = ((x + cc % 128 * 2 ^ (k * 7)) % 18446744073709551616, (k : Int) + 1, 0) := by
              rw [HD.out, HS.out, if_neg (by omega), if_pos h128]
            have HQ := Lib.hid hres
            clear hres
            go_wp2
            go_ret3
            refine ⟨?_, rfl⟩
            rw [HQ.out]
            unfold three
            rw [← HA.out]
            rfl
          · have hres : dec bits fit l 0 0 = dec bits fit (l.drop (k + 1)) (k + 1) ((x + cc % 128 * 2 ^ (k * 7)) % 18446744073709551616) := by
              rw [HD.out, HS.out, if_neg (by omega), if_neg h128]
            have HQ := Lib.hid hres
            clear hres
            go_wp2
            rw [HA.out]
            refine ⟨⟨_, k + 1, by omega, by omega, HB.out.1, HB.out.2, HQ, by go_num, rfl⟩, ?_⟩
            simp [intOf]; omega
      · have hres : dec bits fit l 0 0 = (0, 0, 3) := by
          rw [HD.out, List.drop_of_length_le (by rw [← HN.out]; omega)]; rfl
        have HQ := Lib.hid hres
        clear hres
        go_wp2
        go_ret3
        exact ⟨by rw [HQ.out]; rfl, rfl⟩
end Go.Proofs.YtgbjlcedabkdkaaDoor
