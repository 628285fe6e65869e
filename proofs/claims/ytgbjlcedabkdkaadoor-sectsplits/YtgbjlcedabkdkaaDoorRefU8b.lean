/- The document's UTF8: its walk. (Written by gen_RefU8b.py.) -/
import Derived.Test.YtgbjlcedabkdkaaDoorRefU8
namespace Go.Proofs.YtgbjlcedabkdkaaDoor
open Go.RowKit
set_option maxRecDepth 100000
set_option linter.unusedVariables false

theorem lead_all : ∀ X : Fin 256, leadK X.val = 0 ∧ (128 ≤ X.val ∧ X.val < 194) ∨ leadK X.val = 0 ∧ 245 ≤ X.val ∨ leadK X.val = 1 ∧ X.val < 128 ∨ leadK X.val = 2 ∧ (194 ≤ X.val ∧ X.val < 224) ∨ leadK X.val = 3 ∧ (224 ≤ X.val ∧ X.val < 240) ∨ leadK X.val = 4 ∧ (240 ≤ X.val ∧ X.val < 245) := by decide +kernel
theorem and31 : ∀ X : Fin 256, bits .and .u32 ((X.val : Nat) : Int) 31 = ((X.val % 2 ^ (7 - 2) : Nat) : Int) := by decide +kernel
theorem and15 : ∀ X : Fin 256, bits .and .u32 ((X.val : Nat) : Int) 15 = ((X.val % 2 ^ (7 - 3) : Nat) : Int) := by decide +kernel
theorem and07 : ∀ X : Fin 256, bits .and .u32 ((X.val : Nat) : Int) 7 = ((X.val % 2 ^ (7 - 4) : Nat) : Int) := by decide +kernel
theorem byteU {t : List Int} (h : IsBytes t) (k : Nat) : ∃ x : Nat, t.getD k 0 = (x : Int) ∧ x < 256 := by
  have h1 : 0 ≤ t.getD k 0 ∧ t.getD k 0 ≤ 255 := by
    rw [List.getD_eq_getElem?_getD]
    cases hk : t[k]? with
    | none => simp
    | some z => simpa using h z (List.mem_of_getElem? hk)
  exact ⟨(t.getD k 0).toNat, by omega, by omega⟩
theorem contB_no {t : List Int} {k j : Nat} (hj : j + 1 < k) (h : cont (t.getD (j + 1) 0).toNat = false) : contB t k = false := by
  unfold contB
  rw [List.all_eq_false]
  exact ⟨j, by simp; omega, by rw [h]; simp⟩
theorem contB_yes {t : List Int} {k : Nat} (h : ∀ j, j + 1 < k → cont (t.getD (j + 1) 0).toNat = true) : contB t k = true := by
  unfold contB
  rw [List.all_eq_true]
  intro j hj
  exact h j (by simp at hj; omega)
set_option maxHeartbeats 64000000 in
set_option maxRecDepth 1000000 in
theorem rutf_any {X : Nat → Prop} (A : Option Addr) (l : List Int) (n c : Nat) (w : World) (h : RdX X w A l) (hn : n = l.length) (hc : n ≤ c) (hm : n ≤ 1000000) :
    Calls Tryd.prog 12 #[.slice A n c] w fun e w' => e = .returned (.bool (vd l)) ∧ Below w.heap.size w w' := by
  have H0 := Lib.hid h
  have HN := Lib.hid hn
  obtain ⟨ANS, hANS⟩ : ∃ ANS, vd l = ANS := ⟨_, rfl⟩
  rw [hANS]
  have HA := Lib.hid hANS
  clear h hn hANS
  go_enter Tryd.func12, Tryd.ntmps12
  go_wp2
  go_loopg [0] (n + 1) (fun gk s0 wx => Below w.heap.size w wx ∧ ∃ (A : Option Addr) (t : List Int) (m c : Nat), s0 = .slice A m c ∧ m ≤ c ∧ m < gk ∧ m ≤ 1000000 ∧ Hid (RdX X w A t ∧ m = t.length ∧ vd t = ANS))
  case atStart => exact ⟨Below.refl _ _, A, l, n, c, rfl, hc, by omega, hm, H0.out, HN.out, HA.out⟩
  case round =>
    obtain ⟨hbw, A, t, m, c, rfl, hmc, hg, hml, HR⟩ := hrel
    clear H0 HN HA
    have HBW := Lib.hid hbw
    clear hbw
    by_cases h0 : 0 < m
    · obtain ⟨g', rfl⟩ : ∃ g', gk = g' + 1 := ⟨gk - 1, by omega⟩
      have h0z : (0 : Int) < (m : Int) := by omega
      obtain ⟨b, o, rfl, hbB, hcell⟩ := ((HR.out.1.later HBW.out).rd).spot (j := 0) (by rw [← HR.out.2.1]; exact h0)
      have c0 := hcell 0 (by rw [← HR.out.2.1]; exact h0)
      rw [Nat.add_zero] at c0
      obtain ⟨x0, hx0, x0lt⟩ := byteU HR.out.1.1 0
      have hdoc := vd_doc t HR.out.1.1 (by intro e; have := HR.out.2.1; rw [e] at this; simp at this; omega)
      rw [HR.out.2.2, hx0, Int.toNat_natCast] at hdoc
      rw [hx0] at c0
      have HX0 := Lib.hid hx0
      have HD := Lib.hid hdoc
      have HCELL : Hid (∀ i, i < m → wr.cell? ⟨b, o + i, none⟩ = some (.int .u8 (t.getD i 0))) := fun i hi => hcell i (by rw [← HR.out.2.1]; exact hi)
      clear hx0 hdoc hcell
      rcases lead_all ⟨x0, x0lt⟩ with ⟨hk, q1, q2⟩ | ⟨hk, q1⟩ | ⟨hk, q1⟩ | ⟨hk, q1, q2⟩ | ⟨hk, q1, q2⟩ | ⟨hk, q1, q2⟩ <;> simp only at hk q1 <;> try simp only at q2
      · rw [hk] at HD
        have z1 : ¬ ((x0 : Int) < 128) := by omega
        have z2 : ¬ ((x0 : Int) ≥ 194) := by omega
        have z3 : ¬ ((x0 : Int) ≥ 224) := by omega
        have z4 : ¬ ((x0 : Int) ≥ 240) := by omega
        go_wp2
        go_ret
        exact ⟨by rw [HD.out]; simp [goodK], HBW.out⟩
      · rw [hk] at HD
        have z1 : ¬ ((x0 : Int) < 128) := by omega
        have z2 : ¬ ((x0 : Int) < 224) := by omega
        have z3 : ¬ ((x0 : Int) < 240) := by omega
        have z4 : ¬ ((x0 : Int) < 245) := by omega
        have z5 : ((x0 : Int) ≥ 194) := by omega
        have z6 : ((x0 : Int) ≥ 224) := by omega
        have z7 : ((x0 : Int) ≥ 240) := by omega
        go_wp2
        go_ret
        exact ⟨by rw [HD.out]; simp [goodK], HBW.out⟩
      · rw [hk] at HD
        have z1 : ((x0 : Int) < 128) := by omega
        have z2 : ¬ ((m : Int) < 1) := by omega
        obtain ⟨mk, hmk⟩ : ∃ mk, mk + 1 = m := ⟨m - 1, by omega⟩
        obtain ⟨Ak, ck, hEk, hmck, hrk, hlk⟩ := cutK w _ t m c 1 mk 1 rfl HR.out.1 HR.out.2.1 hmc hmk
        have hgood : goodK t 1 = true := by
          simp [goodK, contB, wrongV]
          have := HR.out.2.1; omega
        have HRk := Lib.hid (And.intro hrk (And.intro hlk (show vd (t.drop 1) = ANS by rw [HD.out, hgood]; rfl)))
        clear hrk hlk hgood
        go_wp2
        go_loopg [5, 6] 1 (fun gk2 v i wx => wx = wr ∧ i = .int .i64 1)
        case atStart => exact ⟨rfl, rfl⟩
        case round =>
          obtain ⟨rfl, rfl⟩ := hrel
          go_wp2
          go_roundg g'
          case measure => omega
          case rel => exact ⟨HBW.out, Ak, _, mk, ck, rfl, hmck, by omega, by omega, HRk.out⟩
      · rw [hk] at HD
        have z1 : ¬ ((x0 : Int) < 128) := by omega
        have z2 : ((x0 : Int) < 224) := by omega
        have z5 : ((x0 : Int) ≥ 194) := by omega
        have hand := and31 ⟨x0, x0lt⟩
        simp only at hand
        by_cases hmk0 : m < 2
        · have hmz : (m : Int) < 2 := by omega
          have hgood : goodK t 2 = false := by
            have := HR.out.2.1
            unfold goodK
            rw [decide_eq_false (show ¬ 2 ≤ t.length by omega)]
            simp
          have HG := Lib.hid hgood
          clear hgood
          go_wp2
          go_ret
          exact ⟨by rw [HD.out, HG.out]; rfl, HBW.out⟩
        · have hmz : ¬ ((m : Int) < 2) := by omega
          obtain ⟨B0, hB0⟩ : ∃ B0, x0 % 2 ^ (7 - 2) = B0 := ⟨_, rfl⟩
          have hB0lt : B0 < 32 := by rw [← hB0]; exact Nat.mod_lt _ (by decide)
          rw [hB0] at hand
          have HGK : Hid (goodK t 2 = (contB t 2 && !(wrongV 2 (vq t B0 1)))) := by
            have := HR.out.2.1
            unfold Hid goodK
            rw [decide_eq_true (show 2 ≤ t.length by omega), HX0.out, Int.toNat_natCast, hB0]
            simp
          clear hB0
          go_wp2
          go_loopg [5, 6] 2 (fun gk2 v i wx => Below w.heap.size w wx ∧ ∃ j : Nat, i = .int .i64 ((j : Int) + 1) ∧ v = .int .u32 ((vq t B0 j : Nat) : Int) ∧ 2 ≤ gk2 + j ∧ j + 1 ≤ 2 ∧ Hid (∀ q, q < j → cont (t.getD (q + 1) 0).toNat = true))
          case atStart => exact ⟨HBW.out, 0, rfl, rfl, by omega, by omega, fun q hq => by omega⟩
          case round =>
            obtain ⟨hbw2, j, rfl, rfl, hgj, hjk, HC⟩ := hrel
            have HBW2 := Lib.hid hbw2
            have hvlt := vq_lt t B0 j
            have hp : 64 ^ j ≤ 64 ^ 1 := Nat.pow_le_pow_right (by omega) (by omega)
            have hv2 : vq t B0 j < 67108864 := by
              have h3 : (B0 + 1) * 64 ^ j ≤ 32 * 64 ^ 1 := Nat.mul_le_mul (by omega) hp
              have h4 : 32 * 64 ^ 1 ≤ 67108864 := by decide
              omega
            clear hbw2 hvlt hp
            by_cases hj : j + 1 < 2
            · obtain ⟨g2, rfl⟩ : ∃ g2, gk = g2 + 1 := ⟨gk - 1, by omega⟩
              have hjz : (j : Int) + 1 < 2 := by omega
              have hj1 : (j : Int) + 1 < (m : Int) := by omega
              have hj0 : (0 : Int) ≤ (j : Int) + 1 := by omega
              have hw1 : IntKind.i64.wrap ((j : Int) + 1 + 1) = (j : Int) + 1 + 1 := by rw [IntKind.wrap_i64]; omega
              have htn : ((j : Int) + 1).toNat = j + 1 := by omega
              obtain ⟨x, hx, xlt⟩ := byteU HR.out.1.1 (j + 1)
              have cx : wr.cell? ⟨b, o + (j + 1), none⟩ = some (.int .u8 (x : Nat)) := by
                obtain ⟨ad, e, -, hcc⟩ := (HR.out.1.later HBW2.out).2 (j + 1) _ (map_u8_get (by have := HR.out.2.1; omega))
                injection e with e
                subst e
                rw [addPlain, hx] at hcc
                exact hcc
              have h63 := and63 ⟨x, xlt⟩
              have h192 := and192 ⟨x, xlt⟩
              simp only at h63 h192
              obtain ⟨V, hV⟩ : ∃ V, vq t B0 j = V := ⟨_, rfl⟩
              have hor := or6 V (x % 64) (by omega) (Nat.mod_lt _ (by omega))
              obtain ⟨y, hy⟩ : ∃ y, x % 64 = y := ⟨_, rfl⟩
              have hylt : y < 64 := by omega
              rw [hy] at hor h63
              rw [hV] at hv2
              have hnext : vq t B0 (j + 1) = V * 64 + y := by rw [vq, hV, hx, Int.toNat_natCast, hy]
              have HNX := Lib.hid hnext
              rw [hV]
              have HXX := Lib.hid hx
              clear hnext hx hV hy
              cases hcx : cont x with
              | true =>
                rw [hcx] at h192
                simp only [if_true] at h192
                have HCX := Lib.hid hcx
                clear hcx
                go_wp2
                go_roundg g2
                case measure => omega
                case rel => exact ⟨HBW2.out, j + 1, by simp, by rw [HNX.out]; first | done | (congr 1; done) | (congr 1; omega), by omega, by omega, fun q hq => by
                  rcases Nat.lt_or_ge q j with h | h
                  · exact HC.out q h
                  · obtain rfl : q = j := by omega
                    rw [HXX.out, Int.toNat_natCast]; exact HCX.out⟩
              | false =>
                obtain ⟨z, hz1, hz2⟩ : ∃ z : Int, bits .and .u8 (x : Int) 192 = z ∧ (z != 128) = true := by
                  refine ⟨_, h192, ?_⟩
                  rw [hcx]
                  simp only [Bool.false_eq_true, if_false]
                  repeat' split
                  all_goals rfl
                have hno : contB t 2 = false := contB_no (j := j) hj (by rw [HXX.out, Int.toNat_natCast]; exact hcx)
                have HNO := Lib.hid hno
                clear h192 hno hcx
                go_wp2
                go_ret
                exact ⟨by rw [HD.out, HGK.out, HNO.out]; rfl, HBW2.out⟩
            · have hjz : ¬ ((j : Int) + 1 < 2) := by omega
              have hjk2 : j = 1 := by omega
              have hcb : contB t 2 = true := contB_yes fun q hq => HC.out q (by omega)
              rw [hjk2] at hv2 ⊢
              rw [hcb, Bool.true_and] at HGK
              obtain ⟨V, hV⟩ : ∃ V, vq t B0 1 = V := ⟨_, rfl⟩
              rw [hV] at hv2 HGK
              try rw [hV]
              clear hcb hV HC hjk2
              obtain ⟨mk, hmk⟩ : ∃ mk, mk + 2 = m := ⟨m - 2, by omega⟩
              obtain ⟨Ak, ck, hEk, hmck, hrk, hlk⟩ := cutK w _ t m c 2 mk 2 rfl HR.out.1 HR.out.2.1 hmc hmk
              have HRk := Lib.hid (And.intro hrk hlk)
              clear hrk hlk
              have HG : Hid (vd (t.drop 2) = ANS) := by
                unfold Hid
                rw [HD.out, HGK.out]; rfl
              go_wp2
              go_roundg g'
              case measure => omega
              case rel => exact ⟨HBW2.out, Ak, _, mk, ck, rfl, hmck, by omega, by omega, HRk.out.1, HRk.out.2, HG.out⟩
      · rw [hk] at HD
        have z1 : ¬ ((x0 : Int) < 128) := by omega
        have z2 : ¬ ((x0 : Int) < 224) := by omega
        have z3 : ((x0 : Int) < 240) := by omega
        have z5 : ((x0 : Int) ≥ 194) := by omega
        have z6 : ((x0 : Int) ≥ 224) := by omega
        have hand := and15 ⟨x0, x0lt⟩
        simp only at hand
        by_cases hmk0 : m < 3
        · have hmz : (m : Int) < 3 := by omega
          have hgood : goodK t 3 = false := by
            have := HR.out.2.1
            unfold goodK
            rw [decide_eq_false (show ¬ 3 ≤ t.length by omega)]
            simp
          have HG := Lib.hid hgood
          clear hgood
          go_wp2
          go_ret
          exact ⟨by rw [HD.out, HG.out]; rfl, HBW.out⟩
        · have hmz : ¬ ((m : Int) < 3) := by omega
          obtain ⟨B0, hB0⟩ : ∃ B0, x0 % 2 ^ (7 - 3) = B0 := ⟨_, rfl⟩
          have hB0lt : B0 < 16 := by rw [← hB0]; exact Nat.mod_lt _ (by decide)
          rw [hB0] at hand
          have HGK : Hid (goodK t 3 = (contB t 3 && !(wrongV 3 (vq t B0 2)))) := by
            have := HR.out.2.1
            unfold Hid goodK
            rw [decide_eq_true (show 3 ≤ t.length by omega), HX0.out, Int.toNat_natCast, hB0]
            simp
          clear hB0
          go_wp2
          go_loopg [5, 6] 3 (fun gk2 v i wx => Below w.heap.size w wx ∧ ∃ j : Nat, i = .int .i64 ((j : Int) + 1) ∧ v = .int .u32 ((vq t B0 j : Nat) : Int) ∧ 3 ≤ gk2 + j ∧ j + 1 ≤ 3 ∧ Hid (∀ q, q < j → cont (t.getD (q + 1) 0).toNat = true))
          case atStart => exact ⟨HBW.out, 0, rfl, rfl, by omega, by omega, fun q hq => by omega⟩
          case round =>
            obtain ⟨hbw2, j, rfl, rfl, hgj, hjk, HC⟩ := hrel
            have HBW2 := Lib.hid hbw2
            have hvlt := vq_lt t B0 j
            have hp : 64 ^ j ≤ 64 ^ 2 := Nat.pow_le_pow_right (by omega) (by omega)
            have hv2 : vq t B0 j < 67108864 := by
              have h3 : (B0 + 1) * 64 ^ j ≤ 16 * 64 ^ 2 := Nat.mul_le_mul (by omega) hp
              have h4 : 16 * 64 ^ 2 ≤ 67108864 := by decide
              omega
            clear hbw2 hvlt hp
            by_cases hj : j + 1 < 3
            · obtain ⟨g2, rfl⟩ : ∃ g2, gk = g2 + 1 := ⟨gk - 1, by omega⟩
              have hjz : (j : Int) + 1 < 3 := by omega
              have hj1 : (j : Int) + 1 < (m : Int) := by omega
              have hj0 : (0 : Int) ≤ (j : Int) + 1 := by omega
              have hw1 : IntKind.i64.wrap ((j : Int) + 1 + 1) = (j : Int) + 1 + 1 := by rw [IntKind.wrap_i64]; omega
              have htn : ((j : Int) + 1).toNat = j + 1 := by omega
              obtain ⟨x, hx, xlt⟩ := byteU HR.out.1.1 (j + 1)
              have cx : wr.cell? ⟨b, o + (j + 1), none⟩ = some (.int .u8 (x : Nat)) := by
                obtain ⟨ad, e, -, hcc⟩ := (HR.out.1.later HBW2.out).2 (j + 1) _ (map_u8_get (by have := HR.out.2.1; omega))
                injection e with e
                subst e
                rw [addPlain, hx] at hcc
                exact hcc
              have h63 := and63 ⟨x, xlt⟩
              have h192 := and192 ⟨x, xlt⟩
              simp only at h63 h192
              obtain ⟨V, hV⟩ : ∃ V, vq t B0 j = V := ⟨_, rfl⟩
              have hor := or6 V (x % 64) (by omega) (Nat.mod_lt _ (by omega))
              obtain ⟨y, hy⟩ : ∃ y, x % 64 = y := ⟨_, rfl⟩
              have hylt : y < 64 := by omega
              rw [hy] at hor h63
              rw [hV] at hv2
              have hnext : vq t B0 (j + 1) = V * 64 + y := by rw [vq, hV, hx, Int.toNat_natCast, hy]
              have HNX := Lib.hid hnext
              rw [hV]
              have HXX := Lib.hid hx
              clear hnext hx hV hy
              cases hcx : cont x with
              | true =>
                rw [hcx] at h192
                simp only [if_true] at h192
                have HCX := Lib.hid hcx
                clear hcx
                go_wp2
                go_roundg g2
                case measure => omega
                case rel => exact ⟨HBW2.out, j + 1, by simp, by rw [HNX.out]; first | done | (congr 1; done) | (congr 1; omega), by omega, by omega, fun q hq => by
                  rcases Nat.lt_or_ge q j with h | h
                  · exact HC.out q h
                  · obtain rfl : q = j := by omega
                    rw [HXX.out, Int.toNat_natCast]; exact HCX.out⟩
              | false =>
                obtain ⟨z, hz1, hz2⟩ : ∃ z : Int, bits .and .u8 (x : Int) 192 = z ∧ (z != 128) = true := by
                  refine ⟨_, h192, ?_⟩
                  rw [hcx]
                  simp only [Bool.false_eq_true, if_false]
                  repeat' split
                  all_goals rfl
                have hno : contB t 3 = false := contB_no (j := j) hj (by rw [HXX.out, Int.toNat_natCast]; exact hcx)
                have HNO := Lib.hid hno
                clear h192 hno hcx
                go_wp2
                go_ret
                exact ⟨by rw [HD.out, HGK.out, HNO.out]; rfl, HBW2.out⟩
            · have hjz : ¬ ((j : Int) + 1 < 3) := by omega
              have hjk2 : j = 2 := by omega
              have hcb : contB t 3 = true := contB_yes fun q hq => HC.out q (by omega)
              rw [hjk2] at hv2 ⊢
              rw [hcb, Bool.true_and] at HGK
              obtain ⟨V, hV⟩ : ∃ V, vq t B0 2 = V := ⟨_, rfl⟩
              rw [hV] at hv2 HGK
              try rw [hV]
              clear hcb hV HC hjk2
              obtain ⟨mk, hmk⟩ : ∃ mk, mk + 3 = m := ⟨m - 3, by omega⟩
              obtain ⟨Ak, ck, hEk, hmck, hrk, hlk⟩ := cutK w _ t m c 3 mk 3 rfl HR.out.1 HR.out.2.1 hmc hmk
              have HRk := Lib.hid (And.intro hrk hlk)
              clear hrk hlk
              rcases show V < 2048 ∨ (2048 ≤ V ∧ V < 55296) ∨ (55296 ≤ V ∧ V < 57344) ∨ 57344 ≤ V by omega with v1 | ⟨v1, v2⟩ | ⟨v1, v2⟩ | v1
              · have y1 : (V : Int) < 2048 := by omega
                have HG : Hid (ANS = false) := by
                  unfold Hid
                  rw [HD.out, HGK.out, show wrongV 3 V = true from by unfold wrongV; simp; omega]; rfl
                go_wp2
                go_ret
                exact ⟨by rw [HG.out]; rfl, HBW2.out⟩
              · have y1 : ¬ ((V : Int) < 2048) := by omega
                have y2 : ¬ ((V : Int) ≥ 55296) := by omega
                have HG : Hid (vd (t.drop 3) = ANS) := by
                  unfold Hid
                  rw [HD.out, HGK.out, show wrongV 3 V = false from by unfold wrongV; simp; omega]; rfl
                go_wp2
                go_roundg g'
                case measure => omega
                case rel => exact ⟨HBW2.out, Ak, _, mk, ck, rfl, hmck, by omega, by omega, HRk.out.1, HRk.out.2, HG.out⟩
              · have y1 : ¬ ((V : Int) < 2048) := by omega
                have y2 : (V : Int) ≥ 55296 := by omega
                have y3 : (V : Int) < 57344 := by omega
                have HG : Hid (ANS = false) := by
                  unfold Hid
                  rw [HD.out, HGK.out, show wrongV 3 V = true from by unfold wrongV; simp; omega]; rfl
                go_wp2
                go_ret
                exact ⟨by rw [HG.out]; rfl, HBW2.out⟩
              · have y1 : ¬ ((V : Int) < 2048) := by omega
                have y2 : (V : Int) ≥ 55296 := by omega
                have y3 : ¬ ((V : Int) < 57344) := by omega
                have HG : Hid (vd (t.drop 3) = ANS) := by
                  unfold Hid
                  rw [HD.out, HGK.out, show wrongV 3 V = false from by unfold wrongV; simp; omega]; rfl
                go_wp2
                go_roundg g'
                case measure => omega
                case rel => exact ⟨HBW2.out, Ak, _, mk, ck, rfl, hmck, by omega, by omega, HRk.out.1, HRk.out.2, HG.out⟩
      · rw [hk] at HD
        have z1 : ¬ ((x0 : Int) < 128) := by omega
        have z2 : ¬ ((x0 : Int) < 224) := by omega
        have z3 : ¬ ((x0 : Int) < 240) := by omega
        have z4 : ((x0 : Int) < 245) := by omega
        have z5 : ((x0 : Int) ≥ 194) := by omega
        have z6 : ((x0 : Int) ≥ 224) := by omega
        have z7 : ((x0 : Int) ≥ 240) := by omega
        have hand := and07 ⟨x0, x0lt⟩
        simp only at hand
        by_cases hmk0 : m < 4
        · have hmz : (m : Int) < 4 := by omega
          have hgood : goodK t 4 = false := by
            have := HR.out.2.1
            unfold goodK
            rw [decide_eq_false (show ¬ 4 ≤ t.length by omega)]
            simp
          have HG := Lib.hid hgood
          clear hgood
          go_wp2
          go_ret
          exact ⟨by rw [HD.out, HG.out]; rfl, HBW.out⟩
        · have hmz : ¬ ((m : Int) < 4) := by omega
          obtain ⟨B0, hB0⟩ : ∃ B0, x0 % 2 ^ (7 - 4) = B0 := ⟨_, rfl⟩
          have hB0lt : B0 < 8 := by rw [← hB0]; exact Nat.mod_lt _ (by decide)
          rw [hB0] at hand
          have HGK : Hid (goodK t 4 = (contB t 4 && !(wrongV 4 (vq t B0 3)))) := by
            have := HR.out.2.1
            unfold Hid goodK
            rw [decide_eq_true (show 4 ≤ t.length by omega), HX0.out, Int.toNat_natCast, hB0]
            simp
          clear hB0
          go_wp2
          go_loopg [5, 6] 4 (fun gk2 v i wx => Below w.heap.size w wx ∧ ∃ j : Nat, i = .int .i64 ((j : Int) + 1) ∧ v = .int .u32 ((vq t B0 j : Nat) : Int) ∧ 4 ≤ gk2 + j ∧ j + 1 ≤ 4 ∧ Hid (∀ q, q < j → cont (t.getD (q + 1) 0).toNat = true))
          case atStart => exact ⟨HBW.out, 0, rfl, rfl, by omega, by omega, fun q hq => by omega⟩
          case round =>
            obtain ⟨hbw2, j, rfl, rfl, hgj, hjk, HC⟩ := hrel
            have HBW2 := Lib.hid hbw2
            have hvlt := vq_lt t B0 j
            have hp : 64 ^ j ≤ 64 ^ 3 := Nat.pow_le_pow_right (by omega) (by omega)
            have hv2 : vq t B0 j < 67108864 := by
              have h3 : (B0 + 1) * 64 ^ j ≤ 8 * 64 ^ 3 := Nat.mul_le_mul (by omega) hp
              have h4 : 8 * 64 ^ 3 ≤ 67108864 := by decide
              omega
            clear hbw2 hvlt hp
            by_cases hj : j + 1 < 4
            · obtain ⟨g2, rfl⟩ : ∃ g2, gk = g2 + 1 := ⟨gk - 1, by omega⟩
              have hjz : (j : Int) + 1 < 4 := by omega
              have hj1 : (j : Int) + 1 < (m : Int) := by omega
              have hj0 : (0 : Int) ≤ (j : Int) + 1 := by omega
              have hw1 : IntKind.i64.wrap ((j : Int) + 1 + 1) = (j : Int) + 1 + 1 := by rw [IntKind.wrap_i64]; omega
              have htn : ((j : Int) + 1).toNat = j + 1 := by omega
              obtain ⟨x, hx, xlt⟩ := byteU HR.out.1.1 (j + 1)
              have cx : wr.cell? ⟨b, o + (j + 1), none⟩ = some (.int .u8 (x : Nat)) := by
                obtain ⟨ad, e, -, hcc⟩ := (HR.out.1.later HBW2.out).2 (j + 1) _ (map_u8_get (by have := HR.out.2.1; omega))
                injection e with e
                subst e
                rw [addPlain, hx] at hcc
                exact hcc
              have h63 := and63 ⟨x, xlt⟩
              have h192 := and192 ⟨x, xlt⟩
              simp only at h63 h192
              obtain ⟨V, hV⟩ : ∃ V, vq t B0 j = V := ⟨_, rfl⟩
              have hor := or6 V (x % 64) (by omega) (Nat.mod_lt _ (by omega))
              obtain ⟨y, hy⟩ : ∃ y, x % 64 = y := ⟨_, rfl⟩
              have hylt : y < 64 := by omega
              rw [hy] at hor h63
              rw [hV] at hv2
              have hnext : vq t B0 (j + 1) = V * 64 + y := by rw [vq, hV, hx, Int.toNat_natCast, hy]
              have HNX := Lib.hid hnext
              rw [hV]
              have HXX := Lib.hid hx
              clear hnext hx hV hy
              cases hcx : cont x with
              | true =>
                rw [hcx] at h192
                simp only [if_true] at h192
                have HCX := Lib.hid hcx
                clear hcx
                go_wp2
                go_roundg g2
                case measure => omega
                case rel => exact ⟨HBW2.out, j + 1, by simp, by rw [HNX.out]; first | done | (congr 1; done) | (congr 1; omega), by omega, by omega, fun q hq => by
                  rcases Nat.lt_or_ge q j with h | h
                  · exact HC.out q h
                  · obtain rfl : q = j := by omega
                    rw [HXX.out, Int.toNat_natCast]; exact HCX.out⟩
              | false =>
                obtain ⟨z, hz1, hz2⟩ : ∃ z : Int, bits .and .u8 (x : Int) 192 = z ∧ (z != 128) = true := by
                  refine ⟨_, h192, ?_⟩
                  rw [hcx]
                  simp only [Bool.false_eq_true, if_false]
                  repeat' split
                  all_goals rfl
                have hno : contB t 4 = false := contB_no (j := j) hj (by rw [HXX.out, Int.toNat_natCast]; exact hcx)
                have HNO := Lib.hid hno
                clear h192 hno hcx
                go_wp2
                go_ret
                exact ⟨by rw [HD.out, HGK.out, HNO.out]; rfl, HBW2.out⟩
            · have hjz : ¬ ((j : Int) + 1 < 4) := by omega
              have hjk2 : j = 3 := by omega
              have hcb : contB t 4 = true := contB_yes fun q hq => HC.out q (by omega)
              rw [hjk2] at hv2 ⊢
              rw [hcb, Bool.true_and] at HGK
              obtain ⟨V, hV⟩ : ∃ V, vq t B0 3 = V := ⟨_, rfl⟩
              rw [hV] at hv2 HGK
              try rw [hV]
              clear hcb hV HC hjk2
              obtain ⟨mk, hmk⟩ : ∃ mk, mk + 4 = m := ⟨m - 4, by omega⟩
              obtain ⟨Ak, ck, hEk, hmck, hrk, hlk⟩ := cutK w _ t m c 4 mk 4 rfl HR.out.1 HR.out.2.1 hmc hmk
              have HRk := Lib.hid (And.intro hrk hlk)
              clear hrk hlk
              rcases show V < 65536 ∨ (65536 ≤ V ∧ V ≤ 1114111) ∨ 1114111 < V by omega with v1 | ⟨v1, v2⟩ | v1
              · have y1 : (V : Int) < 65536 := by omega
                have HG : Hid (ANS = false) := by
                  unfold Hid
                  rw [HD.out, HGK.out, show wrongV 4 V = true from by unfold wrongV; simp; omega]; rfl
                go_wp2
                go_ret
                exact ⟨by rw [HG.out]; rfl, HBW2.out⟩
              · have y1 : ¬ ((V : Int) < 65536) := by omega
                have y2 : ¬ ((V : Int) > 1114111) := by omega
                have HG : Hid (vd (t.drop 4) = ANS) := by
                  unfold Hid
                  rw [HD.out, HGK.out, show wrongV 4 V = false from by unfold wrongV; simp; omega]; rfl
                go_wp2
                go_roundg g'
                case measure => omega
                case rel => exact ⟨HBW2.out, Ak, _, mk, ck, rfl, hmck, by omega, by omega, HRk.out.1, HRk.out.2, HG.out⟩
              · have y1 : ¬ ((V : Int) < 65536) := by omega
                have y2 : (V : Int) > 1114111 := by omega
                have HG : Hid (ANS = false) := by
                  unfold Hid
                  rw [HD.out, HGK.out, show wrongV 4 V = true from by unfold wrongV; simp; omega]; rfl
                go_wp2
                go_ret
                exact ⟨by rw [HG.out]; rfl, HBW2.out⟩
    · have h0z : ¬ ((0 : Int) < (m : Int)) := by omega
      obtain rfl : t = [] := List.eq_nil_of_length_eq_zero (by have := HR.out.2.1; omega)
      have hv := HR.out.2.2
      rw [vd_nil] at hv
      subst hv
      go_wp2
      go_ret
      exact ⟨rfl, HBW.out⟩
end Go.Proofs.YtgbjlcedabkdkaaDoor
