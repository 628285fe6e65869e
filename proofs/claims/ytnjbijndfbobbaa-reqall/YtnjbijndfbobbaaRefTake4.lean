/- The document's TakeRequest of an AskInvoke. -/
import Derived.Test.YtnjbijndfbobbaaRefTake
import Derived.Deep.Cut
import Derived.Deep.CutBlock
namespace Go.Proofs.Ytnjbijndfbobbaa
open Go.RowKit
set_option maxRecDepth 100000
set_option linter.unusedVariables false

set_option maxRecDepth 100000 in
set_option maxHeartbeats 4000000 in
theorem refTake_four (A : Option Addr) (b t : List Int) (n c : Nat) (w : World) (h : Rd w w.heap.size A b) (hn : n = b.length) (hl : n ≤ 1000000) (hc : n ≤ c) (hcm : c ≤ maxLen) (hbb : b = 4 :: t) :
    Calls Try.prog 16 #[.slice A n c] w (TakePost b w) := by
  have HR := Lib.hid h
  have HN := Lib.hid hn
  have HBX := Lib.hid hbb
  clear h hn hbb
  go_enter Try.func16, Try.ntmps16
  have HF0 : Hid (RfAt ((w.alloc (.cells #[.int .i64 0, .int .u64 0, .int .u64 0, .string ⟨#[]⟩, .slice none 0 0, .slice none 0 0, .int .u64 0, .int .u64 0] 26)).alloc (.cells #[.slice A n c, .int .i64 0] 81)) (w.heap.size + 1) (.ok b) ∧ Own ((w.alloc (.cells #[.int .i64 0, .int .u64 0, .int .u64 0, .string ⟨#[]⟩, .slice none 0 0, .slice none 0 0, .int .u64 0, .int .u64 0] 26)).alloc (.cells #[.slice A n c, .int .i64 0] 81)) w.heap.size 26 [.int .i64 0, .int .u64 0, .int .u64 0, .string ⟨#[]⟩, .slice none 0 0, .slice none 0 0, .int .u64 0, .int .u64 0] ∧ Below w.heap.size w ((w.alloc (.cells #[.int .i64 0, .int .u64 0, .int .u64 0, .string ⟨#[]⟩, .slice none 0 0, .slice none 0 0, .int .u64 0, .int .u64 0] 26)).alloc (.cells #[.slice A n c, .int .i64 0] 81))) := by
    have hA := (Below.refl w.heap.size w).alloc (Nat.le_refl _) (.cells #[.int .i64 0, .int .u64 0, .int .u64 0, .string ⟨#[]⟩, .slice none 0 0, .slice none 0 0, .int .u64 0, .int .u64 0] 26)
    have h1 := Own.new w 26 [.int .i64 0, .int .u64 0, .int .u64 0, .string ⟨#[]⟩, .slice none 0 0, .slice none 0 0, .int .u64 0, .int .u64 0]
    have e1 : (w.alloc (.cells #[.int .i64 0, .int .u64 0, .int .u64 0, .string ⟨#[]⟩, .slice none 0 0, .slice none 0 0, .int .u64 0, .int .u64 0] 26)).heap.size = w.heap.size + 1 := by simp
    have hR := (HR.out.rx.later hA).mono (Y := (· < w.heap.size + 1)) fun k _ hk => by have : k < w.heap.size := hk; omega
    simp only [List.toArray] at h1
    generalize w.alloc (.cells #[.int .i64 0, .int .u64 0, .int .u64 0, .string ⟨#[]⟩, .slice none 0 0, .slice none 0 0, .int .u64 0, .int .u64 0] 26) = W at *
    have hB := (Below.refl W.heap.size W).alloc (Nat.le_refl _) (.cells #[.slice A n c, .int .i64 0] 81)
    have h2 := Own.new W 81 [.slice A n c, .int .i64 0]
    rw [e1] at h2
    refine ⟨⟨A, c, by rw [← HN.out]; exact h2, hR.later hB, by rw [← HN.out]; exact hc, hcm, by rw [← HN.out]; exact hl⟩, h1.later hB, hA.trans (hB.mono (by omega))⟩
  go_wp2_with fail
  refine (fbyte_any _ _ _ HF0.out.1).mono ?_
  rintro e w1 ⟨x', rfl, x0, x1, h2, h3, h4⟩
  obtain rfl : x' = 4 := h3 4 t (by rw [HBX.out]; rfl)
  rw [HBX.out, show nx pByte (.ok (4 :: t)) = .ok t from rfl] at h2
  clear x0 x1
  have HT : Hid (Rk 26 [.int .i64 0, .int .u64 0, .int .u64 0, .string ⟨#[]⟩, .slice none 0 0, .slice none 0 0, .int .u64 0, .int .u64 0] w w.heap.size (w.heap.size + 1) w1.heap.size [.int .i64 4, .int .u64 0, .int .u64 0, .string ⟨#[]⟩, .slice none 0 0, .slice none 0 0, .int .u64 0, .int .u64 0] (.ok t) (w1.alloc (.cells #[.int .i64 4, .int .u64 0, .int .u64 0, .string ⟨#[]⟩, .slice none 0 0, .slice none 0 0, .int .u64 0, .int .u64 0] 26))) := by
    have hb : Below w1.heap.size w1 (w1.alloc (.cells #[.int .i64 4, .int .u64 0, .int .u64 0, .string ⟨#[]⟩, .slice none 0 0, .slice none 0 0, .int .u64 0, .int .u64 0] 26)) := (Below.refl _ _).alloc (Nat.le_refl _) _
    have hlt := h2.lt
    exact ⟨h2.later hb, Own.new w1 26 [.int .i64 4, .int .u64 0, .int .u64 0, .string ⟨#[]⟩, .slice none 0 0, .slice none 0 0, .int .u64 0, .int .u64 0], (HF0.out.2.1.chg h4 (by omega)).later hb, hlt, by omega, Nat.le_refl _, (HF0.out.2.2.trans (h4.below HF0.out.2.2.size fun i hi e => by omega)).trans (hb.mono (by omega))⟩
  have hlt := h2.lt
  have hE0 := HT.out.1.own0
  clear h2 h3 h4
  obtain ⟨c0, c1, c2, c3, c4, c5, c6, c7, f0, f1, f2, f3, f4, f5, f6, f7⟩ := own_cells8 HT.out.2.1
  have HKN : Hid (nx pKind (.ok b) = .ok t ∧ ∀ a l', bd (.ok b) pKind = .ok (a, l') → 4 = a) := by
    have hbx := HBX.out
    subst hbx
    have hp : pKind (4 :: t) = .ok (4, t) := rfl
    exact ⟨by rw [nx_ok, hp]; rfl, fun a l' h => by rw [bd_ok, hp] at h; injection h with h; injection h⟩
  have hTT := HT.out
  rw [← HKN.out.1] at hTT
  have HT := Lib.hid hTT
  clear hTT
  have HV0 := Lib.hid HKN.out.2
  go_wp2_with fail
  generalize hg5 : w1.heap.size = g5 at *
  generalize hg4 : w.heap.size + 1 = g4 at *
  generalize hg2 : w.heap.size = g2 at HT ⊢
  clear hg5 hg4 hg2
  refine (feight_any g4 _ _ HT.out.1).mono ?_
  rintro e w3 ⟨tok, rfl, t0, t1, h2, h3, h4⟩
  have hT := HT.out.step h2 h4
  clear c0 c1 c2 c3 c4 c5 c6 c7 f0 f1 f2 f3 f4 f5 f6 f7
  obtain ⟨c0, c1, c2, c3, c4, c5, c6, c7, f0, f1, f2, f3, f4, f5, f6, f7⟩ := own_cells8 hT.2.1
  have HT := Lib.hid (hT.set 1 (.int .u64 tok))
  have HVt := Lib.hid h3
  clear h2 h3 h4 hT hE0 HKN HF0 HR
  go_wp2_with fail
  refine (fU64_any g4 _ _ HT.out.1).mono ?_
  rintro e w4 ⟨hh, rfl, p1, q1, h2, h3, h4⟩
  have hT := HT.out.step h2 h4
  clear c0 c1 c2 c3 c4 c5 c6 c7 f0 f1 f2 f3 f4 f5 f6 f7
  obtain ⟨c0, c1, c2, c3, c4, c5, c6, c7, f0, f1, f2, f3, f4, f5, f6, f7⟩ := own_cells8 hT.2.1
  have HT := Lib.hid hT
  have HV1 := Lib.hid h3
  clear h2 h3 h4 hT
  go_wp2_with fail
  refine (fname_any g4 _ _ HT.out.1).mono ?_
  rintro e w5 ⟨nm, rfl, p2, h2, h3, h4, q2⟩
  have hT := HT.out.step h2 h4
  clear c0 c1 c2 c3 c4 c5 c6 c7 f0 f1 f2 f3 f4 f5 f6 f7
  obtain ⟨c0, c1, c2, c3, c4, c5, c6, c7, f0, f1, f2, f3, f4, f5, f6, f7⟩ := own_cells8 hT.2.1
  have HT := Lib.hid hT
  have HV2 := Lib.hid h3
  clear h2 h3 h4 hT
  have HT := Lib.hid ((HT.out.set 2 (.int .u64 hh)).set 3 (.string (strOfNums nm)))
  go_wp2_with fail
  refine (fU32_any g4 _ _ HT.out.1).mono ?_
  rintro e w6 ⟨nx0, rfl, n0, n1, h2, h3, h4⟩
  obtain ⟨nn, rfl⟩ : ∃ nn : Nat, nx0 = nn := ⟨nx0.toNat, by omega⟩
  have hT := HT.out.step h2 h4
  clear c0 c1 c2 c3 c4 c5 c6 c7 f0 f1 f2 f3 f4 f5 f6 f7
  have HT : Hid (Rk 26 [.int .i64 0, .int .u64 0, .int .u64 0, .string ⟨#[]⟩, .slice none 0 0, .slice none 0 0, .int .u64 0, .int .u64 0] w g2 g4 g5 [.int .i64 4, .int .u64 tok, .int .u64 hh, .string (strOfNums nm), .slice none 0 0, .slice none 0 0, .int .u64 0, .int .u64 0] (nx (pU 32) (nx (pName 32) (nx (pU 64) (nx pWord (nx pKind (.ok b)))))) w6) := hT
  have HV := Lib.hid h3
  clear h2 h3 h4 hT
  go_upto_if 72 with fail
  go_cut [6] from 8 (fun s6 wx => s6 = .int .u32 nn ∧ Hid (Rk 26 [.int .i64 0, .int .u64 0, .int .u64 0, .string ⟨#[]⟩, .slice none 0 0, .slice none 0 0, .int .u64 0, .int .u64 0] w g2 g4 g5 [.int .i64 4, .int .u64 tok, .int .u64 hh, .string (strOfNums nm), .slice none 0 0, .slice none 0 0, .int .u64 0, .int .u64 0] (nx (pCount 8) (nx (pName 32) (nx (pU 64) (nx pWord (nx pKind (.ok b)))))) wx ∧ (∀ a l', bd (nx (pName 32) (nx (pU 64) (nx pWord (nx pKind (.ok b))))) (pCount 8) = .ok (a, l') → (nn : Int) = a) ∧ ∀ l, nx (pCount 8) (nx (pName 32) (nx (pU 64) (nx pWord (nx pKind (.ok b))))) = .ok l → nn ≤ 8))
  case first =>
    by_cases hx : (8 : Int) < nn
    · have hk := count_fail hx HV.out
      go_wp2_with fail
      refine (ffail_any g4 _ 4 _ HT.out.1 (by omega) (by omega)).mono ?_
      rintro e W ⟨⟨u, rfl⟩, h2, h4⟩
      rw [← hk.1] at h2
      have hT := Lib.hid (HT.out.step h2 h4)
      have HKK := Lib.hid hk
      clear h2 h4 hk
      go_wp2_with fail
      go_meet
      obtain ⟨_, e, he1, he2⟩ := HKK.out
      exact ⟨rfl, hT.out, (fun a l' h => by rw [he2] at h; cases h), (fun l h => by rw [he1] at h; cases h)⟩
    · have hk := Lib.hid (count_ok hx HV.out)
      go_wp2_with fail
      go_meet
      exact ⟨rfl, by rw [hk.out.1]; exact HT.out, hk.out.2, fun l h => by omega⟩
  case rest =>
    obtain ⟨rfl, HC⟩ := hcut
    clear HT HV
    go_upto_block 1 with fail
    go_cut [7] from 8 (fun s7 wx => ∃ (y : List Int) (B : Option Addr) (len d : Nat), Hid (y.length = len ∧ Rk 26 [.int .i64 0, .int .u64 0, .int .u64 0, .string ⟨#[]⟩, .slice none 0 0, .slice none 0 0, .int .u64 0, .int .u64 0] w g2 g4 g5 [.int .i64 4, .int .u64 tok, .int .u64 hh, .string (strOfNums nm), .slice none 0 0, .slice B len d, .int .u64 0, .int .u64 0] (nx (pList 8) (nx (pName 32) (nx (pU 64) (nx pWord (nx pKind (.ok b)))))) wx ∧ RdU (fun k => g5 < k) wx B y ∧ len ≤ d ∧ d ≤ maxLen ∧ (∀ a l', bd (nx (pName 32) (nx (pU 64) (nx pWord (nx pKind (.ok b))))) (pList 8) = .ok (a, l') → y = a)))
    case first =>
      go_wp2
      go_loopw [7] (fun i wr => ∃ (y : List Int) (k : Nat) (sk : St) (v : Value), k ≤ nn ∧ i = .int .u32 k ∧ Hid (Rk 26 [.int .i64 0, .int .u64 0, .int .u64 0, .string ⟨#[]⟩, .slice none 0 0, .slice none 0 0, .int .u64 0, .int .u64 0] w g2 g4 g5 [.int .i64 4, .int .u64 tok, .int .u64 hh, .string (strOfNums nm), .slice none 0 0, v, .int .u64 0, .int .u64 0] sk wr ∧ OwnU wr (g5 + 1) v y ∧ IsU64 y ∧ y.length = k ∧ (∀ l, sk = .ok l → nn ≤ 8) ∧ bd (nx (pCount 8) (nx (pName 32) (nx (pU 64) (nx pWord (nx pKind (.ok b)))))) (pN nn []) = bd sk (pN (nn - k) y))) (fun i _ => nn - (intOf i).toNat)
      case atStart => exact ⟨[], 0, _, .slice none 0 0, by omega, rfl, HC.out.1, OwnU.nil _ _, IsU64.nil, rfl, HC.out.2.2, rfl⟩
      case round =>
        obtain ⟨y, k, sk, v, hk, rfl, HX⟩ := hrel
        obtain ⟨ee, hee, hes⟩ := HX.out.1.1.cellE
        obtain ⟨c0, c1, c2, c3, c4, c5, c6, c7, f0, f1, f2, f3, f4, f5, f6, f7⟩ := own_cells8 HX.out.1.2.1
        obtain ⟨B, d, rfl, hd1, hd2, hr⟩ := HX.out.2.1.rdU HX.out.2.2.1
        generalize hlen : y.length = len at *
        have HLEN := Lib.hid hlen
        have HL := Lib.hid (And.intro (hr.mono (Y := fun k => g5 < k) (fun k _ e => by have := owns_ge HX.out.2.1 e; omega)) (And.intro hd1 hd2))
        clear hlen hr hd1 hd2
        by_cases hgo : k < nn ∧ ee = 0
        · obtain ⟨hlt, rfl⟩ := hgo
          have hlt2 : (k : Int) < nn := by omega
          have HD : Hid (Rk 26 [.int .i64 0, .int .u64 0, .int .u64 0, .string ⟨#[]⟩, .slice none 0 0, .slice none 0 0, .int .u64 0, .int .u64 0] w g2 g4 g5 [.int .i64 4, .int .u64 tok, .int .u64 hh, .string (strOfNums nm), .slice none 0 0, .slice B len d, .int .u64 0, .int .u64 0] sk wr.drew ∧ OwnU wr.drew (g5 + 1) (.slice B len d) y) := ⟨HX.out.1.later ((Below.refl _ _).drew), HX.out.2.1.later ((Below.refl _ _).drew)⟩
          have HA : Hid (nn ≤ 8) := by
            rcases hes with ⟨_, l, hl⟩ | ⟨h, _⟩
            · exact HX.out.2.2.2.2.1 l hl
            · exact absurd rfl h
          clear c0 c1 c2 c3 c4 c6 c7 f0 f1 f2 f3 f4 f6 f7 HL hes
          go_wp2
          go_region_law (first | (refine step_appU1 rfl (.tmp 88) (.tmp 91) rfl (g5 + 1) (.slice B len d) y (by simp [Act.eval]) H3.out.2.1 z (by simp [Act.eval]) z0 (by omega) (by have := HA.out; have := HX.out.2.2.2.1; have := HLEN.out; omega) (by omega) ?_; intro v5 w7 hv5 hw5; have hT7 := H3.out.1.2.1.chg hw5.1 (fun e => by have := owns_ge H3.out.2.1 e; omega); have e5 := hT7.cell 5; have e6 := hT7.frozen 5; simp only [List.getElem?_cons_succ, List.getElem?_cons_zero] at e5; obtain ⟨B5, d5, rfl, hd51, hd52, hr5⟩ := hv5.rdU H3.out.2.2.1; have H7 := Lib.hid (And.intro hv5 (And.intro hw5 (And.intro hT7 (And.intro hd51 (And.intro hd52 hr5))))); clear hv5 hw5 hT7 hd51 hd52 hr5; generalize hlen5 : (y ++ [z]).length = len5 at *; have HLEN5 := Lib.hid hlen5; clear hlen5) | (go_simp; go_at_call 56; refine (fU64_any g4 sk _ HD.out.1.1).mono ?_; rintro e wU ⟨z, rfl, z0, z1, h2, h3, h4⟩; have hT := HD.out.1.step h2 h4; have d5 := hT.2.1.cell 5; have d6 := hT.2.1.frozen 5; have hg5 := hT.five; simp only [List.getElem?_cons_succ, List.getElem?_cons_zero] at d5; have H3 : Hid (Rk 26 [.int .i64 0, .int .u64 0, .int .u64 0, .string ⟨#[]⟩, .slice none 0 0, .slice none 0 0, .int .u64 0, .int .u64 0] w g2 g4 g5 [.int .i64 4, .int .u64 tok, .int .u64 hh, .string (strOfNums nm), .slice none 0 0, .slice B len d, .int .u64 0, .int .u64 0] (nx (pU 64) sk) wU ∧ OwnU wU (g5 + 1) (.slice B len d) y ∧ IsU64 (y ++ [z]) ∧ bd (nx (pCount 8) (nx (pName 32) (nx (pU 64) (nx pWord (nx pKind (.ok b)))))) (pN nn []) = bd (nx (pU 64) sk) (pN (nn - (k + 1)) (y ++ [z]))) := ⟨hT, HD.out.2.chg h4 (fun g hg e => by have := owns_ge HD.out.2 hg; have := HX.out.1.2.2.2.1; omega), HX.out.2.2.1.app (IsU64.one z0 (by omega)), by rw [HX.out.2.2.2.2.2, show nn - k = nn - (k + 1) + 1 from by omega]; exact (nx_seq (pU 64) (fun x => pN (nn - (k + 1)) (y ++ [x])) sk z h3).2⟩; clear h2 h3 h4 hT))
          all_goals simp only [Exit.inBlock, Exit.then]
          all_goals go_wp2
          all_goals
            have hR7 := (H3.out.1.grew H7.out.2.1 (fun k hk => by have := owns_ge H3.out.2.1 hk; omega)).set 5 (.slice B5 len5 d5)
            refine ⟨⟨y ++ [z], k + 1, _, .slice B5 len5 d5, by omega, by go_num, hR7, H7.out.1.chg (chgSet _ g5 _ _) (fun k hk e => by have := owns_ge H7.out.1 hk; omega), H3.out.2.2.1, ?_, ?_, H3.out.2.2.2⟩, ?_⟩
            · have := HX.out.2.2.2.1; have := HLEN.out; simp; omega
            · intro l _; exact HA.out
            · simp [intOf]; omega
        · have fwd2 : ∀ P : Prop, (¬ (k : Int) < nn → P) → ((k : Int) < nn → (ee == 0) = false → P) → P := fun P h1 h2 => by
            by_cases h : (k : Int) < nn
            · exact h2 h (by have : ee ≠ 0 := fun e => hgo ⟨by omega, e⟩; simpa using this)
            · exact h1 h
          have HV3 : Hid ((∀ a l', bd (nx (pName 32) (nx (pU 64) (nx pWord (nx pKind (.ok b))))) (pList 8) = .ok (a, l') → y = a) ∧ nx (pList 8) (nx (pName 32) (nx (pU 64) (nx pWord (nx pKind (.ok b))))) = sk) := by
            refine list_state HC.out.2.1 HX.out.2.2.2.2.2 ?_
            rcases hes with ⟨h0, l, hl⟩ | ⟨h0, hl⟩
            · refine .inl ⟨l, hl, ?_⟩
              rcases Nat.lt_or_ge k nn with h | h
              · exact absurd ⟨h, h0⟩ hgo
              · omega
            · exact .inr ⟨_, hl⟩
          clear hes hgo
          apply fwd2
          all_goals intros
          all_goals clear fwd2
          all_goals
            go_wp2_with fail
            go_meet
            exact ⟨y, B, len, d, HLEN.out, by rw [HV3.out.2]; exact HX.out.1, HL.out.1, HL.out.2.1, HL.out.2.2, HV3.out.1⟩
    case rest =>
      obtain ⟨y, B, len, d, HE⟩ := hcut
      have HT := Lib.hid HE.out.2.1
      have HL := Lib.hid (And.intro HE.out.2.2.1 (And.intro HE.out.2.2.2.1 HE.out.2.2.2.2.1))
      have HLEN := Lib.hid HE.out.1
      have HV3 := Lib.hid HE.out.2.2.2.2.2
      clear HC HE
      obtain ⟨c0, c1, c2, c3, c4, c5, c6, c7, f0, f1, f2, f3, f4, f5, f6, f7⟩ := own_cells8 HT.out.2.1
      go_wp2_with fail
      refine (fU64_any g4 _ _ HT.out.1).mono ?_
      rintro e w9 ⟨ti, rfl, p4, q4, h2, h3, h4⟩
      have HL := Lib.hid (And.intro (HL.out.1.chg h4 (fun k _ hk e => by have := HT.out.2.2.2.1; omega)) HL.out.2)
      have hT := HT.out.step h2 h4
      clear c0 c1 c2 c3 c4 c5 c6 c7 f0 f1 f2 f3 f4 f5 f6 f7
      obtain ⟨c0, c1, c2, c3, c4, c5, c6, c7, f0, f1, f2, f3, f4, f5, f6, f7⟩ := own_cells8 hT.2.1
      have HT := Lib.hid (hT.set 6 (.int .u64 ti))
      have HV4 := Lib.hid h3
      clear h2 h3 h4 hT
      have HL := Lib.hid (And.intro (HL.out.1.chg (chgSet w9 g5 6 (.int .u64 ti)) (fun k _ hk e => by omega)) HL.out.2)
      go_wp2_with fail
      refine (fover_any g4 _ _ HT.out.1).mono ?_
      rintro e wE ⟨⟨u, rfl⟩, hov, hE⟩
      obtain ⟨Ae, ne, ce, hOe⟩ := over_own hov
      obtain ⟨ec0, ec1, ef0, ef1⟩ := own_cells2 hOe
      have HL := Lib.hid (And.intro (HL.out.1.chg hE (fun k _ hk e => by have := HT.out.2.2.2.1; omega)) HL.out.2)
      clear c0 c1 c2 c3 c4 c5 c6 c7 f0 f1 f2 f3 f4 f5 f6 f7
      have hO := HT.out.2.1.chg hE (by have := HT.out.2.2.2.1; omega)
      obtain ⟨c0, c1, c2, c3, c4, c5, c6, c7, f0, f1, f2, f3, f4, f5, f6, f7⟩ := own_cells8 hO
      have hO2 := HT.out.2.2.1.chg hE (by have := HT.out.2.2.2.2.1; omega)
      obtain ⟨r0, r1, r2, r3, r4, r5, r6, r7, s0, s1, s2, s3, s4, s5, s6, s7⟩ := own_cells8 hO2
      have HB : Hid (Below w.heap.size w wE) := HT.out.2.2.2.2.2.2.trans (hE.below HT.out.2.2.2.2.2.2.size fun i hi e => by have := HT.out.2.2.2.2.1; have := HT.out.2.2.2.2.2.1; omega)
      have HK : Hid (takeReq b = bd (nx (pU 64) (nx (pList 8) (nx (pName 32) (nx (pU 64) (nx pWord (nx pKind (.ok b))))))) fun l => done ((⟨4, tok, hh, nm, [], y, ti, 0⟩ : Req), l)) := by
        unfold takeReq pReq
        rw [(nx_seq pKind _ (.ok b) _ HV0.out).2, (nx_seq pWord _ _ tok HVt.out).2, pRest_4]
        rw [(nx_seq (pU 64) _ _ hh HV1.out).2]
        rw [(nx_seq (pName 32) _ _ nm HV2.out).2]
        rw [(nx_seq (pList 8) _ _ y HV3.out).2]
        rw [(nx_seq (pU 64) _ _ ti HV4.out).2]
        rw [bd_bd]
        rfl
      have HO2 := Lib.hid hO2
      have HF := Lib.hid (fin_cases _ HT.out.1.err (⟨4, tok, hh, nm, [], y, ti, 0⟩ : Req))
      rw [← HK.out] at HF
      clear HK hO hO2 hE hov hOe
      generalize endS (nx (pU 64) (nx (pList 8) (nx (pName 32) (nx (pU 64) (nx pWord (nx pKind (.ok b))))))) = ee at *
      rcases HF.out with ⟨rfl, hf1, hf2⟩ | ⟨hf0, hf1, hf2⟩
      · have HF1 := Lib.hid (And.intro hf1 hf2)
        clear hf1 hf2 HF
        go_wp2
        have hW := own_put8 HO2.out (.int .i64 4) (.int .u64 tok) (.int .u64 hh) (.string (strOfNums nm)) (.slice none 0 0) (.slice B len d) (.int .u64 ti) (.int .u64 0)
        have hC := chg8 wE g2 #[.int .i64 4, .int .u64 tok, .int .u64 hh, .string (strOfNums nm), .slice none 0 0, .slice B len d, .int .u64 ti, .int .u64 0]
        show bodyPost _ _ _ _ _ (put8 wE g2 #[.int .i64 4, .int .u64 tok, .int .u64 hh, .string (strOfNums nm), .slice none 0 0, .slice B len d, .int .u64 ti, .int .u64 0])
        generalize put8 wE g2 #[.int .i64 4, .int .u64 tok, .int .u64 hh, .string (strOfNums nm), .slice none 0 0, .slice B len d, .int .u64 ti, .int .u64 0] = W at *
        clear c0 c1 c2 c3 c4 c5 c6 c7 f0 f1 f2 f3 f4 f5 f6 f7 r0 r1 r2 r3 r4 r5 r6 r7 s0 s1 s2 s3 s4 s5 s6 s7 ec0 ec1 ef0 ef1
        obtain ⟨k0, k1, k2, k3, k4, k5, k6, k7, -, -, -, -, -, -, -, -⟩ := own_cells8 hW
        refine bodyPost_ret (by simp [results, Try.results16, go_sem, k0, k1, k2, k3, k4, k5, k6, k7]; try rfl) rfl ?_
        obtain ⟨hf1, hf2⟩ := HF1.out
        refine ⟨_, by rw [hf1], ⟨none, 0, B, d, by rw [hf2]; simp only []; rw [HLEN.out]; rfl, by rw [hf2]; exact RdX.nil _ _ _, by rw [hf2]; exact Nat.zero_le _, Nat.zero_le _, by rw [hf2]; exact (HL.out.1.chg hC (fun k _ hk e => by have := HT.out.2.2.2.1; have := HT.out.2.2.2.2.1; omega)).mono (fun k _ hk => by have := HT.out.2.2.2.1; have := HT.out.2.2.2.2.1; have := HT.out.2.2.2.2.2.1; omega), by rw [hf2]; simp only []; rw [HLEN.out]; exact HL.out.2.1, HL.out.2.2, by rw [hf2]; exact ok_mk (by omega) (by omega) t0 t1 p1 q1 p2 p4 q4 (by omega) (by omega)⟩, HB.out.trans (hC.below HB.out.size fun i hi e => by have := HT.out.2.2.2.2.2.1; omega)⟩
      · have HF1 := Lib.hid (And.intro hf1 hf2)
        have hf3 : (ee != 0) = true := by simpa using hf0
        clear hf1 hf2 HF hf0
        have hg24 : g2 < g4 := HT.out.2.2.2.2.1
        have hg42 : ¬ g4 = g2 := by omega
        have hg43 : ¬ g2 = g4 := by omega
        go_wp2
        go_region
        have hW := own_drew (own_put8 HO2.out (.int .i64 0) (.int .u64 0) (.int .u64 0) (.string ⟨#[]⟩) (.slice none 0 0) (.slice none 0 0) (.int .u64 0) (.int .u64 0))
        have hC := (chg8 wE g2 #[.int .i64 0, .int .u64 0, .int .u64 0, .string ⟨#[]⟩, .slice none 0 0, .slice none 0 0, .int .u64 0, .int .u64 0]).drew
        show Exit.then _ _ _ _ (put8 wE g2 #[.int .i64 0, .int .u64 0, .int .u64 0, .string ⟨#[]⟩, .slice none 0 0, .slice none 0 0, .int .u64 0, .int .u64 0]).drew
        generalize (put8 wE g2 #[.int .i64 0, .int .u64 0, .int .u64 0, .string ⟨#[]⟩, .slice none 0 0, .slice none 0 0, .int .u64 0, .int .u64 0]).drew = W at *
        clear c0 c1 c2 c3 c4 c5 c6 c7 f0 f1 f2 f3 f4 f5 f6 f7 r0 r1 r2 r3 r4 r5 r6 r7 s0 s1 s2 s3 s4 s5 s6 s7 ec0 ec1 ef0 ef1
        obtain ⟨k0, k1, k2, k3, k4, k5, k6, k7, -, -, -, -, -, -, -, -⟩ := own_cells8 hW
        go_wp2
        refine bodyPost_ret (by simp [results, Try.results16, go_sem, k0, k1, k2, k3, k4, k5, k6, k7]; try rfl) rfl ?_
        obtain ⟨hf1, hf2⟩ := HF1.out
        refine ⟨_, by rw [hf1], by rw [hf2]; exact zreq_v _ _, HB.out.trans (hC.below HB.out.size fun i hi e => by have := HT.out.2.2.2.2.2.1; omega)⟩
end Go.Proofs.Ytnjbijndfbobbaa
