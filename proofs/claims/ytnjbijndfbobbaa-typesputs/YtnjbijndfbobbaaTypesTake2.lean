/- types.TakeFunc: which type of functions bytes are. -/
import Derived.Test.YtnjbijndfbobbaaTypesTake
namespace Go.Proofs.Ytnjbijndfbobbaa
open Go.RowKit
set_option maxRecDepth 100000
set_option linter.unusedVariables false

theorem NoByte.slices (A B : Option Addr) (n m c d : Nat) : NoByte [.slice A n c, .slice B m d] := fun u hu x e => by subst e; simp at hu
theorem end_cases {α : Type} (s : St) (hs : ∀ e, s = .error e → 0 < e) (b : List Int) (a : α) :
    (∃ l, s = .ok l) ∧ errS s = 0 ∧ codeOf (bd s fun l => .ok (a, l)) = 0 ∧ readS b.length s = readOf b (bd s fun l => .ok (a, l)) ∨ (∃ e, s = .error e) ∧ errS s ≠ 0 ∧ codeOf (bd s fun l => .ok (a, l)) = errS s ∧ readOf b (bd s fun l => .ok (a, l)) = 0 := by
  cases s with
  | error e => have := hs e rfl; exact .inr ⟨⟨e, rfl⟩, by simp only [errS]; omega, rfl, rfl⟩
  | ok l => exact .inl ⟨⟨l, rfl⟩, rfl, rfl, rfl⟩
def put2 (w : World) (g : Nat) (a b : Value) : World := (w.setCell ⟨g, 0, none⟩ a).setCell ⟨g, 1, none⟩ b
theorem chg2 (w : World) (g : Nat) (a b : Value) : Chg (fun k => k = g) w (put2 w g a b) := (chgSet w g 0 _).trans (chgSet _ g 1 _) fun _ _ e => e
theorem own_put2 {w : World} {g : Nat} {t : TypeId} {b0 b1 : Value} (h : Own w g t [b0, b1]) (a0 a1 : Value) : Own (put2 w g a0 a1) g t [a0, a1] := (h.set 0 a0).set 1 a1

set_option maxHeartbeats 2000000 in
theorem take_fn (A : Option Addr) (b : List Int) (n c : Nat) (w : World) (h : Rd w w.heap.size A b) (hn : n = b.length) (hl : n ≤ 1000000) (hc : n ≤ c) (hcm : c ≤ maxLen) :
    Calls Try.prog 31 #[.slice A n c] w (FnPost b w) := by
  have HR := Lib.hid h
  have HN := Lib.hid hn
  clear h hn
  go_enter Try.func31, Try.ntmps31
  go_wp2_with fail
  refine (rnew_any A n c _).mono ?_
  rintro e w1 ⟨rfl, hb1⟩
  have HT0 : Hid (T2 52 w w.heap.size w1.heap.size n [.slice none 0 0, .slice none 0 0] (.ok b) (w1.alloc (.cells #[.slice A n c, .int .i64 0, .int .i64 0] 90))) := by
    have hs := hb1.size
    simp at hs
    have hw1 : Below w.heap.size w w1 := ((Below.refl _ _).alloc (Nat.le_refl _) _).trans (hb1.mono (by simp))
    have hR1 := (HR.out.rx.later hw1).mono (Y := (· < w1.heap.size)) fun k _ hk => by have : k < w.heap.size := hk; omega
    have hA := (Below.refl w1.heap.size w1).alloc (Nat.le_refl _) (.cells #[.slice A n c, .int .i64 0, .int .i64 0] 90)
    refine ⟨⟨A, c, 0, ?_, ?_, by rw [← HN.out]; exact hc, hcm, by rw [← HN.out]; exact hl, by have := HN.out; simp only []; omega, by have := HN.out; simp only []; omega, by simp only []; omega⟩, ?_, by omega, Nat.le_refl _, hw1.trans (hA.mono (by omega))⟩
    · rw [← HN.out]
      exact Own.new w1 90 [.slice A n c, .int .i64 0, .int .i64 0]
    · exact hR1.later hA
    · exact ((Own.new w 52 [.slice none 0 0, .slice none 0 0]).later hb1).later hA
  have HA1 : Hid (RdX (fun k => k ≠ w1.heap.size) ((w1.alloc (.cells #[.slice A n c, .int .i64 0, .int .i64 0] 90)).alloc (.cells #[.int .u8 96] 5)) (some ⟨w1.heap.size + 1, 0, none⟩) [96] ∧ Below (w1.alloc (.cells #[.slice A n c, .int .i64 0, .int .i64 0] 90)).heap.size (w1.alloc (.cells #[.slice A n c, .int .i64 0, .int .i64 0] 90)) ((w1.alloc (.cells #[.slice A n c, .int .i64 0, .int .i64 0] 90)).alloc (.cells #[.int .u8 96] 5))) := by
    refine ⟨?_, (Below.refl _ _).alloc (Nat.le_refl _) _⟩
    have := rdX_lit (w1.alloc (.cells #[.slice A n c, .int .i64 0, .int .i64 0] 90)) [96] (IsBytes.one (by omega) (by omega))
    rw [show (w1.alloc (.cells #[.slice A n c, .int .i64 0, .int .i64 0] 90)).heap.size = w1.heap.size + 1 from by simp] at this
    exact this.mono fun k _ hk => by omega
  clear hb1
  go_wp2_with fail
  have HT1 := Lib.hid (HT0.out.below HA1.out.2)
  have HA := Lib.hid HA1.out.1
  clear HA1 HT0
  generalize (w1.alloc (.cells #[.slice A n c, .int .i64 0, .int .i64 0] 90)).alloc (.cells #[.int .u8 96] 5) = W at *
  generalize w1.heap.size = g4 at *
  generalize hg2 : w.heap.size = g2 at HT1 ⊢
  have HG2 := Lib.hid hg2
  clear hg2
  refine (among_any g4 _ (n, []) (.ok b) [96] (some ⟨g4 + 1, 0, none⟩) 1 1 W HT1.out.1 HA.out rfl (by omega)).mono ?_
  rintro e w2 ⟨x, rfl, x0, x1, h2, h3, h4⟩
  have HT := Lib.hid (HT1.out.step h2 h4)
  have HV0 := Lib.hid h3
  clear h2 h3 h4 HT1 HA
  go_wp2_with fail
  refine (svalues_any g4 _ (n, []) _ _ HT.out.1).mono ?_
  rintro e w3 ⟨v1, ps, rfl, ho, hI1, h2, h3, h4, hp1⟩
  have hT := HT.out.step h2 h4
  obtain ⟨A1, c1, rfl, hd1, hd2, hr⟩ := ho.rdX hI1
  have hX := HT.out.far ho hr
  obtain ⟨k0, k1, f0, f1⟩ := own_cells2 hT.2.1
  have hT2 := hT.set (NoByte.slices _ _ _ _ _ _) 0 (.slice A1 ps.length c1)
  have HP1 := Lib.hid (And.intro (hX.chg (chgSet w3 g2 0 (.slice A1 ps.length c1)) fun k _ hk e => by have := hT.2.2.1; omega) (And.intro hd1 (And.intro hd2 hI1)))
  have HT := Lib.hid hT2
  have HV1 := Lib.hid h3
  clear h2 h3 h4 ho hr hX hT hT2 hd1 hd2 hI1
  generalize hl1 : ps.length = l1 at *
  have HL1 := Lib.hid hl1
  clear hl1
  go_wp2_with fail
  refine (svalues_any g4 _ (n, []) _ _ HT.out.1).mono ?_
  rintro e w4 ⟨v2, rs, rfl, ho, hI2, h2, h3, h4, hp2⟩
  have hT := HT.out.step h2 h4
  obtain ⟨A2, c2, rfl, hd1, hd2, hr⟩ := ho.rdX hI2
  have hX := HT.out.far ho hr
  clear k0 k1 f0 f1
  obtain ⟨k0, k1, f0, f1⟩ := own_cells2 hT.2.1
  have hT2 := hT.set (NoByte.slices _ _ _ _ _ _) 1 (.slice A2 rs.length c2)
  have HP2 := Lib.hid (And.intro (hX.chg (chgSet w4 g2 1 (.slice A2 rs.length c2)) fun k _ hk e => by have := hT.2.2.1; omega) (And.intro hd1 (And.intro hd2 hI2)))
  have HP1 := Lib.hid (And.intro ((HP1.out.1.chg h4 fun k _ hk e => by omega).chg (chgSet w4 g2 1 (.slice A2 rs.length c2)) fun k _ hk e => by have := hT.2.2.1; omega) HP1.out.2)
  have HT := Lib.hid hT2
  have HV2 := Lib.hid h3
  clear h2 h3 h4 ho hr hX hT hT2 hd1 hd2 hI2
  generalize hl2 : rs.length = l2 at *
  have HL2 := Lib.hid hl2
  clear hl2
  go_wp2_with fail
  refine (rstop_any g4 _ (n, []) _ _ HT.out.1).mono ?_
  rintro e w5 ⟨rfl, hb5⟩
  have hT := HT.out.below hb5
  have HP1 := Lib.hid (And.intro (HP1.out.1.later hb5) HP1.out.2)
  have HP2 := Lib.hid (And.intro (HP2.out.1.later hb5) HP2.out.2)
  clear k0 k1 f0 f1
  obtain ⟨k0, k1, f0, f1⟩ := own_cells2 hT.2.1
  have HO := Lib.hid hT.2.1
  have HB := Lib.hid (And.intro hT.2.2.1 (And.intro hT.2.2.2.1 hT.2.2.2.2))
  have HK : Hid (pFn b = bd (nx pVals (nx pVals (nx (pAmong [96]) (.ok b)))) fun l => .ok ((ps, rs), l)) := by
    unfold Hid
    rw [← bd_ok b pFn]
    unfold pFn
    rw [(nx_seq (pAmong [96]) _ (.ok b) _ HV0.out).2, (nx_seq pVals _ _ ps HV1.out).2, (nx_seq pVals _ _ rs HV2.out).2]
  have HF := Lib.hid (end_cases _ HT.out.1.err b ((ps, rs) : Fn))
  have HE : Hid ((∃ l, nx pVals (nx pVals (nx (pAmong [96]) (.ok b))) = .ok l) → fnOf (pFn b) = (ps, rs)) := by
    rintro ⟨l, e⟩; rw [HK.out, e]; rfl
  have HE2 : Hid ((∃ e, nx pVals (nx pVals (nx (pAmong [96]) (.ok b))) = .error e) → fnOf (pFn b) = ([], [])) := by
    rintro ⟨l, e⟩; rw [HK.out, e]; rfl
  rw [← HK.out, ← HN.out] at HF
  clear HK hT hb5 HT HV0 HV1 HV2
  generalize nx pVals (nx pVals (nx (pAmong [96]) (.ok b))) = sE at *
  rcases HF.out with ⟨h1, h2, h3, h4⟩ | ⟨h1, h2, h3, h4⟩
  · have HZ := Lib.hid (And.intro (HE.out h1) (And.intro h3 h4))
    rw [h2]
    clear h1 h3 h4 HF HE HE2 h2
    generalize readS (n, ([] : List Value)).1 sE = rd at *
    go_wp2
    have hW := own_put2 HO.out (.slice A1 l1 c1) (.slice A2 l2 c2)
    have hC := chg2 w5 g2 (.slice A1 l1 c1) (.slice A2 l2 c2)
    show bodyPost _ _ _ _ _ (put2 w5 g2 (.slice A1 l1 c1) (.slice A2 l2 c2))
    generalize put2 w5 g2 (.slice A1 l1 c1) (.slice A2 l2 c2) = W2 at *
    clear k0 k1 f0 f1
    obtain ⟨k0, k1, -, -⟩ := own_cells2 hW
    refine bodyPost_ret (by simp [results, Try.results31, go_sem, k0, k1]; try rfl) rfl ?_
    obtain ⟨z1, z2, z3⟩ := HZ.out
    have hBB := HB.out
    refine ⟨_, by rw [← z3, z2], ?_, hBB.2.2.trans (hC.below hBB.2.2.size fun i hi e => by omega)⟩
    rw [z1]
    refine ⟨A1, c1, A2, c2, by simp only []; rw [HL1.out, HL2.out], ?_, by simp only []; rw [HL1.out]; exact HP1.out.2.1, HP1.out.2.2.1, ?_, by simp only []; rw [HL2.out]; exact HP2.out.2.1, HP2.out.2.2.1⟩
    · exact (HP1.out.1.chg hC fun k _ hk e => by omega).mono fun k _ hk => by have := HG2.out; omega
    · exact (HP2.out.1.chg hC fun k _ hk e => by omega).mono fun k _ hk => by have := HG2.out; omega
  · have HZ := Lib.hid (And.intro (HE2.out h1) (And.intro h3 h4))
    have hne : (errS sE != 0) = true := by simpa using h2
    clear h1 h3 h4 HF HE HE2 h2
    generalize errS sE = ee at *
    generalize readS (n, ([] : List Value)).1 sE = rd at *
    go_wp2
    have hW := own_put2 HO.out (.slice none 0 0) (.slice none 0 0)
    have hC := chg2 w5 g2 (.slice none 0 0) (.slice none 0 0)
    show bodyPost _ _ _ _ _ (put2 w5 g2 (.slice none 0 0) (.slice none 0 0))
    generalize put2 w5 g2 (.slice none 0 0) (.slice none 0 0) = W2 at *
    clear k0 k1 f0 f1
    obtain ⟨k0, k1, -, -⟩ := own_cells2 hW
    refine bodyPost_ret (by simp [results, Try.results31, go_sem, k0, k1]; try rfl) rfl ?_
    obtain ⟨z1, z2, z3⟩ := HZ.out
    have hBB := HB.out
    refine ⟨_, by rw [z2, z3], by rw [z1]; exact zfn_v _ _, hBB.2.2.trans (hC.below hBB.2.2.size fun i hi e => by omega)⟩
end Go.Proofs.Ytnjbijndfbobbaa
