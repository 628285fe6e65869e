/- The document's FuncType, Limits, TakeFunc and TakeLimits: what their calls come to. -/
import Derived.Test.YtnjbijndfbobbaaRefTypes
namespace Go.Proofs.Ytnjbijndfbobbaa
open Go.RowKit
set_option maxRecDepth 100000
set_option linter.unusedVariables false

/-- A type of functions that the document's Reader read. -/
def FFPost (g : Nat) (s : St) (w : World) (e : Ending) (w' : World) : Prop :=
  ∃ v f, e = .returned v ∧ FnV (fun k => w.heap.size ≤ k) w' v f ∧ RfAt w' g (nx pFn s) ∧ (∀ a l', bd s pFn = .ok (a, l') → f = a) ∧ Chg (fun k => k = g) w w'
/-- Limits that the document's Reader read. -/
def FLPost (g : Nat) (s : St) (w : World) (e : Ending) (w' : World) : Prop :=
  ∃ l, e = .returned (limV l) ∧ RfAt w' g (nx pLim s) ∧ (∀ a l', bd s pLim = .ok (a, l') → l = a) ∧ Chg (fun k => k = g) w w'
/-- The Reader in block g, what is made in block g2. -/
def F2 (T : TypeId) (w : World) (g g2 : Nat) (Q : List Value) (s : St) (wr : World) : Prop := RfAt wr g s ∧ Own wr g2 T Q ∧ g < w.heap.size ∧ w.heap.size ≤ g2 ∧ Chg (fun k => k = g) w wr
section
variable {T : TypeId} {w : World} {g g2 : Nat} {Q : List Value} {s s' : St} {wr w' : World}
theorem F2.step (h : F2 T w g g2 Q s wr) (h1 : RfAt w' g s') (hc : Chg (fun k => k = g) wr w') : F2 T w g g2 Q s' w' := by
  obtain ⟨p1, p2, p3, p4, p5⟩ := h
  exact ⟨h1, p2.chg hc (by omega), p3, p4, p5.trans hc fun _ _ e => e⟩
theorem F2.set (h : F2 T w g g2 Q s wr) (j : Nat) (u : Value) : F2 T w g g2 (Q.set j u) s (wr.setCell ⟨g2, j, none⟩ u) := by
  obtain ⟨p1, p2, p3, p4, p5⟩ := h
  have hc := chgSet wr g2 j u
  exact ⟨p1.chg hc fun k hk => by omega, p2.set j u, p3, p4, p5.trans hc fun i hi e => by omega⟩
theorem F2.new (h : RfAt w g s) (T : TypeId) (Q : List Value) : F2 T w g w.heap.size Q s (w.alloc (.cells Q.toArray T)) :=
  ⟨h.later ((Below.refl _ _).alloc (Nat.le_refl _) _), Own.new w T Q, h.lt, Nat.le_refl _, Chg.alloc _ _⟩
end
theorem one_mem (x k : Int) : x ∈ [k] ↔ x = k := by simp

set_option maxHeartbeats 2000000 in
theorem ffunc_any (g : Nat) (s : St) (w : World) (h : RfAt w g s) :
    Calls Try.prog 74 #[.pointer (some ⟨g, 0, none⟩)] w (FFPost g s w) := by
  have HT := Lib.hid (F2.new h 52 [.slice none 0 0, .slice none 0 0])
  clear h
  go_enter Try.func74, Try.ntmps74
  go_wp2_with fail
  change Calls _ _ _ (w.alloc (.cells [.slice none 0 0, .slice none 0 0].toArray 52)) _
  generalize w.alloc (.cells [.slice none 0 0, .slice none 0 0].toArray 52) = W0 at *
  generalize hg2 : w.heap.size = g2 at HT ⊢
  have HG := Lib.hid hg2
  clear hg2
  refine (fbyte_any g s W0 HT.out.1).mono ?_
  rintro e w1 ⟨x, rfl, h0, h1, h2, h3, h4⟩
  have HT := Lib.hid (HT.out.step h2 h4)
  have H3 := Lib.hid h3
  clear h2 h3 h4
  by_cases hx : x = 96
  · subst hx
    have hk := am_in (ps := [96]) (by simp) H3.out
    have HT : Hid (F2 52 w g g2 [.slice none 0 0, .slice none 0 0] (nx (pAmong [96]) s) w1) := by unfold Hid; rw [hk.1]; exact HT.out
    have HV0 := Lib.hid hk.2
    clear hk H3
    go_wp2_with fail
    refine (fvalues_any g _ _ HT.out.1).mono ?_
    rintro e w2 ⟨v1, ps, rfl, ho, hI1, h2, h3, h4⟩
    obtain ⟨A1, c1, rfl, hd1, hd2, hr⟩ := ho.rdX hI1
    have HP1 := Lib.hid (And.intro (hr.mono (Y := fun k => g2 < k) fun k _ e => by have := owns_ge ho e; have := HT.out.2.1.lt; omega) (And.intro hd1 hd2))
    have HT := Lib.hid (HT.out.step h2 h4)
    have HV1 := Lib.hid h3
    clear h2 h3 h4 ho hr hd1 hd2 hI1
    generalize hl1 : ps.length = l1 at *
    have HL1 := Lib.hid hl1
    clear hl1
    go_wp2_with fail
    refine (fvalues_any g _ _ HT.out.1).mono ?_
    rintro e w3 ⟨v2, rs, rfl, ho, hI1, h2, h3, h4⟩
    obtain ⟨A2, c2, rfl, hd1, hd2, hr⟩ := ho.rdX hI1
    have HP2 := Lib.hid (And.intro (hr.mono (Y := fun k => g2 < k) fun k _ e => by have := owns_ge ho e; have := HT.out.2.1.lt; omega) (And.intro hd1 hd2))
    have HP1 := Lib.hid (And.intro (HP1.out.1.chg h4 fun k _ hk e => by have := HT.out.2.2.1; have := HT.out.2.2.2.1; omega) HP1.out.2)
    have HT := Lib.hid (HT.out.step h2 h4)
    have HV2 := Lib.hid h3
    clear h2 h3 h4 ho hr hd1 hd2 hI1
    generalize hl2 : rs.length = l2 at *
    have HL2 := Lib.hid hl2
    clear hl2
    obtain ⟨k0, k1, f0, f1⟩ := own_cells2 HT.out.2.1
    go_wp2
    have hW := (HT.out.set 0 (.slice A1 l1 c1)).set 1 (.slice A2 l2 c2)
    have hC := chg2 w3 g2 (.slice A1 l1 c1) (.slice A2 l2 c2)
    have hP1 := HP1.out.1.chg hC fun k _ hk e => by omega
    have hP2 := HP2.out.1.chg hC fun k _ hk e => by omega
    change F2 _ _ _ _ _ _ (put2 w3 g2 (.slice A1 l1 c1) (.slice A2 l2 c2)) at hW
    show bodyPost _ _ _ _ _ (put2 w3 g2 (.slice A1 l1 c1) (.slice A2 l2 c2))
    generalize put2 w3 g2 (.slice A1 l1 c1) (.slice A2 l2 c2) = W2 at *
    clear k0 k1 f0 f1
    obtain ⟨k0, k1, -, -⟩ := own_cells2 hW.2.1
    refine bodyPost_ret (by simp [results, Try.results74, go_sem, k0, k1]; try rfl) rfl ?_
    have hK : bd s pFn = bd (nx pVals (nx pVals (nx (pAmong [96]) s))) fun l => .ok ((ps, rs), l) := by
      unfold pFn
      rw [(nx_seq (pAmong [96]) _ s _ HV0.out).2, (nx_seq pVals _ _ ps HV1.out).2, (nx_seq pVals _ _ rs HV2.out).2]
    refine ⟨_, (ps, rs), rfl, ⟨A1, c1, A2, c2, by simp only []; rw [HL1.out, HL2.out], hP1.mono fun k _ hk => by have := HG.out; omega, by simp only []; rw [HL1.out]; exact HP1.out.2.1, HP1.out.2.2, hP2.mono fun k _ hk => by have := HG.out; omega, by simp only []; rw [HL2.out]; exact HP2.out.2.1, HP2.out.2.2⟩, ?_, ?_, hW.2.2.2.2⟩
    · have hr := hW.1
      unfold nx
      rw [hK]
      generalize nx pVals (nx pVals (nx (pAmong [96]) s)) = sE at hr ⊢
      cases sE <;> exact hr
    · intro a l' h
      rw [hK] at h
      generalize nx pVals (nx pVals (nx (pAmong [96]) s)) = sE at h
      cases sE with
      | error e => cases h
      | ok l => injection h with h; injection h
  · have hk := am_out (ps := [96]) (by simpa using hx) H3.out
    have hne : (x != 96) = true := by simpa using hx
    have HF := Lib.hid (ffail_any g _ 2 w1 HT.out.1 (by omega) (by omega))
    rw [← hk.1] at HF
    have HV0 : Hid (∀ a l', bd s (pAmong [96]) = .ok (a, l') → x = a) := fun a l' h => (hk.2 a l' h).elim
    clear hk H3 hx
    go_wp2_with fail
    refine HF.out.mono ?_
    rintro e w1' ⟨⟨u, rfl⟩, h2, hc⟩
    have HT := Lib.hid (HT.out.step h2 hc)
    clear h2 hc HF
    go_wp2_with fail
    refine (fvalues_any g _ _ HT.out.1).mono ?_
    rintro e w2 ⟨v1, ps, rfl, ho, hI1, h2, h3, h4⟩
    obtain ⟨A1, c1, rfl, hd1, hd2, hr⟩ := ho.rdX hI1
    have HP1 := Lib.hid (And.intro (hr.mono (Y := fun k => g2 < k) fun k _ e => by have := owns_ge ho e; have := HT.out.2.1.lt; omega) (And.intro hd1 hd2))
    have HT := Lib.hid (HT.out.step h2 h4)
    have HV1 := Lib.hid h3
    clear h2 h3 h4 ho hr hd1 hd2 hI1
    generalize hl1 : ps.length = l1 at *
    have HL1 := Lib.hid hl1
    clear hl1
    go_wp2_with fail
    refine (fvalues_any g _ _ HT.out.1).mono ?_
    rintro e w3 ⟨v2, rs, rfl, ho, hI1, h2, h3, h4⟩
    obtain ⟨A2, c2, rfl, hd1, hd2, hr⟩ := ho.rdX hI1
    have HP2 := Lib.hid (And.intro (hr.mono (Y := fun k => g2 < k) fun k _ e => by have := owns_ge ho e; have := HT.out.2.1.lt; omega) (And.intro hd1 hd2))
    have HP1 := Lib.hid (And.intro (HP1.out.1.chg h4 fun k _ hk e => by have := HT.out.2.2.1; have := HT.out.2.2.2.1; omega) HP1.out.2)
    have HT := Lib.hid (HT.out.step h2 h4)
    have HV2 := Lib.hid h3
    clear h2 h3 h4 ho hr hd1 hd2 hI1
    generalize hl2 : rs.length = l2 at *
    have HL2 := Lib.hid hl2
    clear hl2
    obtain ⟨k0, k1, f0, f1⟩ := own_cells2 HT.out.2.1
    go_wp2
    have hW := (HT.out.set 0 (.slice A1 l1 c1)).set 1 (.slice A2 l2 c2)
    have hC := chg2 w3 g2 (.slice A1 l1 c1) (.slice A2 l2 c2)
    have hP1 := HP1.out.1.chg hC fun k _ hk e => by omega
    have hP2 := HP2.out.1.chg hC fun k _ hk e => by omega
    change F2 _ _ _ _ _ _ (put2 w3 g2 (.slice A1 l1 c1) (.slice A2 l2 c2)) at hW
    show bodyPost _ _ _ _ _ (put2 w3 g2 (.slice A1 l1 c1) (.slice A2 l2 c2))
    generalize put2 w3 g2 (.slice A1 l1 c1) (.slice A2 l2 c2) = W2 at *
    clear k0 k1 f0 f1
    obtain ⟨k0, k1, -, -⟩ := own_cells2 hW.2.1
    refine bodyPost_ret (by simp [results, Try.results74, go_sem, k0, k1]; try rfl) rfl ?_
    have hK : bd s pFn = bd (nx pVals (nx pVals (nx (pAmong [96]) s))) fun l => .ok ((ps, rs), l) := by
      unfold pFn
      rw [(nx_seq (pAmong [96]) _ s _ HV0.out).2, (nx_seq pVals _ _ ps HV1.out).2, (nx_seq pVals _ _ rs HV2.out).2]
    refine ⟨_, (ps, rs), rfl, ⟨A1, c1, A2, c2, by simp only []; rw [HL1.out, HL2.out], hP1.mono fun k _ hk => by have := HG.out; omega, by simp only []; rw [HL1.out]; exact HP1.out.2.1, HP1.out.2.2, hP2.mono fun k _ hk => by have := HG.out; omega, by simp only []; rw [HL2.out]; exact HP2.out.2.1, HP2.out.2.2⟩, ?_, ?_, hW.2.2.2.2⟩
    · have hr := hW.1
      unfold nx
      rw [hK]
      generalize nx pVals (nx pVals (nx (pAmong [96]) s)) = sE at hr ⊢
      cases sE <;> exact hr
    · intro a l' h
      rw [hK] at h
      generalize nx pVals (nx pVals (nx (pAmong [96]) s)) = sE at h
      cases sE with
      | error e => cases h
      | ok l => injection h with h; injection h
end Go.Proofs.Ytnjbijndfbobbaa
