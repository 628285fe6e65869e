/- The document's PutLimits: the same bytes. -/
import Derived.Test.YtnjbijndfbobbaaRefTypesPut
import Derived.Test.YtnjbijndfbobbaaTypesLimPut
namespace Go.Proofs.Ytnjbijndfbobbaa
open Go.RowKit
set_option maxRecDepth 100000
set_option linter.unusedVariables false

set_option maxHeartbeats 16000000 in
theorem refPut_lim (A0 : Option Addr) (bs : List Int) (n0 c0 : Nat) (l : Lim) (w : World) (h0 : Rd w w.heap.size A0 bs) (hn0 : n0 = bs.length) (hl0 : n0 ≤ 1000000) (hl : l.Ok) :
    Calls Try.prog 41 #[.slice A0 n0 c0, limV l] w (WPost (bs ++ putLim l) w) := by
  obtain ⟨mn, mx, has⟩ := l
  obtain ⟨⟨a0, a1⟩, b0, b1⟩ := hl
  simp only [] at a0 a1 b0 b1
  have HN := Lib.hid hn0
  have HR0 : Hid (RdX (fun _ => True) w A0 bs) := h0.rx.mono fun _ _ _ => trivial
  have L1 := Lib.hid (encU_len mn).2
  have KS0 : Hid (∀ W : World, Below (w.alloc (.cells #[.int .u32 mn, .int .u32 mx, .bool has] 57)).heap.size (w.alloc (.cells #[.int .u32 mn, .int .u32 mx, .bool has] 57)) W → W.cell? ⟨w.heap.size, 0, none⟩ = some (.int .u32 mn) ∧ W.cell? ⟨w.heap.size, 1, none⟩ = some (.int .u32 mx) ∧ W.cell? ⟨w.heap.size, 2, none⟩ = some (.bool has)) := fun W hW => by
    have ho := (Own.new w 57 [.int .u32 mn, .int .u32 mx, .bool has]).later hW
    exact ⟨ho.cell 0, ho.cell 1, ho.cell 2⟩
  have HB1 : Hid (Below w.heap.size w (w.alloc (.cells #[.int .u32 mn, .int .u32 mx, .bool has] 57))) := (Below.refl _ _).alloc (Nat.le_refl _) _
  have hw1 : IntKind.u64.wrap mn = mn := by rw [IntKind.wrap_u64]; omega
  have hw2 : IntKind.u64.wrap mx = mx := by rw [IntKind.wrap_u64]; omega
  clear h0 hn0
  unfold limV
  go_enter Try.func41, Try.ntmps41
  go_upto_region 1 with fail
  have KS := KS0
  clear KS0
  generalize w.alloc (.cells #[.int .u32 mn, .int .u32 mx, .bool has] 57) = w1 at *
  have KS2 : Hid (∀ W : World, Below w1.heap.size w1 W → W.cell? ⟨w.heap.size, 0, none⟩ = some (.int .u32 mn) ∧ W.cell? ⟨w.heap.size, 1, none⟩ = some (.int .u32 mx)) := fun W hW => ⟨(KS.out W hW).1, (KS.out W hW).2.1⟩
  obtain ⟨k0, k1, k2⟩ := KS.out w1 (Below.refl _ _)
  have AP : Hid (∀ W : World, Below w1.heap.size w1 W → RdX (fun _ => True) W A0 bs) := fun W hW => (HR0.out.later HB1.out).later hW
  clear HR0
  cases has with
  | false =>
    have EQ : Hid ([] ++ bs ++ [0] ++ encU mn = bs ++ putLim ⟨mn, mx, false⟩) := by
      unfold Hid
      rw [putLim_no]
      simp only [List.nil_append, List.append_assoc]
    have LA : Hid (At w1 (w1.alloc (.cells #[] 5)).drew (some ⟨w1.heap.size, 0, none⟩) 0 0 []) := ⟨rfl, (lits_a w1).1, IsBytes.nil, (lits_a w1).2⟩
    have hb := lits_b w1 0 (by omega) (by omega)
    have LB : Hid (At w1 ((w1.alloc (.cells #[] 5)).alloc (.cells #[.int .u8 0] 5)).drew (some ⟨w1.heap.size, 0, none⟩) 0 0 [] ∧ RdX (fun k => k = w1.heap.size + 1) ((w1.alloc (.cells #[] 5)).alloc (.cells #[.int .u8 0] 5)).drew (some ⟨w1.heap.size + 1, 0, none⟩) [0]) := ⟨⟨rfl, hb.1, IsBytes.nil, hb.2.1⟩, hb.2.2⟩
    have hc := lits_c w1 0 (by omega) (by omega)
    have LC : Hid (At w1 ((w1.alloc (.cells #[.int .u8 0] 5)).alloc (.cells #[] 5)).drew (some ⟨w1.heap.size + 1, 0, none⟩) 0 0 [] ∧ RdX (fun k => k = w1.heap.size) ((w1.alloc (.cells #[.int .u8 0] 5)).alloc (.cells #[] 5)).drew (some ⟨w1.heap.size, 0, none⟩) [0]) := ⟨⟨rfl, hc.1, IsBytes.nil, hc.2.1⟩, hc.2.2⟩
    clear hb hc
    have LW : Hid (∀ W : World, Below W.heap.size W (W.alloc (.cells #[.int .u8 0] 5)) ∧ RdX (fun _ => True) (W.alloc (.cells #[.int .u8 0] 5)) (some ⟨W.heap.size, 0, none⟩) [0]) := fun W => ⟨(Below.refl _ _).alloc (Nat.le_refl _) _, (rdX_lit W [0] (IsBytes.one (by omega) (by omega))).mono fun _ _ _ => trivial⟩
    have L8 : Hid (Below w1.heap.size w1 (w1.alloc (.cells #[.int .u8 0] 5)).drew) := ((Below.refl _ _).alloc (Nat.le_refl _) _).drew
    have HD : Hid (Below w1.heap.size w1 w1.drew) := (Below.refl _ _).drew
    have BA : Hid (∀ (W : World) (o : Obj), Below w1.heap.size w1 W → Below w1.heap.size w1 (W.alloc o)) := fun W o h => h.alloc h.size o
    have N1 : Hid (([] ++ bs : List Int).length ≤ 1000000 ∧ ([] ++ bs ++ [0] : List Int).length ≤ 1000001 ∧ ([] ++ bs ++ [0] ++ encU mn : List Int).length ≤ 1000011) := by
      have h1 := L1.out
      have h3 := HN.out
      unfold Hid
      simp only [List.length_append, List.length_cons, List.length_nil]
      omega
    go_upto_region 2 with fail
    clear k0 k1 k2
    go_wp2_with fail
    go_region_held_law (fun (w' : World) => w'.cell? ⟨w.heap.size, 0, none⟩ = some (.int .u32 mn) ∧ w'.cell? ⟨w.heap.size, 1, none⟩ = some (.int .u32 mx)) (exact KS2.out _ (by first | exact H14.out.2.2.2 | exact H9.out.1.2.2.2 | exact H7.out.2.2.2 | exact BA.out _ _ H7.out.2.2.2 | exact LC.out.1.2.2.2 | exact LB.out.1.2.2.2 | exact LA.out.2.2.2 | exact L8.out | exact HD.out))
      (first
        | (refine step_at (X := fun _ => True) rfl (.tmp 10) (.tmp 11) rfl w1 A7 n7 k7 ([] ++ bs) (by simp [Act.eval]) H7.out (some ⟨w1.heap.size + 1, 0, none⟩) 1 1 [0] (by simp [Act.eval]) rfl HLb.out (by have := N1.out; omega) ?_; intro A9 n9 k9 w9 H9; simp only [Act.put, List.getElem_toArray, List.getElem_cons_succ, List.getElem_cons_zero, List.setIfInBounds_toArray, List.set_cons_zero, List.set_cons_succ])
        | (refine step_at (X := fun _ => True) rfl (.tmp 10) (.tmp 11) rfl w1 A7 n7 k7 ([] ++ bs) (by simp [Act.eval]) H7.out (some ⟨w1.heap.size, 0, none⟩) 1 1 [0] (by simp [Act.eval]) rfl HLc.out (by have := N1.out; omega) ?_; intro A9 n9 k9 w9 H9; simp only [Act.put, List.getElem_toArray, List.getElem_cons_succ, List.getElem_cons_zero, List.setIfInBounds_toArray, List.set_cons_zero, List.set_cons_succ])
        | (refine step_at (X := fun _ => True) rfl (.tmp 10) (.tmp 11) rfl w1 A7 n7 k7 ([] ++ bs) (by simp [Act.eval]) (H7.out.later (LW.out w7).1) (some ⟨w7.heap.size, 0, none⟩) 1 1 [0] (by simp [Act.eval]) rfl (LW.out w7).2 (by have := N1.out; omega) ?_; intro A9 n9 k9 w9 H9; simp only [Act.put, List.getElem_toArray, List.getElem_cons_succ, List.getElem_cons_zero, List.setIfInBounds_toArray, List.set_cons_zero, List.set_cons_succ])
        | (refine step_at (X := fun _ => True) rfl (.tmp 8) (.tmp 9) rfl w1 (some ⟨w1.heap.size, 0, none⟩) 0 0 [] (by simp [Act.eval]) LA.out A0 n0 c0 bs (by simp [Act.eval]) HN.out (AP.out _ LA.out.2.2.2) (by simp; omega) ?_; intro A7 n7 k7 w7 h7; simp only [Act.put, List.getElem_toArray, List.getElem_cons_succ, List.getElem_cons_zero, List.setIfInBounds_toArray, List.set_cons_zero, List.set_cons_succ]; have H7 := Lib.hid h7.out.1; clear h7)
        | (refine step_at (X := fun _ => True) rfl (.tmp 8) (.tmp 9) rfl w1 (some ⟨w1.heap.size, 0, none⟩) 0 0 [] (by simp [Act.eval]) LB.out.1 A0 n0 c0 bs (by simp [Act.eval]) HN.out (AP.out _ LB.out.1.2.2.2) (by simp; omega) ?_; intro A7 n7 k7 w7 h7; simp only [Act.put, List.getElem_toArray, List.getElem_cons_succ, List.getElem_cons_zero, List.setIfInBounds_toArray, List.set_cons_zero, List.set_cons_succ]; have H7 := Lib.hid h7.out.1; have HLb := Lib.hid (lit_far LB.out.2 h7.out.2 (by simp [Value.ownBlock])); clear h7)
        | (refine step_at (X := fun _ => True) rfl (.tmp 8) (.tmp 9) rfl w1 (some ⟨w1.heap.size + 1, 0, none⟩) 0 0 [] (by simp [Act.eval]) LC.out.1 A0 n0 c0 bs (by simp [Act.eval]) HN.out (AP.out _ LC.out.1.2.2.2) (by simp; omega) ?_; intro A7 n7 k7 w7 h7; simp only [Act.put, List.getElem_toArray, List.getElem_cons_succ, List.getElem_cons_zero, List.setIfInBounds_toArray, List.set_cons_zero, List.set_cons_succ]; have H7 := Lib.hid h7.out.1; have HLc := Lib.hid (lit_far LC.out.2 h7.out.2 (by simp [Value.ownBlock])); clear h7)
        | (go_simp; go_at_call 66; refine (putU_at w1 w9 A9 n9 k9 ([] ++ bs ++ [0]) mn H9.out.1 (by have := N1.out; omega) (by omega) (by omega)).mono ?_; rintro e w14 ⟨A14, n14, k14, rfl, H14⟩))
    all_goals go_wp2
    all_goals go_ret
    all_goals rw [← EQ.out]
    all_goals exact H14.out.done HB1.out
  | true =>
    have EQ : Hid ([] ++ bs ++ [1] ++ encU mn ++ encU mx = bs ++ putLim ⟨mn, mx, true⟩) := by
      unfold Hid
      rw [putLim_yes]
      simp only [List.nil_append, List.append_assoc]
    have LA : Hid (At w1 (w1.alloc (.cells #[] 5)).drew (some ⟨w1.heap.size, 0, none⟩) 0 0 []) := ⟨rfl, (lits_a w1).1, IsBytes.nil, (lits_a w1).2⟩
    have hb := lits_b w1 1 (by omega) (by omega)
    have LB : Hid (At w1 ((w1.alloc (.cells #[] 5)).alloc (.cells #[.int .u8 1] 5)).drew (some ⟨w1.heap.size, 0, none⟩) 0 0 [] ∧ RdX (fun k => k = w1.heap.size + 1) ((w1.alloc (.cells #[] 5)).alloc (.cells #[.int .u8 1] 5)).drew (some ⟨w1.heap.size + 1, 0, none⟩) [1]) := ⟨⟨rfl, hb.1, IsBytes.nil, hb.2.1⟩, hb.2.2⟩
    have hc := lits_c w1 1 (by omega) (by omega)
    have LC : Hid (At w1 ((w1.alloc (.cells #[.int .u8 1] 5)).alloc (.cells #[] 5)).drew (some ⟨w1.heap.size + 1, 0, none⟩) 0 0 [] ∧ RdX (fun k => k = w1.heap.size) ((w1.alloc (.cells #[.int .u8 1] 5)).alloc (.cells #[] 5)).drew (some ⟨w1.heap.size, 0, none⟩) [1]) := ⟨⟨rfl, hc.1, IsBytes.nil, hc.2.1⟩, hc.2.2⟩
    clear hb hc
    have LW : Hid (∀ W : World, Below W.heap.size W (W.alloc (.cells #[.int .u8 1] 5)) ∧ RdX (fun _ => True) (W.alloc (.cells #[.int .u8 1] 5)) (some ⟨W.heap.size, 0, none⟩) [1]) := fun W => ⟨(Below.refl _ _).alloc (Nat.le_refl _) _, (rdX_lit W [1] (IsBytes.one (by omega) (by omega))).mono fun _ _ _ => trivial⟩
    have L8 : Hid (Below w1.heap.size w1 (w1.alloc (.cells #[.int .u8 1] 5)).drew) := ((Below.refl _ _).alloc (Nat.le_refl _) _).drew
    have HD : Hid (Below w1.heap.size w1 w1.drew) := (Below.refl _ _).drew
    have BA : Hid (∀ (W : World) (o : Obj), Below w1.heap.size w1 W → Below w1.heap.size w1 (W.alloc o)) := fun W o h => h.alloc h.size o
    have N1 : Hid (([] ++ bs : List Int).length ≤ 1000000 ∧ ([] ++ bs ++ [1] : List Int).length ≤ 1000001 ∧ ([] ++ bs ++ [1] ++ encU mn : List Int).length ≤ 1000011) := by
      have h1 := L1.out
      have h3 := HN.out
      unfold Hid
      simp only [List.length_append, List.length_cons, List.length_nil]
      omega
    go_upto_region 3 with fail
    clear k0 k1 k2
    go_wp2_with fail
    go_region_held_law (fun (w' : World) => w'.cell? ⟨w.heap.size, 0, none⟩ = some (.int .u32 mn) ∧ w'.cell? ⟨w.heap.size, 1, none⟩ = some (.int .u32 mx)) (exact KS2.out _ (by first | exact H15.out.2.2.2 | exact H14.out.2.2.2 | exact H9.out.1.2.2.2 | exact H7.out.2.2.2 | exact BA.out _ _ H7.out.2.2.2 | exact LC.out.1.2.2.2 | exact LB.out.1.2.2.2 | exact LA.out.2.2.2 | exact L8.out | exact HD.out))
      (first
        | (refine step_at (X := fun _ => True) rfl (.tmp 19) (.tmp 20) rfl w1 A7 n7 k7 ([] ++ bs) (by simp [Act.eval]) H7.out (some ⟨w1.heap.size + 1, 0, none⟩) 1 1 [1] (by simp [Act.eval]) rfl HLb.out (by have := N1.out; omega) ?_; intro A9 n9 k9 w9 H9; simp only [Act.put, List.getElem_toArray, List.getElem_cons_succ, List.getElem_cons_zero, List.setIfInBounds_toArray, List.set_cons_zero, List.set_cons_succ])
        | (refine step_at (X := fun _ => True) rfl (.tmp 19) (.tmp 20) rfl w1 A7 n7 k7 ([] ++ bs) (by simp [Act.eval]) H7.out (some ⟨w1.heap.size, 0, none⟩) 1 1 [1] (by simp [Act.eval]) rfl HLc.out (by have := N1.out; omega) ?_; intro A9 n9 k9 w9 H9; simp only [Act.put, List.getElem_toArray, List.getElem_cons_succ, List.getElem_cons_zero, List.setIfInBounds_toArray, List.set_cons_zero, List.set_cons_succ])
        | (refine step_at (X := fun _ => True) rfl (.tmp 19) (.tmp 20) rfl w1 A7 n7 k7 ([] ++ bs) (by simp [Act.eval]) (H7.out.later (LW.out w7).1) (some ⟨w7.heap.size, 0, none⟩) 1 1 [1] (by simp [Act.eval]) rfl (LW.out w7).2 (by have := N1.out; omega) ?_; intro A9 n9 k9 w9 H9; simp only [Act.put, List.getElem_toArray, List.getElem_cons_succ, List.getElem_cons_zero, List.setIfInBounds_toArray, List.set_cons_zero, List.set_cons_succ])
        | (refine step_at (X := fun _ => True) rfl (.tmp 17) (.tmp 18) rfl w1 (some ⟨w1.heap.size, 0, none⟩) 0 0 [] (by simp [Act.eval]) LA.out A0 n0 c0 bs (by simp [Act.eval]) HN.out (AP.out _ LA.out.2.2.2) (by simp; omega) ?_; intro A7 n7 k7 w7 h7; simp only [Act.put, List.getElem_toArray, List.getElem_cons_succ, List.getElem_cons_zero, List.setIfInBounds_toArray, List.set_cons_zero, List.set_cons_succ]; have H7 := Lib.hid h7.out.1; clear h7)
        | (refine step_at (X := fun _ => True) rfl (.tmp 17) (.tmp 18) rfl w1 (some ⟨w1.heap.size, 0, none⟩) 0 0 [] (by simp [Act.eval]) LB.out.1 A0 n0 c0 bs (by simp [Act.eval]) HN.out (AP.out _ LB.out.1.2.2.2) (by simp; omega) ?_; intro A7 n7 k7 w7 h7; simp only [Act.put, List.getElem_toArray, List.getElem_cons_succ, List.getElem_cons_zero, List.setIfInBounds_toArray, List.set_cons_zero, List.set_cons_succ]; have H7 := Lib.hid h7.out.1; have HLb := Lib.hid (lit_far LB.out.2 h7.out.2 (by simp [Value.ownBlock])); clear h7)
        | (refine step_at (X := fun _ => True) rfl (.tmp 17) (.tmp 18) rfl w1 (some ⟨w1.heap.size + 1, 0, none⟩) 0 0 [] (by simp [Act.eval]) LC.out.1 A0 n0 c0 bs (by simp [Act.eval]) HN.out (AP.out _ LC.out.1.2.2.2) (by simp; omega) ?_; intro A7 n7 k7 w7 h7; simp only [Act.put, List.getElem_toArray, List.getElem_cons_succ, List.getElem_cons_zero, List.setIfInBounds_toArray, List.set_cons_zero, List.set_cons_succ]; have H7 := Lib.hid h7.out.1; have HLc := Lib.hid (lit_far LC.out.2 h7.out.2 (by simp [Value.ownBlock])); clear h7)
        | (go_simp; go_at_call 66; refine (putU_at w1 w14 A14 n14 k14 ([] ++ bs ++ [1] ++ encU mn) mx H14.out (by have := N1.out; omega) (by omega) (by omega)).mono ?_; rintro e w15 ⟨A15, n15, k15, rfl, H15⟩)
        | (go_simp; go_at_call 66; refine (putU_at w1 w9 A9 n9 k9 ([] ++ bs ++ [1]) mn H9.out.1 (by have := N1.out; omega) (by omega) (by omega)).mono ?_; rintro e w14 ⟨A14, n14, k14, rfl, H14⟩))
    all_goals go_wp2
    all_goals go_ret
    all_goals rw [← EQ.out]
    all_goals exact H15.out.done HB1.out
end Go.Proofs.Ytnjbijndfbobbaa
