/- asm: elements. (Written by gen_AsmPart.py.) -/
import Derived.Test.YtdngkbagfaeplaaJoin11
import Derived.Test.YtdngkbagfaeplaaJoin12
namespace Go.Proofs.Ytdngkbagfaeplaa
open Go.RowKit
set_option maxRecDepth 100000
set_option linter.unusedVariables false

theorem encBV_map (is : List BV) : is.map encBV = (is.map BV.x).map encB := by rw [List.map_map]; rfl
theorem elm_is {X : Nat → Prop} {W : World} {a : EV} (h : KElm.ok X W a) (hp : ElOk a) : IsBytes (elemBV a) := by
  obtain ⟨⟨m0, m1, t0, t1, b0, b1⟩, ho, hi, hil⟩ := h
  have hv : IsBytes (cntB (a.is.map encBV)) := cntB_is (fun y hy => by
    obtain ⟨i, him, rfl⟩ := List.mem_map.1 hy
    obtain ⟨_, _, _, _, _, _, h5⟩ := hi
    exact (BV.enc (h5 i him) (hp.2.1 i him)).1) (by simp; omega)
  rw [encBV_map] at hv
  have h1 := (BV.enc ho hp.1).1
  unfold elemBV elemB
  split
  · exact .cons (by omega) (by omega) (.cons t0 t1 hv)
  · split
    · exact .cons (by omega) (by omega) (.cons t0 t1 hv)
    · split
      · exact .cons (by omega) (by omega) (h1.app hv)
      · exact .cons (by omega) (by omega) ((encU_is a.tb b0 (by omega)).app (h1.app (.cons t0 t1 hv)))
set_option maxHeartbeats 16000000 in
theorem qElm {X : Nat → Prop} (a : EV) (W : World) (h : KElm.ok X W a) (hp : ElOk a) : Calls Try.prog 22 #[aElV a] W (WPostR (elemBV a) W) := by
  have IY := Lib.hid (elm_is h hp)
  have hb0 := bl2 W (.cells #[.int .u8 a.mode, .int .u8 a.ty, .int .u32 a.tb, a.off.v, a.iv] 43)
  obtain ⟨⟨m0, m1, t0, t1, b0, b1⟩, ho, hi, hil⟩ := h
  have hi1 := BV.enc ho hp.1
  have hIe : ∀ i ∈ a.is, IsBytes (encBV i) := fun i him => by
    obtain ⟨_, _, _, _, _, _, h5⟩ := hi
    exact (BV.enc (h5 i him) (hp.2.1 i him)).1
  have hiv := cntB_is (ys := a.is.map encBV) (fun y hy => by obtain ⟨i, hi, rfl⟩ := List.mem_map.1 hy; exact hIe i hi) (by simp; omega)
  have hlv := cntB_len (ys := a.is.map encBV)
  have hlt := encU_len a.tb
  have CV : Hid (∀ W' : World, Below (W.alloc (.cells #[.int .u8 a.mode, .int .u8 a.ty, .int .u32 a.tb, a.off.v, a.iv] 43)).heap.size (W.alloc (.cells #[.int .u8 a.mode, .int .u8 a.ty, .int .u32 a.tb, a.off.v, a.iv] 43)) W' → Calls Try.prog 42 #[.func (.func 43) #[] #[], a.iv] W' (WPost (cntB (a.is.map encBV)) W')) := fun W' hW => cntEx_any a.iA _ a.ic a.is W' (hi.later (blT hb0 hW)) rfl (by omega) (by have := hp.2.2; omega) hIe hp.2.1
  have C1 : Hid (∀ W' : World, Below (W.alloc (.cells #[.int .u8 a.mode, .int .u8 a.ty, .int .u32 a.tb, a.off.v, a.iv] 43)).heap.size (W.alloc (.cells #[.int .u8 a.mode, .int .u8 a.ty, .int .u32 a.tb, a.off.v, a.iv] 43)) W' → Calls Try.prog 43 #[a.off.v] W' (WPost (encBV a.off) W')) := fun W' hW => pExpr a.off W' (BV.ok.later ho (blT hb0 hW)) hp.1
  have C2 : Hid (∀ W' : World, Below (W.alloc (.cells #[.int .u8 a.mode, .int .u8 a.ty, .int .u32 a.tb, a.off.v, a.iv] 43)).heap.size (W.alloc (.cells #[.int .u8 a.mode, .int .u8 a.ty, .int .u32 a.tb, a.off.v, a.iv] 43)) W' → Calls Try.prog 11 #[.int .u32 a.tb] W' (WPost (encU a.tb) W')) := fun W' hW => anumU_any a.tb W' b0 b1
  have I1 := Lib.hid hi1.1
  have I2 := Lib.hid (encU_is a.tb b0 (by omega))
  have IV := Lib.hid hiv
  have LEN5 : Hid ([[5, a.ty], cntB (a.is.map encBV)].flatten.length ≤ 100000000 ∧ [[7, a.ty], cntB (a.is.map encBV)].flatten.length ≤ 100000000) := by have := hp.2.2; unfold Hid; simp only [List.flatten_cons, List.flatten_nil, List.length_append, List.length_nil, List.length_cons]; omega
  have LEN4 : Hid ([[4], encBV a.off, cntB (a.is.map encBV)].flatten.length ≤ 100000000) := by have := hp.2.2; have := hi1.2; unfold Hid; simp only [List.flatten_cons, List.flatten_nil, List.length_append, List.length_nil, List.length_cons]; omega
  have LEN6 : Hid ([[6], encU a.tb, encBV a.off, [a.ty], cntB (a.is.map encBV)].flatten.length ≤ 100000000) := by have := hp.2.2; have := hi1.2; unfold Hid; simp only [List.flatten_cons, List.flatten_nil, List.length_append, List.length_nil, List.length_cons]; omega
  have EQ5 : Hid (a.mode = 1 → [[5, a.ty], cntB (a.is.map encBV)].flatten = elemBV a) := fun hm => by unfold elemBV elemB; rw [show a.x.1 = a.mode from rfl, if_pos hm, encBV_map]; simp only [List.flatten_cons, List.flatten_nil, List.append_nil]; rfl
  have EQ7 : Hid (a.mode = 2 → [[7, a.ty], cntB (a.is.map encBV)].flatten = elemBV a) := fun hm => by unfold elemBV elemB; rw [show a.x.1 = a.mode from rfl, if_neg (by omega), if_pos hm, encBV_map]; simp only [List.flatten_cons, List.flatten_nil, List.append_nil]; rfl
  have EQ4 : Hid (a.mode ≠ 1 → a.mode ≠ 2 → (a.tb = 0 ∧ a.ty = 112) → [[4], encBV a.off, cntB (a.is.map encBV)].flatten = elemBV a) := fun hm hm2 hc => by unfold elemBV elemB; rw [show a.x.1 = a.mode from rfl, if_neg hm, if_neg hm2, if_pos (show a.x.2.2.1 = 0 ∧ a.x.2.1 = 112 from hc), encBV_map]; simp only [List.flatten_cons, List.flatten_nil, List.append_nil]; rfl
  have EQ6 : Hid (a.mode ≠ 1 → a.mode ≠ 2 → ¬ (a.tb = 0 ∧ a.ty = 112) → [[6], encU a.tb, encBV a.off, [a.ty], cntB (a.is.map encBV)].flatten = elemBV a) := fun hm hm2 hc => by unfold elemBV elemB; rw [show a.x.1 = a.mode from rfl, if_neg hm, if_neg hm2, if_neg (show ¬ (a.x.2.2.1 = 0 ∧ a.x.2.1 = 112) from hc), encBV_map]; simp only [List.flatten_cons, List.flatten_nil, List.append_nil]; rfl
  have LIT5 : Hid (∀ W' : World, SlV (W'.alloc (.cells #[.int .u8 5, .int .u8 a.ty] 5)) (.slice (some ⟨W'.heap.size, 0, none⟩) 2 2) [5, a.ty]) := fun W' => SlV.lit W' [5, a.ty] (fun z hz => by simp at hz; omega) (by simp [maxLen])
  have LIT7 : Hid (∀ W' : World, SlV (W'.alloc (.cells #[.int .u8 7, .int .u8 a.ty] 5)) (.slice (some ⟨W'.heap.size, 0, none⟩) 2 2) [7, a.ty]) := fun W' => SlV.lit W' [7, a.ty] (fun z hz => by simp at hz; omega) (by simp [maxLen])
  have LIT4 : Hid (∀ W' : World, SlV (W'.alloc (.cells #[.int .u8 4] 5)) (.slice (some ⟨W'.heap.size, 0, none⟩) 1 1) [4]) := fun W' => SlV.lit W' [4] (fun z hz => by simp at hz; omega) (by simp [maxLen])
  have LIT6 : Hid (∀ W' : World, SlV (W'.alloc (.cells #[.int .u8 6] 5)) (.slice (some ⟨W'.heap.size, 0, none⟩) 1 1) [6]) := fun W' => SlV.lit W' [6] (fun z hz => by simp at hz; omega) (by simp [maxLen])
  have LITT : Hid (∀ W' : World, SlV (W'.alloc (.cells #[.int .u8 a.ty] 5)) (.slice (some ⟨W'.heap.size, 0, none⟩) 1 1) [a.ty]) := fun W' => SlV.lit W' [a.ty] (fun z hz => by simp at hz; omega) (by simp [maxLen])
  have KS0 : Hid (∀ W' : World, Below (W.alloc (.cells #[.int .u8 a.mode, .int .u8 a.ty, .int .u32 a.tb, a.off.v, a.iv] 43)).heap.size (W.alloc (.cells #[.int .u8 a.mode, .int .u8 a.ty, .int .u32 a.tb, a.off.v, a.iv] 43)) W' → W'.cell? ⟨W.heap.size, 0, none⟩ = some (.int .u8 a.mode) ∧ W'.cell? ⟨W.heap.size, 1, none⟩ = some (.int .u8 a.ty) ∧ W'.cell? ⟨W.heap.size, 2, none⟩ = some (.int .u32 a.tb) ∧ W'.cell? ⟨W.heap.size, 3, none⟩ = some (a.off.v) ∧ W'.cell? ⟨W.heap.size, 4, none⟩ = some (a.iv)) := fun W' hW => by
    have ho := (Own.new W 43 [.int .u8 a.mode, .int .u8 a.ty, .int .u32 a.tb, a.off.v, a.iv]).later hW
    exact ⟨ho.cell 0, ho.cell 1, ho.cell 2, ho.cell 3, ho.cell 4⟩
  have HB00 := Lib.hid hb0
  clear hp hb0 hi1 hIe hiv hlv hlt ho hi hil
  obtain ⟨md, ty, tb, ⟨isb, Ab, cb⟩, js, jA, jc⟩ := a
  simp only [aElV, EV.iv, BV.v] at *
  generalize hqb : isb.length = qb at *
  generalize hqj : js.length = qj at *
  clear hqb hqj
  generalize hm1 : encBV ⟨isb, Ab, cb⟩ = y1 at *
  generalize hm2 : cntB (js.map encBV) = yv at *
  generalize hm3 : elemBV ⟨md, ty, tb, ⟨isb, Ab, cb⟩, js, jA, jc⟩ = yr at *
  generalize hm4 : encU tb = y2 at *
  clear hm1 hm2 hm3 hm4
  by_cases hm1 : md = 1
  · have hmb : (md == 1) = true := by simpa using hm1
    have EQ := Lib.hid (EQ5.out hm1)
    clear hm1 EQ5 EQ7 EQ4 EQ6 LEN4 LEN6
    go_enter Try.func22, Try.ntmps22
    go_upto_region 1 with fail
    have hlt : W.heap.size < (W.alloc (.cells #[.int .u8 md, .int .u8 ty, .int .u32 tb, .slice Ab qb cb, .slice jA qj jc] 43)).heap.size := by simp
    generalize W.alloc (.cells #[.int .u8 md, .int .u8 ty, .int .u32 tb, .slice Ab qb cb, .slice jA qj jc] 43) = w0 at *
    have hk := KS0.out w0 (Below.refl _ _)
    obtain ⟨k0, k1, k2, k3, k4⟩ := hk
    go_upto_region 2 with (go_at_call 42; refine (CV.out w0 (Below.refl _ _)).mono ?_; intro e w1 hP; obtain ⟨Bv, dv, rfl, -, hS, hb⟩ := hP.sl IV.out; have KS := Lib.hid (fun W' (hW : Below w1.heap.size w1 W') => KS0.out W' (blT hb hW)); have HB0 := Lib.hid (blT HB00.out hb); have hlt := Nat.lt_of_lt_of_le hlt hb.size; have SV := Lib.hid (fun W' (hW : Below w1.heap.size w1 W') => hS.later hW); have C1 := Lib.hid (fun W' (hW : Below w1.heap.size w1 W') => C1.out W' (blT hb hW)); have C2 := Lib.hid (fun W' (hW : Below w1.heap.size w1 W') => C2.out W' (blT hb hW)); clear hP hS hb; generalize hqv : yv.length = qv at *; clear hqv k0 k1 k2 k3 k4)
    have hk := KS.out w1 (Below.refl _ _)
    obtain ⟨k0, k1, k2, k3, k4⟩ := hk
    have hA : All2 (SlV (w1.alloc (.cells #[.int .u8 5, .int .u8 ty] 5))) [.slice (some ⟨w1.heap.size, 0, none⟩) 2 2, .slice Bv qv dv] [[5, ty], yv] := (All2.one (LIT5.out w1)).app (All2.one (SV.out _ (bl2 w1 _)))
    have hC := concatN_any _ _ rfl _ _ 2 rfl hA LEN5.out.1 (by omega)
    rw [show (w1.alloc (.cells #[.int .u8 5, .int .u8 ty] 5)).heap.size = w1.heap.size + 1 from by simp] at hC
    have HC := Lib.hid hC
    clear hC hA
    go_wp2_with fail
    refine HC.out.mono ?_
    rintro e w3 ⟨v3, rfl, ho, hb⟩
    have HB3 := Lib.hid (blT (bl2 w1 (.cells #[.int .u8 5, .int .u8 ty] 5)) hb)
    have HO := Lib.hid ho
    clear ho hb HC
    go_wp2
    go_ret
    exact WPost.r ⟨_, rfl, by rw [← EQ.out]; exact HO.out.base (by have := HB0.out.size; simp; omega), blT HB0.out HB3.out⟩ IY.out
  · by_cases hm2 : md = 2
    · have hmb : (md == 1) = false := by simpa using hm1
      have hmb2 : (md == 2) = true := by simpa using hm2
      have EQ := Lib.hid (EQ7.out hm2)
      clear hm1 hm2 EQ5 EQ7 EQ4 EQ6 LEN4 LEN6
      go_enter Try.func22, Try.ntmps22
      go_upto_region 1 with fail
      have hlt : W.heap.size < (W.alloc (.cells #[.int .u8 md, .int .u8 ty, .int .u32 tb, .slice Ab qb cb, .slice jA qj jc] 43)).heap.size := by simp
      generalize W.alloc (.cells #[.int .u8 md, .int .u8 ty, .int .u32 tb, .slice Ab qb cb, .slice jA qj jc] 43) = w0 at *
      have hk := KS0.out w0 (Below.refl _ _)
      obtain ⟨k0, k1, k2, k3, k4⟩ := hk
      go_upto_region 2 with (go_at_call 42; refine (CV.out w0 (Below.refl _ _)).mono ?_; intro e w1 hP; obtain ⟨Bv, dv, rfl, -, hS, hb⟩ := hP.sl IV.out; have KS := Lib.hid (fun W' (hW : Below w1.heap.size w1 W') => KS0.out W' (blT hb hW)); have HB0 := Lib.hid (blT HB00.out hb); have hlt := Nat.lt_of_lt_of_le hlt hb.size; have SV := Lib.hid (fun W' (hW : Below w1.heap.size w1 W') => hS.later hW); have C1 := Lib.hid (fun W' (hW : Below w1.heap.size w1 W') => C1.out W' (blT hb hW)); have C2 := Lib.hid (fun W' (hW : Below w1.heap.size w1 W') => C2.out W' (blT hb hW)); clear hP hS hb; generalize hqv : yv.length = qv at *; clear hqv k0 k1 k2 k3 k4)
      have hk := KS.out w1 (Below.refl _ _)
      obtain ⟨k0, k1, k2, k3, k4⟩ := hk
      have hA : All2 (SlV (w1.alloc (.cells #[.int .u8 7, .int .u8 ty] 5))) [.slice (some ⟨w1.heap.size, 0, none⟩) 2 2, .slice Bv qv dv] [[7, ty], yv] := (All2.one (LIT7.out w1)).app (All2.one (SV.out _ (bl2 w1 _)))
      have hC := concatN_any _ _ rfl _ _ 2 rfl hA LEN5.out.2 (by omega)
      rw [show (w1.alloc (.cells #[.int .u8 7, .int .u8 ty] 5)).heap.size = w1.heap.size + 1 from by simp] at hC
      have HC := Lib.hid hC
      clear hC hA
      go_wp2_with fail
      refine HC.out.mono ?_
      rintro e w3 ⟨v3, rfl, ho, hb⟩
      have HB3 := Lib.hid (blT (bl2 w1 (.cells #[.int .u8 7, .int .u8 ty] 5)) hb)
      have HO := Lib.hid ho
      clear ho hb HC
      go_wp2
      go_ret
      exact WPost.r ⟨_, rfl, by rw [← EQ.out]; exact HO.out.base (by have := HB0.out.size; simp; omega), blT HB0.out HB3.out⟩ IY.out
    · have hmb : (md == 1) = false := by simpa using hm1
      have hmb2 : (md == 2) = false := by simpa using hm2
      by_cases hc : tb = 0 ∧ ty = 112
      · have EQ := Lib.hid (EQ4.out hm1 hm2 hc)
        have hx1 : (tb == 0) = true := by simpa using hc.1
        have hx2 : (ty == 112) = true := by simpa using hc.2
        clear hm1 hm2 hc EQ5 EQ7 EQ4 EQ6 LEN5 LEN6
        go_enter Try.func22, Try.ntmps22
        go_upto_region 1 with fail
        have hlt : W.heap.size < (W.alloc (.cells #[.int .u8 md, .int .u8 ty, .int .u32 tb, .slice Ab qb cb, .slice jA qj jc] 43)).heap.size := by simp
        generalize W.alloc (.cells #[.int .u8 md, .int .u8 ty, .int .u32 tb, .slice Ab qb cb, .slice jA qj jc] 43) = w0 at *
        have hk := KS0.out w0 (Below.refl _ _)
        obtain ⟨k0, k1, k2, k3, k4⟩ := hk
        go_upto_region 2 with (go_at_call 42; refine (CV.out w0 (Below.refl _ _)).mono ?_; intro e w1 hP; obtain ⟨Bv, dv, rfl, -, hS, hb⟩ := hP.sl IV.out; have KS := Lib.hid (fun W' (hW : Below w1.heap.size w1 W') => KS0.out W' (blT hb hW)); have HB0 := Lib.hid (blT HB00.out hb); have hlt := Nat.lt_of_lt_of_le hlt hb.size; have SV := Lib.hid (fun W' (hW : Below w1.heap.size w1 W') => hS.later hW); have C1 := Lib.hid (fun W' (hW : Below w1.heap.size w1 W') => C1.out W' (blT hb hW)); have C2 := Lib.hid (fun W' (hW : Below w1.heap.size w1 W') => C2.out W' (blT hb hW)); clear hP hS hb; generalize hqv : yv.length = qv at *; clear hqv k0 k1 k2 k3 k4)
        have hk := KS.out w1 (Below.refl _ _)
        obtain ⟨k0, k1, k2, k3, k4⟩ := hk
        have HC1 := Lib.hid (C1.out _ (bl2 w1 (.cells #[.int .u8 4] 5)))
        go_wp2_with fail
        refine HC1.out.mono ?_
        intro e w2 hP
        obtain ⟨B2, d2, rfl, -, hS, hb⟩ := hP.sl I1.out
        have HB2 := Lib.hid (blT (bl2 w1 (.cells #[.int .u8 4] 5)) hb)
        have hA : All2 (SlV w2) [.slice (some ⟨w1.heap.size, 0, none⟩) 1 1, .slice B2 y1.length d2, .slice Bv qv dv] [[4], y1, yv] := (All2.one ((LIT4.out w1).later hb)).app ((All2.one hS).app (All2.one (SV.out _ HB2.out)))
        have HCC := Lib.hid (concatN_any w2 _ rfl _ _ 3 rfl hA LEN4.out (by omega))
        clear hP hS hb hA HC1 k0 k1 k2 k3 k4
        generalize hq2 : y1.length = q2 at *
        clear hq2
        go_wp2_with fail
        refine HCC.out.mono ?_
        rintro e w3 ⟨v3, rfl, ho, hb⟩
        have HB3 := Lib.hid (blT HB2.out hb)
        have HO := Lib.hid ho
        clear ho hb HCC
        go_wp2
        go_ret
        exact WPost.r ⟨_, rfl, by rw [← EQ.out]; exact HO.out.base (by have := HB0.out.size; have := HB2.out.size; omega), blT HB0.out HB3.out⟩ IY.out
      · by_cases hc1 : tb = 0
        · have EQ := Lib.hid (EQ6.out hm1 hm2 hc)
          have hx1 : (tb == 0) = true := by simpa using hc1
          have hx2 : (ty == 112) = false := by simpa using (fun e => hc ⟨hc1, e⟩)
          clear hm1 hm2 hc hc1 EQ5 EQ7 EQ4 EQ6 LEN5 LEN4
          as_aux_lemma =>
            go_enter Try.func22, Try.ntmps22
            go_upto_region 1 with fail
            have hlt : W.heap.size < (W.alloc (.cells #[.int .u8 md, .int .u8 ty, .int .u32 tb, .slice Ab qb cb, .slice jA qj jc] 43)).heap.size := by simp
            generalize W.alloc (.cells #[.int .u8 md, .int .u8 ty, .int .u32 tb, .slice Ab qb cb, .slice jA qj jc] 43) = w0 at *
            have hk := KS0.out w0 (Below.refl _ _)
            obtain ⟨k0, k1, k2, k3, k4⟩ := hk
            go_upto_region 2 with (go_at_call 42; refine (CV.out w0 (Below.refl _ _)).mono ?_; intro e w1 hP; obtain ⟨Bv, dv, rfl, -, hS, hb⟩ := hP.sl IV.out; have KS := Lib.hid (fun W' (hW : Below w1.heap.size w1 W') => KS0.out W' (blT hb hW)); have HB0 := Lib.hid (blT HB00.out hb); have hlt := Nat.lt_of_lt_of_le hlt hb.size; have SV := Lib.hid (fun W' (hW : Below w1.heap.size w1 W') => hS.later hW); have C1 := Lib.hid (fun W' (hW : Below w1.heap.size w1 W') => C1.out W' (blT hb hW)); have C2 := Lib.hid (fun W' (hW : Below w1.heap.size w1 W') => C2.out W' (blT hb hW)); clear hP hS hb; generalize hqv : yv.length = qv at *; clear hqv k0 k1 k2 k3 k4)
            have hk := KS.out w1 (Below.refl _ _)
            obtain ⟨k0, k1, k2, k3, k4⟩ := hk
            go_upto_region 8 with fail
            have IR : Hid (IsBytes [[6], y2, y1, [ty], yv].flatten) := by unfold Hid; rw [EQ.out]; exact IY.out
            refine wp_posts (D := fun d => List.getD [poT, (poE (.pointer (some ⟨W.heap.size, 0, none⟩))), (poS [[6], y2, y1, [ty], yv].flatten), (poS yv), poT, poT, poT, poT, poT, poT, poT, poT, poT, poT, poT, poT, poT, poT, poT, poT, poT, poT, poT, poT, poT, poT, poT, poT, poT, poT, poT, poT, poT, poT, poT, poT, poT, poT, poT, poT, poT, poT, poT, (poM w1.heap.size 1 [6]), (poE (.pointer (some ⟨W.heap.size, 2, none⟩))), (poE (.int .u32 tb)), (poS y2), (poE (.pointer (some ⟨W.heap.size, 3, none⟩))), (poE (.slice Ab qb cb)), (poS y1), (poE (.pointer (some ⟨W.heap.size, 1, none⟩))), (poE (.int .u8 ty)), (poM w1.heap.size 1 [ty]), (poS yv), (poL 5 [[6], y2, y1, [ty], yv]), (poS [[6], y2, y1, [ty], yv].flatten)] d poT) (B := w1.heap.size) (N := 56) (known := [1, 3]) (need := fun i => List.getD [[], [1], [44], [45], [1], [47], [48], [1], [50], [51], [3], [43, 46, 49, 52, 53], [54], [55]] i []) (by kernel_rfl) (by kernel_rfl) (fun d => AllS.get [poT, (poE (.pointer (some ⟨W.heap.size, 0, none⟩))), (poS [[6], y2, y1, [ty], yv].flatten), (poS yv), poT, poT, poT, poT, poT, poT, poT, poT, poT, poT, poT, poT, poT, poT, poT, poT, poT, poT, poT, poT, poT, poT, poT, poT, poT, poT, poT, poT, poT, poT, poT, poT, poT, poT, poT, poT, poT, poT, poT, (poM w1.heap.size 1 [6]), (poE (.pointer (some ⟨W.heap.size, 2, none⟩))), (poE (.int .u32 tb)), (poS y2), (poE (.pointer (some ⟨W.heap.size, 3, none⟩))), (poE (.slice Ab qb cb)), (poS y1), (poE (.pointer (some ⟨W.heap.size, 1, none⟩))), (poE (.int .u8 ty)), (poM w1.heap.size 1 [ty]), (poS yv), (poL 5 [[6], y2, y1, [ty], yv]), (poS [[6], y2, y1, [ty], yv].flatten)] ⟨stT _, stE _ _, stS _ _, stS _ _, stT _, stT _, stT _, stT _, stT _, stT _, stT _, stT _, stT _, stT _, stT _, stT _, stT _, stT _, stT _, stT _, stT _, stT _, stT _, stT _, stT _, stT _, stT _, stT _, stT _, stT _, stT _, stT _, stT _, stT _, stT _, stT _, stT _, stT _, stT _, stT _, stT _, stT _, stT _, stM _ _ _, stE _ _, stE _ _, stS _ _, stE _ _, stE _ _, stS _ _, stE _ _, stE _ _, stM _ _ _, stS _ _, stL _ _ _, stS _ _, trivial⟩ d) rfl rfl ?_ ⟨?_, ?_, ?_, ?_, ?_, ?_, ?_, ?_, ?_, ?_, ?_, ?_, ?_, ?_, trivial⟩ ?_
            · intro s hs
              simp only [List.mem_cons, List.not_mem_nil, or_false] at hs
              rcases hs with rfl | rfl
              · exact rfl
              · exact SV.out w1 (Below.refl _ _)
            · intro a w hw hs
              have hB := hw.size
              exact ob_build (vs := #[(0, .int .u8 6)]) rfl (by simp only [List.map_toArray, List.map_cons, List.map_nil] <;> rfl) (run_byteL [6] (by simp) (by simp) w) (Rg.of (bl2 w _) hB) (fun d hd => by injection hd with hd; subst hd; exact poM_new [6] (fun z hz => by simp at hz; omega) (by simp [maxLen]) hB)
            · intro a w hw hs
              have hB := hw.size
              have h1 : a.eval (.tmp 1) = .pointer (some ⟨W.heap.size, 0, none⟩) := hs 1 (by decide)
              exact ob_val (v := .pointer (some ⟨W.heap.size, 2, none⟩)) (by simp only [execOp]; rw [h1]; go_simp) (Rg.refl _ _) (fun d hd => by injection hd with hd; subst hd; exact rfl)
            · intro a w hw hs
              have hB := hw.size
              have h1 : a.eval (.tmp 44) = .pointer (some ⟨W.heap.size, 2, none⟩) := hs 44 (by decide)
              obtain ⟨e0, e1, e2, e3, e4⟩ := KS.out w hw
              exact ob_val (v := .int .u32 tb) (by simp only [execOp]; rw [h1]; go_simp) (Rg.refl _ _) (fun d hd => by injection hd with hd; subst hd; exact rfl)
            · intro a w hw hs
              have hB := hw.size
              have h45 : a.eval (.tmp 45) = .int .u32 tb := hs 45 (by decide)
              have k45 : a.tmps[45]?.getD undef = .int .u32 tb := by rw [← Array.getD_eq_getD_getElem?]; exact h45
              exact ob_call (F := 11) (args := #[.int .u32 tb]) (by simp only [execOp]; go_simp) (C2.out w hw) I2.out hB (fun A c w2 hS _ d hd => by injection hd with hd; subst hd; exact hS)
            · intro a w hw hs
              have hB := hw.size
              have h1 : a.eval (.tmp 1) = .pointer (some ⟨W.heap.size, 0, none⟩) := hs 1 (by decide)
              exact ob_val (v := .pointer (some ⟨W.heap.size, 3, none⟩)) (by simp only [execOp]; rw [h1]; go_simp) (Rg.refl _ _) (fun d hd => by injection hd with hd; subst hd; exact rfl)
            · intro a w hw hs
              have hB := hw.size
              have h1 : a.eval (.tmp 47) = .pointer (some ⟨W.heap.size, 3, none⟩) := hs 47 (by decide)
              obtain ⟨e0, e1, e2, e3, e4⟩ := KS.out w hw
              exact ob_val (v := .slice Ab qb cb) (by simp only [execOp]; rw [h1]; go_simp) (Rg.refl _ _) (fun d hd => by injection hd with hd; subst hd; exact rfl)
            · intro a w hw hs
              have hB := hw.size
              have h48 : a.eval (.tmp 48) = .slice Ab qb cb := hs 48 (by decide)
              have k48 : a.tmps[48]?.getD undef = .slice Ab qb cb := by rw [← Array.getD_eq_getD_getElem?]; exact h48
              exact ob_call (F := 43) (args := #[.slice Ab qb cb]) (by simp only [execOp]; go_simp) (C1.out w hw) I1.out hB (fun A c w2 hS _ d hd => by injection hd with hd; subst hd; exact hS)
            · intro a w hw hs
              have hB := hw.size
              have h1 : a.eval (.tmp 1) = .pointer (some ⟨W.heap.size, 0, none⟩) := hs 1 (by decide)
              exact ob_val (v := .pointer (some ⟨W.heap.size, 1, none⟩)) (by simp only [execOp]; rw [h1]; go_simp) (Rg.refl _ _) (fun d hd => by injection hd with hd; subst hd; exact rfl)
            · intro a w hw hs
              have hB := hw.size
              have h1 : a.eval (.tmp 50) = .pointer (some ⟨W.heap.size, 1, none⟩) := hs 50 (by decide)
              obtain ⟨e0, e1, e2, e3, e4⟩ := KS.out w hw
              exact ob_val (v := .int .u8 ty) (by simp only [execOp]; rw [h1]; go_simp) (Rg.refl _ _) (fun d hd => by injection hd with hd; subst hd; exact rfl)
            · intro a w hw hs
              have hB := hw.size
              have h51 : a.eval (.tmp 51) = .int .u8 ty := hs 51 (by decide)
              exact ob_build (vs := #[(0, .int .u8 ty)]) rfl (by simp only [List.map_toArray, List.map_cons, List.map_nil, h51] <;> rfl) (run_byteL [ty] (by simp) (by simp) w) (Rg.of (bl2 w _) hB) (fun d hd => by injection hd with hd; subst hd; exact poM_new [ty] (IsBytes.one t0 t1) (by simp [maxLen]) hB)
            · intro a w hw hs
              have hB := hw.size
              have h1 := hs 3 (by decide)
              exact ob_val (v := a.eval (.tmp 3)) (by simp only [execOp]; go_simp) (Rg.refl _ _) (fun d hd => by injection hd with hd; subst hd; exact h1)
            · intro a w hw hs
              have hB := hw.size
              obtain ⟨_, _, _, _, g43⟩ := hs 43 (by decide)
              change SlV w (a.eval (.tmp 43)) _ at g43
              have q43 := g43
              obtain ⟨A43, d43, j43, -, -, -⟩ := q43
              have g46 := hs 46 (by decide)
              change SlV w (a.eval (.tmp 46)) _ at g46
              have q46 := g46
              obtain ⟨A46, d46, j46, -, -, -⟩ := q46
              have g49 := hs 49 (by decide)
              change SlV w (a.eval (.tmp 49)) _ at g49
              have q49 := g49
              obtain ⟨A49, d49, j49, -, -, -⟩ := q49
              obtain ⟨_, _, _, _, g52⟩ := hs 52 (by decide)
              change SlV w (a.eval (.tmp 52)) _ at g52
              have q52 := g52
              obtain ⟨A52, d52, j52, -, -, -⟩ := q52
              have g53 := hs 53 (by decide)
              change SlV w (a.eval (.tmp 53)) _ at g53
              have q53 := g53
              obtain ⟨A53, d53, j53, -, -, -⟩ := q53
              have hA : All2 (SlV w) _ _ := ((All2.one g43).app ((All2.one g46).app ((All2.one g49).app ((All2.one g52).app (All2.one g53)))))
              simp only [List.cons_append, List.nil_append] at hA
              rw [j43, j46, j49, j52, j53] at hA
              refine ob_build (vs := #[(0, .slice A43 ([6]).length d43), (1, .slice A46 (y2).length d46), (2, .slice A49 (y1).length d49), (3, .slice A52 ([ty]).length d52), (4, .slice A53 (yv).length d53)]) rfl (by simp only [List.map_toArray, List.map_cons, List.map_nil, j43, j46, j49, j52, j53] <;> rfl) (lists5 A43 A46 A49 A52 A53 ([6]).length d43 (y2).length d46 (y1).length d49 ([ty]).length d52 (yv).length d53 w) (Rg.of (bl2 w _) hB) ?_
              intro d hd
              injection hd with hd
              subst hd
              exact ⟨_, rfl, rdL_lit w _ _ hA (by simp [maxLen])⟩
            · intro a w hw hs
              have hB := hw.size
              obtain ⟨A, h1, h2⟩ := hs 54 (by decide)
              change a.eval (.tmp 54) = _ at h1
              rw [h1] at h2
              have k1 : a.tmps[54]?.getD undef = .slice A 5 5 := by rw [← Array.getD_eq_getD_getElem?]; exact h1
              exact ob_call (F := 7) (args := #[.slice A 5 5]) (by simp only [execOp]; go_simp) (concatL_any A 5 5 _ w h2 rfl LEN6.out (by omega)) IR.out hB (fun A c w2 hS _ d hd => by injection hd with hd; subst hd; exact hS)
            · intro a w hw hs
              have hB := hw.size
              have h1 := hs 55 (by decide)
              exact ob_val (v := a.eval (.tmp 55)) (by simp only [execOp]; go_simp) (Rg.refl _ _) (fun d hd => by injection hd with hd; subst hd; exact h1)
            · intro a w hd hsz hw hk hdone
              have h2 : SlV w (a.eval (.tmp 2)) _ := hdone 13 _ 2 rfl rfl
              rw [EQ.out] at h2
              obtain ⟨A, c, e1, e2, e3, e4⟩ := h2
              have e5 : a.tmps[2]?.getD undef = .slice A yr.length c := by rw [← Array.getD_eq_getD_getElem?]; exact e1
              go_wp2
              refine bodyPost_ret (by simp [results, Try.results22, go_sem, e5]; try rfl) hd ?_
              exact ⟨_, rfl, ⟨A, c, rfl, e2, e3, e4⟩, blT HB0.out hw⟩
        · have EQ := Lib.hid (EQ6.out hm1 hm2 hc)
          have hx1 : (tb == 0) = false := by simpa using hc1
          clear hm1 hm2 hc hc1 EQ5 EQ7 EQ4 EQ6 LEN5 LEN4
          as_aux_lemma =>
            go_enter Try.func22, Try.ntmps22
            go_upto_region 1 with fail
            have hlt : W.heap.size < (W.alloc (.cells #[.int .u8 md, .int .u8 ty, .int .u32 tb, .slice Ab qb cb, .slice jA qj jc] 43)).heap.size := by simp
            generalize W.alloc (.cells #[.int .u8 md, .int .u8 ty, .int .u32 tb, .slice Ab qb cb, .slice jA qj jc] 43) = w0 at *
            have hk := KS0.out w0 (Below.refl _ _)
            obtain ⟨k0, k1, k2, k3, k4⟩ := hk
            go_upto_region 2 with (go_at_call 42; refine (CV.out w0 (Below.refl _ _)).mono ?_; intro e w1 hP; obtain ⟨Bv, dv, rfl, -, hS, hb⟩ := hP.sl IV.out; have KS := Lib.hid (fun W' (hW : Below w1.heap.size w1 W') => KS0.out W' (blT hb hW)); have HB0 := Lib.hid (blT HB00.out hb); have hlt := Nat.lt_of_lt_of_le hlt hb.size; have SV := Lib.hid (fun W' (hW : Below w1.heap.size w1 W') => hS.later hW); have C1 := Lib.hid (fun W' (hW : Below w1.heap.size w1 W') => C1.out W' (blT hb hW)); have C2 := Lib.hid (fun W' (hW : Below w1.heap.size w1 W') => C2.out W' (blT hb hW)); clear hP hS hb; generalize hqv : yv.length = qv at *; clear hqv k0 k1 k2 k3 k4)
            have hk := KS.out w1 (Below.refl _ _)
            obtain ⟨k0, k1, k2, k3, k4⟩ := hk
            go_upto_region 8 with fail
            have IR : Hid (IsBytes [[6], y2, y1, [ty], yv].flatten) := by unfold Hid; rw [EQ.out]; exact IY.out
            refine wp_posts (D := fun d => List.getD [poT, (poE (.pointer (some ⟨W.heap.size, 0, none⟩))), (poS [[6], y2, y1, [ty], yv].flatten), (poS yv), poT, poT, poT, poT, poT, poT, poT, poT, poT, poT, poT, poT, poT, poT, poT, poT, poT, poT, poT, poT, poT, poT, poT, poT, poT, poT, poT, poT, poT, poT, poT, poT, poT, poT, poT, poT, poT, poT, poT, (poM w1.heap.size 1 [6]), (poE (.pointer (some ⟨W.heap.size, 2, none⟩))), (poE (.int .u32 tb)), (poS y2), (poE (.pointer (some ⟨W.heap.size, 3, none⟩))), (poE (.slice Ab qb cb)), (poS y1), (poE (.pointer (some ⟨W.heap.size, 1, none⟩))), (poE (.int .u8 ty)), (poM w1.heap.size 1 [ty]), (poS yv), (poL 5 [[6], y2, y1, [ty], yv]), (poS [[6], y2, y1, [ty], yv].flatten)] d poT) (B := w1.heap.size) (N := 56) (known := [1, 3]) (need := fun i => List.getD [[], [1], [44], [45], [1], [47], [48], [1], [50], [51], [3], [43, 46, 49, 52, 53], [54], [55]] i []) (by kernel_rfl) (by kernel_rfl) (fun d => AllS.get [poT, (poE (.pointer (some ⟨W.heap.size, 0, none⟩))), (poS [[6], y2, y1, [ty], yv].flatten), (poS yv), poT, poT, poT, poT, poT, poT, poT, poT, poT, poT, poT, poT, poT, poT, poT, poT, poT, poT, poT, poT, poT, poT, poT, poT, poT, poT, poT, poT, poT, poT, poT, poT, poT, poT, poT, poT, poT, poT, poT, (poM w1.heap.size 1 [6]), (poE (.pointer (some ⟨W.heap.size, 2, none⟩))), (poE (.int .u32 tb)), (poS y2), (poE (.pointer (some ⟨W.heap.size, 3, none⟩))), (poE (.slice Ab qb cb)), (poS y1), (poE (.pointer (some ⟨W.heap.size, 1, none⟩))), (poE (.int .u8 ty)), (poM w1.heap.size 1 [ty]), (poS yv), (poL 5 [[6], y2, y1, [ty], yv]), (poS [[6], y2, y1, [ty], yv].flatten)] ⟨stT _, stE _ _, stS _ _, stS _ _, stT _, stT _, stT _, stT _, stT _, stT _, stT _, stT _, stT _, stT _, stT _, stT _, stT _, stT _, stT _, stT _, stT _, stT _, stT _, stT _, stT _, stT _, stT _, stT _, stT _, stT _, stT _, stT _, stT _, stT _, stT _, stT _, stT _, stT _, stT _, stT _, stT _, stT _, stT _, stM _ _ _, stE _ _, stE _ _, stS _ _, stE _ _, stE _ _, stS _ _, stE _ _, stE _ _, stM _ _ _, stS _ _, stL _ _ _, stS _ _, trivial⟩ d) rfl rfl ?_ ⟨?_, ?_, ?_, ?_, ?_, ?_, ?_, ?_, ?_, ?_, ?_, ?_, ?_, ?_, trivial⟩ ?_
            · intro s hs
              simp only [List.mem_cons, List.not_mem_nil, or_false] at hs
              rcases hs with rfl | rfl
              · exact rfl
              · exact SV.out w1 (Below.refl _ _)
            · intro a w hw hs
              have hB := hw.size
              exact ob_build (vs := #[(0, .int .u8 6)]) rfl (by simp only [List.map_toArray, List.map_cons, List.map_nil] <;> rfl) (run_byteL [6] (by simp) (by simp) w) (Rg.of (bl2 w _) hB) (fun d hd => by injection hd with hd; subst hd; exact poM_new [6] (fun z hz => by simp at hz; omega) (by simp [maxLen]) hB)
            · intro a w hw hs
              have hB := hw.size
              have h1 : a.eval (.tmp 1) = .pointer (some ⟨W.heap.size, 0, none⟩) := hs 1 (by decide)
              exact ob_val (v := .pointer (some ⟨W.heap.size, 2, none⟩)) (by simp only [execOp]; rw [h1]; go_simp) (Rg.refl _ _) (fun d hd => by injection hd with hd; subst hd; exact rfl)
            · intro a w hw hs
              have hB := hw.size
              have h1 : a.eval (.tmp 44) = .pointer (some ⟨W.heap.size, 2, none⟩) := hs 44 (by decide)
              obtain ⟨e0, e1, e2, e3, e4⟩ := KS.out w hw
              exact ob_val (v := .int .u32 tb) (by simp only [execOp]; rw [h1]; go_simp) (Rg.refl _ _) (fun d hd => by injection hd with hd; subst hd; exact rfl)
            · intro a w hw hs
              have hB := hw.size
              have h45 : a.eval (.tmp 45) = .int .u32 tb := hs 45 (by decide)
              have k45 : a.tmps[45]?.getD undef = .int .u32 tb := by rw [← Array.getD_eq_getD_getElem?]; exact h45
              exact ob_call (F := 11) (args := #[.int .u32 tb]) (by simp only [execOp]; go_simp) (C2.out w hw) I2.out hB (fun A c w2 hS _ d hd => by injection hd with hd; subst hd; exact hS)
            · intro a w hw hs
              have hB := hw.size
              have h1 : a.eval (.tmp 1) = .pointer (some ⟨W.heap.size, 0, none⟩) := hs 1 (by decide)
              exact ob_val (v := .pointer (some ⟨W.heap.size, 3, none⟩)) (by simp only [execOp]; rw [h1]; go_simp) (Rg.refl _ _) (fun d hd => by injection hd with hd; subst hd; exact rfl)
            · intro a w hw hs
              have hB := hw.size
              have h1 : a.eval (.tmp 47) = .pointer (some ⟨W.heap.size, 3, none⟩) := hs 47 (by decide)
              obtain ⟨e0, e1, e2, e3, e4⟩ := KS.out w hw
              exact ob_val (v := .slice Ab qb cb) (by simp only [execOp]; rw [h1]; go_simp) (Rg.refl _ _) (fun d hd => by injection hd with hd; subst hd; exact rfl)
            · intro a w hw hs
              have hB := hw.size
              have h48 : a.eval (.tmp 48) = .slice Ab qb cb := hs 48 (by decide)
              have k48 : a.tmps[48]?.getD undef = .slice Ab qb cb := by rw [← Array.getD_eq_getD_getElem?]; exact h48
              exact ob_call (F := 43) (args := #[.slice Ab qb cb]) (by simp only [execOp]; go_simp) (C1.out w hw) I1.out hB (fun A c w2 hS _ d hd => by injection hd with hd; subst hd; exact hS)
            · intro a w hw hs
              have hB := hw.size
              have h1 : a.eval (.tmp 1) = .pointer (some ⟨W.heap.size, 0, none⟩) := hs 1 (by decide)
              exact ob_val (v := .pointer (some ⟨W.heap.size, 1, none⟩)) (by simp only [execOp]; rw [h1]; go_simp) (Rg.refl _ _) (fun d hd => by injection hd with hd; subst hd; exact rfl)
            · intro a w hw hs
              have hB := hw.size
              have h1 : a.eval (.tmp 50) = .pointer (some ⟨W.heap.size, 1, none⟩) := hs 50 (by decide)
              obtain ⟨e0, e1, e2, e3, e4⟩ := KS.out w hw
              exact ob_val (v := .int .u8 ty) (by simp only [execOp]; rw [h1]; go_simp) (Rg.refl _ _) (fun d hd => by injection hd with hd; subst hd; exact rfl)
            · intro a w hw hs
              have hB := hw.size
              have h51 : a.eval (.tmp 51) = .int .u8 ty := hs 51 (by decide)
              exact ob_build (vs := #[(0, .int .u8 ty)]) rfl (by simp only [List.map_toArray, List.map_cons, List.map_nil, h51] <;> rfl) (run_byteL [ty] (by simp) (by simp) w) (Rg.of (bl2 w _) hB) (fun d hd => by injection hd with hd; subst hd; exact poM_new [ty] (IsBytes.one t0 t1) (by simp [maxLen]) hB)
            · intro a w hw hs
              have hB := hw.size
              have h1 := hs 3 (by decide)
              exact ob_val (v := a.eval (.tmp 3)) (by simp only [execOp]; go_simp) (Rg.refl _ _) (fun d hd => by injection hd with hd; subst hd; exact h1)
            · intro a w hw hs
              have hB := hw.size
              obtain ⟨_, _, _, _, g43⟩ := hs 43 (by decide)
              change SlV w (a.eval (.tmp 43)) _ at g43
              have q43 := g43
              obtain ⟨A43, d43, j43, -, -, -⟩ := q43
              have g46 := hs 46 (by decide)
              change SlV w (a.eval (.tmp 46)) _ at g46
              have q46 := g46
              obtain ⟨A46, d46, j46, -, -, -⟩ := q46
              have g49 := hs 49 (by decide)
              change SlV w (a.eval (.tmp 49)) _ at g49
              have q49 := g49
              obtain ⟨A49, d49, j49, -, -, -⟩ := q49
              obtain ⟨_, _, _, _, g52⟩ := hs 52 (by decide)
              change SlV w (a.eval (.tmp 52)) _ at g52
              have q52 := g52
              obtain ⟨A52, d52, j52, -, -, -⟩ := q52
              have g53 := hs 53 (by decide)
              change SlV w (a.eval (.tmp 53)) _ at g53
              have q53 := g53
              obtain ⟨A53, d53, j53, -, -, -⟩ := q53
              have hA : All2 (SlV w) _ _ := ((All2.one g43).app ((All2.one g46).app ((All2.one g49).app ((All2.one g52).app (All2.one g53)))))
              simp only [List.cons_append, List.nil_append] at hA
              rw [j43, j46, j49, j52, j53] at hA
              refine ob_build (vs := #[(0, .slice A43 ([6]).length d43), (1, .slice A46 (y2).length d46), (2, .slice A49 (y1).length d49), (3, .slice A52 ([ty]).length d52), (4, .slice A53 (yv).length d53)]) rfl (by simp only [List.map_toArray, List.map_cons, List.map_nil, j43, j46, j49, j52, j53] <;> rfl) (lists5 A43 A46 A49 A52 A53 ([6]).length d43 (y2).length d46 (y1).length d49 ([ty]).length d52 (yv).length d53 w) (Rg.of (bl2 w _) hB) ?_
              intro d hd
              injection hd with hd
              subst hd
              exact ⟨_, rfl, rdL_lit w _ _ hA (by simp [maxLen])⟩
            · intro a w hw hs
              have hB := hw.size
              obtain ⟨A, h1, h2⟩ := hs 54 (by decide)
              change a.eval (.tmp 54) = _ at h1
              rw [h1] at h2
              have k1 : a.tmps[54]?.getD undef = .slice A 5 5 := by rw [← Array.getD_eq_getD_getElem?]; exact h1
              exact ob_call (F := 7) (args := #[.slice A 5 5]) (by simp only [execOp]; go_simp) (concatL_any A 5 5 _ w h2 rfl LEN6.out (by omega)) IR.out hB (fun A c w2 hS _ d hd => by injection hd with hd; subst hd; exact hS)
            · intro a w hw hs
              have hB := hw.size
              have h1 := hs 55 (by decide)
              exact ob_val (v := a.eval (.tmp 55)) (by simp only [execOp]; go_simp) (Rg.refl _ _) (fun d hd => by injection hd with hd; subst hd; exact h1)
            · intro a w hd hsz hw hk hdone
              have h2 : SlV w (a.eval (.tmp 2)) _ := hdone 13 _ 2 rfl rfl
              rw [EQ.out] at h2
              obtain ⟨A, c, e1, e2, e3, e4⟩ := h2
              have e5 : a.tmps[2]?.getD undef = .slice A yr.length c := by rw [← Array.getD_eq_getD_getElem?]; exact e1
              go_wp2
              refine bodyPost_ret (by simp [results, Try.results22, go_sem, e5]; try rfl) hd ?_
              exact ⟨_, rfl, ⟨A, c, rfl, e2, e3, e4⟩, blT HB0.out hw⟩
end Go.Proofs.Ytdngkbagfaeplaa
