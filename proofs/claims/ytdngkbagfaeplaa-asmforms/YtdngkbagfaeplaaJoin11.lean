/- asm: functions, datas, elements. (Written by gen_AsmPart.py.) -/
import Derived.Test.YtdngkbagfaeplaaJoin10
namespace Go.Proofs.Ytdngkbagfaeplaa
open Go.RowKit
set_option maxRecDepth 100000
set_option linter.unusedVariables false

theorem asizedN_any (w : World) (g : Nat) (hg : g = w.heap.size) (us : List Value) (ls : List (List Int)) (n : Nat) (hn : n = ls.length) (h : All2 (SlV w) us ls) (hb : ls.flatten.length ≤ 90000000) (hm : n ≤ 1000) (hI : IsBytes ls.flatten) :
    Calls Try.prog 40 #[.slice (some ⟨g, 0, none⟩) n n] (w.alloc (.cells us.toArray 44)) (WPost (szB ls.flatten) w) := by
  subst hg
  subst hn
  have hL := rdL_lit w us ls h (by simp only [maxLen]; omega)
  have hB := (Below.refl w.heap.size w).alloc (Nat.le_refl _) (.cells us.toArray 44)
  refine (asized_any _ ls.length ls.length ls _ hL rfl hb (by omega) hI).mono ?_
  rintro e w' ⟨v, rfl, ho, hb⟩
  have hs := hB.size
  exact ⟨v, rfl, ho.base hs, hB.trans (hb.mono hs)⟩
theorem locB_is {l : List Int} (h : IsBytes l) : ∀ i ∈ l, IsBytes (locB i) := fun i hi => .cons (by omega) (by omega) (.one (h i hi).1 (h i hi).2)
theorem locB_len (l : List Int) : (l.map locB).flatten.length = 2 * l.length := by
  induction l with
  | nil => rfl
  | cons x l ih => rw [List.map_cons, List.flatten_cons, List.length_append, ih]; simp [locB]; omega
set_option maxHeartbeats 4000000 in
theorem qCod {X : Nat → Prop} (a : CV) (W : World) (h : KCd.ok X W a) (hp : CdOk a) : Calls Try.prog 24 #[aCdV a] W (WPost (codeBV a) W) := by
  have hb0 := bl2 W (.cells #[.slice a.lA a.ls.length a.lc, .slice a.b.A a.b.is.length a.b.c] 48)
  have hlb := locB_len a.ls
  have hi1 := cntB_is (ys := a.ls.map locB) (fun y hy => by obtain ⟨i, hi, rfl⟩ := List.mem_map.1 hy; exact locB_is h.1.1 i hi) (by simp; have := h.2.2.2.1; omega)
  have hi2 := BV.enc h.2.2.2.2 hp
  have hl1 := cntB_len (ys := a.ls.map locB)
  have C1 : Hid (∀ W' : World, Below (W.alloc (.cells #[.slice a.lA a.ls.length a.lc, .slice a.b.A a.b.is.length a.b.c] 48)).heap.size (W.alloc (.cells #[.slice a.lA a.ls.length a.lc, .slice a.b.A a.b.is.length a.b.c] 48)) W' → Calls Try.prog 45 #[.func (.func 46) #[] #[], .slice a.lA a.ls.length a.lc] W' (WPost (cntB (a.ls.map locB)) W')) := fun W' hW => cntLc_any a.lA _ a.lc a.ls W' (rdE8 (h.1.later (blT hb0 hW)) rfl h.2.1 h.2.2.1) rfl (by have := h.2.2.2.1; omega) (by have := h.2.2.2.1; omega) (locB_is h.1.1)
  have C2 : Hid (∀ W' : World, Below (W.alloc (.cells #[.slice a.lA a.ls.length a.lc, .slice a.b.A a.b.is.length a.b.c] 48)).heap.size (W.alloc (.cells #[.slice a.lA a.ls.length a.lc, .slice a.b.A a.b.is.length a.b.c] 48)) W' → Calls Try.prog 43 #[.slice a.b.A a.b.is.length a.b.c] W' (WPost (encBV a.b) W')) := fun W' hW => pExpr a.b W' (BV.ok.later h.2.2.2.2 (blT hb0 hW)) hp
  have I1 := Lib.hid hi1
  have I2 := Lib.hid hi2.1
  have LEN : Hid ([cntB (a.ls.map locB), encBV a.b].flatten.length ≤ 90000000) := by have := h.2.2.2.1; have := hi2.2; unfold Hid; simp only [List.flatten_cons, List.flatten_nil, List.length_append, List.length_nil]; omega
  have IF : Hid (IsBytes [cntB (a.ls.map locB), encBV a.b].flatten) := by unfold Hid; simp only [List.flatten_cons, List.flatten_nil, List.append_nil]; exact hi1.app hi2.1
  have EQ : Hid (szB [cntB (a.ls.map locB), encBV a.b].flatten = codeBV a) := by unfold Hid codeBV codeB; simp only [List.flatten_cons, List.flatten_nil, List.append_nil]; rfl
  have KS0 : Hid (∀ W' : World, Below (W.alloc (.cells #[.slice a.lA a.ls.length a.lc, .slice a.b.A a.b.is.length a.b.c] 48)).heap.size (W.alloc (.cells #[.slice a.lA a.ls.length a.lc, .slice a.b.A a.b.is.length a.b.c] 48)) W' → W'.cell? ⟨W.heap.size, 0, none⟩ = some (.slice a.lA a.ls.length a.lc) ∧ W'.cell? ⟨W.heap.size, 1, none⟩ = some (.slice a.b.A a.b.is.length a.b.c)) := fun W' hW => by
    have ho := (Own.new W 48 [.slice a.lA a.ls.length a.lc, .slice a.b.A a.b.is.length a.b.c]).later hW
    exact ⟨ho.cell 0, ho.cell 1⟩
  have HB0 := Lib.hid hb0
  clear h hp hb0 hlb hi1 hi2 hl1
  obtain ⟨ls, lA, lc, isb, Ab, cb⟩ := a
  simp only [aCdV, BV.v] at *
  generalize hqn : ls.length = qn at *
  generalize hqb : isb.length = qb at *
  clear hqn hqb
  go_enter Try.func24, Try.ntmps24
  go_upto_region 1 with fail
  have KS := KS0
  clear KS0
  generalize W.alloc (.cells #[.slice lA qn lc, .slice Ab qb cb] 48) = w1 at *
  generalize hm1 : cntB (ls.map locB) = y1 at *
  generalize hm2 : encBV ⟨isb, Ab, cb⟩ = y2 at *
  clear hm1 hm2
  have HB1 : Hid (Below w1.heap.size w1 w1) := Below.refl _ _
  go_region_held (fun (w' : World) => w'.cell? ⟨W.heap.size, 0, none⟩ = some (.slice lA qn lc) ∧ w'.cell? ⟨W.heap.size, 1, none⟩ = some (.slice Ab qb cb)) (exact KS.out _ (by with_reducible first | exact HB4.out | exact blT HB4.out (bl1 _) | exact blT HB4.out (bl2 _ _) | exact blT HB4.out (bl3 _ _) | exact blT HB4.out (bl4 _ _ _) | exact blT HB4.out (bl5 _ _ _) | exact HB3.out | exact blT HB3.out (bl1 _) | exact blT HB3.out (bl2 _ _) | exact blT HB3.out (bl3 _ _) | exact blT HB3.out (bl4 _ _ _) | exact blT HB3.out (bl5 _ _ _) | exact HB2.out | exact blT HB2.out (bl1 _) | exact blT HB2.out (bl2 _ _) | exact blT HB2.out (bl3 _ _) | exact blT HB2.out (bl4 _ _ _) | exact blT HB2.out (bl5 _ _ _) | exact HB1.out | exact blT HB1.out (bl1 _) | exact blT HB1.out (bl2 _ _) | exact blT HB1.out (bl3 _ _) | exact blT HB1.out (bl4 _ _ _) | exact blT HB1.out (bl5 _ _ _)))
    (first
      | (go_at_call 40; (with_reducible show Calls _ _ _ (w3.alloc _) _); (have hPR : Below w3.heap.size w3 w3 := (Below.refl _ w3)); (have hA : All2 (SlV w3) _ [y1, y2] := ((All2.one (S2.out.later hPR)).app (All2.one (S3.out.later hPR)))); (have hC := asizedN_any w3 _ rfl _ _ 2 rfl hA LEN.out (by omega) IF.out); (simp only [List.cons_append, List.nil_append] at hC); (with_reducible refine hC.mono ?_); (rintro e w4 ⟨v4, rfl, ho, hb⟩); (have HB4 : Hid (Below w1.heap.size w1 w4) := blT HB3.out (blT hPR (by first | exact hb | (simpa using hb)))); (have HO := Lib.hid ho); clear ho hb hA hC hPR)
      | (go_at_call 43; (with_reducible show Calls _ _ _ w2 _); (have hCX := C2.out w2 (blT HB2.out (Below.refl _ w2))); (with_reducible refine hCX.mono ?_); clear hCX; (intro e w3 hP); (obtain ⟨B3, d3, rfl, -, hS, hb⟩ := hP.sl I2.out); clear hP; (have hbw : Below w2.heap.size w2 w3 := blT (Below.refl _ w2) hb); (have HB3 := Lib.hid (blT HB2.out hbw)); (have S2 := Lib.hid (S2.out.later hbw)); (have S3 := Lib.hid hS); clear hS hb hbw; generalize hq3 : (y2).length = q3 at *; clear hq3)
      | (go_at_call 45; (with_reducible show Calls _ _ _ w1.drew _); (have hCX := C1.out w1.drew (blT HB1.out (bl1 w1))); (with_reducible refine hCX.mono ?_); clear hCX; (intro e w2 hP); (obtain ⟨B2, d2, rfl, -, hS, hb⟩ := hP.sl I1.out); clear hP; (have hbw : Below w1.heap.size w1 w2 := blT (bl1 w1) hb); (have HB2 := Lib.hid (blT HB1.out hbw)); (have S2 := Lib.hid hS); clear hS hb hbw; generalize hq2 : (y1).length = q2 at *; clear hq2)
      | (go_at_call 45; (with_reducible show Calls _ _ _ w1 _); (have hCX := C1.out w1 (blT HB1.out (Below.refl _ w1))); (with_reducible refine hCX.mono ?_); clear hCX; (intro e w2 hP); (obtain ⟨B2, d2, rfl, -, hS, hb⟩ := hP.sl I1.out); clear hP; (have hbw : Below w1.heap.size w1 w2 := blT (Below.refl _ w1) hb); (have HB2 := Lib.hid (blT HB1.out hbw)); (have S2 := Lib.hid hS); clear hS hb hbw; generalize hq2 : (y1).length = q2 at *; clear hq2))
  all_goals go_wp2
  all_goals go_ret
  all_goals exact ⟨_, rfl, by rw [← EQ.out]; exact HO.out.base (by have := HB0.out.size; have := HB3.out.size; first | omega | (simp; omega)), blT HB0.out HB4.out⟩
set_option maxHeartbeats 8000000 in
theorem qDat {X : Nat → Prop} (a : DV) (W : World) (h : KDt.ok X W a) (hp : DtOk a) : Calls Try.prog 26 #[aDtV a] W (WPost (dataBV a) W) := by
  have hb0 := bl2 W (.cells #[.int .u8 a.mode, a.off.v, .slice a.yA a.ys.length a.yc] 46)
  have hi1 := BV.enc h.2.1 hp
  have hi2 := szB_is h.2.2.1.1 (by have := h.2.2.2.2.2; omega)
  have hl2 := szB_len (y := a.ys)
  have SY : Hid (∀ W' : World, Below (W.alloc (.cells #[.int .u8 a.mode, a.off.v, .slice a.yA a.ys.length a.yc] 46)).heap.size (W.alloc (.cells #[.int .u8 a.mode, a.off.v, .slice a.yA a.ys.length a.yc] 46)) W' → SlV W' (.slice a.yA a.ys.length a.yc) a.ys) := fun W' hW => ⟨a.yA, a.yc, rfl, h.2.2.2.1, h.2.2.2.2.1, (h.2.2.1.later (blT hb0 hW)).mono fun _ _ _ => trivial⟩
  have C1 : Hid (∀ W' : World, Below (W.alloc (.cells #[.int .u8 a.mode, a.off.v, .slice a.yA a.ys.length a.yc] 46)).heap.size (W.alloc (.cells #[.int .u8 a.mode, a.off.v, .slice a.yA a.ys.length a.yc] 46)) W' → Calls Try.prog 43 #[a.off.v] W' (WPost (encBV a.off) W')) := fun W' hW => pExpr a.off W' (BV.ok.later h.2.1 (blT hb0 hW)) hp
  have C2 : Hid (∀ W' : World, Below (W.alloc (.cells #[.int .u8 a.mode, a.off.v, .slice a.yA a.ys.length a.yc] 46)).heap.size (W.alloc (.cells #[.int .u8 a.mode, a.off.v, .slice a.yA a.ys.length a.yc] 46)) W' → ∀ B : Option Addr, RdL (fun _ => True) W' (.slice B 1 1) [a.ys] → Calls Try.prog 40 #[.slice B 1 1] W' (WPost (szB a.ys) W')) := fun W' hW B hR => by
    have h9 := asized_any B 1 1 [a.ys] W' hR rfl (by have := h.2.2.2.2.2; simp; omega) (by omega) (by simpa using h.2.2.1.1)
    simpa using h9
  have LITL : Hid (∀ W' : World, Below (W.alloc (.cells #[.int .u8 a.mode, a.off.v, .slice a.yA a.ys.length a.yc] 46)).heap.size (W.alloc (.cells #[.int .u8 a.mode, a.off.v, .slice a.yA a.ys.length a.yc] 46)) W' → RdL (fun _ => True) (W'.alloc (.cells #[.slice a.yA a.ys.length a.yc] 44)) (.slice (some ⟨W'.heap.size, 0, none⟩) 1 1) [a.ys]) := fun W' hW => rdL_lit W' [.slice a.yA a.ys.length a.yc] [a.ys] (All2.one (SY.out W' hW)) (by simp [maxLen])
  have LIT0 : Hid (∀ W' : World, SlV (W'.alloc (.cells #[.int .u8 0] 5)) (.slice (some ⟨W'.heap.size, 0, none⟩) 1 1) [0]) := fun W' => SlV.lit W' [0] (.one (by omega) (by omega)) (by simp [maxLen])
  have LIT1 : Hid (∀ W' : World, SlV (W'.alloc (.cells #[.int .u8 1] 5)) (.slice (some ⟨W'.heap.size, 0, none⟩) 1 1) [1]) := fun W' => SlV.lit W' [1] (.one (by omega) (by omega)) (by simp [maxLen])
  have I1 := Lib.hid hi1.1
  have I2 := Lib.hid hi2
  have LEN : Hid ([[0], encBV a.off, szB a.ys].flatten.length ≤ 100000000) := by have := h.2.2.2.2.2; have := hi1.2; unfold Hid; simp only [List.flatten_cons, List.flatten_nil, List.length_append, List.length_nil, List.length_cons]; omega
  have LEN1 : Hid ([[1], szB a.ys].flatten.length ≤ 100000000) := by have := h.2.2.2.2.2; unfold Hid; simp only [List.flatten_cons, List.flatten_nil, List.length_append, List.length_nil, List.length_cons]; omega
  have EQ : Hid (a.mode ≠ 1 → [[0], encBV a.off, szB a.ys].flatten = dataBV a) := fun hm => by unfold dataBV dataB; rw [show a.x.1 = a.mode from rfl, if_neg hm]; simp only [List.flatten_cons, List.flatten_nil, List.append_nil]; rfl
  have EQ1 : Hid (a.mode = 1 → [[1], szB a.ys].flatten = dataBV a) := fun hm => by unfold dataBV dataB; rw [show a.x.1 = a.mode from rfl, if_pos hm]; simp only [List.flatten_cons, List.flatten_nil, List.append_nil]; rfl
  have KS0 : Hid (∀ W' : World, Below (W.alloc (.cells #[.int .u8 a.mode, a.off.v, .slice a.yA a.ys.length a.yc] 46)).heap.size (W.alloc (.cells #[.int .u8 a.mode, a.off.v, .slice a.yA a.ys.length a.yc] 46)) W' → W'.cell? ⟨W.heap.size, 0, none⟩ = some (.int .u8 a.mode) ∧ W'.cell? ⟨W.heap.size, 1, none⟩ = some (a.off.v) ∧ W'.cell? ⟨W.heap.size, 2, none⟩ = some (.slice a.yA a.ys.length a.yc)) := fun W' hW => by
    have ho := (Own.new W 46 [.int .u8 a.mode, a.off.v, .slice a.yA a.ys.length a.yc]).later hW
    exact ⟨ho.cell 0, ho.cell 1, ho.cell 2⟩
  have HB0 := Lib.hid hb0
  clear h hp hb0 hi1 hi2 hl2
  obtain ⟨md, ⟨isb, Ab, cb⟩, ys, yA, yc⟩ := a
  simp only [aDtV, BV.v] at *
  generalize hqb : isb.length = qb at *
  generalize hqy : ys.length = qy at *
  clear hqb hqy
  generalize hm1 : encBV ⟨isb, Ab, cb⟩ = y1 at *
  generalize hm2 : szB ys = y2 at *
  generalize hm3 : dataBV ⟨md, ⟨isb, Ab, cb⟩, ys, yA, yc⟩ = yr at *
  clear hm1 hm2 hm3
  by_cases hmd : md = 1
  · have hmb : (md == 1) = true := by simpa using hmd
    have EQ := Lib.hid (EQ1.out hmd)
    clear hmd EQ1
    go_enter Try.func26, Try.ntmps26
    go_upto_region 1 with fail
    have KS := KS0
    clear KS0
    have hlt : W.heap.size < (W.alloc (.cells #[.int .u8 md, .slice Ab qb cb, .slice yA qy yc] 46)).heap.size := by simp
    generalize W.alloc (.cells #[.int .u8 md, .slice Ab qb cb, .slice yA qy yc] 46) = w1 at *
    obtain ⟨k0, k1, k2⟩ := KS.out w1 (Below.refl _ _)
    have hC := C2.out _ (bl4 w1 (.cells #[.int .u8 1] 5) (.cells #[.slice yA qy yc] 44)) _ (LITL.out _ (bl2 w1 (.cells #[.int .u8 1] 5)))
    rw [show (w1.alloc (.cells #[.int .u8 1] 5)).heap.size = w1.heap.size + 1 from by simp] at hC
    have HC := Lib.hid hC
    clear hC
    go_wp2_with fail
    refine HC.out.mono ?_
    intro e w2 hP
    obtain ⟨B2, d2, rfl, -, hS, hb⟩ := hP.sl I2.out
    have HB2 := Lib.hid (blT (bl4 w1 _ _) hb)
    have hA : All2 (SlV w2) [.slice (some ⟨w1.heap.size, 0, none⟩) 1 1, .slice B2 y2.length d2] [[1], y2] := (All2.one ((LIT1.out w1).later (blT (bl2 _ _) hb))).app (All2.one hS)
    have HCC := Lib.hid (concatN_any w2 _ rfl _ _ 2 rfl hA LEN1.out (by omega))
    clear hP hS hb hA k0 k1 k2 HC
    generalize hq2 : y2.length = q2 at *
    clear hq2
    go_wp2_with fail
    refine HCC.out.mono ?_
    rintro e w3 ⟨v3, rfl, ho, hb⟩
    have HB3 := Lib.hid (blT HB2.out hb)
    have HO := Lib.hid ho
    clear ho hb HCC
    go_wp2
    go_ret
    exact ⟨_, rfl, by rw [← EQ.out]; exact HO.out.base (by have := HB0.out.size; have := HB2.out.size; omega), blT HB0.out HB3.out⟩
  · have hmb : (md == 1) = false := by simpa using hmd
    have EQ := Lib.hid (EQ.out hmd)
    clear hmd EQ1
    go_enter Try.func26, Try.ntmps26
    go_upto_region 1 with fail
    have KS := KS0
    clear KS0
    have hlt : W.heap.size < (W.alloc (.cells #[.int .u8 md, .slice Ab qb cb, .slice yA qy yc] 46)).heap.size := by simp
    generalize W.alloc (.cells #[.int .u8 md, .slice Ab qb cb, .slice yA qy yc] 46) = w1 at *
    obtain ⟨k0, k1, k2⟩ := KS.out w1 (Below.refl _ _)
    go_upto_region 3 with fail
    have HB1 : Hid (Below w1.heap.size w1 w1) := Below.refl _ _
    go_region_held (fun (w' : World) => w'.cell? ⟨W.heap.size, 0, none⟩ = some (.int .u8 md) ∧ w'.cell? ⟨W.heap.size, 1, none⟩ = some (.slice Ab qb cb) ∧ w'.cell? ⟨W.heap.size, 2, none⟩ = some (.slice yA qy yc)) (exact KS.out _ (by with_reducible first | exact HB4.out | exact blT HB4.out (bl1 _) | exact blT HB4.out (bl2 _ _) | exact blT HB4.out (bl3 _ _) | exact blT HB4.out (bl4 _ _ _) | exact blT HB4.out (bl5 _ _ _) | exact HB3.out | exact blT HB3.out (bl1 _) | exact blT HB3.out (bl2 _ _) | exact blT HB3.out (bl3 _ _) | exact blT HB3.out (bl4 _ _ _) | exact blT HB3.out (bl5 _ _ _) | exact HB2.out | exact blT HB2.out (bl1 _) | exact blT HB2.out (bl2 _ _) | exact blT HB2.out (bl3 _ _) | exact blT HB2.out (bl4 _ _ _) | exact blT HB2.out (bl5 _ _ _) | exact HB1.out | exact blT HB1.out (bl1 _) | exact blT HB1.out (bl2 _ _) | exact blT HB1.out (bl3 _ _) | exact blT HB1.out (bl4 _ _ _) | exact blT HB1.out (bl5 _ _ _)))
      (first
        | (go_at_call 7; (with_reducible show Calls _ _ _ (w3.alloc _) _); (have hPR : Below w3.heap.size w3 w3 := (Below.refl _ w3)); (have LA := Lib.hid (LA.out.later hPR)); (have hA : All2 (SlV w3) _ [[0], y1, y2] := ((All2.one LA.out).app ((All2.one (S2.out.later hPR)).app (All2.one (S3.out.later hPR))))); (have hC := concatN_any w3 _ rfl _ _ 3 rfl hA LEN.out (by omega)); (simp only [List.cons_append, List.nil_append] at hC); (with_reducible refine hC.mono ?_); (rintro e w4 ⟨v4, rfl, ho, hb⟩); (have HB4 : Hid (Below w1.heap.size w1 w4) := blT HB3.out (blT hPR (by first | exact hb | (simpa using hb)))); (have HO := Lib.hid ho); clear ho hb hA hC hPR)
        | (go_at_call 7; (with_reducible show Calls _ _ _ ((w3.alloc (.cells #[.int .u8 0] 5)).alloc _) _); (have hPR : Below w3.heap.size w3 (w3.alloc (.cells #[.int .u8 0] 5)) := (bl2 w3 _)); (have LA : Hid (SlV (w3.alloc (.cells #[.int .u8 0] 5)) (.slice (some ⟨w3.heap.size, 0, none⟩) 1 1) [0]) := (by have hN := LIT0.out w3; exact hN.later (Below.refl _ _))); (have hA : All2 (SlV (w3.alloc (.cells #[.int .u8 0] 5))) _ [[0], y1, y2] := ((All2.one LA.out).app ((All2.one (S2.out.later hPR)).app (All2.one (S3.out.later hPR))))); (have hC := concatN_any (w3.alloc (.cells #[.int .u8 0] 5)) _ rfl _ _ 3 rfl hA LEN.out (by omega)); (simp only [List.cons_append, List.nil_append] at hC); (rw [show (w3.alloc (.cells #[.int .u8 0] 5)).heap.size = w3.heap.size + 1 from by simp] at hC); (with_reducible refine hC.mono ?_); (rintro e w4 ⟨v4, rfl, ho, hb⟩); (have HB4 : Hid (Below w1.heap.size w1 w4) := blT HB3.out (blT hPR (by first | exact hb | (simpa using hb)))); (have HO := Lib.hid ho); clear ho hb hA hC hPR)
        | (go_at_call 40; (with_reducible show Calls _ _ _ w2 _); (have hCX := C2.out w2 (blT HB2.out (Below.refl _ w2)) _ (LB.out.later (Below.refl _ w2))); (with_reducible refine hCX.mono ?_); clear hCX; (intro e w3 hP); (obtain ⟨B3, d3, rfl, -, hS, hb⟩ := hP.sl I2.out); clear hP; (have hbw : Below w2.heap.size w2 w3 := blT (Below.refl _ w2) hb); (have HB3 := Lib.hid (blT HB2.out hbw)); (have S2 := Lib.hid (S2.out.later hbw)); (try have LA := Lib.hid (LA.out.later hbw)); (have S3 := Lib.hid hS); clear hS hb hbw; generalize hq3 : (y2).length = q3 at *; clear hq3)
        | (go_at_call 40; (with_reducible show Calls _ _ _ (w2.alloc (.cells #[.int .u8 0] 5)) _); (have hCX := C2.out (w2.alloc (.cells #[.int .u8 0] 5)) (blT HB2.out (bl2 w2 _)) _ (LB.out.later (bl2 w2 _))); (with_reducible refine hCX.mono ?_); clear hCX; (intro e w3 hP); (obtain ⟨B3, d3, rfl, -, hS, hb⟩ := hP.sl I2.out); clear hP; (have hbw : Below w2.heap.size w2 w3 := blT (bl2 w2 _) hb); (have HB3 := Lib.hid (blT HB2.out hbw)); (have S2 := Lib.hid (S2.out.later hbw)); (have LA : Hid (SlV w3 (.slice (some ⟨w2.heap.size, 0, none⟩) 1 1) [0]) := (by have hN := LIT0.out w2; exact hN.later (blT (Below.refl _ _) hb))); (have S3 := Lib.hid hS); clear hS hb hbw; generalize hq3 : (y2).length = q3 at *; clear hq3)
        | (go_at_call 40; (with_reducible show Calls _ _ _ (w2.alloc (.cells #[.slice yA qy yc] 44)) _); (have LB : Hid (RdL (fun _ => True) (w2.alloc (.cells #[.slice yA qy yc] 44)) (.slice (some ⟨w2.heap.size, 0, none⟩) 1 1) [ys]) := (by have hN := LITL.out w2 (blT HB2.out (Below.refl _ _)); exact hN.later (Below.refl _ _))); (have hCX := C2.out (w2.alloc (.cells #[.slice yA qy yc] 44)) (blT HB2.out (bl2 w2 _)) _ LB.out); (with_reducible refine hCX.mono ?_); clear hCX; (intro e w3 hP); (obtain ⟨B3, d3, rfl, -, hS, hb⟩ := hP.sl I2.out); clear hP; (have hbw : Below w2.heap.size w2 w3 := blT (bl2 w2 _) hb); (have HB3 := Lib.hid (blT HB2.out hbw)); (have S2 := Lib.hid (S2.out.later hbw)); (try have LA := Lib.hid (LA.out.later hbw)); (have S3 := Lib.hid hS); clear hS hb hbw; generalize hq3 : (y2).length = q3 at *; clear hq3)
        | (go_at_call 40; (with_reducible show Calls _ _ _ ((w2.alloc (.cells #[.int .u8 0] 5)).alloc (.cells #[.slice yA qy yc] 44)) _); (have LB : Hid (RdL (fun _ => True) ((w2.alloc (.cells #[.int .u8 0] 5)).alloc (.cells #[.slice yA qy yc] 44)) (.slice (some ⟨w2.heap.size + 1, 0, none⟩) 1 1) [ys]) := (by have hN := LITL.out (w2.alloc (.cells #[.int .u8 0] 5)) (blT HB2.out (bl2 _ _)); rw [show (w2.alloc (.cells #[.int .u8 0] 5)).heap.size = w2.heap.size + 1 from by simp] at hN; exact hN.later (Below.refl _ _))); (have hCX := C2.out ((w2.alloc (.cells #[.int .u8 0] 5)).alloc (.cells #[.slice yA qy yc] 44)) (blT HB2.out (bl4 w2 _ _)) _ LB.out); (with_reducible refine hCX.mono ?_); clear hCX; (intro e w3 hP); (obtain ⟨B3, d3, rfl, -, hS, hb⟩ := hP.sl I2.out); clear hP; (have hbw : Below w2.heap.size w2 w3 := blT (bl4 w2 _ _) hb); (have HB3 := Lib.hid (blT HB2.out hbw)); (have S2 := Lib.hid (S2.out.later hbw)); (have LA : Hid (SlV w3 (.slice (some ⟨w2.heap.size, 0, none⟩) 1 1) [0]) := (by have hN := LIT0.out w2; exact hN.later (blT (bl2 _ _) hb))); (have S3 := Lib.hid hS); clear hS hb hbw; generalize hq3 : (y2).length = q3 at *; clear hq3)
        | (go_at_call 40; (with_reducible show Calls _ _ _ ((w2.alloc (.cells #[.slice yA qy yc] 44)).alloc (.cells #[.int .u8 0] 5)) _); (have LB : Hid (RdL (fun _ => True) ((w2.alloc (.cells #[.slice yA qy yc] 44)).alloc (.cells #[.int .u8 0] 5)) (.slice (some ⟨w2.heap.size, 0, none⟩) 1 1) [ys]) := (by have hN := LITL.out w2 (blT HB2.out (Below.refl _ _)); exact hN.later (bl2 _ _))); (have hCX := C2.out ((w2.alloc (.cells #[.slice yA qy yc] 44)).alloc (.cells #[.int .u8 0] 5)) (blT HB2.out (bl4 w2 _ _)) _ LB.out); (with_reducible refine hCX.mono ?_); clear hCX; (intro e w3 hP); (obtain ⟨B3, d3, rfl, -, hS, hb⟩ := hP.sl I2.out); clear hP; (have hbw : Below w2.heap.size w2 w3 := blT (bl4 w2 _ _) hb); (have HB3 := Lib.hid (blT HB2.out hbw)); (have S2 := Lib.hid (S2.out.later hbw)); (have LA : Hid (SlV w3 (.slice (some ⟨w2.heap.size + 1, 0, none⟩) 1 1) [0]) := (by have hN := LIT0.out (w2.alloc (.cells #[.slice yA qy yc] 44)); rw [show (w2.alloc (.cells #[.slice yA qy yc] 44)).heap.size = w2.heap.size + 1 from by simp] at hN; exact hN.later (blT (Below.refl _ _) hb))); (have S3 := Lib.hid hS); clear hS hb hbw; generalize hq3 : (y2).length = q3 at *; clear hq3)
        | (go_at_call 43; (with_reducible show Calls _ _ _ w1.drew _); (have hCX := C1.out w1.drew (blT HB1.out (bl1 w1))); (with_reducible refine hCX.mono ?_); clear hCX; (intro e w2 hP); (obtain ⟨B2, d2, rfl, -, hS, hb⟩ := hP.sl I1.out); clear hP; (have hbw : Below w1.heap.size w1 w2 := blT (bl1 w1) hb); (have HB2 := Lib.hid (blT HB1.out hbw)); (try have LA := Lib.hid (LA.out.later hbw)); (try have LB := Lib.hid (LB.out.later hbw)); (have S2 := Lib.hid hS); clear hS hb hbw; generalize hq2 : (y1).length = q2 at *; clear hq2)
        | (go_at_call 43; (with_reducible show Calls _ _ _ w1 _); (have hCX := C1.out w1 (blT HB1.out (Below.refl _ w1))); (with_reducible refine hCX.mono ?_); clear hCX; (intro e w2 hP); (obtain ⟨B2, d2, rfl, -, hS, hb⟩ := hP.sl I1.out); clear hP; (have hbw : Below w1.heap.size w1 w2 := blT (Below.refl _ w1) hb); (have HB2 := Lib.hid (blT HB1.out hbw)); (try have LA := Lib.hid (LA.out.later hbw)); (try have LB := Lib.hid (LB.out.later hbw)); (have S2 := Lib.hid hS); clear hS hb hbw; generalize hq2 : (y1).length = q2 at *; clear hq2)
        | (go_at_call 43; (with_reducible show Calls _ _ _ (w1.alloc (.cells #[.int .u8 0] 5)).drew _); (have hCX := C1.out (w1.alloc (.cells #[.int .u8 0] 5)).drew (blT HB1.out (bl3 w1 _))); (with_reducible refine hCX.mono ?_); clear hCX; (intro e w2 hP); (obtain ⟨B2, d2, rfl, -, hS, hb⟩ := hP.sl I1.out); clear hP; (have hbw : Below w1.heap.size w1 w2 := blT (bl3 w1 _) hb); (have HB2 := Lib.hid (blT HB1.out hbw)); (have LA : Hid (SlV w2 (.slice (some ⟨w1.heap.size, 0, none⟩) 1 1) [0]) := (by have hN := LIT0.out w1; exact hN.later (blT (bl1 _) hb))); (try have LB := Lib.hid (LB.out.later hbw)); (have S2 := Lib.hid hS); clear hS hb hbw; generalize hq2 : (y1).length = q2 at *; clear hq2)
        | (go_at_call 43; (with_reducible show Calls _ _ _ (w1.alloc (.cells #[.int .u8 0] 5)) _); (have hCX := C1.out (w1.alloc (.cells #[.int .u8 0] 5)) (blT HB1.out (bl2 w1 _))); (with_reducible refine hCX.mono ?_); clear hCX; (intro e w2 hP); (obtain ⟨B2, d2, rfl, -, hS, hb⟩ := hP.sl I1.out); clear hP; (have hbw : Below w1.heap.size w1 w2 := blT (bl2 w1 _) hb); (have HB2 := Lib.hid (blT HB1.out hbw)); (have LA : Hid (SlV w2 (.slice (some ⟨w1.heap.size, 0, none⟩) 1 1) [0]) := (by have hN := LIT0.out w1; exact hN.later (blT (Below.refl _ _) hb))); (try have LB := Lib.hid (LB.out.later hbw)); (have S2 := Lib.hid hS); clear hS hb hbw; generalize hq2 : (y1).length = q2 at *; clear hq2)
        | (go_at_call 43; (with_reducible show Calls _ _ _ (w1.alloc (.cells #[.slice yA qy yc] 44)).drew _); (have hCX := C1.out (w1.alloc (.cells #[.slice yA qy yc] 44)).drew (blT HB1.out (bl3 w1 _))); (with_reducible refine hCX.mono ?_); clear hCX; (intro e w2 hP); (obtain ⟨B2, d2, rfl, -, hS, hb⟩ := hP.sl I1.out); clear hP; (have hbw : Below w1.heap.size w1 w2 := blT (bl3 w1 _) hb); (have HB2 := Lib.hid (blT HB1.out hbw)); (try have LA := Lib.hid (LA.out.later hbw)); (have LB : Hid (RdL (fun _ => True) w2 (.slice (some ⟨w1.heap.size, 0, none⟩) 1 1) [ys]) := (by have hN := LITL.out w1 (blT HB1.out (Below.refl _ _)); exact hN.later (blT (bl1 _) hb))); (have S2 := Lib.hid hS); clear hS hb hbw; generalize hq2 : (y1).length = q2 at *; clear hq2)
        | (go_at_call 43; (with_reducible show Calls _ _ _ (w1.alloc (.cells #[.slice yA qy yc] 44)) _); (have hCX := C1.out (w1.alloc (.cells #[.slice yA qy yc] 44)) (blT HB1.out (bl2 w1 _))); (with_reducible refine hCX.mono ?_); clear hCX; (intro e w2 hP); (obtain ⟨B2, d2, rfl, -, hS, hb⟩ := hP.sl I1.out); clear hP; (have hbw : Below w1.heap.size w1 w2 := blT (bl2 w1 _) hb); (have HB2 := Lib.hid (blT HB1.out hbw)); (try have LA := Lib.hid (LA.out.later hbw)); (have LB : Hid (RdL (fun _ => True) w2 (.slice (some ⟨w1.heap.size, 0, none⟩) 1 1) [ys]) := (by have hN := LITL.out w1 (blT HB1.out (Below.refl _ _)); exact hN.later (blT (Below.refl _ _) hb))); (have S2 := Lib.hid hS); clear hS hb hbw; generalize hq2 : (y1).length = q2 at *; clear hq2)
        | (go_at_call 43; (with_reducible show Calls _ _ _ ((w1.alloc (.cells #[.int .u8 0] 5)).alloc (.cells #[.slice yA qy yc] 44)).drew _); (have hCX := C1.out ((w1.alloc (.cells #[.int .u8 0] 5)).alloc (.cells #[.slice yA qy yc] 44)).drew (blT HB1.out (bl5 w1 _ _))); (with_reducible refine hCX.mono ?_); clear hCX; (intro e w2 hP); (obtain ⟨B2, d2, rfl, -, hS, hb⟩ := hP.sl I1.out); clear hP; (have hbw : Below w1.heap.size w1 w2 := blT (bl5 w1 _ _) hb); (have HB2 := Lib.hid (blT HB1.out hbw)); (have LA : Hid (SlV w2 (.slice (some ⟨w1.heap.size, 0, none⟩) 1 1) [0]) := (by have hN := LIT0.out w1; exact hN.later (blT (bl3 _ _) hb))); (have LB : Hid (RdL (fun _ => True) w2 (.slice (some ⟨w1.heap.size + 1, 0, none⟩) 1 1) [ys]) := (by have hN := LITL.out (w1.alloc (.cells #[.int .u8 0] 5)) (blT HB1.out (bl2 _ _)); rw [show (w1.alloc (.cells #[.int .u8 0] 5)).heap.size = w1.heap.size + 1 from by simp] at hN; exact hN.later (blT (bl1 _) hb))); (have S2 := Lib.hid hS); clear hS hb hbw; generalize hq2 : (y1).length = q2 at *; clear hq2)
        | (go_at_call 43; (with_reducible show Calls _ _ _ ((w1.alloc (.cells #[.int .u8 0] 5)).alloc (.cells #[.slice yA qy yc] 44)) _); (have hCX := C1.out ((w1.alloc (.cells #[.int .u8 0] 5)).alloc (.cells #[.slice yA qy yc] 44)) (blT HB1.out (bl4 w1 _ _))); (with_reducible refine hCX.mono ?_); clear hCX; (intro e w2 hP); (obtain ⟨B2, d2, rfl, -, hS, hb⟩ := hP.sl I1.out); clear hP; (have hbw : Below w1.heap.size w1 w2 := blT (bl4 w1 _ _) hb); (have HB2 := Lib.hid (blT HB1.out hbw)); (have LA : Hid (SlV w2 (.slice (some ⟨w1.heap.size, 0, none⟩) 1 1) [0]) := (by have hN := LIT0.out w1; exact hN.later (blT (bl2 _ _) hb))); (have LB : Hid (RdL (fun _ => True) w2 (.slice (some ⟨w1.heap.size + 1, 0, none⟩) 1 1) [ys]) := (by have hN := LITL.out (w1.alloc (.cells #[.int .u8 0] 5)) (blT HB1.out (bl2 _ _)); rw [show (w1.alloc (.cells #[.int .u8 0] 5)).heap.size = w1.heap.size + 1 from by simp] at hN; exact hN.later (blT (Below.refl _ _) hb))); (have S2 := Lib.hid hS); clear hS hb hbw; generalize hq2 : (y1).length = q2 at *; clear hq2)
        | (go_at_call 43; (with_reducible show Calls _ _ _ ((w1.alloc (.cells #[.slice yA qy yc] 44)).alloc (.cells #[.int .u8 0] 5)).drew _); (have hCX := C1.out ((w1.alloc (.cells #[.slice yA qy yc] 44)).alloc (.cells #[.int .u8 0] 5)).drew (blT HB1.out (bl5 w1 _ _))); (with_reducible refine hCX.mono ?_); clear hCX; (intro e w2 hP); (obtain ⟨B2, d2, rfl, -, hS, hb⟩ := hP.sl I1.out); clear hP; (have hbw : Below w1.heap.size w1 w2 := blT (bl5 w1 _ _) hb); (have HB2 := Lib.hid (blT HB1.out hbw)); (have LA : Hid (SlV w2 (.slice (some ⟨w1.heap.size + 1, 0, none⟩) 1 1) [0]) := (by have hN := LIT0.out (w1.alloc (.cells #[.slice yA qy yc] 44)); rw [show (w1.alloc (.cells #[.slice yA qy yc] 44)).heap.size = w1.heap.size + 1 from by simp] at hN; exact hN.later (blT (bl1 _) hb))); (have LB : Hid (RdL (fun _ => True) w2 (.slice (some ⟨w1.heap.size, 0, none⟩) 1 1) [ys]) := (by have hN := LITL.out w1 (blT HB1.out (Below.refl _ _)); exact hN.later (blT (bl3 _ _) hb))); (have S2 := Lib.hid hS); clear hS hb hbw; generalize hq2 : (y1).length = q2 at *; clear hq2)
        | (go_at_call 43; (with_reducible show Calls _ _ _ ((w1.alloc (.cells #[.slice yA qy yc] 44)).alloc (.cells #[.int .u8 0] 5)) _); (have hCX := C1.out ((w1.alloc (.cells #[.slice yA qy yc] 44)).alloc (.cells #[.int .u8 0] 5)) (blT HB1.out (bl4 w1 _ _))); (with_reducible refine hCX.mono ?_); clear hCX; (intro e w2 hP); (obtain ⟨B2, d2, rfl, -, hS, hb⟩ := hP.sl I1.out); clear hP; (have hbw : Below w1.heap.size w1 w2 := blT (bl4 w1 _ _) hb); (have HB2 := Lib.hid (blT HB1.out hbw)); (have LA : Hid (SlV w2 (.slice (some ⟨w1.heap.size + 1, 0, none⟩) 1 1) [0]) := (by have hN := LIT0.out (w1.alloc (.cells #[.slice yA qy yc] 44)); rw [show (w1.alloc (.cells #[.slice yA qy yc] 44)).heap.size = w1.heap.size + 1 from by simp] at hN; exact hN.later (blT (Below.refl _ _) hb))); (have LB : Hid (RdL (fun _ => True) w2 (.slice (some ⟨w1.heap.size, 0, none⟩) 1 1) [ys]) := (by have hN := LITL.out w1 (blT HB1.out (Below.refl _ _)); exact hN.later (blT (bl2 _ _) hb))); (have S2 := Lib.hid hS); clear hS hb hbw; generalize hq2 : (y1).length = q2 at *; clear hq2))
    all_goals go_wp2
    all_goals go_ret
    all_goals exact ⟨_, rfl, by rw [← EQ.out]; exact HO.out.base (by have := HB0.out.size; have := HB3.out.size; first | omega | (simp; omega)), blT HB0.out HB4.out⟩
end Go.Proofs.Ytdngkbagfaeplaa
