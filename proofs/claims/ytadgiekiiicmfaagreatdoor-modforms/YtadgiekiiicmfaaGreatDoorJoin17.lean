/- mod.takeSection: a section of a module. (Written by gen_ModSec.py.) -/
import Derived.Test.YtadgiekiiicmfaaGreatDoorJoin16
namespace Go.Proofs.YtadgiekiiicmfaaGreatDoor
open Go.RowKit
set_option maxRecDepth 100000
set_option linter.unusedVariables false

abbrev MODT : TypeId := 36
/-- A module that is being read: in block gm, its parts behind it. -/
def MdAt (w : World) (gm : Nat) (m : MV) : Prop := Own w gm MODT m.cells ∧ MV.ok (fun k => gm < k) w m
def TsPost (gm : Nat) (m : MV) (id : Int) (y : List Int) (w : World) (e : Ending) (w' : World) : Prop :=
  ∃ er m', e = .returned (.int .i64 er) ∧ 0 ≤ er ∧ er ≤ 100 ∧ MdAt w' gm m' ∧ secM id y m.mo = (if er = 0 then .ok m'.mo else .error er) ∧ Chg (fun k => k = gm) w w'
theorem MV.noByte (m : MV) : NoByte m.cells := fun u hu x e => by
  subst e
  simp [MV.cells, LV.v] at hu
theorem sec_end {id : Int} (hid : id ≠ 0) {y : List Int} {M : Mo} {x : Mo} {s' : St} (h : KP (secP id M) (.ok y) x s') (he : ∀ e, s' = .error e → 0 < e) : secM id y M = if endS s' = 0 then .ok x else .error (endS s') := by
  unfold secM
  rw [if_neg hid]
  exact allOf_end h he
theorem endS_rng {w : World} {g : Nat} {t : TypeId} {tl : RTl} {s : St} (h : RdrAt w g t tl s) : 0 ≤ endS s ∧ endS s ≤ 100 := by
  rcases s with e | (_ | ⟨z, l⟩)
  · have := h.2; show 0 ≤ e ∧ e ≤ 100; omega
  · exact ⟨by simp [endS], by simp [endS]⟩
  · exact ⟨by simp [endS], by simp [endS]⟩
theorem secP_1 (M : Mo) : secP 1 M = seq (pLs 32 pFn) fun x l => .ok ({ M with types := x }, l) := by simp [secP]
theorem secP_3 (M : Mo) : secP 3 M = seq (pLs 32 (pU 32)) fun x l => .ok ({ M with funcs := x }, l) := by simp [secP]
theorem secP_4 (M : Mo) : secP 4 M = seq (pLs 4 pTab) fun x l => .ok ({ M with tables := x }, l) := by simp [secP]
theorem secP_5 (M : Mo) : secP 5 M = seq (pLs 4 pLim) fun x l => .ok ({ M with mems := x }, l) := by simp [secP]
theorem secP_6 (M : Mo) : secP 6 M = seq (pLs 16 pGlob) fun x l => .ok ({ M with globals := x }, l) := by simp [secP]
theorem secP_7 (M : Mo) : secP 7 M = seq (pLs 32 pExp) fun x l => .ok ({ M with exports := x }, l) := by simp [secP]
theorem secP_8 (M : Mo) : secP 8 M = seq (pU 32) fun x l => .ok ({ M with starts := true, start := x }, l) := by simp [secP]
theorem secP_9 (M : Mo) : secP 9 M = seq (pLs 16 pElem) fun x l => .ok ({ M with elems := x }, l) := by simp [secP]
theorem secP_10 (M : Mo) : secP 10 M = seq (pLs 32 pCodeS) fun x l => .ok ({ M with codes := x }, l) := by simp [secP]
theorem secP_11 (M : Mo) : secP 11 M = seq (pLs 16 pData) fun x l => .ok ({ M with datas := x }, l) := by simp [secP]
theorem secP_12 (M : Mo) : secP 12 M = seq (pU 32) fun x l => .ok ({ M with counts := true, count := x }, l) := by simp [secP]
theorem secP_o (M : Mo) (id : Int) (h : ¬ (1 ≤ id ∧ id ≤ 12)) : secP id M = fun l => .ok (M, l) := by unfold secP; repeat (rw [if_neg (by omega)])
set_option maxHeartbeats 8000000 in
theorem tsec_any (gm : Nat) (m : MV) (id : Int) (A : Option Addr) (y : List Int) (n c : Nat) (w : World) (hm : MdAt w gm m) (h0 : 0 ≤ id) (h1 : id ≤ 255) (hr : Rd w w.heap.size A y) (hn : n = y.length) (hl : n ≤ 1000000) (hc : n ≤ c) (hcm : c ≤ maxLen) (hTb : Tabs w) (hgm : 1 < gm) :
    Calls Tryz.prog 19 #[.pointer (some ⟨gm, 0, none⟩), .agg #[.int .u8 id, .slice A n c]] w (TsPost gm m id y w) := by
  have HM := Lib.hid hm
  have HR := Lib.hid (And.intro hr (And.intro hn (And.intro hl (And.intro hc hcm))))
  have HTb := Lib.hid hTb
  have hgw := hm.1.lt
  have hbx := (Below.refl w.heap.size w).alloc (Nat.le_refl _) (.cells #[.int .u8 id, .slice A n c] 61)
  have hox := Own.new w 61 [.int .u8 id, .slice A n c]
  have HBX := Lib.hid (And.intro hbx hox)
  obtain ⟨c0, c1, -, -⟩ := own_cells2 hox
  clear hm hr hn hl hc hcm hTb hbx hox
  go_enter Tryz.func19, Tryz.ntmps19
  go_upto_region 1 with fail
  generalize w.alloc (.cells #[.int .u8 id, .slice A n c] 61) = w1 at *
  go_wp2_with fail
  refine (snew_any A n c w1).mono ?_
  rintro e w2 ⟨rfl, hb2⟩
  have hb3 := (Below.refl w2.heap.size w2).alloc (Nat.le_refl _) (.cells #[.slice A n c, .int .i64 0, .int .i64 0] SRC)
  have hbb : Below w.heap.size w (w2.alloc (.cells #[.slice A n c, .int .i64 0, .int .i64 0] SRC)) := (HBX.out.1.trans (hb2.mono HBX.out.1.size)).trans (hb3.mono (Nat.le_trans HBX.out.1.size hb2.size))
  have hg2 : w.heap.size < w2.heap.size := by have := HBX.out.2.lt; have := hb2.size; omega
  have hI : RdrAt (w2.alloc (.cells #[.slice A n c, .int .i64 0, .int .i64 0] SRC)) w2.heap.size SRC (n, []) (.ok y) := by
    obtain ⟨y1, y2, y3, y4, y5⟩ := HR.out
    refine ⟨A, c, 0, by rw [← y2]; exact Own.new w2 SRC [.slice A n c, .int .i64 0, .int .i64 0], (y1.rx.later hbb).mono fun k _ hk => by have : k < w.heap.size := hk; omega, by omega, y5, by omega, by simp only []; omega, by simp only []; omega, by simp only []; omega⟩
  have hox := (HBX.out.2.later hb2).later hb3
  clear c0 c1
  obtain ⟨c0, c1, -, -⟩ := own_cells2 hox
  have HS := Lib.hid hI
  have HBB := Lib.hid hbb
  clear hI hbb hb2 hb3 hox
  go_upto_region 2 with fail
  generalize w2.alloc (.cells #[.slice A n c, .int .i64 0, .int .i64 0] SRC) = W at *
  generalize w2.heap.size = g at *
  have HMW : Hid (Own W gm MODT m.cells ∧ MV.ok (fun k => gm < k ∧ k ≠ g) W m) := ⟨HM.out.1.later HBB.out, (HM.out.2.mono (Y := fun k => gm < k ∧ k ≠ g) fun k hk hx => ⟨hx, by omega⟩).chg (S := fun _ => False) (Chg.of_below HBB.out) fun _ _ _ h => h⟩
  have hgW := HS.out.lt
  have HTW := Lib.hid (HTb.out.later HBB.out)
  clear HM HTb HBX
  have key : id = 0 ∨ id = 1 ∨ id = 2 ∨ id = 3 ∨ id = 4 ∨ id = 5 ∨ id = 6 ∨ id = 7 ∨ id = 8 ∨ id = 9 ∨ id = 12 ∨ id = 10 ∨ id = 11 ∨ (¬ (1 ≤ id ∧ id ≤ 12) ∧ id ≠ 0) := by omega
  rcases key with rfl | rfl | rfl | rfl | rfl | rfl | rfl | rfl | rfl | rfl | rfl | rfl | rfl | ⟨hno, hnz⟩
  · as_aux_lemma =>
      go_wp2
      go_ret
      exact ⟨0, m, rfl, by omega, by omega, ⟨HMW.out.1, HMW.out.2.mono fun k _ hk => hk.1⟩, rfl, Chg.of_below HBB.out⟩
  · as_aux_lemma =>
      have HN := Lib.hid (lsfn_any g n _ W HS.out 32 (by omega) (by omega))
      go_upto_region 6 with fail
      go_wp2_with fail
      refine HN.out.mono ?_
      rintro e w3 ⟨v, is, s', rfl, ho, h1, h2, h3, hl⟩
      obtain ⟨lv, rfl, rfl, hd⟩ := ho.made
      have hM := HMW.out.1.chg h3 (by omega)
      have hMo := HMW.out.2.chg h3 fun k hk hx e => hx.2 e
      have HR3 := Lib.hid (RdrAt.setOther h1 hM (MV.noByte m) (by omega) 0 lv.v)
      have HKP : Hid (KP (secP 1 m.mo) (.ok y) ({ m with t := lv } : MV).mo s') := by rw [secP_1]; exact h2.good (by first | rfl | (simp [MV.mo]; done))
      have HM3 : Hid (Own (w3.setCell ⟨gm, 0, none⟩ lv.v) gm MODT (MV.cells { m with t := lv }) ∧ MV.ok (fun k => gm < k ∧ k ≠ g) (w3.setCell ⟨gm, 0, none⟩ lv.v) { m with t := lv }) := by
        have hc := chgSet w3 gm 0 lv.v
        refine ⟨hM.set 0 lv.v, ?_⟩
        exact { hMo.chg hc (fun k _ hk e => by omega) with t := (hd.mono fun k _ hk => ⟨by have := HMW.out.1.lt; omega, by omega⟩).chg hc fun k _ hk e => by omega }
      have HCW : Hid (Chg (fun k => k = gm) w (w3.setCell ⟨gm, 0, none⟩ lv.v)) := ((Chg.of_below HBB.out).trans h3 fun k hk e => by omega).trans (chgSet w3 gm 0 lv.v) fun k _ e => e
      have f0 := hM.frozen 0
      have k0 : w3.cell? ⟨gm, 0, none⟩ = some m.t.v := hM.cell 0
      clear h1 h2 h3 ho hd hM hMo HN
      obtain ⟨lA, lc, ll⟩ := lv
      simp only [LV.v] at *
      generalize hlq : ll.length = lq at *
      have HLQ := Lib.hid hlq
      clear hlq
      have HE := Lib.hid (rend_any g SRC (n, []) s' _ HR3.out)
      have hrng := endS_rng HR3.out
      have HSE := Lib.hid (sec_end (by decide) HKP.out fun e he => (RdrAt.er HR3.out e he).1)
      go_wp2_with fail
      refine HE.out.mono ?_
      rintro e w9 ⟨rfl, h9⟩
      have HC9 := Lib.hid h9
      clear h9
      generalize hee : endS s' = ee at *
      go_wp2
      go_ret
      exact ⟨ee, _, rfl, hrng.1, hrng.2, ⟨HM3.out.1.chg HC9.out (by omega), (HM3.out.2.chg HC9.out fun k _ hk e => hk.2 e).mono fun k _ hk => hk.1⟩, HSE.out, (HCW.out.trans HC9.out fun k hk e => by omega)⟩
  · as_aux_lemma =>
      have HN := Lib.hid (mnoimp_any g n _ W HS.out)
      go_upto_region 8 with fail
      go_wp2_with fail
      refine HN.out.mono ?_
      rintro e w3 ⟨⟨u, rfl⟩, s', h1, h2, h3⟩
      have HR3 := Lib.hid h1
      have HKP := Lib.hid (h2 m.mo)
      have HM3 : Hid (Own w3 gm MODT m.cells ∧ MV.ok (fun k => gm < k ∧ k ≠ g) w3 m) := ⟨HMW.out.1.chg h3 (by omega), HMW.out.2.chg h3 fun k hk hx e => hx.2 e⟩
      have HCW : Hid (Chg (fun k => k = gm) w w3) := (Chg.of_below HBB.out).trans h3 fun k hk e => by omega
      clear h1 h2 h3 HN
      have HE := Lib.hid (rend_any g SRC (n, []) s' _ HR3.out)
      have hrng := endS_rng HR3.out
      have HSE := Lib.hid (sec_end (by decide) HKP.out fun e he => (RdrAt.er HR3.out e he).1)
      go_wp2_with fail
      refine HE.out.mono ?_
      rintro e w9 ⟨rfl, h9⟩
      have HC9 := Lib.hid h9
      clear h9
      generalize hee : endS s' = ee at *
      go_wp2
      go_ret
      exact ⟨ee, _, rfl, hrng.1, hrng.2, ⟨HM3.out.1.chg HC9.out (by omega), (HM3.out.2.chg HC9.out fun k _ hk e => hk.2 e).mono fun k _ hk => hk.1⟩, HSE.out, (HCW.out.trans HC9.out fun k hk e => by omega)⟩
  · as_aux_lemma =>
      have HN := Lib.hid (lsu_any g n _ W HS.out 32 (by omega) (by omega))
      go_upto_region 10 with fail
      go_wp2_with fail
      refine HN.out.mono ?_
      rintro e w3 ⟨v, is, s', rfl, ho, h1, h2, h3, hl⟩
      obtain ⟨lv, rfl, rfl, hd⟩ := ho.made
      have hM := HMW.out.1.chg h3 (by omega)
      have hMo := HMW.out.2.chg h3 fun k hk hx e => hx.2 e
      have HR3 := Lib.hid (RdrAt.setOther h1 hM (MV.noByte m) (by omega) 1 lv.v)
      have HKP : Hid (KP (secP 3 m.mo) (.ok y) ({ m with f := lv } : MV).mo s') := by rw [secP_3]; exact h2.good (by first | rfl | (simp [MV.mo]; done))
      have HM3 : Hid (Own (w3.setCell ⟨gm, 1, none⟩ lv.v) gm MODT (MV.cells { m with f := lv }) ∧ MV.ok (fun k => gm < k ∧ k ≠ g) (w3.setCell ⟨gm, 1, none⟩ lv.v) { m with f := lv }) := by
        have hc := chgSet w3 gm 1 lv.v
        refine ⟨hM.set 1 lv.v, ?_⟩
        exact { hMo.chg hc (fun k _ hk e => by omega) with f := (hd.mono fun k _ hk => ⟨by have := HMW.out.1.lt; omega, by omega⟩).chg hc fun k _ hk e => by omega }
      have HCW : Hid (Chg (fun k => k = gm) w (w3.setCell ⟨gm, 1, none⟩ lv.v)) := ((Chg.of_below HBB.out).trans h3 fun k hk e => by omega).trans (chgSet w3 gm 1 lv.v) fun k _ e => e
      have f0 := hM.frozen 1
      have k0 : w3.cell? ⟨gm, 1, none⟩ = some m.f.v := hM.cell 1
      clear h1 h2 h3 ho hd hM hMo HN
      obtain ⟨lA, lc, ll⟩ := lv
      simp only [LV.v] at *
      generalize hlq : ll.length = lq at *
      have HLQ := Lib.hid hlq
      clear hlq
      have HE := Lib.hid (rend_any g SRC (n, []) s' _ HR3.out)
      have hrng := endS_rng HR3.out
      have HSE := Lib.hid (sec_end (by decide) HKP.out fun e he => (RdrAt.er HR3.out e he).1)
      go_wp2_with fail
      refine HE.out.mono ?_
      rintro e w9 ⟨rfl, h9⟩
      have HC9 := Lib.hid h9
      clear h9
      generalize hee : endS s' = ee at *
      go_wp2
      go_ret
      exact ⟨ee, _, rfl, hrng.1, hrng.2, ⟨HM3.out.1.chg HC9.out (by omega), (HM3.out.2.chg HC9.out fun k _ hk e => hk.2 e).mono fun k _ hk => hk.1⟩, HSE.out, (HCW.out.trans HC9.out fun k hk e => by omega)⟩
  · as_aux_lemma =>
      have HN := Lib.hid (lstab_any g n _ W HS.out 4 (by omega) (by omega))
      go_upto_region 12 with fail
      go_wp2_with fail
      refine HN.out.mono ?_
      rintro e w3 ⟨v, is, s', rfl, ho, h1, h2, h3, hl⟩
      obtain ⟨lv, rfl, rfl, hd⟩ := ho.made
      have hM := HMW.out.1.chg h3 (by omega)
      have hMo := HMW.out.2.chg h3 fun k hk hx e => hx.2 e
      have HR3 := Lib.hid (RdrAt.setOther h1 hM (MV.noByte m) (by omega) 2 lv.v)
      have HKP : Hid (KP (secP 4 m.mo) (.ok y) ({ m with b := lv } : MV).mo s') := by rw [secP_4]; exact h2.good (by first | rfl | (simp [MV.mo]; done))
      have HM3 : Hid (Own (w3.setCell ⟨gm, 2, none⟩ lv.v) gm MODT (MV.cells { m with b := lv }) ∧ MV.ok (fun k => gm < k ∧ k ≠ g) (w3.setCell ⟨gm, 2, none⟩ lv.v) { m with b := lv }) := by
        have hc := chgSet w3 gm 2 lv.v
        refine ⟨hM.set 2 lv.v, ?_⟩
        exact { hMo.chg hc (fun k _ hk e => by omega) with b := (hd.mono fun k _ hk => ⟨by have := HMW.out.1.lt; omega, by omega⟩).chg hc fun k _ hk e => by omega }
      have HCW : Hid (Chg (fun k => k = gm) w (w3.setCell ⟨gm, 2, none⟩ lv.v)) := ((Chg.of_below HBB.out).trans h3 fun k hk e => by omega).trans (chgSet w3 gm 2 lv.v) fun k _ e => e
      have f0 := hM.frozen 2
      have k0 : w3.cell? ⟨gm, 2, none⟩ = some m.b.v := hM.cell 2
      clear h1 h2 h3 ho hd hM hMo HN
      obtain ⟨lA, lc, ll⟩ := lv
      simp only [LV.v] at *
      generalize hlq : ll.length = lq at *
      have HLQ := Lib.hid hlq
      clear hlq
      have HE := Lib.hid (rend_any g SRC (n, []) s' _ HR3.out)
      have hrng := endS_rng HR3.out
      have HSE := Lib.hid (sec_end (by decide) HKP.out fun e he => (RdrAt.er HR3.out e he).1)
      go_wp2_with fail
      refine HE.out.mono ?_
      rintro e w9 ⟨rfl, h9⟩
      have HC9 := Lib.hid h9
      clear h9
      generalize hee : endS s' = ee at *
      go_wp2
      go_ret
      exact ⟨ee, _, rfl, hrng.1, hrng.2, ⟨HM3.out.1.chg HC9.out (by omega), (HM3.out.2.chg HC9.out fun k _ hk e => hk.2 e).mono fun k _ hk => hk.1⟩, HSE.out, (HCW.out.trans HC9.out fun k hk e => by omega)⟩
  · as_aux_lemma =>
      have HN := Lib.hid (lslim_any g n _ W HS.out 4 (by omega) (by omega))
      go_upto_region 14 with fail
      go_wp2_with fail
      refine HN.out.mono ?_
      rintro e w3 ⟨v, is, s', rfl, ho, h1, h2, h3, hl⟩
      obtain ⟨lv, rfl, rfl, hd⟩ := ho.made
      have hM := HMW.out.1.chg h3 (by omega)
      have hMo := HMW.out.2.chg h3 fun k hk hx e => hx.2 e
      have HR3 := Lib.hid (RdrAt.setOther h1 hM (MV.noByte m) (by omega) 3 lv.v)
      have HKP : Hid (KP (secP 5 m.mo) (.ok y) ({ m with m := lv } : MV).mo s') := by rw [secP_5]; exact h2.good (by first | rfl | (simp [MV.mo]; done))
      have HM3 : Hid (Own (w3.setCell ⟨gm, 3, none⟩ lv.v) gm MODT (MV.cells { m with m := lv }) ∧ MV.ok (fun k => gm < k ∧ k ≠ g) (w3.setCell ⟨gm, 3, none⟩ lv.v) { m with m := lv }) := by
        have hc := chgSet w3 gm 3 lv.v
        refine ⟨hM.set 3 lv.v, ?_⟩
        exact { hMo.chg hc (fun k _ hk e => by omega) with m := (hd.mono fun k _ hk => ⟨by have := HMW.out.1.lt; omega, by omega⟩).chg hc fun k _ hk e => by omega }
      have HCW : Hid (Chg (fun k => k = gm) w (w3.setCell ⟨gm, 3, none⟩ lv.v)) := ((Chg.of_below HBB.out).trans h3 fun k hk e => by omega).trans (chgSet w3 gm 3 lv.v) fun k _ e => e
      have f0 := hM.frozen 3
      have k0 : w3.cell? ⟨gm, 3, none⟩ = some m.m.v := hM.cell 3
      clear h1 h2 h3 ho hd hM hMo HN
      obtain ⟨lA, lc, ll⟩ := lv
      simp only [LV.v] at *
      generalize hlq : ll.length = lq at *
      have HLQ := Lib.hid hlq
      clear hlq
      have HE := Lib.hid (rend_any g SRC (n, []) s' _ HR3.out)
      have hrng := endS_rng HR3.out
      have HSE := Lib.hid (sec_end (by decide) HKP.out fun e he => (RdrAt.er HR3.out e he).1)
      go_wp2_with fail
      refine HE.out.mono ?_
      rintro e w9 ⟨rfl, h9⟩
      have HC9 := Lib.hid h9
      clear h9
      generalize hee : endS s' = ee at *
      go_wp2
      go_ret
      exact ⟨ee, _, rfl, hrng.1, hrng.2, ⟨HM3.out.1.chg HC9.out (by omega), (HM3.out.2.chg HC9.out fun k _ hk e => hk.2 e).mono fun k _ hk => hk.1⟩, HSE.out, (HCW.out.trans HC9.out fun k hk e => by omega)⟩
  · as_aux_lemma =>
      have HN := Lib.hid (lsglob_any g n _ W HS.out 16 (by omega) (by omega))
      go_upto_region 16 with fail
      go_wp2_with fail
      refine HN.out.mono ?_
      rintro e w3 ⟨v, is, s', rfl, ho, h1, h2, h3, hl⟩
      obtain ⟨lv, rfl, rfl, hd⟩ := ho.made
      have hM := HMW.out.1.chg h3 (by omega)
      have hMo := HMW.out.2.chg h3 fun k hk hx e => hx.2 e
      have HR3 := Lib.hid (RdrAt.setOther h1 hM (MV.noByte m) (by omega) 4 lv.v)
      have HKP : Hid (KP (secP 6 m.mo) (.ok y) ({ m with g := lv } : MV).mo s') := by rw [secP_6]; exact h2.good (by first | rfl | (simp [MV.mo]; done))
      have HM3 : Hid (Own (w3.setCell ⟨gm, 4, none⟩ lv.v) gm MODT (MV.cells { m with g := lv }) ∧ MV.ok (fun k => gm < k ∧ k ≠ g) (w3.setCell ⟨gm, 4, none⟩ lv.v) { m with g := lv }) := by
        have hc := chgSet w3 gm 4 lv.v
        refine ⟨hM.set 4 lv.v, ?_⟩
        exact { hMo.chg hc (fun k _ hk e => by omega) with g := (hd.mono fun k _ hk => ⟨by have := HMW.out.1.lt; omega, by omega⟩).chg hc fun k _ hk e => by omega }
      have HCW : Hid (Chg (fun k => k = gm) w (w3.setCell ⟨gm, 4, none⟩ lv.v)) := ((Chg.of_below HBB.out).trans h3 fun k hk e => by omega).trans (chgSet w3 gm 4 lv.v) fun k _ e => e
      have f0 := hM.frozen 4
      have k0 : w3.cell? ⟨gm, 4, none⟩ = some m.g.v := hM.cell 4
      clear h1 h2 h3 ho hd hM hMo HN
      obtain ⟨lA, lc, ll⟩ := lv
      simp only [LV.v] at *
      generalize hlq : ll.length = lq at *
      have HLQ := Lib.hid hlq
      clear hlq
      have HE := Lib.hid (rend_any g SRC (n, []) s' _ HR3.out)
      have hrng := endS_rng HR3.out
      have HSE := Lib.hid (sec_end (by decide) HKP.out fun e he => (RdrAt.er HR3.out e he).1)
      go_wp2_with fail
      refine HE.out.mono ?_
      rintro e w9 ⟨rfl, h9⟩
      have HC9 := Lib.hid h9
      clear h9
      generalize hee : endS s' = ee at *
      go_wp2
      go_ret
      exact ⟨ee, _, rfl, hrng.1, hrng.2, ⟨HM3.out.1.chg HC9.out (by omega), (HM3.out.2.chg HC9.out fun k _ hk e => hk.2 e).mono fun k _ hk => hk.1⟩, HSE.out, (HCW.out.trans HC9.out fun k hk e => by omega)⟩
  · as_aux_lemma =>
      have HN := Lib.hid (lsexp_any g n _ W HS.out 32 (by omega) (by omega) HTW.out (by omega))
      go_upto_region 18 with fail
      go_wp2_with fail
      refine HN.out.mono ?_
      rintro e w3 ⟨v, is, s', rfl, ho, h1, h2, h3, hl⟩
      obtain ⟨lv, rfl, rfl, hd⟩ := ho.made
      have hM := HMW.out.1.chg h3 (by omega)
      have hMo := HMW.out.2.chg h3 fun k hk hx e => hx.2 e
      have HR3 := Lib.hid (RdrAt.setOther h1 hM (MV.noByte m) (by omega) 5 lv.v)
      have HKP : Hid (KP (secP 7 m.mo) (.ok y) ({ m with x := lv } : MV).mo s') := by rw [secP_7]; exact h2.good (by first | rfl | (simp [MV.mo]; done))
      have HM3 : Hid (Own (w3.setCell ⟨gm, 5, none⟩ lv.v) gm MODT (MV.cells { m with x := lv }) ∧ MV.ok (fun k => gm < k ∧ k ≠ g) (w3.setCell ⟨gm, 5, none⟩ lv.v) { m with x := lv }) := by
        have hc := chgSet w3 gm 5 lv.v
        refine ⟨hM.set 5 lv.v, ?_⟩
        exact { hMo.chg hc (fun k _ hk e => by omega) with x := (hd.mono fun k _ hk => ⟨by have := HMW.out.1.lt; omega, by omega⟩).chg hc fun k _ hk e => by omega }
      have HCW : Hid (Chg (fun k => k = gm) w (w3.setCell ⟨gm, 5, none⟩ lv.v)) := ((Chg.of_below HBB.out).trans h3 fun k hk e => by omega).trans (chgSet w3 gm 5 lv.v) fun k _ e => e
      have f0 := hM.frozen 5
      have k0 : w3.cell? ⟨gm, 5, none⟩ = some m.x.v := hM.cell 5
      clear h1 h2 h3 ho hd hM hMo HN
      obtain ⟨lA, lc, ll⟩ := lv
      simp only [LV.v] at *
      generalize hlq : ll.length = lq at *
      have HLQ := Lib.hid hlq
      clear hlq
      have HE := Lib.hid (rend_any g SRC (n, []) s' _ HR3.out)
      have hrng := endS_rng HR3.out
      have HSE := Lib.hid (sec_end (by decide) HKP.out fun e he => (RdrAt.er HR3.out e he).1)
      go_wp2_with fail
      refine HE.out.mono ?_
      rintro e w9 ⟨rfl, h9⟩
      have HC9 := Lib.hid h9
      clear h9
      generalize hee : endS s' = ee at *
      go_wp2
      go_ret
      exact ⟨ee, _, rfl, hrng.1, hrng.2, ⟨HM3.out.1.chg HC9.out (by omega), (HM3.out.2.chg HC9.out fun k _ hk e => hk.2 e).mono fun k _ hk => hk.1⟩, HSE.out, (HCW.out.trans HC9.out fun k hk e => by omega)⟩
  · as_aux_lemma =>
      have HN := Lib.hid (mU32 g n _ W HS.out)
      go_upto_region 20 with fail
      go_wp2_with fail
      refine HN.out.mono ?_
      rintro e w3 ⟨x, s', rfl, x0, x1, h1, h2, h3⟩
      have hM := HMW.out.1.chg h3 (by omega)
      have hMo := HMW.out.2.chg h3 fun k hk hx e => hx.2 e
      have HR3 := Lib.hid (RdrAt.setOther (RdrAt.setOther h1 hM (MV.noByte m) (by omega) 6 (.bool true)) (hM.set 6 (.bool true)) (MV.noByte { m with s := true }) (by omega) 7 (.int .u32 x))
      have HKP : Hid (KP (secP 8 m.mo) (.ok y) ({ m with s := true, sn := x } : MV).mo s') := by rw [secP_8]; exact h2.good rfl
      have HM3 : Hid (Own ((w3.setCell ⟨gm, 6, none⟩ (.bool true)).setCell ⟨gm, 7, none⟩ (.int .u32 x)) gm MODT (MV.cells { m with s := true, sn := x }) ∧ MV.ok (fun k => gm < k ∧ k ≠ g) ((w3.setCell ⟨gm, 6, none⟩ (.bool true)).setCell ⟨gm, 7, none⟩ (.int .u32 x)) { m with s := true, sn := x }) := by
        refine ⟨(hM.set 6 (.bool true)).set 7 (.int .u32 x), ?_⟩
        exact { (hMo.chg (chgSet w3 gm 6 _) (fun k _ hk e => by omega)).chg (chgSet _ gm 7 _) (fun k _ hk e => by omega) with sn := ⟨x0, by show x < 4294967296; omega⟩ }
      have HCW : Hid (Chg (fun k => k = gm) w ((w3.setCell ⟨gm, 6, none⟩ (.bool true)).setCell ⟨gm, 7, none⟩ (.int .u32 x))) := (((Chg.of_below HBB.out).trans h3 fun k hk e => by omega).trans (chgSet w3 gm 6 _) fun k _ e => e).trans (chgSet _ gm 7 _) fun k _ e => e
      have f0 := hM.frozen 6
      have f1 := hM.frozen 7
      have k0 : w3.cell? ⟨gm, 6, none⟩ = some (.bool m.s) := hM.cell 6
      have k1 : w3.cell? ⟨gm, 7, none⟩ = some (.int .u32 m.sn) := hM.cell 7
      clear h1 h2 h3 hM hMo HN
      have HE := Lib.hid (rend_any g SRC (n, []) s' _ HR3.out)
      have hrng := endS_rng HR3.out
      have HSE := Lib.hid (sec_end (by decide) HKP.out fun e he => (RdrAt.er HR3.out e he).1)
      go_wp2_with fail
      refine HE.out.mono ?_
      rintro e w9 ⟨rfl, h9⟩
      have HC9 := Lib.hid h9
      clear h9
      generalize hee : endS s' = ee at *
      go_wp2
      go_ret
      exact ⟨ee, _, rfl, hrng.1, hrng.2, ⟨HM3.out.1.chg HC9.out (by omega), (HM3.out.2.chg HC9.out fun k _ hk e => hk.2 e).mono fun k _ hk => hk.1⟩, HSE.out, (HCW.out.trans HC9.out fun k hk e => by omega)⟩
  · as_aux_lemma =>
      have HN := Lib.hid (lselem_any g n _ W HS.out 16 (by omega) (by omega))
      go_upto_region 22 with fail
      go_wp2_with fail
      refine HN.out.mono ?_
      rintro e w3 ⟨v, is, s', rfl, ho, h1, h2, h3, hl⟩
      obtain ⟨lv, rfl, rfl, hd⟩ := ho.made
      have hM := HMW.out.1.chg h3 (by omega)
      have hMo := HMW.out.2.chg h3 fun k hk hx e => hx.2 e
      have HR3 := Lib.hid (RdrAt.setOther h1 hM (MV.noByte m) (by omega) 8 lv.v)
      have HKP : Hid (KP (secP 9 m.mo) (.ok y) ({ m with e := lv } : MV).mo s') := by rw [secP_9]; exact h2.good (by first | rfl | (simp [MV.mo]; done))
      have HM3 : Hid (Own (w3.setCell ⟨gm, 8, none⟩ lv.v) gm MODT (MV.cells { m with e := lv }) ∧ MV.ok (fun k => gm < k ∧ k ≠ g) (w3.setCell ⟨gm, 8, none⟩ lv.v) { m with e := lv }) := by
        have hc := chgSet w3 gm 8 lv.v
        refine ⟨hM.set 8 lv.v, ?_⟩
        exact { hMo.chg hc (fun k _ hk e => by omega) with e := (hd.mono fun k _ hk => ⟨by have := HMW.out.1.lt; omega, by omega⟩).chg hc fun k _ hk e => by omega }
      have HCW : Hid (Chg (fun k => k = gm) w (w3.setCell ⟨gm, 8, none⟩ lv.v)) := ((Chg.of_below HBB.out).trans h3 fun k hk e => by omega).trans (chgSet w3 gm 8 lv.v) fun k _ e => e
      have f0 := hM.frozen 8
      have k0 : w3.cell? ⟨gm, 8, none⟩ = some m.e.v := hM.cell 8
      clear h1 h2 h3 ho hd hM hMo HN
      obtain ⟨lA, lc, ll⟩ := lv
      simp only [LV.v] at *
      generalize hlq : ll.length = lq at *
      have HLQ := Lib.hid hlq
      clear hlq
      have HE := Lib.hid (rend_any g SRC (n, []) s' _ HR3.out)
      have hrng := endS_rng HR3.out
      have HSE := Lib.hid (sec_end (by decide) HKP.out fun e he => (RdrAt.er HR3.out e he).1)
      go_wp2_with fail
      refine HE.out.mono ?_
      rintro e w9 ⟨rfl, h9⟩
      have HC9 := Lib.hid h9
      clear h9
      generalize hee : endS s' = ee at *
      go_wp2
      go_ret
      exact ⟨ee, _, rfl, hrng.1, hrng.2, ⟨HM3.out.1.chg HC9.out (by omega), (HM3.out.2.chg HC9.out fun k _ hk e => hk.2 e).mono fun k _ hk => hk.1⟩, HSE.out, (HCW.out.trans HC9.out fun k hk e => by omega)⟩
  · as_aux_lemma =>
      have HN := Lib.hid (mU32 g n _ W HS.out)
      go_upto_region 24 with fail
      go_wp2_with fail
      refine HN.out.mono ?_
      rintro e w3 ⟨x, s', rfl, x0, x1, h1, h2, h3⟩
      have hM := HMW.out.1.chg h3 (by omega)
      have hMo := HMW.out.2.chg h3 fun k hk hx e => hx.2 e
      have HR3 := Lib.hid (RdrAt.setOther (RdrAt.setOther h1 hM (MV.noByte m) (by omega) 9 (.bool true)) (hM.set 9 (.bool true)) (MV.noByte { m with k := true }) (by omega) 10 (.int .u32 x))
      have HKP : Hid (KP (secP 12 m.mo) (.ok y) ({ m with k := true, kn := x } : MV).mo s') := by rw [secP_12]; exact h2.good rfl
      have HM3 : Hid (Own ((w3.setCell ⟨gm, 9, none⟩ (.bool true)).setCell ⟨gm, 10, none⟩ (.int .u32 x)) gm MODT (MV.cells { m with k := true, kn := x }) ∧ MV.ok (fun k => gm < k ∧ k ≠ g) ((w3.setCell ⟨gm, 9, none⟩ (.bool true)).setCell ⟨gm, 10, none⟩ (.int .u32 x)) { m with k := true, kn := x }) := by
        refine ⟨(hM.set 9 (.bool true)).set 10 (.int .u32 x), ?_⟩
        exact { (hMo.chg (chgSet w3 gm 9 _) (fun k _ hk e => by omega)).chg (chgSet _ gm 10 _) (fun k _ hk e => by omega) with kn := ⟨x0, by show x < 4294967296; omega⟩ }
      have HCW : Hid (Chg (fun k => k = gm) w ((w3.setCell ⟨gm, 9, none⟩ (.bool true)).setCell ⟨gm, 10, none⟩ (.int .u32 x))) := (((Chg.of_below HBB.out).trans h3 fun k hk e => by omega).trans (chgSet w3 gm 9 _) fun k _ e => e).trans (chgSet _ gm 10 _) fun k _ e => e
      have f0 := hM.frozen 9
      have f1 := hM.frozen 10
      have k0 : w3.cell? ⟨gm, 9, none⟩ = some (.bool m.k) := hM.cell 9
      have k1 : w3.cell? ⟨gm, 10, none⟩ = some (.int .u32 m.kn) := hM.cell 10
      clear h1 h2 h3 hM hMo HN
      have HE := Lib.hid (rend_any g SRC (n, []) s' _ HR3.out)
      have hrng := endS_rng HR3.out
      have HSE := Lib.hid (sec_end (by decide) HKP.out fun e he => (RdrAt.er HR3.out e he).1)
      go_wp2_with fail
      refine HE.out.mono ?_
      rintro e w9 ⟨rfl, h9⟩
      have HC9 := Lib.hid h9
      clear h9
      generalize hee : endS s' = ee at *
      go_wp2
      go_ret
      exact ⟨ee, _, rfl, hrng.1, hrng.2, ⟨HM3.out.1.chg HC9.out (by omega), (HM3.out.2.chg HC9.out fun k _ hk e => hk.2 e).mono fun k _ hk => hk.1⟩, HSE.out, (HCW.out.trans HC9.out fun k hk e => by omega)⟩
  · as_aux_lemma =>
      have HN := Lib.hid (lscode_any g n _ W HS.out 32 (by omega) (by omega))
      go_upto_region 26 with fail
      go_wp2_with fail
      refine HN.out.mono ?_
      rintro e w3 ⟨v, is, s', rfl, ho, h1, h2, h3, hl⟩
      obtain ⟨lv, rfl, rfl, hd⟩ := ho.made
      have hM := HMW.out.1.chg h3 (by omega)
      have hMo := HMW.out.2.chg h3 fun k hk hx e => hx.2 e
      have HR3 := Lib.hid (RdrAt.setOther h1 hM (MV.noByte m) (by omega) 11 lv.v)
      have HKP : Hid (KP (secP 10 m.mo) (.ok y) ({ m with c := lv } : MV).mo s') := by rw [secP_10]; exact h2.good (by first | rfl | (simp [MV.mo]; done))
      have HM3 : Hid (Own (w3.setCell ⟨gm, 11, none⟩ lv.v) gm MODT (MV.cells { m with c := lv }) ∧ MV.ok (fun k => gm < k ∧ k ≠ g) (w3.setCell ⟨gm, 11, none⟩ lv.v) { m with c := lv }) := by
        have hc := chgSet w3 gm 11 lv.v
        refine ⟨hM.set 11 lv.v, ?_⟩
        exact { hMo.chg hc (fun k _ hk e => by omega) with c := (hd.mono fun k _ hk => ⟨by have := HMW.out.1.lt; omega, by omega⟩).chg hc fun k _ hk e => by omega }
      have HCW : Hid (Chg (fun k => k = gm) w (w3.setCell ⟨gm, 11, none⟩ lv.v)) := ((Chg.of_below HBB.out).trans h3 fun k hk e => by omega).trans (chgSet w3 gm 11 lv.v) fun k _ e => e
      have f0 := hM.frozen 11
      have k0 : w3.cell? ⟨gm, 11, none⟩ = some m.c.v := hM.cell 11
      clear h1 h2 h3 ho hd hM hMo HN
      obtain ⟨lA, lc, ll⟩ := lv
      simp only [LV.v] at *
      generalize hlq : ll.length = lq at *
      have HLQ := Lib.hid hlq
      clear hlq
      have HE := Lib.hid (rend_any g SRC (n, []) s' _ HR3.out)
      have hrng := endS_rng HR3.out
      have HSE := Lib.hid (sec_end (by decide) HKP.out fun e he => (RdrAt.er HR3.out e he).1)
      go_wp2_with fail
      refine HE.out.mono ?_
      rintro e w9 ⟨rfl, h9⟩
      have HC9 := Lib.hid h9
      clear h9
      generalize hee : endS s' = ee at *
      go_wp2
      go_ret
      exact ⟨ee, _, rfl, hrng.1, hrng.2, ⟨HM3.out.1.chg HC9.out (by omega), (HM3.out.2.chg HC9.out fun k _ hk e => hk.2 e).mono fun k _ hk => hk.1⟩, HSE.out, (HCW.out.trans HC9.out fun k hk e => by omega)⟩
  · as_aux_lemma =>
      have HN := Lib.hid (lsdata_any g n _ W HS.out 16 (by omega) (by omega))
      go_upto_region 28 with fail
      go_wp2_with fail
      refine HN.out.mono ?_
      rintro e w3 ⟨v, is, s', rfl, ho, h1, h2, h3, hl⟩
      obtain ⟨lv, rfl, rfl, hd⟩ := ho.made
      have hM := HMW.out.1.chg h3 (by omega)
      have hMo := HMW.out.2.chg h3 fun k hk hx e => hx.2 e
      have HR3 := Lib.hid (RdrAt.setOther h1 hM (MV.noByte m) (by omega) 12 lv.v)
      have HKP : Hid (KP (secP 11 m.mo) (.ok y) ({ m with d := lv } : MV).mo s') := by rw [secP_11]; exact h2.good (by first | rfl | (simp [MV.mo]; done))
      have HM3 : Hid (Own (w3.setCell ⟨gm, 12, none⟩ lv.v) gm MODT (MV.cells { m with d := lv }) ∧ MV.ok (fun k => gm < k ∧ k ≠ g) (w3.setCell ⟨gm, 12, none⟩ lv.v) { m with d := lv }) := by
        have hc := chgSet w3 gm 12 lv.v
        refine ⟨hM.set 12 lv.v, ?_⟩
        exact { hMo.chg hc (fun k _ hk e => by omega) with d := (hd.mono fun k _ hk => ⟨by have := HMW.out.1.lt; omega, by omega⟩).chg hc fun k _ hk e => by omega }
      have HCW : Hid (Chg (fun k => k = gm) w (w3.setCell ⟨gm, 12, none⟩ lv.v)) := ((Chg.of_below HBB.out).trans h3 fun k hk e => by omega).trans (chgSet w3 gm 12 lv.v) fun k _ e => e
      have f0 := hM.frozen 12
      have k0 : w3.cell? ⟨gm, 12, none⟩ = some m.d.v := hM.cell 12
      clear h1 h2 h3 ho hd hM hMo HN
      obtain ⟨lA, lc, ll⟩ := lv
      simp only [LV.v] at *
      generalize hlq : ll.length = lq at *
      have HLQ := Lib.hid hlq
      clear hlq
      have HE := Lib.hid (rend_any g SRC (n, []) s' _ HR3.out)
      have hrng := endS_rng HR3.out
      have HSE := Lib.hid (sec_end (by decide) HKP.out fun e he => (RdrAt.er HR3.out e he).1)
      go_wp2_with fail
      refine HE.out.mono ?_
      rintro e w9 ⟨rfl, h9⟩
      have HC9 := Lib.hid h9
      clear h9
      generalize hee : endS s' = ee at *
      go_wp2
      go_ret
      exact ⟨ee, _, rfl, hrng.1, hrng.2, ⟨HM3.out.1.chg HC9.out (by omega), (HM3.out.2.chg HC9.out fun k _ hk e => hk.2 e).mono fun k _ hk => hk.1⟩, HSE.out, (HCW.out.trans HC9.out fun k hk e => by omega)⟩
  · as_aux_lemma =>
      have HR3 := Lib.hid HS.out
      obtain ⟨s', hs'⟩ : ∃ s' : St, s' = .ok y := ⟨_, rfl⟩
      rw [← hs'] at HR3
      have HKP : Hid (KP (secP id m.mo) (.ok y) m.mo s') := by rw [secP_o _ _ hno, hs']; exact KP.pure _ _
      have HM3 := HMW
      have HCW : Hid (Chg (fun k => k = gm) w W) := Chg.of_below HBB.out
      have e0 : (id == 0) = false := by simp; omega
      have e1 : (id == 1) = false := by simp; omega
      have e2 : (id == 2) = false := by simp; omega
      have e3 : (id == 3) = false := by simp; omega
      have e4 : (id == 4) = false := by simp; omega
      have e5 : (id == 5) = false := by simp; omega
      have e6 : (id == 6) = false := by simp; omega
      have e7 : (id == 7) = false := by simp; omega
      have e8 : (id == 8) = false := by simp; omega
      have e9 : (id == 9) = false := by simp; omega
      have e10 : (id == 10) = false := by simp; omega
      have e11 : (id == 11) = false := by simp; omega
      have e12 : (id == 12) = false := by simp; omega
      have hid : id ≠ 0 := hnz
      have HE := Lib.hid (rend_any g SRC (n, []) s' _ HR3.out)
      have hrng := endS_rng HR3.out
      have HSE := Lib.hid (sec_end hid HKP.out fun e he => (RdrAt.er HR3.out e he).1)
      go_wp2_with fail
      refine HE.out.mono ?_
      rintro e w9 ⟨rfl, h9⟩
      have HC9 := Lib.hid h9
      clear h9
      generalize hee : endS s' = ee at *
      go_wp2
      go_ret
      exact ⟨ee, _, rfl, hrng.1, hrng.2, ⟨HM3.out.1.chg HC9.out (by omega), (HM3.out.2.chg HC9.out fun k _ hk e => hk.2 e).mono fun k _ hk => hk.1⟩, HSE.out, (HCW.out.trans HC9.out fun k hk e => by omega)⟩
end Go.Proofs.YtadgiekiiicmfaaGreatDoor
