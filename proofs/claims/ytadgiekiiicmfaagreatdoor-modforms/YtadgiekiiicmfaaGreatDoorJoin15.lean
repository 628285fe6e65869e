/- Texts joined: ModElem, Made. -/
import Derived.Test.YtadgiekiiicmfaaGreatDoorJoin14
import Derived.Test.YtadgiekiiicmfaaGreatDoorJoin2
/- mod's source: an element, and the list of them. (Written by gen_ModElem.py.) -/
namespace Go.Proofs.YtadgiekiiicmfaaGreatDoor
open Go.RowKit
set_option maxRecDepth 100000
set_option linter.unusedVariables false

def EV.v (x : EV) : Value := .agg #[.int .u8 x.mode, .int .u8 x.ty, .int .u32 x.tb, x.off.v, x.iv]
section
variable (g N : Nat) (s : St) (w : World) (h : RdrAt w g SRC (N, []) s)
include h
set_option maxHeartbeats 2000000 in
theorem melem_any : Calls Tryz.prog 78 #[.pointer (some ⟨g, 0, none⟩)] w (PartPost KElm EV.v EV.x pElem g SRC (N, []) s w) := by
  have HT := Lib.hid (T8.new h 104 [.int .u8 0, .int .u8 0, .int .u32 0, .slice none 0 0, .slice none 0 0])
  obtain ⟨k0, k1, k2, k3, k4, f0, f1, f2, f3, f4⟩ := own_cellsV5 HT.out.2.1
  have HG := Lib.hid h.lt
  clear h
  go_enter Tryz.func78, Tryz.ntmps78
  have HN := Lib.hid (mU32 g N s _ HT.out.1)
  go_wp2_with fail
  refine HN.out.mono ?_
  rintro e w1a ⟨za, s1a, rfl, za0, za1, h1, h2, h3⟩
  have HM := Lib.hid (mupto32_any (most := 7) h1 h2 h3 za0 (by omega))
  clear h1 h2 h3 HN za0 za1
  go_wp2_with fail
  refine HM.out.mono ?_
  rintro e w1 ⟨z, s1, rfl, z0, z1, h1, h2, h3⟩
  have hT := HT.out.step h1 h3
  have H1 := Lib.hid h2
  clear h1 h2 h3 HM k0 k1 k2 k3 k4 f0 f1 f2 f3 f4
  obtain ⟨k0, k1, k2, k3, k4, f0, f1, f2, f3, f4⟩ := own_cellsV5 hT.2.1
  have HT := Lib.hid hT
  clear hT
  have hk : z = 0 ∨ z = 1 ∨ z = 2 ∨ z = 3 ∨ z = 4 ∨ z = 5 ∨ z = 6 ∨ z = 7 := by omega
  rcases hk with rfl | rfl | rfl | rfl | rfl | rfl | rfl | rfl
  · have hT2 := (HT.out.set 0 (.int .u8 0))
    simp only [List.set] at hT2
    have HT := Lib.hid hT2
    clear hT2
    go_upto_region 6 with (go_at_call 130; refine (mmode_any 0 _ (by omega) (by omega)).mono ?_; rintro e w9 ⟨rfl, rfl⟩; rw [show modeOf 0 = 0 from rfl])
    generalize (w1.setCell ⟨w.heap.size, 0, none⟩ (.int .u8 0)) = vm at *
    clear k0 k1 k2 k3 k4 f0 f1 f2 f3 f4
    obtain ⟨k0, k1, k2, k3, k4, f0, f1, f2, f3, f4⟩ := own_cellsV5 HT.out.2.1
    have HN := Lib.hid (mexpr_any g N s1 _ HT.out.1)
    go_wp2_with fail
    refine HN.out.mono ?_
    rintro e w2 ⟨bb, s3, rfl, p1, h1, h2, h3⟩
    have hT := HT.out.step h1 h3
    have HB := Lib.hid (HT.out.far p1)
    clear p1
    have H3 := Lib.hid h2
    clear h1 h2 h3 HN k0 k1 k2 k3 k4 f0 f1 f2 f3 f4
    obtain ⟨k0, k1, k2, k3, k4, f0, f1, f2, f3, f4⟩ := own_cellsV5 hT.2.1
    have HT := Lib.hid hT
    clear hT
    obtain ⟨isb, Ab, cb⟩ := bb
    simp only [BV.v] at *
    generalize hqb : isb.length = qb at *
    have HQb := Lib.hid hqb
    clear hqb
    have hT2 := (HT.out.set 3 (.slice Ab qb cb))
    simp only [List.set] at hT2
    have HB := Lib.hid (T8.keepSet 3 (.slice Ab qb cb) HB.out)
    have HT := Lib.hid hT2
    clear hT2
    go_upto_region 7 with fail
    generalize (w2.setCell ⟨w.heap.size, 3, none⟩ (.slice Ab qb cb)) = v2 at *
    clear k0 k1 k2 k3 k4 f0 f1 f2 f3 f4
    obtain ⟨k0, k1, k2, k3, k4, f0, f1, f2, f3, f4⟩ := own_cellsV5 HT.out.2.1
    have HN := Lib.hid (melt_any g N s3 _ HT.out.1 0 (by omega) (by omega))
    go_wp2_with fail
    refine HN.out.mono ?_
    rintro e w3 ⟨ty, s4, rfl, ty0, ty1, h1, h2, h3⟩
    have hT := HT.out.step h1 h3
    have HB := Lib.hid (HT.out.keep HB.out h3)
    have H4 := Lib.hid h2
    clear h1 h2 h3 HN k0 k1 k2 k3 k4 f0 f1 f2 f3 f4
    obtain ⟨k0, k1, k2, k3, k4, f0, f1, f2, f3, f4⟩ := own_cellsV5 hT.2.1
    have HT := Lib.hid hT
    clear hT
    have hT2 := (HT.out.set 1 (.int .u8 ty))
    simp only [List.set] at hT2
    have HB := Lib.hid (T8.keepSet 1 (.int .u8 ty) HB.out)
    have HT := Lib.hid hT2
    clear hT2
    go_upto_region 10 with fail
    generalize (w3.setCell ⟨w.heap.size, 1, none⟩ (.int .u8 ty)) = v3 at *
    clear k0 k1 k2 k3 k4 f0 f1 f2 f3 f4
    obtain ⟨k0, k1, k2, k3, k4, f0, f1, f2, f3, f4⟩ := own_cellsV5 HT.out.2.1
    have HN := Lib.hid (lsfun_any g N s4 _ HT.out.1 64 (by omega) (by omega))
    go_wp2_with fail
    refine HN.out.mono ?_
    rintro e w4 ⟨vv, is, s5, rfl, ho, h1, h2, h3, hl⟩
    have hT := HT.out.step h1 h3
    have HB := Lib.hid (HT.out.keep HB.out h3)
    obtain ⟨⟨iA, ic, il⟩, rfl, rfl, hi⟩ := ho.made
    have HI : Hid (RdE KB (fun k => w.heap.size < k) w4 (LV.v ⟨iA, ic, il⟩) il ∧ (il.length : Int) ≤ 64) := ⟨hi.mono fun k _ hk => by have := HT.out.2.1.lt; omega, hl⟩
    have H5 := Lib.hid h2
    clear h1 h2 h3 HN ho hi hl k0 k1 k2 k3 k4 f0 f1 f2 f3 f4
    obtain ⟨k0, k1, k2, k3, k4, f0, f1, f2, f3, f4⟩ := own_cellsV5 hT.2.1
    have HT := Lib.hid hT
    clear hT
    simp only [LV.v] at *
    generalize hqi : il.length = qi at *
    have HQI := Lib.hid hqi
    clear hqi
    go_wp2
    have hi := ((((((HI.out.1.chg (chgSet _ w.heap.size 4 (.slice iA qi ic)) fun k _ hk e => by omega).chg (chgSet _ w.heap.size 0 (.int .u8 0)) fun k _ hk e => by omega).chg (chgSet _ w.heap.size 1 (.int .u8 ty)) fun k _ hk e => by omega).chg (chgSet _ w.heap.size 2 (.int .u32 0)) fun k _ hk e => by omega).chg (chgSet _ w.heap.size 3 (.slice Ab qb cb)) fun k _ hk e => by omega).chg (chgSet _ w.heap.size 4 (.slice iA qi ic)) fun k _ hk e => by omega)
    have hW := ((((((HT.out.set 4 (.slice iA qi ic)).set 0 (.int .u8 0)).set 1 (.int .u8 ty)).set 2 (.int .u32 0)).set 3 (.slice Ab qb cb)).set 4 (.slice iA qi ic))
    simp only [List.set] at hW
    have hb := (T8.keepSet 4 (.slice iA qi ic) ((T8.keepSet 3 (.slice Ab qb cb) ((T8.keepSet 2 (.int .u32 0) ((T8.keepSet 1 (.int .u8 ty) ((T8.keepSet 0 (.int .u8 0) ((T8.keepSet 4 (.slice iA qi ic) (HB.out))))))))))))
    generalize ((((((w4.setCell ⟨w.heap.size, 4, none⟩ (.slice iA qi ic)).setCell ⟨w.heap.size, 0, none⟩ (.int .u8 0)).setCell ⟨w.heap.size, 1, none⟩ (.int .u8 ty)).setCell ⟨w.heap.size, 2, none⟩ (.int .u32 0)).setCell ⟨w.heap.size, 3, none⟩ (.slice Ab qb cb)).setCell ⟨w.heap.size, 4, none⟩ (.slice iA qi ic)) = W at *
    obtain ⟨m0, m1, m2, m3, m4, -, -, -, -, -⟩ := own_cellsV5 hW.2.1
    refine bodyPost_ret (by simp [results, Tryz.results78, go_sem, m0, m1, m2, m3, m4]; try rfl) rfl ?_
    exact ⟨⟨0, ty, 0, ⟨isb, Ab, cb⟩, il, iA, ic⟩, _, (by obtain rfl := HQb.out; obtain rfl := HQI.out; rfl), ⟨⟨show (0 : Int) ≤ 0 by omega, show (0 : Int) ≤ 255 by omega, ty0, ty1, show (0 : Int) ≤ 0 by omega, show (0 : Int) < 4294967296 by omega⟩, BV.ok.mono hb fun k _ hk => by omega, (by obtain rfl := HQI.out; exact hi.mono fun k _ hk => by omega), by have := HI.out.2; have := HQI.out; show il.length ≤ 64; omega⟩, hW.1, H1.out.then ((KP.pure (0 : Int) _).then ((H3.out).then ((H4.out).then (H5.out.good rfl)))), hW.2.2.2.2⟩
  · have hT2 := (HT.out.set 0 (.int .u8 1))
    simp only [List.set] at hT2
    have HT := Lib.hid hT2
    clear hT2
    go_upto_region 7 with (go_at_call 130; refine (mmode_any 1 _ (by omega) (by omega)).mono ?_; rintro e w9 ⟨rfl, rfl⟩; rw [show modeOf 1 = 1 from rfl])
    generalize (w1.setCell ⟨w.heap.size, 0, none⟩ (.int .u8 1)) = vm at *
    clear k0 k1 k2 k3 k4 f0 f1 f2 f3 f4
    obtain ⟨k0, k1, k2, k3, k4, f0, f1, f2, f3, f4⟩ := own_cellsV5 HT.out.2.1
    have HN := Lib.hid (melt_any g N s1 _ HT.out.1 1 (by omega) (by omega))
    go_wp2_with fail
    refine HN.out.mono ?_
    rintro e w2 ⟨ty, s4, rfl, ty0, ty1, h1, h2, h3⟩
    have hT := HT.out.step h1 h3
    have H4 := Lib.hid h2
    clear h1 h2 h3 HN k0 k1 k2 k3 k4 f0 f1 f2 f3 f4
    obtain ⟨k0, k1, k2, k3, k4, f0, f1, f2, f3, f4⟩ := own_cellsV5 hT.2.1
    have HT := Lib.hid hT
    clear hT
    have hT2 := (HT.out.set 1 (.int .u8 ty))
    simp only [List.set] at hT2
    have HT := Lib.hid hT2
    clear hT2
    go_upto_region 10 with fail
    generalize (w2.setCell ⟨w.heap.size, 1, none⟩ (.int .u8 ty)) = v2 at *
    clear k0 k1 k2 k3 k4 f0 f1 f2 f3 f4
    obtain ⟨k0, k1, k2, k3, k4, f0, f1, f2, f3, f4⟩ := own_cellsV5 HT.out.2.1
    have HN := Lib.hid (lsfun_any g N s4 _ HT.out.1 64 (by omega) (by omega))
    go_wp2_with fail
    refine HN.out.mono ?_
    rintro e w3 ⟨vv, is, s5, rfl, ho, h1, h2, h3, hl⟩
    have hT := HT.out.step h1 h3
    obtain ⟨⟨iA, ic, il⟩, rfl, rfl, hi⟩ := ho.made
    have HI : Hid (RdE KB (fun k => w.heap.size < k) w3 (LV.v ⟨iA, ic, il⟩) il ∧ (il.length : Int) ≤ 64) := ⟨hi.mono fun k _ hk => by have := HT.out.2.1.lt; omega, hl⟩
    have H5 := Lib.hid h2
    clear h1 h2 h3 HN ho hi hl k0 k1 k2 k3 k4 f0 f1 f2 f3 f4
    obtain ⟨k0, k1, k2, k3, k4, f0, f1, f2, f3, f4⟩ := own_cellsV5 hT.2.1
    have HT := Lib.hid hT
    clear hT
    simp only [LV.v] at *
    generalize hqi : il.length = qi at *
    have HQI := Lib.hid hqi
    clear hqi
    go_wp2
    have hi := ((((((HI.out.1.chg (chgSet _ w.heap.size 4 (.slice iA qi ic)) fun k _ hk e => by omega).chg (chgSet _ w.heap.size 0 (.int .u8 1)) fun k _ hk e => by omega).chg (chgSet _ w.heap.size 1 (.int .u8 ty)) fun k _ hk e => by omega).chg (chgSet _ w.heap.size 2 (.int .u32 0)) fun k _ hk e => by omega).chg (chgSet _ w.heap.size 3 (.slice none 0 0)) fun k _ hk e => by omega).chg (chgSet _ w.heap.size 4 (.slice iA qi ic)) fun k _ hk e => by omega)
    have hW := ((((((HT.out.set 4 (.slice iA qi ic)).set 0 (.int .u8 1)).set 1 (.int .u8 ty)).set 2 (.int .u32 0)).set 3 (.slice none 0 0)).set 4 (.slice iA qi ic))
    simp only [List.set] at hW
    generalize ((((((w3.setCell ⟨w.heap.size, 4, none⟩ (.slice iA qi ic)).setCell ⟨w.heap.size, 0, none⟩ (.int .u8 1)).setCell ⟨w.heap.size, 1, none⟩ (.int .u8 ty)).setCell ⟨w.heap.size, 2, none⟩ (.int .u32 0)).setCell ⟨w.heap.size, 3, none⟩ (.slice none 0 0)).setCell ⟨w.heap.size, 4, none⟩ (.slice iA qi ic)) = W at *
    obtain ⟨m0, m1, m2, m3, m4, -, -, -, -, -⟩ := own_cellsV5 hW.2.1
    refine bodyPost_ret (by simp [results, Tryz.results78, go_sem, m0, m1, m2, m3, m4]; try rfl) rfl ?_
    exact ⟨⟨1, ty, 0, bv0, il, iA, ic⟩, _, (by obtain rfl := HQI.out; rfl), ⟨⟨show (0 : Int) ≤ 1 by omega, show (1 : Int) ≤ 255 by omega, ty0, ty1, show (0 : Int) ≤ 0 by omega, show (0 : Int) < 4294967296 by omega⟩, BV.ok0 _ _, (by obtain rfl := HQI.out; exact hi.mono fun k _ hk => by omega), by have := HI.out.2; have := HQI.out; show il.length ≤ 64; omega⟩, hW.1, H1.out.then ((KP.pure (0 : Int) _).then ((KP.pure ([] : List Ins) _).then ((H4.out).then (H5.out.good rfl)))), hW.2.2.2.2⟩
  · have hT2 := (HT.out.set 0 (.int .u8 0))
    simp only [List.set] at hT2
    have HT := Lib.hid hT2
    clear hT2
    go_upto_region 5 with (go_at_call 130; refine (mmode_any 2 _ (by omega) (by omega)).mono ?_; rintro e w9 ⟨rfl, rfl⟩; rw [show modeOf 2 = 0 from rfl])
    generalize (w1.setCell ⟨w.heap.size, 0, none⟩ (.int .u8 0)) = vm at *
    clear k0 k1 k2 k3 k4 f0 f1 f2 f3 f4
    obtain ⟨k0, k1, k2, k3, k4, f0, f1, f2, f3, f4⟩ := own_cellsV5 HT.out.2.1
    have HN := Lib.hid (mU32 g N s1 _ HT.out.1)
    go_wp2_with fail
    refine HN.out.mono ?_
    rintro e w2 ⟨tb, s2, rfl, tb0, tb1, h1, h2, h3⟩
    have hT := HT.out.step h1 h3
    have H2 := Lib.hid h2
    clear h1 h2 h3 HN k0 k1 k2 k3 k4 f0 f1 f2 f3 f4
    obtain ⟨k0, k1, k2, k3, k4, f0, f1, f2, f3, f4⟩ := own_cellsV5 hT.2.1
    have HT := Lib.hid hT
    clear hT
    have hT2 := (HT.out.set 2 (.int .u32 tb))
    simp only [List.set] at hT2
    have HT := Lib.hid hT2
    clear hT2
    go_upto_region 6 with fail
    generalize (w2.setCell ⟨w.heap.size, 2, none⟩ (.int .u32 tb)) = v2 at *
    clear k0 k1 k2 k3 k4 f0 f1 f2 f3 f4
    obtain ⟨k0, k1, k2, k3, k4, f0, f1, f2, f3, f4⟩ := own_cellsV5 HT.out.2.1
    have HN := Lib.hid (mexpr_any g N s2 _ HT.out.1)
    go_wp2_with fail
    refine HN.out.mono ?_
    rintro e w3 ⟨bb, s3, rfl, p1, h1, h2, h3⟩
    have hT := HT.out.step h1 h3
    have HB := Lib.hid (HT.out.far p1)
    clear p1
    have H3 := Lib.hid h2
    clear h1 h2 h3 HN k0 k1 k2 k3 k4 f0 f1 f2 f3 f4
    obtain ⟨k0, k1, k2, k3, k4, f0, f1, f2, f3, f4⟩ := own_cellsV5 hT.2.1
    have HT := Lib.hid hT
    clear hT
    obtain ⟨isb, Ab, cb⟩ := bb
    simp only [BV.v] at *
    generalize hqb : isb.length = qb at *
    have HQb := Lib.hid hqb
    clear hqb
    have hT2 := (HT.out.set 3 (.slice Ab qb cb))
    simp only [List.set] at hT2
    have HB := Lib.hid (T8.keepSet 3 (.slice Ab qb cb) HB.out)
    have HT := Lib.hid hT2
    clear hT2
    go_upto_region 7 with fail
    generalize (w3.setCell ⟨w.heap.size, 3, none⟩ (.slice Ab qb cb)) = v3 at *
    clear k0 k1 k2 k3 k4 f0 f1 f2 f3 f4
    obtain ⟨k0, k1, k2, k3, k4, f0, f1, f2, f3, f4⟩ := own_cellsV5 HT.out.2.1
    have HN := Lib.hid (melt_any g N s3 _ HT.out.1 2 (by omega) (by omega))
    go_wp2_with fail
    refine HN.out.mono ?_
    rintro e w4 ⟨ty, s4, rfl, ty0, ty1, h1, h2, h3⟩
    have hT := HT.out.step h1 h3
    have HB := Lib.hid (HT.out.keep HB.out h3)
    have H4 := Lib.hid h2
    clear h1 h2 h3 HN k0 k1 k2 k3 k4 f0 f1 f2 f3 f4
    obtain ⟨k0, k1, k2, k3, k4, f0, f1, f2, f3, f4⟩ := own_cellsV5 hT.2.1
    have HT := Lib.hid hT
    clear hT
    have hT2 := (HT.out.set 1 (.int .u8 ty))
    simp only [List.set] at hT2
    have HB := Lib.hid (T8.keepSet 1 (.int .u8 ty) HB.out)
    have HT := Lib.hid hT2
    clear hT2
    go_upto_region 10 with fail
    generalize (w4.setCell ⟨w.heap.size, 1, none⟩ (.int .u8 ty)) = v4 at *
    clear k0 k1 k2 k3 k4 f0 f1 f2 f3 f4
    obtain ⟨k0, k1, k2, k3, k4, f0, f1, f2, f3, f4⟩ := own_cellsV5 HT.out.2.1
    have HN := Lib.hid (lsfun_any g N s4 _ HT.out.1 64 (by omega) (by omega))
    go_wp2_with fail
    refine HN.out.mono ?_
    rintro e w5 ⟨vv, is, s5, rfl, ho, h1, h2, h3, hl⟩
    have hT := HT.out.step h1 h3
    have HB := Lib.hid (HT.out.keep HB.out h3)
    obtain ⟨⟨iA, ic, il⟩, rfl, rfl, hi⟩ := ho.made
    have HI : Hid (RdE KB (fun k => w.heap.size < k) w5 (LV.v ⟨iA, ic, il⟩) il ∧ (il.length : Int) ≤ 64) := ⟨hi.mono fun k _ hk => by have := HT.out.2.1.lt; omega, hl⟩
    have H5 := Lib.hid h2
    clear h1 h2 h3 HN ho hi hl k0 k1 k2 k3 k4 f0 f1 f2 f3 f4
    obtain ⟨k0, k1, k2, k3, k4, f0, f1, f2, f3, f4⟩ := own_cellsV5 hT.2.1
    have HT := Lib.hid hT
    clear hT
    simp only [LV.v] at *
    generalize hqi : il.length = qi at *
    have HQI := Lib.hid hqi
    clear hqi
    go_wp2
    have hi := ((((((HI.out.1.chg (chgSet _ w.heap.size 4 (.slice iA qi ic)) fun k _ hk e => by omega).chg (chgSet _ w.heap.size 0 (.int .u8 0)) fun k _ hk e => by omega).chg (chgSet _ w.heap.size 1 (.int .u8 ty)) fun k _ hk e => by omega).chg (chgSet _ w.heap.size 2 (.int .u32 tb)) fun k _ hk e => by omega).chg (chgSet _ w.heap.size 3 (.slice Ab qb cb)) fun k _ hk e => by omega).chg (chgSet _ w.heap.size 4 (.slice iA qi ic)) fun k _ hk e => by omega)
    have hW := ((((((HT.out.set 4 (.slice iA qi ic)).set 0 (.int .u8 0)).set 1 (.int .u8 ty)).set 2 (.int .u32 tb)).set 3 (.slice Ab qb cb)).set 4 (.slice iA qi ic))
    simp only [List.set] at hW
    have hb := (T8.keepSet 4 (.slice iA qi ic) ((T8.keepSet 3 (.slice Ab qb cb) ((T8.keepSet 2 (.int .u32 tb) ((T8.keepSet 1 (.int .u8 ty) ((T8.keepSet 0 (.int .u8 0) ((T8.keepSet 4 (.slice iA qi ic) (HB.out))))))))))))
    generalize ((((((w5.setCell ⟨w.heap.size, 4, none⟩ (.slice iA qi ic)).setCell ⟨w.heap.size, 0, none⟩ (.int .u8 0)).setCell ⟨w.heap.size, 1, none⟩ (.int .u8 ty)).setCell ⟨w.heap.size, 2, none⟩ (.int .u32 tb)).setCell ⟨w.heap.size, 3, none⟩ (.slice Ab qb cb)).setCell ⟨w.heap.size, 4, none⟩ (.slice iA qi ic)) = W at *
    obtain ⟨m0, m1, m2, m3, m4, -, -, -, -, -⟩ := own_cellsV5 hW.2.1
    refine bodyPost_ret (by simp [results, Tryz.results78, go_sem, m0, m1, m2, m3, m4]; try rfl) rfl ?_
    exact ⟨⟨0, ty, tb, ⟨isb, Ab, cb⟩, il, iA, ic⟩, _, (by obtain rfl := HQb.out; obtain rfl := HQI.out; rfl), ⟨⟨show (0 : Int) ≤ 0 by omega, show (0 : Int) ≤ 255 by omega, ty0, ty1, tb0, by show tb < 4294967296; omega⟩, BV.ok.mono hb fun k _ hk => by omega, (by obtain rfl := HQI.out; exact hi.mono fun k _ hk => by omega), by have := HI.out.2; have := HQI.out; show il.length ≤ 64; omega⟩, hW.1, H1.out.then ((H2.out).then ((H3.out).then ((H4.out).then (H5.out.good rfl)))), hW.2.2.2.2⟩
  · have hT2 := (HT.out.set 0 (.int .u8 2))
    simp only [List.set] at hT2
    have HT := Lib.hid hT2
    clear hT2
    go_upto_region 7 with (go_at_call 130; refine (mmode_any 3 _ (by omega) (by omega)).mono ?_; rintro e w9 ⟨rfl, rfl⟩; rw [show modeOf 3 = 2 from rfl])
    generalize (w1.setCell ⟨w.heap.size, 0, none⟩ (.int .u8 2)) = vm at *
    clear k0 k1 k2 k3 k4 f0 f1 f2 f3 f4
    obtain ⟨k0, k1, k2, k3, k4, f0, f1, f2, f3, f4⟩ := own_cellsV5 HT.out.2.1
    have HN := Lib.hid (melt_any g N s1 _ HT.out.1 3 (by omega) (by omega))
    go_wp2_with fail
    refine HN.out.mono ?_
    rintro e w2 ⟨ty, s4, rfl, ty0, ty1, h1, h2, h3⟩
    have hT := HT.out.step h1 h3
    have H4 := Lib.hid h2
    clear h1 h2 h3 HN k0 k1 k2 k3 k4 f0 f1 f2 f3 f4
    obtain ⟨k0, k1, k2, k3, k4, f0, f1, f2, f3, f4⟩ := own_cellsV5 hT.2.1
    have HT := Lib.hid hT
    clear hT
    have hT2 := (HT.out.set 1 (.int .u8 ty))
    simp only [List.set] at hT2
    have HT := Lib.hid hT2
    clear hT2
    go_upto_region 10 with fail
    generalize (w2.setCell ⟨w.heap.size, 1, none⟩ (.int .u8 ty)) = v2 at *
    clear k0 k1 k2 k3 k4 f0 f1 f2 f3 f4
    obtain ⟨k0, k1, k2, k3, k4, f0, f1, f2, f3, f4⟩ := own_cellsV5 HT.out.2.1
    have HN := Lib.hid (lsfun_any g N s4 _ HT.out.1 64 (by omega) (by omega))
    go_wp2_with fail
    refine HN.out.mono ?_
    rintro e w3 ⟨vv, is, s5, rfl, ho, h1, h2, h3, hl⟩
    have hT := HT.out.step h1 h3
    obtain ⟨⟨iA, ic, il⟩, rfl, rfl, hi⟩ := ho.made
    have HI : Hid (RdE KB (fun k => w.heap.size < k) w3 (LV.v ⟨iA, ic, il⟩) il ∧ (il.length : Int) ≤ 64) := ⟨hi.mono fun k _ hk => by have := HT.out.2.1.lt; omega, hl⟩
    have H5 := Lib.hid h2
    clear h1 h2 h3 HN ho hi hl k0 k1 k2 k3 k4 f0 f1 f2 f3 f4
    obtain ⟨k0, k1, k2, k3, k4, f0, f1, f2, f3, f4⟩ := own_cellsV5 hT.2.1
    have HT := Lib.hid hT
    clear hT
    simp only [LV.v] at *
    generalize hqi : il.length = qi at *
    have HQI := Lib.hid hqi
    clear hqi
    go_wp2
    have hi := ((((((HI.out.1.chg (chgSet _ w.heap.size 4 (.slice iA qi ic)) fun k _ hk e => by omega).chg (chgSet _ w.heap.size 0 (.int .u8 2)) fun k _ hk e => by omega).chg (chgSet _ w.heap.size 1 (.int .u8 ty)) fun k _ hk e => by omega).chg (chgSet _ w.heap.size 2 (.int .u32 0)) fun k _ hk e => by omega).chg (chgSet _ w.heap.size 3 (.slice none 0 0)) fun k _ hk e => by omega).chg (chgSet _ w.heap.size 4 (.slice iA qi ic)) fun k _ hk e => by omega)
    have hW := ((((((HT.out.set 4 (.slice iA qi ic)).set 0 (.int .u8 2)).set 1 (.int .u8 ty)).set 2 (.int .u32 0)).set 3 (.slice none 0 0)).set 4 (.slice iA qi ic))
    simp only [List.set] at hW
    generalize ((((((w3.setCell ⟨w.heap.size, 4, none⟩ (.slice iA qi ic)).setCell ⟨w.heap.size, 0, none⟩ (.int .u8 2)).setCell ⟨w.heap.size, 1, none⟩ (.int .u8 ty)).setCell ⟨w.heap.size, 2, none⟩ (.int .u32 0)).setCell ⟨w.heap.size, 3, none⟩ (.slice none 0 0)).setCell ⟨w.heap.size, 4, none⟩ (.slice iA qi ic)) = W at *
    obtain ⟨m0, m1, m2, m3, m4, -, -, -, -, -⟩ := own_cellsV5 hW.2.1
    refine bodyPost_ret (by simp [results, Tryz.results78, go_sem, m0, m1, m2, m3, m4]; try rfl) rfl ?_
    exact ⟨⟨2, ty, 0, bv0, il, iA, ic⟩, _, (by obtain rfl := HQI.out; rfl), ⟨⟨show (0 : Int) ≤ 2 by omega, show (2 : Int) ≤ 255 by omega, ty0, ty1, show (0 : Int) ≤ 0 by omega, show (0 : Int) < 4294967296 by omega⟩, BV.ok0 _ _, (by obtain rfl := HQI.out; exact hi.mono fun k _ hk => by omega), by have := HI.out.2; have := HQI.out; show il.length ≤ 64; omega⟩, hW.1, H1.out.then ((KP.pure (0 : Int) _).then ((KP.pure ([] : List Ins) _).then ((H4.out).then (H5.out.good rfl)))), hW.2.2.2.2⟩
  · have hT2 := (HT.out.set 0 (.int .u8 0))
    simp only [List.set] at hT2
    have HT := Lib.hid hT2
    clear hT2
    go_upto_region 6 with (go_at_call 130; refine (mmode_any 4 _ (by omega) (by omega)).mono ?_; rintro e w9 ⟨rfl, rfl⟩; rw [show modeOf 4 = 0 from rfl])
    generalize (w1.setCell ⟨w.heap.size, 0, none⟩ (.int .u8 0)) = vm at *
    clear k0 k1 k2 k3 k4 f0 f1 f2 f3 f4
    obtain ⟨k0, k1, k2, k3, k4, f0, f1, f2, f3, f4⟩ := own_cellsV5 HT.out.2.1
    have HN := Lib.hid (mexpr_any g N s1 _ HT.out.1)
    go_wp2_with fail
    refine HN.out.mono ?_
    rintro e w2 ⟨bb, s3, rfl, p1, h1, h2, h3⟩
    have hT := HT.out.step h1 h3
    have HB := Lib.hid (HT.out.far p1)
    clear p1
    have H3 := Lib.hid h2
    clear h1 h2 h3 HN k0 k1 k2 k3 k4 f0 f1 f2 f3 f4
    obtain ⟨k0, k1, k2, k3, k4, f0, f1, f2, f3, f4⟩ := own_cellsV5 hT.2.1
    have HT := Lib.hid hT
    clear hT
    obtain ⟨isb, Ab, cb⟩ := bb
    simp only [BV.v] at *
    generalize hqb : isb.length = qb at *
    have HQb := Lib.hid hqb
    clear hqb
    have hT2 := (HT.out.set 3 (.slice Ab qb cb))
    simp only [List.set] at hT2
    have HB := Lib.hid (T8.keepSet 3 (.slice Ab qb cb) HB.out)
    have HT := Lib.hid hT2
    clear hT2
    go_upto_region 7 with fail
    generalize (w2.setCell ⟨w.heap.size, 3, none⟩ (.slice Ab qb cb)) = v2 at *
    clear k0 k1 k2 k3 k4 f0 f1 f2 f3 f4
    obtain ⟨k0, k1, k2, k3, k4, f0, f1, f2, f3, f4⟩ := own_cellsV5 HT.out.2.1
    have HN := Lib.hid (melt_any g N s3 _ HT.out.1 4 (by omega) (by omega))
    go_wp2_with fail
    refine HN.out.mono ?_
    rintro e w3 ⟨ty, s4, rfl, ty0, ty1, h1, h2, h3⟩
    have hT := HT.out.step h1 h3
    have HB := Lib.hid (HT.out.keep HB.out h3)
    have H4 := Lib.hid h2
    clear h1 h2 h3 HN k0 k1 k2 k3 k4 f0 f1 f2 f3 f4
    obtain ⟨k0, k1, k2, k3, k4, f0, f1, f2, f3, f4⟩ := own_cellsV5 hT.2.1
    have HT := Lib.hid hT
    clear hT
    have hT2 := (HT.out.set 1 (.int .u8 ty))
    simp only [List.set] at hT2
    have HB := Lib.hid (T8.keepSet 1 (.int .u8 ty) HB.out)
    have HT := Lib.hid hT2
    clear hT2
    go_upto_region 9 with fail
    generalize (w3.setCell ⟨w.heap.size, 1, none⟩ (.int .u8 ty)) = v3 at *
    clear k0 k1 k2 k3 k4 f0 f1 f2 f3 f4
    obtain ⟨k0, k1, k2, k3, k4, f0, f1, f2, f3, f4⟩ := own_cellsV5 HT.out.2.1
    have HN := Lib.hid (lsbody_any g N s4 _ HT.out.1 64 (by omega) (by omega))
    go_wp2_with fail
    refine HN.out.mono ?_
    rintro e w4 ⟨vv, is, s5, rfl, ho, h1, h2, h3, hl⟩
    have hT := HT.out.step h1 h3
    have HB := Lib.hid (HT.out.keep HB.out h3)
    obtain ⟨⟨iA, ic, il⟩, rfl, rfl, hi⟩ := ho.made
    have HI : Hid (RdE KB (fun k => w.heap.size < k) w4 (LV.v ⟨iA, ic, il⟩) il ∧ (il.length : Int) ≤ 64) := ⟨hi.mono fun k _ hk => by have := HT.out.2.1.lt; omega, hl⟩
    have H5 := Lib.hid h2
    clear h1 h2 h3 HN ho hi hl k0 k1 k2 k3 k4 f0 f1 f2 f3 f4
    obtain ⟨k0, k1, k2, k3, k4, f0, f1, f2, f3, f4⟩ := own_cellsV5 hT.2.1
    have HT := Lib.hid hT
    clear hT
    simp only [LV.v] at *
    generalize hqi : il.length = qi at *
    have HQI := Lib.hid hqi
    clear hqi
    go_wp2
    have hi := ((((((HI.out.1.chg (chgSet _ w.heap.size 4 (.slice iA qi ic)) fun k _ hk e => by omega).chg (chgSet _ w.heap.size 0 (.int .u8 0)) fun k _ hk e => by omega).chg (chgSet _ w.heap.size 1 (.int .u8 ty)) fun k _ hk e => by omega).chg (chgSet _ w.heap.size 2 (.int .u32 0)) fun k _ hk e => by omega).chg (chgSet _ w.heap.size 3 (.slice Ab qb cb)) fun k _ hk e => by omega).chg (chgSet _ w.heap.size 4 (.slice iA qi ic)) fun k _ hk e => by omega)
    have hW := ((((((HT.out.set 4 (.slice iA qi ic)).set 0 (.int .u8 0)).set 1 (.int .u8 ty)).set 2 (.int .u32 0)).set 3 (.slice Ab qb cb)).set 4 (.slice iA qi ic))
    simp only [List.set] at hW
    have hb := (T8.keepSet 4 (.slice iA qi ic) ((T8.keepSet 3 (.slice Ab qb cb) ((T8.keepSet 2 (.int .u32 0) ((T8.keepSet 1 (.int .u8 ty) ((T8.keepSet 0 (.int .u8 0) ((T8.keepSet 4 (.slice iA qi ic) (HB.out))))))))))))
    generalize ((((((w4.setCell ⟨w.heap.size, 4, none⟩ (.slice iA qi ic)).setCell ⟨w.heap.size, 0, none⟩ (.int .u8 0)).setCell ⟨w.heap.size, 1, none⟩ (.int .u8 ty)).setCell ⟨w.heap.size, 2, none⟩ (.int .u32 0)).setCell ⟨w.heap.size, 3, none⟩ (.slice Ab qb cb)).setCell ⟨w.heap.size, 4, none⟩ (.slice iA qi ic)) = W at *
    obtain ⟨m0, m1, m2, m3, m4, -, -, -, -, -⟩ := own_cellsV5 hW.2.1
    refine bodyPost_ret (by simp [results, Tryz.results78, go_sem, m0, m1, m2, m3, m4]; try rfl) rfl ?_
    exact ⟨⟨0, ty, 0, ⟨isb, Ab, cb⟩, il, iA, ic⟩, _, (by obtain rfl := HQb.out; obtain rfl := HQI.out; rfl), ⟨⟨show (0 : Int) ≤ 0 by omega, show (0 : Int) ≤ 255 by omega, ty0, ty1, show (0 : Int) ≤ 0 by omega, show (0 : Int) < 4294967296 by omega⟩, BV.ok.mono hb fun k _ hk => by omega, (by obtain rfl := HQI.out; exact hi.mono fun k _ hk => by omega), by have := HI.out.2; have := HQI.out; show il.length ≤ 64; omega⟩, hW.1, H1.out.then ((KP.pure (0 : Int) _).then ((H3.out).then ((H4.out).then (H5.out.good rfl)))), hW.2.2.2.2⟩
  · have hT2 := (HT.out.set 0 (.int .u8 1))
    simp only [List.set] at hT2
    have HT := Lib.hid hT2
    clear hT2
    go_upto_region 7 with (go_at_call 130; refine (mmode_any 5 _ (by omega) (by omega)).mono ?_; rintro e w9 ⟨rfl, rfl⟩; rw [show modeOf 5 = 1 from rfl])
    generalize (w1.setCell ⟨w.heap.size, 0, none⟩ (.int .u8 1)) = vm at *
    clear k0 k1 k2 k3 k4 f0 f1 f2 f3 f4
    obtain ⟨k0, k1, k2, k3, k4, f0, f1, f2, f3, f4⟩ := own_cellsV5 HT.out.2.1
    have HN := Lib.hid (melt_any g N s1 _ HT.out.1 5 (by omega) (by omega))
    go_wp2_with fail
    refine HN.out.mono ?_
    rintro e w2 ⟨ty, s4, rfl, ty0, ty1, h1, h2, h3⟩
    have hT := HT.out.step h1 h3
    have H4 := Lib.hid h2
    clear h1 h2 h3 HN k0 k1 k2 k3 k4 f0 f1 f2 f3 f4
    obtain ⟨k0, k1, k2, k3, k4, f0, f1, f2, f3, f4⟩ := own_cellsV5 hT.2.1
    have HT := Lib.hid hT
    clear hT
    have hT2 := (HT.out.set 1 (.int .u8 ty))
    simp only [List.set] at hT2
    have HT := Lib.hid hT2
    clear hT2
    go_upto_region 9 with fail
    generalize (w2.setCell ⟨w.heap.size, 1, none⟩ (.int .u8 ty)) = v2 at *
    clear k0 k1 k2 k3 k4 f0 f1 f2 f3 f4
    obtain ⟨k0, k1, k2, k3, k4, f0, f1, f2, f3, f4⟩ := own_cellsV5 HT.out.2.1
    have HN := Lib.hid (lsbody_any g N s4 _ HT.out.1 64 (by omega) (by omega))
    go_wp2_with fail
    refine HN.out.mono ?_
    rintro e w3 ⟨vv, is, s5, rfl, ho, h1, h2, h3, hl⟩
    have hT := HT.out.step h1 h3
    obtain ⟨⟨iA, ic, il⟩, rfl, rfl, hi⟩ := ho.made
    have HI : Hid (RdE KB (fun k => w.heap.size < k) w3 (LV.v ⟨iA, ic, il⟩) il ∧ (il.length : Int) ≤ 64) := ⟨hi.mono fun k _ hk => by have := HT.out.2.1.lt; omega, hl⟩
    have H5 := Lib.hid h2
    clear h1 h2 h3 HN ho hi hl k0 k1 k2 k3 k4 f0 f1 f2 f3 f4
    obtain ⟨k0, k1, k2, k3, k4, f0, f1, f2, f3, f4⟩ := own_cellsV5 hT.2.1
    have HT := Lib.hid hT
    clear hT
    simp only [LV.v] at *
    generalize hqi : il.length = qi at *
    have HQI := Lib.hid hqi
    clear hqi
    go_wp2
    have hi := ((((((HI.out.1.chg (chgSet _ w.heap.size 4 (.slice iA qi ic)) fun k _ hk e => by omega).chg (chgSet _ w.heap.size 0 (.int .u8 1)) fun k _ hk e => by omega).chg (chgSet _ w.heap.size 1 (.int .u8 ty)) fun k _ hk e => by omega).chg (chgSet _ w.heap.size 2 (.int .u32 0)) fun k _ hk e => by omega).chg (chgSet _ w.heap.size 3 (.slice none 0 0)) fun k _ hk e => by omega).chg (chgSet _ w.heap.size 4 (.slice iA qi ic)) fun k _ hk e => by omega)
    have hW := ((((((HT.out.set 4 (.slice iA qi ic)).set 0 (.int .u8 1)).set 1 (.int .u8 ty)).set 2 (.int .u32 0)).set 3 (.slice none 0 0)).set 4 (.slice iA qi ic))
    simp only [List.set] at hW
    generalize ((((((w3.setCell ⟨w.heap.size, 4, none⟩ (.slice iA qi ic)).setCell ⟨w.heap.size, 0, none⟩ (.int .u8 1)).setCell ⟨w.heap.size, 1, none⟩ (.int .u8 ty)).setCell ⟨w.heap.size, 2, none⟩ (.int .u32 0)).setCell ⟨w.heap.size, 3, none⟩ (.slice none 0 0)).setCell ⟨w.heap.size, 4, none⟩ (.slice iA qi ic)) = W at *
    obtain ⟨m0, m1, m2, m3, m4, -, -, -, -, -⟩ := own_cellsV5 hW.2.1
    refine bodyPost_ret (by simp [results, Tryz.results78, go_sem, m0, m1, m2, m3, m4]; try rfl) rfl ?_
    exact ⟨⟨1, ty, 0, bv0, il, iA, ic⟩, _, (by obtain rfl := HQI.out; rfl), ⟨⟨show (0 : Int) ≤ 1 by omega, show (1 : Int) ≤ 255 by omega, ty0, ty1, show (0 : Int) ≤ 0 by omega, show (0 : Int) < 4294967296 by omega⟩, BV.ok0 _ _, (by obtain rfl := HQI.out; exact hi.mono fun k _ hk => by omega), by have := HI.out.2; have := HQI.out; show il.length ≤ 64; omega⟩, hW.1, H1.out.then ((KP.pure (0 : Int) _).then ((KP.pure ([] : List Ins) _).then ((H4.out).then (H5.out.good rfl)))), hW.2.2.2.2⟩
  · have hT2 := (HT.out.set 0 (.int .u8 0))
    simp only [List.set] at hT2
    have HT := Lib.hid hT2
    clear hT2
    go_upto_region 5 with (go_at_call 130; refine (mmode_any 6 _ (by omega) (by omega)).mono ?_; rintro e w9 ⟨rfl, rfl⟩; rw [show modeOf 6 = 0 from rfl])
    generalize (w1.setCell ⟨w.heap.size, 0, none⟩ (.int .u8 0)) = vm at *
    clear k0 k1 k2 k3 k4 f0 f1 f2 f3 f4
    obtain ⟨k0, k1, k2, k3, k4, f0, f1, f2, f3, f4⟩ := own_cellsV5 HT.out.2.1
    have HN := Lib.hid (mU32 g N s1 _ HT.out.1)
    go_wp2_with fail
    refine HN.out.mono ?_
    rintro e w2 ⟨tb, s2, rfl, tb0, tb1, h1, h2, h3⟩
    have hT := HT.out.step h1 h3
    have H2 := Lib.hid h2
    clear h1 h2 h3 HN k0 k1 k2 k3 k4 f0 f1 f2 f3 f4
    obtain ⟨k0, k1, k2, k3, k4, f0, f1, f2, f3, f4⟩ := own_cellsV5 hT.2.1
    have HT := Lib.hid hT
    clear hT
    have hT2 := (HT.out.set 2 (.int .u32 tb))
    simp only [List.set] at hT2
    have HT := Lib.hid hT2
    clear hT2
    go_upto_region 6 with fail
    generalize (w2.setCell ⟨w.heap.size, 2, none⟩ (.int .u32 tb)) = v2 at *
    clear k0 k1 k2 k3 k4 f0 f1 f2 f3 f4
    obtain ⟨k0, k1, k2, k3, k4, f0, f1, f2, f3, f4⟩ := own_cellsV5 HT.out.2.1
    have HN := Lib.hid (mexpr_any g N s2 _ HT.out.1)
    go_wp2_with fail
    refine HN.out.mono ?_
    rintro e w3 ⟨bb, s3, rfl, p1, h1, h2, h3⟩
    have hT := HT.out.step h1 h3
    have HB := Lib.hid (HT.out.far p1)
    clear p1
    have H3 := Lib.hid h2
    clear h1 h2 h3 HN k0 k1 k2 k3 k4 f0 f1 f2 f3 f4
    obtain ⟨k0, k1, k2, k3, k4, f0, f1, f2, f3, f4⟩ := own_cellsV5 hT.2.1
    have HT := Lib.hid hT
    clear hT
    obtain ⟨isb, Ab, cb⟩ := bb
    simp only [BV.v] at *
    generalize hqb : isb.length = qb at *
    have HQb := Lib.hid hqb
    clear hqb
    have hT2 := (HT.out.set 3 (.slice Ab qb cb))
    simp only [List.set] at hT2
    have HB := Lib.hid (T8.keepSet 3 (.slice Ab qb cb) HB.out)
    have HT := Lib.hid hT2
    clear hT2
    go_upto_region 7 with fail
    generalize (w3.setCell ⟨w.heap.size, 3, none⟩ (.slice Ab qb cb)) = v3 at *
    clear k0 k1 k2 k3 k4 f0 f1 f2 f3 f4
    obtain ⟨k0, k1, k2, k3, k4, f0, f1, f2, f3, f4⟩ := own_cellsV5 HT.out.2.1
    have HN := Lib.hid (melt_any g N s3 _ HT.out.1 6 (by omega) (by omega))
    go_wp2_with fail
    refine HN.out.mono ?_
    rintro e w4 ⟨ty, s4, rfl, ty0, ty1, h1, h2, h3⟩
    have hT := HT.out.step h1 h3
    have HB := Lib.hid (HT.out.keep HB.out h3)
    have H4 := Lib.hid h2
    clear h1 h2 h3 HN k0 k1 k2 k3 k4 f0 f1 f2 f3 f4
    obtain ⟨k0, k1, k2, k3, k4, f0, f1, f2, f3, f4⟩ := own_cellsV5 hT.2.1
    have HT := Lib.hid hT
    clear hT
    have hT2 := (HT.out.set 1 (.int .u8 ty))
    simp only [List.set] at hT2
    have HB := Lib.hid (T8.keepSet 1 (.int .u8 ty) HB.out)
    have HT := Lib.hid hT2
    clear hT2
    go_upto_region 9 with fail
    generalize (w4.setCell ⟨w.heap.size, 1, none⟩ (.int .u8 ty)) = v4 at *
    clear k0 k1 k2 k3 k4 f0 f1 f2 f3 f4
    obtain ⟨k0, k1, k2, k3, k4, f0, f1, f2, f3, f4⟩ := own_cellsV5 HT.out.2.1
    have HN := Lib.hid (lsbody_any g N s4 _ HT.out.1 64 (by omega) (by omega))
    go_wp2_with fail
    refine HN.out.mono ?_
    rintro e w5 ⟨vv, is, s5, rfl, ho, h1, h2, h3, hl⟩
    have hT := HT.out.step h1 h3
    have HB := Lib.hid (HT.out.keep HB.out h3)
    obtain ⟨⟨iA, ic, il⟩, rfl, rfl, hi⟩ := ho.made
    have HI : Hid (RdE KB (fun k => w.heap.size < k) w5 (LV.v ⟨iA, ic, il⟩) il ∧ (il.length : Int) ≤ 64) := ⟨hi.mono fun k _ hk => by have := HT.out.2.1.lt; omega, hl⟩
    have H5 := Lib.hid h2
    clear h1 h2 h3 HN ho hi hl k0 k1 k2 k3 k4 f0 f1 f2 f3 f4
    obtain ⟨k0, k1, k2, k3, k4, f0, f1, f2, f3, f4⟩ := own_cellsV5 hT.2.1
    have HT := Lib.hid hT
    clear hT
    simp only [LV.v] at *
    generalize hqi : il.length = qi at *
    have HQI := Lib.hid hqi
    clear hqi
    go_wp2
    have hi := ((((((HI.out.1.chg (chgSet _ w.heap.size 4 (.slice iA qi ic)) fun k _ hk e => by omega).chg (chgSet _ w.heap.size 0 (.int .u8 0)) fun k _ hk e => by omega).chg (chgSet _ w.heap.size 1 (.int .u8 ty)) fun k _ hk e => by omega).chg (chgSet _ w.heap.size 2 (.int .u32 tb)) fun k _ hk e => by omega).chg (chgSet _ w.heap.size 3 (.slice Ab qb cb)) fun k _ hk e => by omega).chg (chgSet _ w.heap.size 4 (.slice iA qi ic)) fun k _ hk e => by omega)
    have hW := ((((((HT.out.set 4 (.slice iA qi ic)).set 0 (.int .u8 0)).set 1 (.int .u8 ty)).set 2 (.int .u32 tb)).set 3 (.slice Ab qb cb)).set 4 (.slice iA qi ic))
    simp only [List.set] at hW
    have hb := (T8.keepSet 4 (.slice iA qi ic) ((T8.keepSet 3 (.slice Ab qb cb) ((T8.keepSet 2 (.int .u32 tb) ((T8.keepSet 1 (.int .u8 ty) ((T8.keepSet 0 (.int .u8 0) ((T8.keepSet 4 (.slice iA qi ic) (HB.out))))))))))))
    generalize ((((((w5.setCell ⟨w.heap.size, 4, none⟩ (.slice iA qi ic)).setCell ⟨w.heap.size, 0, none⟩ (.int .u8 0)).setCell ⟨w.heap.size, 1, none⟩ (.int .u8 ty)).setCell ⟨w.heap.size, 2, none⟩ (.int .u32 tb)).setCell ⟨w.heap.size, 3, none⟩ (.slice Ab qb cb)).setCell ⟨w.heap.size, 4, none⟩ (.slice iA qi ic)) = W at *
    obtain ⟨m0, m1, m2, m3, m4, -, -, -, -, -⟩ := own_cellsV5 hW.2.1
    refine bodyPost_ret (by simp [results, Tryz.results78, go_sem, m0, m1, m2, m3, m4]; try rfl) rfl ?_
    exact ⟨⟨0, ty, tb, ⟨isb, Ab, cb⟩, il, iA, ic⟩, _, (by obtain rfl := HQb.out; obtain rfl := HQI.out; rfl), ⟨⟨show (0 : Int) ≤ 0 by omega, show (0 : Int) ≤ 255 by omega, ty0, ty1, tb0, by show tb < 4294967296; omega⟩, BV.ok.mono hb fun k _ hk => by omega, (by obtain rfl := HQI.out; exact hi.mono fun k _ hk => by omega), by have := HI.out.2; have := HQI.out; show il.length ≤ 64; omega⟩, hW.1, H1.out.then ((H2.out).then ((H3.out).then ((H4.out).then (H5.out.good rfl)))), hW.2.2.2.2⟩
  · have hT2 := (HT.out.set 0 (.int .u8 2))
    simp only [List.set] at hT2
    have HT := Lib.hid hT2
    clear hT2
    go_upto_region 7 with (go_at_call 130; refine (mmode_any 7 _ (by omega) (by omega)).mono ?_; rintro e w9 ⟨rfl, rfl⟩; rw [show modeOf 7 = 2 from rfl])
    generalize (w1.setCell ⟨w.heap.size, 0, none⟩ (.int .u8 2)) = vm at *
    clear k0 k1 k2 k3 k4 f0 f1 f2 f3 f4
    obtain ⟨k0, k1, k2, k3, k4, f0, f1, f2, f3, f4⟩ := own_cellsV5 HT.out.2.1
    have HN := Lib.hid (melt_any g N s1 _ HT.out.1 7 (by omega) (by omega))
    go_wp2_with fail
    refine HN.out.mono ?_
    rintro e w2 ⟨ty, s4, rfl, ty0, ty1, h1, h2, h3⟩
    have hT := HT.out.step h1 h3
    have H4 := Lib.hid h2
    clear h1 h2 h3 HN k0 k1 k2 k3 k4 f0 f1 f2 f3 f4
    obtain ⟨k0, k1, k2, k3, k4, f0, f1, f2, f3, f4⟩ := own_cellsV5 hT.2.1
    have HT := Lib.hid hT
    clear hT
    have hT2 := (HT.out.set 1 (.int .u8 ty))
    simp only [List.set] at hT2
    have HT := Lib.hid hT2
    clear hT2
    go_upto_region 9 with fail
    generalize (w2.setCell ⟨w.heap.size, 1, none⟩ (.int .u8 ty)) = v2 at *
    clear k0 k1 k2 k3 k4 f0 f1 f2 f3 f4
    obtain ⟨k0, k1, k2, k3, k4, f0, f1, f2, f3, f4⟩ := own_cellsV5 HT.out.2.1
    have HN := Lib.hid (lsbody_any g N s4 _ HT.out.1 64 (by omega) (by omega))
    go_wp2_with fail
    refine HN.out.mono ?_
    rintro e w3 ⟨vv, is, s5, rfl, ho, h1, h2, h3, hl⟩
    have hT := HT.out.step h1 h3
    obtain ⟨⟨iA, ic, il⟩, rfl, rfl, hi⟩ := ho.made
    have HI : Hid (RdE KB (fun k => w.heap.size < k) w3 (LV.v ⟨iA, ic, il⟩) il ∧ (il.length : Int) ≤ 64) := ⟨hi.mono fun k _ hk => by have := HT.out.2.1.lt; omega, hl⟩
    have H5 := Lib.hid h2
    clear h1 h2 h3 HN ho hi hl k0 k1 k2 k3 k4 f0 f1 f2 f3 f4
    obtain ⟨k0, k1, k2, k3, k4, f0, f1, f2, f3, f4⟩ := own_cellsV5 hT.2.1
    have HT := Lib.hid hT
    clear hT
    simp only [LV.v] at *
    generalize hqi : il.length = qi at *
    have HQI := Lib.hid hqi
    clear hqi
    go_wp2
    have hi := ((((((HI.out.1.chg (chgSet _ w.heap.size 4 (.slice iA qi ic)) fun k _ hk e => by omega).chg (chgSet _ w.heap.size 0 (.int .u8 2)) fun k _ hk e => by omega).chg (chgSet _ w.heap.size 1 (.int .u8 ty)) fun k _ hk e => by omega).chg (chgSet _ w.heap.size 2 (.int .u32 0)) fun k _ hk e => by omega).chg (chgSet _ w.heap.size 3 (.slice none 0 0)) fun k _ hk e => by omega).chg (chgSet _ w.heap.size 4 (.slice iA qi ic)) fun k _ hk e => by omega)
    have hW := ((((((HT.out.set 4 (.slice iA qi ic)).set 0 (.int .u8 2)).set 1 (.int .u8 ty)).set 2 (.int .u32 0)).set 3 (.slice none 0 0)).set 4 (.slice iA qi ic))
    simp only [List.set] at hW
    generalize ((((((w3.setCell ⟨w.heap.size, 4, none⟩ (.slice iA qi ic)).setCell ⟨w.heap.size, 0, none⟩ (.int .u8 2)).setCell ⟨w.heap.size, 1, none⟩ (.int .u8 ty)).setCell ⟨w.heap.size, 2, none⟩ (.int .u32 0)).setCell ⟨w.heap.size, 3, none⟩ (.slice none 0 0)).setCell ⟨w.heap.size, 4, none⟩ (.slice iA qi ic)) = W at *
    obtain ⟨m0, m1, m2, m3, m4, -, -, -, -, -⟩ := own_cellsV5 hW.2.1
    refine bodyPost_ret (by simp [results, Tryz.results78, go_sem, m0, m1, m2, m3, m4]; try rfl) rfl ?_
    exact ⟨⟨2, ty, 0, bv0, il, iA, ic⟩, _, (by obtain rfl := HQI.out; rfl), ⟨⟨show (0 : Int) ≤ 2 by omega, show (2 : Int) ≤ 255 by omega, ty0, ty1, show (0 : Int) ≤ 0 by omega, show (0 : Int) < 4294967296 by omega⟩, BV.ok0 _ _, (by obtain rfl := HQI.out; exact hi.mono fun k _ hk => by omega), by have := HI.out.2; have := HQI.out; show il.length ≤ 64; omega⟩, hW.1, H1.out.then ((KP.pure (0 : Int) _).then ((KP.pure ([] : List Ins) _).then ((H4.out).then (H5.out.good rfl)))), hW.2.2.2.2⟩
end
theorem under_lselem : Tryz.prog.underlying 32 = some (.slice 104) := Tryz.underlying32
theorem info_lselem : (Tryz.prog.info? 104).map (fun i => (i.zero, i.size, i.bytes)) = some (some (.agg #[.int .u8 0, .int .u8 0, .int .u32 0, .slice none 0 0, .slice none 0 0]), (KElm).n, 56) := by kernel_rfl
set_option maxHeartbeats 2000000 in
theorem lselem_any (g N : Nat) (s : St) (w : World) (h : RdrAt w g SRC (N, []) s) (most : Int) (m0 : 0 ≤ most) (m1 : most ≤ 1000) :
    Calls Tryz.prog 77 #[.pointer (some ⟨g, 0, none⟩), .int .u32 most, .func (.func 78) #[.pointer (some ⟨g, 0, none⟩)] #[]] w (LsPost KElm 104 EV.x (pLs most pElem) most g N s w) := by
  have HC := Lib.hid (mCount g N s w h most m0 (by omega))
  have hgw := h.lt
  clear h
  go_enter Tryz.func77, Tryz.ntmps77
  go_wp2_with fail
  refine HC.out.mono ?_
  rintro e w1 ⟨x, s1, rfl, x0, x1, h1, h2, h3⟩
  obtain ⟨n, rfl⟩ : ∃ n : Nat, x = n := ⟨x.toNat, by omega⟩
  have H1 := Lib.hid (And.intro h1 (And.intro h2 h3))
  clear h1 h2 h3 HC
  go_wp2
  go_loopw [6, 12] (fun v i wr => ∃ (is : List _) (k : Nat) (sk : St), k ≤ n ∧ i = .int .i64 k ∧ Hid (is.length = k) ∧ Hid (RdrAt wr g SRC (N, []) sk ∧ OwnE KElm 104 (fun j => w.heap.size ≤ j ∧ v.ownBlock ≠ some j) wr w.heap.size v is ∧ KP (pRep pElem k) s1 (is.map EV.x) sk ∧ Chg (fun j => j = g) w wr)) (fun _ i _ => n - (intOf i).toNat)
  case atStart => exact ⟨[], 0, s1, by omega, rfl, rfl, H1.out.1, OwnE.nil _ _ _ _ _, pRep_zero _ _, H1.out.2.2⟩
  case round =>
    obtain ⟨is, k, sk, hk, rfl, HK, HX⟩ := hrel
    obtain ⟨Av, kv, hv, hkv, hkm, -⟩ := RdV.of_own HX.out.2.1.1
    subst hv
    have hz := HX.out.2.2.2.size
    clear hkv hkm
    generalize hq : is.length = q at *
    have HQ := Lib.hid hq
    clear hq
    by_cases hlt : k < n
    · have hlt2 : (k : Int) < n := by omega
      have hw1 : IntKind.i64.wrap ((k : Int) + 1) = (k : Int) + 1 := by rw [IntKind.wrap_i64]; omega
      have HN := Lib.hid (melem_any g N sk wr HX.out.1)
      go_wp2_with fail
      refine HN.out.mono ?_
      rintro e w3 ⟨a, s', rfl, p1, p2, p3, p4⟩
      have hz3 := p4.size
      have H3 : Hid (OwnE KElm 104 (fun j => w.heap.size ≤ j ∧ (Value.slice Av q kv).ownBlock ≠ some j) w3 w.heap.size (.slice Av q kv) is ∧ (KElm).ok (fun j => w.heap.size ≤ j ∧ (Value.slice Av q kv).ownBlock ≠ some j) w3 a) := by
        refine ⟨HX.out.2.1.chg p4 (fun j _ hj e => by have := hj.1; omega) fun j hj e => by have := owns_ge HX.out.2.1.1 hj; omega, (KElm).mono p1 fun j _ hj => ⟨by omega, fun e => by have := owns_lt HX.out.2.1.1 e; omega⟩⟩
      have H4 := Lib.hid (And.intro p2 (And.intro p3 p4))
      clear p1 p2 p3 p4 HN
      obtain ⟨md, ty, tb, ⟨isb, Ab, cb⟩, il, iA, ic⟩ := a
      simp only [EV.v, BV.v, EV.iv] at *
      generalize hqy : il.length = qy at *
      have HQY := Lib.hid hqy
      clear hqy
      generalize hqb : isb.length = qb at *
      have HQB := Lib.hid hqb
      clear hqb
      go_wp2_with (at_builtin; refine wpList_appE1 (K := KElm) under_lselem info_lselem rfl (by omega) rfl (.tmp 14) (.tmp 17) rfl w.heap.size (.slice Av q kv) is rfl H3.out.1 ⟨md, ty, tb, ⟨isb, Ab, cb⟩, il, iA, ic⟩ #[.int .u8 md, .int .u8 ty, .int .u32 tb, .slice Ab qb cb, .slice iA qy ic] (by obtain rfl := HQB.out; obtain rfl := HQY.out; rfl) H3.out.2 rfl (by have := HQ.out; have := HK.out; omega) (by omega) ?_; intro v1 w4 hv1 hw1'; have HV := Lib.hid (And.intro hv1 hw1'); clear hv1 hw1')
      refine ⟨⟨is ++ [⟨md, ty, tb, ⟨isb, Ab, cb⟩, il, iA, ic⟩], k + 1, s', by omega, rfl, ?_, ?_⟩, ?_⟩
      · have := HK.out; have := HQ.out; show (is ++ [_]).length = k + 1; rw [List.length_append, List.length_singleton]; omega
      · have y1 := HV.out.1
        have y2 := HV.out.2
        refine ⟨H4.out.1.chg y2.1 fun j hj e => by have := owns_ge H3.out.1.1 e; omega, y1.mono (fun j _ hj => ⟨hj.1.1, fun e => y1.2.2 j e hj⟩) (fun j hj e => e.2 hj), ?_, (HX.out.2.2.2.trans H4.out.2.2 fun j _ e => e).trans y2.1 fun j hj e => by have := owns_ge H3.out.1.1 e; omega⟩
        rw [List.map_append]
        exact pRep_step HX.out.2.2.1 H4.out.2.1
      · simp [intOf]; omega
    · obtain rfl : k = n := by omega
      have hnl : ¬ (k : Int) < k := by omega
      go_wp2
      go_ret
      refine ⟨_, is, sk, rfl, HX.out.2.1, HX.out.1, ?_, HX.out.2.2.2, by have := HK.out; have := HQ.out; omega⟩
      exact H1.out.2.1.then (by rw [Int.toNat_natCast]; exact HX.out.2.2.1)
end Go.Proofs.YtadgiekiiicmfaaGreatDoor

/- Rows that are made of one value. -/
namespace Go.Proofs.YtadgiekiiicmfaaGreatDoor
open Go.RowKit
set_option maxRecDepth 100000
set_option linter.unusedVariables false

theorem made_one (v : Value) (n : Nat) : madeCells #[v] n = Array.replicate n v := by
  apply Array.ext
  · simp [madeCells]
  · intro i h1 h2
    simp [madeCells, Nat.mod_one]

end Go.Proofs.YtadgiekiiicmfaaGreatDoor
