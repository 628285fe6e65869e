/- Texts joined: ModSame, SectApp, Begun8, ConvB, LawMForms. -/
import Derived.Test.YtadgiekiiicmfaaGreatDoorJoin19
import Derived.Test.YtadgiekiiicmfaaGreatDoorJoin4
import Derived.Lib.SlBytesConst
import Derived.Test.YtadgiekiiicmfaaGreatDoorJoin2
import Derived.Lib.ConvBytes
/- mod.Same, where begun asks it. (Written by gen_ModSame.py.) -/
namespace Go.Proofs.YtadgiekiiicmfaaGreatDoor
open Go.RowKit
set_option maxRecDepth 100000
set_option linter.unusedVariables false

theorem eqz0_any (A B : Option Addr) (c d : Nat) (w : World) : Calls Tryz.prog 47 #[.slice A 0 c, .slice B 0 d] w fun e w' => e = .returned (.bool true) ∧ w = w' := by
  go_enter Tryz.func47, Tryz.ntmps47
  go_wp2
  go_loopw [13] (fun i wr => i = .int .i64 0 ∧ wr = w) (fun _ _ => 0)
  case atStart => exact ⟨rfl, rfl⟩
  case round =>
    obtain ⟨rfl, rfl⟩ := hrel
    go_wp2
    go_ret
    exact ⟨rfl, rfl⟩
theorem eqz1_any (A B : Option Addr) (c d : Nat) (w : World) : Calls Tryz.prog 48 #[.slice A 0 c, .slice B 0 d] w fun e w' => e = .returned (.bool true) ∧ w = w' := by
  go_enter Tryz.func48, Tryz.ntmps48
  go_wp2
  go_loopw [13] (fun i wr => i = .int .i64 0 ∧ wr = w) (fun _ _ => 0)
  case atStart => exact ⟨rfl, rfl⟩
  case round =>
    obtain ⟨rfl, rfl⟩ := hrel
    go_wp2
    go_ret
    exact ⟨rfl, rfl⟩
theorem eqz2_any (A B : Option Addr) (c d : Nat) (w : World) : Calls Tryz.prog 49 #[.slice A 0 c, .slice B 0 d] w fun e w' => e = .returned (.bool true) ∧ w = w' := by
  go_enter Tryz.func49, Tryz.ntmps49
  go_wp2
  go_loopw [13] (fun i wr => i = .int .i64 0 ∧ wr = w) (fun _ _ => 0)
  case atStart => exact ⟨rfl, rfl⟩
  case round =>
    obtain ⟨rfl, rfl⟩ := hrel
    go_wp2
    go_ret
    exact ⟨rfl, rfl⟩
theorem eqz3_any (A B : Option Addr) (c d : Nat) (w : World) : Calls Tryz.prog 52 #[.slice A 0 c, .slice B 0 d] w fun e w' => e = .returned (.bool true) ∧ w = w' := by
  go_enter Tryz.func52, Tryz.ntmps52
  go_wp2
  go_loopw [13] (fun i wr => i = .int .i64 0 ∧ wr = w) (fun _ _ => 0)
  case atStart => exact ⟨rfl, rfl⟩
  case round =>
    obtain ⟨rfl, rfl⟩ := hrel
    go_wp2
    go_ret
    exact ⟨rfl, rfl⟩
theorem eqfGlobal_any (A B : Option Addr) (c d : Nat) (fv : Value) (w : World) : Calls Tryz.prog 50 #[.slice A 0 c, .slice B 0 d, fv] w fun e w' => e = .returned (.bool true) ∧ w = w' := by
  go_enter Tryz.func50, Tryz.ntmps50
  go_wp2
  go_loopw [7, 17] (fun _ i wr => i = .int .i64 0 ∧ wr = w) (fun _ _ _ => 0)
  case atStart => exact ⟨rfl, rfl⟩
  case round =>
    obtain ⟨rfl, rfl⟩ := hrel
    go_wp2
    go_ret
    exact ⟨rfl, rfl⟩
theorem eqfElem_any (A B : Option Addr) (c d : Nat) (fv : Value) (w : World) : Calls Tryz.prog 53 #[.slice A 0 c, .slice B 0 d, fv] w fun e w' => e = .returned (.bool true) ∧ w = w' := by
  go_enter Tryz.func53, Tryz.ntmps53
  go_wp2
  go_loopw [7, 17] (fun _ i wr => i = .int .i64 0 ∧ wr = w) (fun _ _ _ => 0)
  case atStart => exact ⟨rfl, rfl⟩
  case round =>
    obtain ⟨rfl, rfl⟩ := hrel
    go_wp2
    go_ret
    exact ⟨rfl, rfl⟩
theorem eqfCode_any (A B : Option Addr) (c d : Nat) (fv : Value) (w : World) : Calls Tryz.prog 55 #[.slice A 0 c, .slice B 0 d, fv] w fun e w' => e = .returned (.bool true) ∧ w = w' := by
  go_enter Tryz.func55, Tryz.ntmps55
  go_wp2
  go_loopw [7, 17] (fun _ i wr => i = .int .i64 0 ∧ wr = w) (fun _ _ _ => 0)
  case atStart => exact ⟨rfl, rfl⟩
  case round =>
    obtain ⟨rfl, rfl⟩ := hrel
    go_wp2
    go_ret
    exact ⟨rfl, rfl⟩
theorem eqfData_any (A B : Option Addr) (c d : Nat) (fv : Value) (w : World) : Calls Tryz.prog 57 #[.slice A 0 c, .slice B 0 d, fv] w fun e w' => e = .returned (.bool true) ∧ w = w' := by
  go_enter Tryz.func57, Tryz.ntmps57
  go_wp2
  go_loopw [7, 17] (fun _ i wr => i = .int .i64 0 ∧ wr = w) (fun _ _ _ => 0)
  case atStart => exact ⟨rfl, rfl⟩
  case round =>
    obtain ⟨rfl, rfl⟩ := hrel
    go_wp2
    go_ret
    exact ⟨rfl, rfl⟩
theorem eqFnNe_any (A B : Option Addr) (n m c d : Nat) (fv : Value) (w : World) (h : n ≠ m) : Calls Tryz.prog 45 #[.slice A n c, .slice B m d, fv] w fun e w' => e = .returned (.bool false) ∧ w = w' := by
  have h1 : ((n : Int) != (m : Int)) = true := by simp; omega
  go_enter Tryz.func45, Tryz.ntmps45
  go_wp2
  go_ret
  exact ⟨rfl, rfl⟩
theorem FV.fnV {X : Nat → Prop} {w : World} {f : FV} (h : KFn.ok X w f) : FnV X w f.v f.x := ⟨f.pA, f.pc, f.rA, f.rc, rfl, h.1, h.2.1, h.2.2.1, h.2.2.2.1, h.2.2.2.2.1, h.2.2.2.2.2⟩
set_option maxHeartbeats 2000000 in
theorem eqFn_any {X Y : Nat → Prop} (A B : Option Addr) (n c d : Nat) (is js : List FV) (w : World) (hA : RdE KFn X w (.slice A n c) is) (hB : RdE KFn Y w (.slice B n d) js) (hn : n = is.length) (he : is.map FV.x = js.map FV.x) (hl : n ≤ 1000000) :
    Calls Tryz.prog 45 #[.slice A n c, .slice B n d, .func (.func 46) #[] #[]] w fun e w' => e = .returned (.bool true) ∧ Below w.heap.size w w' := by
  have HA := Lib.hid hA
  have HB := Lib.hid hB
  have HN := Lib.hid (And.intro hn he)
  have hij : is.length = js.length := by have := congrArg List.length he; simpa using this
  have HJN := Lib.hid (show n = js.length by omega)
  clear hA hB he hij hn
  go_enter Tryz.func45, Tryz.ntmps45
  go_wp2
  go_loopw [7, 8, 9, 17] (fun _ _ _ i wr => ∃ k : Nat, k ≤ n ∧ i = .int .i64 k ∧ Hid (Below w.heap.size w wr)) (fun _ _ _ i _ => n - (intOf i).toNat)
  case atStart => exact ⟨0, by omega, rfl, Below.refl _ _⟩
  case round =>
    obtain ⟨k, hk, rfl, HX⟩ := hrel
    by_cases hlt : k < n
    · have hlt2 : (k : Int) < n := by omega
      have hw1 : IntKind.i64.wrap ((k : Int) + 1) = (k : Int) + 1 := by rw [IntKind.wrap_i64]; omega
      obtain ⟨i, hi⟩ : ∃ i, is[k]? = some i := ⟨_, List.getElem?_eq_getElem (by have := HN.out.1; omega)⟩
      obtain ⟨j, hj⟩ : ∃ j, js[k]? = some j := ⟨_, List.getElem?_eq_getElem (by have := HJN.out; omega)⟩
      obtain ⟨b1, o1, rfl, -, hb1, hok1, hc1⟩ := (HA.out.later HX.out).at_ hi
      obtain ⟨b2, o2, rfl, -, hb2, hok2, hc2⟩ := (HB.out.later HX.out).at_ hj
      have hx : i.x = j.x := by
        have h1 : (is.map FV.x)[k]? = some i.x := by rw [List.getElem?_map, hi]; rfl
        rw [HN.out.2, List.getElem?_map, hj] at h1
        exact (Option.some.inj h1).symm
      have c0 := hc1 0 _ rfl
      have c1 := hc1 1 _ rfl
      have d0 := hc2 0 _ rfl
      have d1 := hc2 1 _ rfl
      rw [Nat.add_zero] at c0 d0
      change wr.cell? ⟨b1, o1 + k * 2, none⟩ = _ at c0
      change wr.cell? ⟨b1, o1 + k * 2 + 1, none⟩ = _ at c1
      change wr.cell? ⟨b2, o2 + k * 2, none⟩ = _ at d0
      change wr.cell? ⟨b2, o2 + k * 2 + 1, none⟩ = _ at d1
      have HF := Lib.hid (fun W (hW : Below wr.heap.size wr W) => sameFn_any i.v j.v i.x j.x W (FV.fnV (KFn.later hok1 hW)) (FV.fnV (KFn.later hok2 hW)))
      have HD := Lib.hid (show decide (i.x = j.x) = true by simp [hx])
      clear hc1 hc2 hok1 hok2 hx hi hj
      obtain ⟨ps, pA, pc, rs, rA, rc⟩ := i
      obtain ⟨ps2, pA2, pc2, rs2, rA2, rc2⟩ := j
      simp only [] at c0 c1 d0 d1
      have hbA := (Below.refl wr.heap.size wr).alloc (Nat.le_refl _) (.cells #[.slice pA ps.length pc, .slice rA rs.length rc] 79)
      have hbB := hbA.alloc (by simp) (.cells #[.slice pA2 ps2.length pc2, .slice rA2 rs2.length rc2] 79)
      have HBB := Lib.hid hbB
      have HFF := Lib.hid (HF.out _ hbB)
      rw [HD.out] at HFF
      simp only [FV.v] at HFF
      clear hbA hbB HF
      go_wp2_with fail
      refine HFF.out.mono ?_
      rintro e w2 ⟨rfl, hb9⟩
      have HB9 := Lib.hid (HX.out.trans ((HBB.out.trans (hb9.mono HBB.out.size)).mono HX.out.size))
      clear hb9
      go_wp2
      refine ⟨⟨k + 1, by omega, by push_cast; rfl, HB9.out⟩, by simp [intOf]; omega⟩
    · obtain rfl : k = n := by omega
      have hnl : ¬ (k : Int) < k := by omega
      go_wp2
      go_ret
      exact ⟨rfl, HX.out⟩
theorem own_cells13g {w : World} {g : Nat} {t : TypeId} {x0 x1 x2 x3 x4 x5 x6 x7 x8 x9 x10 x11 x12 : Value} (h : Own w g t [x0, x1, x2, x3, x4, x5, x6, x7, x8, x9, x10, x11, x12]) : w.cell? ⟨g, 0, none⟩ = some x0 ∧ w.cell? ⟨g, 1, none⟩ = some x1 ∧ w.cell? ⟨g, 2, none⟩ = some x2 ∧ w.cell? ⟨g, 3, none⟩ = some x3 ∧ w.cell? ⟨g, 4, none⟩ = some x4 ∧ w.cell? ⟨g, 5, none⟩ = some x5 ∧ w.cell? ⟨g, 6, none⟩ = some x6 ∧ w.cell? ⟨g, 7, none⟩ = some x7 ∧ w.cell? ⟨g, 8, none⟩ = some x8 ∧ w.cell? ⟨g, 9, none⟩ = some x9 ∧ w.cell? ⟨g, 10, none⟩ = some x10 ∧ w.cell? ⟨g, 11, none⟩ = some x11 ∧ w.cell? ⟨g, 12, none⟩ = some x12 := ⟨h.cell 0, h.cell 1, h.cell 2, h.cell 3, h.cell 4, h.cell 5, h.cell 6, h.cell 7, h.cell 8, h.cell 9, h.cell 10, h.cell 11, h.cell 12⟩
set_option maxHeartbeats 4000000 in
/-- Two modules that have the same types, and nothing else. -/
theorem msame_any {X Y : Nat → Prop} (ptA : Option Addr) (ptc : Nat) (pfA : Option Addr) (pfc : Nat) (pbA : Option Addr) (pbc : Nat) (pmA : Option Addr) (pmc : Nat) (pgA : Option Addr) (pgc : Nat) (pxA : Option Addr) (pxc : Nat) (peA : Option Addr) (pec : Nat) (pcA : Option Addr) (pcc : Nat) (pdA : Option Addr) (pdc : Nat) (qtA : Option Addr) (qtc : Nat) (qfA : Option Addr) (qfc : Nat) (qbA : Option Addr) (qbc : Nat) (qmA : Option Addr) (qmc : Nat) (qgA : Option Addr) (qgc : Nat) (qxA : Option Addr) (qxc : Nat) (qeA : Option Addr) (qec : Nat) (qcA : Option Addr) (qcc : Nat) (qdA : Option Addr) (qdc : Nat) (ptl qtl : List FV) (n : Nat) (w : World) (ha : RdE KFn X w (.slice ptA n ptc) ptl) (hb : RdE KFn Y w (.slice qtA n qtc) qtl) (hn : n = ptl.length) (hs : ptl.map FV.x = qtl.map FV.x) (hl : n ≤ 1000000) :
    Calls Tryz.prog 17 #[.agg #[.slice ptA n ptc, .slice pfA 0 pfc, .slice pbA 0 pbc, .slice pmA 0 pmc, .slice pgA 0 pgc, .slice pxA 0 pxc, .bool false, .int .u32 0, .slice peA 0 pec, .bool false, .int .u32 0, .slice pcA 0 pcc, .slice pdA 0 pdc], .agg #[.slice qtA n qtc, .slice qfA 0 qfc, .slice qbA 0 qbc, .slice qmA 0 qmc, .slice qgA 0 qgc, .slice qxA 0 qxc, .bool false, .int .u32 0, .slice qeA 0 qec, .bool false, .int .u32 0, .slice qcA 0 qcc, .slice qdA 0 qdc]] w fun e w' => e = .returned (.bool true) ∧ Below w.heap.size w w' := by
  have hb1 := (Below.refl w.heap.size w).alloc (Nat.le_refl _) (.cells #[.slice ptA n ptc, .slice pfA 0 pfc, .slice pbA 0 pbc, .slice pmA 0 pmc, .slice pgA 0 pgc, .slice pxA 0 pxc, .bool false, .int .u32 0, .slice peA 0 pec, .bool false, .int .u32 0, .slice pcA 0 pcc, .slice pdA 0 pdc] MODT)
  have hb2 := hb1.alloc (by simp) (.cells #[.slice qtA n qtc, .slice qfA 0 qfc, .slice qbA 0 qbc, .slice qmA 0 qmc, .slice qgA 0 qgc, .slice qxA 0 qxc, .bool false, .int .u32 0, .slice qeA 0 qec, .bool false, .int .u32 0, .slice qcA 0 qcc, .slice qdA 0 qdc] MODT)
  have ho1 := (Own.new w MODT [.slice ptA n ptc, .slice pfA 0 pfc, .slice pbA 0 pbc, .slice pmA 0 pmc, .slice pgA 0 pgc, .slice pxA 0 pxc, .bool false, .int .u32 0, .slice peA 0 pec, .bool false, .int .u32 0, .slice pcA 0 pcc, .slice pdA 0 pdc]).later ((Below.refl _ _).alloc (Nat.le_refl _) (.cells #[.slice qtA n qtc, .slice qfA 0 qfc, .slice qbA 0 qbc, .slice qmA 0 qmc, .slice qgA 0 qgc, .slice qxA 0 qxc, .bool false, .int .u32 0, .slice qeA 0 qec, .bool false, .int .u32 0, .slice qcA 0 qcc, .slice qdA 0 qdc] MODT))
  have ho2 := Own.new (w.alloc (.cells #[.slice ptA n ptc, .slice pfA 0 pfc, .slice pbA 0 pbc, .slice pmA 0 pmc, .slice pgA 0 pgc, .slice pxA 0 pxc, .bool false, .int .u32 0, .slice peA 0 pec, .bool false, .int .u32 0, .slice pcA 0 pcc, .slice pdA 0 pdc] MODT)) MODT [.slice qtA n qtc, .slice qfA 0 qfc, .slice qbA 0 qbc, .slice qmA 0 qmc, .slice qgA 0 qgc, .slice qxA 0 qxc, .bool false, .int .u32 0, .slice qeA 0 qec, .bool false, .int .u32 0, .slice qcA 0 qcc, .slice qdA 0 qdc]
  have hsz : (w.alloc (.cells #[.slice ptA n ptc, .slice pfA 0 pfc, .slice pbA 0 pbc, .slice pmA 0 pmc, .slice pgA 0 pgc, .slice pxA 0 pxc, .bool false, .int .u32 0, .slice peA 0 pec, .bool false, .int .u32 0, .slice pcA 0 pcc, .slice pdA 0 pdc] MODT)).heap.size = w.heap.size + 1 := by simp
  rw [hsz] at ho2
  have HF := Lib.hid (eqFn_any ptA qtA n ptc qtc ptl qtl _ (ha.later hb2) (hb.later hb2) hn hs hl)
  have HO := Lib.hid (And.intro ho1 (And.intro ho2 hb2))
  obtain ⟨k0, k1, k2, k3, k4, k5, k6, k7, k8, k9, k10, k11, k12⟩ := own_cells13g ho1
  obtain ⟨j0, j1, j2, j3, j4, j5, j6, j7, j8, j9, j10, j11, j12⟩ := own_cells13g ho2
  clear ho1 ho2 hb1 hb2 ha hb hn hs hsz
  go_enter Tryz.func17, Tryz.ntmps17
  go_wp2_with fail
  refine HF.out.mono ?_
  rintro e w3 ⟨rfl, h3⟩
  have H3 := Lib.hid (HO.out.2.2.trans (h3.mono HO.out.2.2.size))
  have ho1 := HO.out.1.later h3
  have ho2 := HO.out.2.1.later h3
  clear k0 k1 k2 k3 k4 k5 k6 k7 k8 k9 k10 k11 k12 j0 j1 j2 j3 j4 j5 j6 j7 j8 j9 j10 j11 j12 h3
  obtain ⟨k0, k1, k2, k3, k4, k5, k6, k7, k8, k9, k10, k11, k12⟩ := own_cells13g ho1
  obtain ⟨j0, j1, j2, j3, j4, j5, j6, j7, j8, j9, j10, j11, j12⟩ := own_cells13g ho2
  clear ho1 ho2
  go_wp2_with (first | (go_at_call 47; refine (eqz0_any _ _ _ _ _).mono ?_; rintro e w' ⟨rfl, rfl⟩) | (go_at_call 48; refine (eqz1_any _ _ _ _ _).mono ?_; rintro e w' ⟨rfl, rfl⟩) | (go_at_call 49; refine (eqz2_any _ _ _ _ _).mono ?_; rintro e w' ⟨rfl, rfl⟩) | (go_at_call 52; refine (eqz3_any _ _ _ _ _).mono ?_; rintro e w' ⟨rfl, rfl⟩) | (go_at_call 50; refine (eqfGlobal_any _ _ _ _ _ _).mono ?_; rintro e w' ⟨rfl, rfl⟩) | (go_at_call 53; refine (eqfElem_any _ _ _ _ _ _).mono ?_; rintro e w' ⟨rfl, rfl⟩) | (go_at_call 55; refine (eqfCode_any _ _ _ _ _ _).mono ?_; rintro e w' ⟨rfl, rfl⟩) | (go_at_call 57; refine (eqfData_any _ _ _ _ _ _).mono ?_; rintro e w' ⟨rfl, rfl⟩))
  go_ret
  exact ⟨rfl, H3.out⟩
set_option maxHeartbeats 4000000 in
/-- Two modules that have not as many types. -/
theorem msameNe_any (ptA : Option Addr) (ptc : Nat) (pfA : Option Addr) (pfc : Nat) (pbA : Option Addr) (pbc : Nat) (pmA : Option Addr) (pmc : Nat) (pgA : Option Addr) (pgc : Nat) (pxA : Option Addr) (pxc : Nat) (peA : Option Addr) (pec : Nat) (pcA : Option Addr) (pcc : Nat) (pdA : Option Addr) (pdc : Nat) (qtA : Option Addr) (qtc : Nat) (qfA : Option Addr) (qfc : Nat) (qbA : Option Addr) (qbc : Nat) (qmA : Option Addr) (qmc : Nat) (qgA : Option Addr) (qgc : Nat) (qxA : Option Addr) (qxc : Nat) (qeA : Option Addr) (qec : Nat) (qcA : Option Addr) (qcc : Nat) (qdA : Option Addr) (qdc : Nat) (n m : Nat) (hn : n ≠ m) (w : World) :
    Calls Tryz.prog 17 #[.agg #[.slice ptA n ptc, .slice pfA 0 pfc, .slice pbA 0 pbc, .slice pmA 0 pmc, .slice pgA 0 pgc, .slice pxA 0 pxc, .bool false, .int .u32 0, .slice peA 0 pec, .bool false, .int .u32 0, .slice pcA 0 pcc, .slice pdA 0 pdc], .agg #[.slice qtA m qtc, .slice qfA 0 qfc, .slice qbA 0 qbc, .slice qmA 0 qmc, .slice qgA 0 qgc, .slice qxA 0 qxc, .bool false, .int .u32 0, .slice qeA 0 qec, .bool false, .int .u32 0, .slice qcA 0 qcc, .slice qdA 0 qdc]] w fun e w' => e = .returned (.bool false) ∧ Below w.heap.size w w' := by
  have hb1 := (Below.refl w.heap.size w).alloc (Nat.le_refl _) (.cells #[.slice ptA n ptc, .slice pfA 0 pfc, .slice pbA 0 pbc, .slice pmA 0 pmc, .slice pgA 0 pgc, .slice pxA 0 pxc, .bool false, .int .u32 0, .slice peA 0 pec, .bool false, .int .u32 0, .slice pcA 0 pcc, .slice pdA 0 pdc] MODT)
  have hb2 := hb1.alloc (by simp) (.cells #[.slice qtA m qtc, .slice qfA 0 qfc, .slice qbA 0 qbc, .slice qmA 0 qmc, .slice qgA 0 qgc, .slice qxA 0 qxc, .bool false, .int .u32 0, .slice qeA 0 qec, .bool false, .int .u32 0, .slice qcA 0 qcc, .slice qdA 0 qdc] MODT)
  have ho1 := (Own.new w MODT [.slice ptA n ptc, .slice pfA 0 pfc, .slice pbA 0 pbc, .slice pmA 0 pmc, .slice pgA 0 pgc, .slice pxA 0 pxc, .bool false, .int .u32 0, .slice peA 0 pec, .bool false, .int .u32 0, .slice pcA 0 pcc, .slice pdA 0 pdc]).later ((Below.refl _ _).alloc (Nat.le_refl _) (.cells #[.slice qtA m qtc, .slice qfA 0 qfc, .slice qbA 0 qbc, .slice qmA 0 qmc, .slice qgA 0 qgc, .slice qxA 0 qxc, .bool false, .int .u32 0, .slice qeA 0 qec, .bool false, .int .u32 0, .slice qcA 0 qcc, .slice qdA 0 qdc] MODT))
  have ho2 := Own.new (w.alloc (.cells #[.slice ptA n ptc, .slice pfA 0 pfc, .slice pbA 0 pbc, .slice pmA 0 pmc, .slice pgA 0 pgc, .slice pxA 0 pxc, .bool false, .int .u32 0, .slice peA 0 pec, .bool false, .int .u32 0, .slice pcA 0 pcc, .slice pdA 0 pdc] MODT)) MODT [.slice qtA m qtc, .slice qfA 0 qfc, .slice qbA 0 qbc, .slice qmA 0 qmc, .slice qgA 0 qgc, .slice qxA 0 qxc, .bool false, .int .u32 0, .slice qeA 0 qec, .bool false, .int .u32 0, .slice qcA 0 qcc, .slice qdA 0 qdc]
  have hsz : (w.alloc (.cells #[.slice ptA n ptc, .slice pfA 0 pfc, .slice pbA 0 pbc, .slice pmA 0 pmc, .slice pgA 0 pgc, .slice pxA 0 pxc, .bool false, .int .u32 0, .slice peA 0 pec, .bool false, .int .u32 0, .slice pcA 0 pcc, .slice pdA 0 pdc] MODT)).heap.size = w.heap.size + 1 := by simp
  rw [hsz] at ho2
  have HO := Lib.hid hb2
  obtain ⟨k0, k1, k2, k3, k4, k5, k6, k7, k8, k9, k10, k11, k12⟩ := own_cells13g ho1
  obtain ⟨j0, j1, j2, j3, j4, j5, j6, j7, j8, j9, j10, j11, j12⟩ := own_cells13g ho2
  clear ho1 ho2 hb1 hb2 hsz
  go_enter Tryz.func17, Tryz.ntmps17
  go_wp2_with (go_at_call 45; refine (eqFnNe_any _ _ n m _ _ _ _ hn).mono ?_; rintro e w' ⟨rfl, rfl⟩)
  go_ret
  exact ⟨rfl, HO.out⟩
end Go.Proofs.YtadgiekiiicmfaaGreatDoor

/- append to the bytes of a constant: they are full, so a new block is made. No function of the program. -/
namespace Go.Proofs.YtadgiekiiicmfaaGreatDoor
open Go.RowKit
set_option maxRecDepth 100000
set_option linter.unusedVariables false

theorem ownB_lits (w : World) (l : List Int) (hl : l.length ≤ maxLen) : OwnB (w.alloc (.cells (l.map (Value.int .u8)).toArray 5)) w.heap.size (.slice (some ⟨w.heap.size, 0, none⟩) l.length l.length) l :=
  ⟨by simp, .inr ⟨w.heap.size, l.length, (l.map (Value.int .u8)).toArray, rfl, Nat.le_refl _, heap_alloc_new w _, Nat.le_refl _, hl, by simp, by simp [List.take_of_length_le]⟩⟩
/-- The block of a constant's bytes. -/
theorem rd_marked (w : World) (l : List Int) (hl : IsBytes l) (fr : Nat × Nat) : RdX (fun k => k = w.heap.size) (w.alloc (.cells (l.map (Value.int .u8)).toArray 5 fr)) (some ⟨w.heap.size, 0, none⟩) l := ⟨hl, fun j u hu => by
  refine ⟨_, rfl, rfl, ?_⟩
  rw [addPlain, Nat.zero_add, World.cell?_alloc_mark]
  simpa using hu⟩
theorem run_appFull {X Y : Nat → Prop} (w : World) (g n : Nat) (l : List Int) (hl : n = l.length) (hr : RdX X w (some ⟨g, 0, none⟩) l) (A : Option Addr) (m c : Nat) (news : List Int) (hm : m = news.length) (hm0 : 0 < m) (hn : RdX Y w A news) (hlen : n + m ≤ 1000000000) (ty : TypeId) :
    ∃ v' w', (Builtin.append_ #[22, 22] ty #[.slice (some ⟨g, 0, none⟩) n n, .slice A m c]).run Tryz.prog w = .ok v' w' ∧ OwnB w' w.heap.size v' (l ++ news) ∧ Below w.heap.size w w' := by
  subst hl hm
  obtain ⟨i, hi, hz, hs, hb⟩ := info_parts byte_info
  obtain ⟨b, o, rfl, -, -, hc⟩ := hn.2.spot (by simpa using hm0)
  have holds : ∀ j u, (l.map (Value.int .u8))[j]? = some u → w.cell? ((⟨g, 0, none⟩ : Addr).add j) = some u := fun j u hu => by
    obtain ⟨ad, e, _, hcc⟩ := hr.2 j u hu
    injection e with e; subst e
    exact hcc
  have hnews : ∀ j u, (news.map (Value.int .u8))[j]? = some u → w.cell? ((⟨b, o, none⟩ : Addr).add j) = some u := fun j u hu => by
    rw [addPlain]; exact hc j u hu
  have hr := run_append_grow (P := Tryz.prog) w 22 ty 5 i (.int .u8 0) under_bytes hi hz ⟨g, 0, none⟩ l.length l.length (l.map (Value.int .u8)) (by simp [hs]) holds ⟨b, o, none⟩ news.length c (news.map (Value.int .u8)) (by simp [hs]) hnews (by omega) (by omega) (growslice_fits (by omega) (by rw [hb]; omega))
  refine ⟨_, _, hr, ?_, ?_⟩
  · have hge := grownCap_ge w (l.length + news.length) l.length 5
    have hcm2 : grownCap w (l.length + news.length) l.length 5 ≤ maxLen := grownCap_le_maxLen w _ _ _ (by simp only [maxLen]; omega)
    generalize grownCap w (l.length + news.length) l.length 5 = gc at *
    refine ⟨by simp, .inr ⟨w.heap.size, gc, _, by rw [List.length_append], Nat.le_refl _, heap_alloc_new w.drew _, by rw [List.length_append]; exact hge, hcm2, ?_, ?_⟩⟩
    · simp [Array.size_append, size_zeroCells, Value.cells]; omega
    · simp only [Array.toList_append, List.map_append, Nat.mul_one]
      exact List.take_left' (by simp)
  · exact (Below.refl _ _).drew.alloc (Nat.le_refl _) _
/-- append(s, x...), of bytes, where s is full: a constant's. -/
theorem wpList_appFull {X Y : Nat → Prop} {ops : Array Oper} {rest : List Oper} {o : Oper} {a : Act} {Q : Exit → Act → World → Prop} {w : World} (hgd : o.guard = none) (s x : Operand)
    (ho : o.op = .call { callee := .builtin .append, args := #[s, x], argTypes := #[22, 22] }) (g n : Nat) (l : List Int) (hs : a.eval s = .slice (some ⟨g, 0, none⟩) n n) (hl : n = l.length) (hr : RdX X w (some ⟨g, 0, none⟩) l)
    (A : Option Addr) (m c : Nat) (news : List Int) (hx : a.eval x = .slice A m c) (hm : m = news.length) (hm0 : 0 < m) (hn : RdX Y w A news) (hlen : n + m ≤ 1000000000)
    (h : ∀ v' w', OwnB w' w.heap.size v' (l ++ news) → Below w.heap.size w w' → wpList Tryz.prog ops Q rest (a.put o.dst v') w') : wpList Tryz.prog ops Q (o :: rest) a w := by
  obtain ⟨v', w', hrun, h2, h3⟩ := run_appFull w g n l hl hr A m c news hm hm0 hn hlen o.type
  exact Lib.wpList_append_run w hgd s x _ _ ho _ _ hs hx v' w' hrun (h v' w' h2 h3)
end Go.Proofs.YtadgiekiiicmfaaGreatDoor

/- mod has begun: what each statement of layer 8 asks first. (Written by gen_Begun8.py.) -/
namespace Go.Proofs.YtadgiekiiicmfaaGreatDoor
open Go.RowKit
set_option maxRecDepth 100000
set_option linter.unusedVariables false

theorem mod_b1 : modP [0, 97, 115, 109, 1, 0, 0, 0, 1, 4, 1, 96, 0, 0] = .ok { mo0 with types := [([], [])] } := by kernel_rfl
theorem mod_b2 : modP [0, 97, 115, 109, 1, 0, 0, 0, 2, 1, 1] = .error 5 := by kernel_rfl
/-- A module that has but one type. -/
theorem onlyType {m : MV} (h : m.mo = { mo0 with types := [([], [])] }) : ∃ tA tc tl fA fc bA bc mA mc gA gc xA xc eA ec cA cc dA dc, m = ⟨⟨tA, tc, tl⟩, ⟨fA, fc, []⟩, ⟨bA, bc, []⟩, ⟨mA, mc, []⟩, ⟨gA, gc, []⟩, ⟨xA, xc, []⟩, false, 0, ⟨eA, ec, []⟩, false, 0, ⟨cA, cc, []⟩, ⟨dA, dc, []⟩⟩ ∧ tl.length = 1 := by
  obtain ⟨⟨tA, tc, tl⟩, ⟨fA, fc, fl⟩, ⟨bA, bc, bl⟩, ⟨mA, mc, ml⟩, ⟨gA, gc, gl⟩, ⟨xA, xc, xl⟩, st, sn, ⟨eA, ec, el⟩, kk, kn, ⟨cA, cc, cl⟩, ⟨dA, dc, dl⟩⟩ := m
  have h1 : tl.map FV.x = [([], [])] := congrArg Mo.types h
  have h2 : fl = [] := congrArg Mo.funcs h
  have h3 : bl = [] := congrArg Mo.tables h
  have h4 : ml = [] := congrArg Mo.mems h
  have h5 : gl.map GV.x = [] := congrArg Mo.globals h
  have h6 : xl = [] := congrArg Mo.exports h
  have h7 : st = false := congrArg Mo.starts h
  have h8 : sn = 0 := congrArg Mo.start h
  have h9 : el.map EV.x = [] := congrArg Mo.elems h
  have h10 : kk = false := congrArg Mo.counts h
  have h11 : kn = 0 := congrArg Mo.count h
  have h12 : cl.map CV.x = [] := congrArg Mo.codes h
  have h13 : dl.map DV.x = [] := congrArg Mo.datas h
  have e5 := List.map_eq_nil_iff.1 h5
  have e9 := List.map_eq_nil_iff.1 h9
  have e12 := List.map_eq_nil_iff.1 h12
  have e13 := List.map_eq_nil_iff.1 h13
  subst h2 h3 h4 h6 h7 h8 h10 h11 e5 e9 e12 e13
  exact ⟨tA, tc, tl, fA, fc, bA, bc, mA, mc, gA, gc, xA, xc, eA, ec, cA, cc, dA, dc, rfl, by have := congrArg List.length h1; simpa using this⟩
set_option maxHeartbeats 8000000 in
theorem begun8_any (w : World) (hT : Tabs w) :
    Calls Tryz.prog 7 #[] w fun e w' => e = .returned (.bool true) ∧ Below w.heap.size w w' := by
  have kc := fun (w : World) (C : Array Value) (n c : Nat) => Lib.run_convert_bytes_const (P := Tryz.prog) w 22 5 C n c under_bytes under_byte
  have HTb := Lib.hid hT
  have hb1 : Below w.heap.size w (w.alloc (.cells #[.int .u8 0, .int .u8 97, .int .u8 115, .int .u8 109, .int .u8 1, .int .u8 0, .int .u8 0, .int .u8 0, .int .u8 1, .int .u8 4, .int .u8 1, .int .u8 96, .int .u8 0, .int .u8 0] 5 (14, 15))) := (Below.refl _ _).alloc (Nat.le_refl _) _
  have hr1 := rd_marked w [0, 97, 115, 109, 1, 0, 0, 0, 1, 4, 1, 96, 0, 0] (by intro z hz; simp at hz; omega) (14, 15)
  simp only [List.map_cons, List.map_nil, List.toArray] at hr1
  have H1 := Lib.hid (mtake_any (some ⟨w.heap.size, 0, none⟩) [0, 97, 115, 109, 1, 0, 0, 0, 1, 4, 1, 96, 0, 0] 14 14 _ hr1.rd rfl (by omega) (by omega) (by decide) (HTb.out.later hb1))
  have HB1 := Lib.hid hb1
  clear hT hb1 hr1
  go_enter Tryz.func7, Tryz.ntmps7
  go_wp2_with fail
  refine H1.out.mono ?_
  unfold MtPost
  rw [mod_b1]
  simp only [mtE, mtM]
  rintro e w2 ⟨m, rfl, m1, m2, m3⟩
  obtain ⟨tA, tc, tl, fA, fc, bA, bc, mA, mc, gA, gc, xA, xc, eA, ec, cA, cc, dA, dc, rfl, htl⟩ := onlyType m1
  have HMO := Lib.hid (And.intro m2.t m2.t)
  have HTL := Lib.hid (show 1 = tl.length from htl.symm)
  have HB2 := Lib.hid (HB1.out.trans (m3.mono HB1.out.size))
  clear m1 m2 m3 H1
  simp only [MV.v, MV.cells, LV.v, List.length_nil, htl] at HMO ⊢
  clear htl
  have hb3 := (Below.refl w2.heap.size w2).alloc (Nat.le_refl _) (.cells #[.slice tA 1 tc, .slice fA 0 fc, .slice bA 0 bc, .slice mA 0 mc, .slice gA 0 gc, .slice xA 0 xc, .bool false, .int .u32 0, .slice eA 0 ec, .bool false, .int .u32 0, .slice cA 0 cc, .slice dA 0 dc] MODT)
  have ho3 := Own.new w2 MODT [.slice tA 1 tc, .slice fA 0 fc, .slice bA 0 bc, .slice mA 0 mc, .slice gA 0 gc, .slice xA 0 xc, .bool false, .int .u32 0, .slice eA 0 ec, .bool false, .int .u32 0, .slice cA 0 cc, .slice dA 0 dc]
  have HB3 := Lib.hid (And.intro (HB2.out.trans (hb3.mono HB2.out.size)) (And.intro ho3 (HMO.out.1.later hb3)))
  clear hb3 ho3
  go_upto_region 2 with fail
  generalize w2.alloc (.cells #[.slice tA 1 tc, .slice fA 0 fc, .slice bA 0 bc, .slice mA 0 mc, .slice gA 0 gc, .slice xA 0 xc, .bool false, .int .u32 0, .slice eA 0 ec, .bool false, .int .u32 0, .slice cA 0 cc, .slice dA 0 dc] 36) = w3 at *
  generalize w2.heap.size = g1 at *
  have hb4 : Below w3.heap.size w3 (w3.alloc (.cells #[.int .u8 0, .int .u8 97, .int .u8 115, .int .u8 109, .int .u8 1, .int .u8 0, .int .u8 0, .int .u8 0, .int .u8 2, .int .u8 1, .int .u8 1] 5 (11, 12))) := (Below.refl _ _).alloc (Nat.le_refl _) _
  have hr4 := rd_marked w3 [0, 97, 115, 109, 1, 0, 0, 0, 2, 1, 1] (by intro z hz; simp at hz; omega) (11, 12)
  simp only [List.map_cons, List.map_nil, List.toArray] at hr4
  have H4 := Lib.hid (mtake_any (some ⟨w3.heap.size, 0, none⟩) [0, 97, 115, 109, 1, 0, 0, 0, 2, 1, 1] 11 11 _ hr4.rd rfl (by omega) (by omega) (by decide) (HTb.out.later (HB3.out.1.trans (hb4.mono HB3.out.1.size))))
  have HB4 := Lib.hid hb4
  clear hb4 hr4
  go_wp2_with fail
  refine H4.out.mono ?_
  unfold MtPost
  rw [mod_b2]
  simp only [mtE, mtM]
  rintro e w5 ⟨m, rfl, -, -, m3⟩
  obtain ⟨⟨ztA, ztc, ztl⟩, ⟨zfA, zfc, zfl⟩, ⟨zbA, zbc, zbl⟩, ⟨zmA, zmc, zml⟩, ⟨zgA, zgc, zgl⟩, ⟨zxA, zxc, zxl⟩, zst, zsn, ⟨zeA, zec, zel⟩, zkk, zkn, ⟨zcA, zcc, zcl⟩, ⟨zdA, zdc, zdl⟩⟩ := m
  have HB5 := Lib.hid (HB4.out.trans (m3.mono HB4.out.size))
  clear m3 H4
  simp only [MV.v, MV.cells, LV.v]
  have hb6 := HB5.out.alloc HB5.out.size (.cells #[.slice ztA ztl.length ztc, .slice zfA zfl.length zfc, .slice zbA zbl.length zbc, .slice zmA zml.length zmc, .slice zgA zgl.length zgc, .slice zxA zxl.length zxc, .bool zst, .int .u32 zsn, .slice zeA zel.length zec, .bool zkk, .int .u32 zkn, .slice zcA zcl.length zcc, .slice zdA zdl.length zdc] MODT)
  have HB6 := Lib.hid hb6
  clear hb6
  go_upto_region 3 with fail
  generalize w5.alloc (.cells #[.slice ztA ztl.length ztc, .slice zfA zfl.length zfc, .slice zbA zbl.length zbc, .slice zmA zml.length zmc, .slice zgA zgl.length zgc, .slice zxA zxl.length zxc, .bool zst, .int .u32 zsn, .slice zeA zel.length zec, .bool zkk, .int .u32 zkn, .slice zcA zcl.length zcc, .slice zdA zdl.length zdc] 36) = w6 at *
  have ho6 := HB3.out.2.1.later HB6.out
  have hr6 := HB3.out.2.2.later HB6.out
  obtain ⟨k0, k1, k2, k3, k4, k5, k6, k7, k8, k9, k10, k11, k12⟩ := own_cells13g ho6
  have HS := Lib.hid (msame_any tA tc fA fc bA bc mA mc gA gc xA xc eA ec cA cc dA dc tA tc fA fc bA bc mA mc gA gc xA xc eA ec cA cc dA dc tl tl 1 w6 hr6 hr6 HTL.out rfl (by omega))
  have HO6 := Lib.hid ho6
  clear ho6 hr6
  go_wp2_with fail
  refine HS.out.mono ?_
  rintro e w7 ⟨rfl, hb7⟩
  have HB7 := Lib.hid hb7
  have ho7 := HO6.out.later hb7
  clear hb7 HS k0 k1 k2 k3 k4 k5 k6 k7 k8 k9 k10 k11 k12
  obtain ⟨k0, k1, k2, k3, k4, k5, k6, k7, k8, k9, k10, k11, k12⟩ := own_cells13g ho7
  have HS := Lib.hid (msameNe_any tA tc fA fc bA bc mA mc gA gc xA xc eA ec cA cc dA dc none 0 none 0 none 0 none 0 none 0 none 0 none 0 none 0 none 0 1 0 (by omega) w7)
  clear ho7
  go_wp2_with fail
  refine HS.out.mono ?_
  rintro e w8 ⟨rfl, hb8⟩
  have HB8 := Lib.hid (HB7.out.trans (hb8.mono HB7.out.size))
  clear hb8 HS
  go_wp2
  go_ret
  exact ⟨rfl, HB3.out.1.trans ((HB6.out.trans (HB8.out.mono HB6.out.size)).mono HB3.out.1.size)⟩
end Go.Proofs.YtadgiekiiicmfaaGreatDoor

/- []byte(s). -/
namespace Go.Proofs.YtadgiekiiicmfaaGreatDoor
open Go.RowKit
set_option maxRecDepth 100000
set_option linter.unusedVariables false

/-- []byte(s). -/
theorem conv_bytes (w : World) (l : List Int) (hl : IsBytes l) (hn : l.length ≤ 1000000) : ∃ c W, (convert 9 22 (.string (strOfNums l))).run Tryz.prog w = .ok (.slice (some ⟨w.heap.size, 0, none⟩) l.length c) W ∧ Rd W W.heap.size (some ⟨w.heap.size, 0, none⟩) l ∧ Below w.heap.size w W ∧ l.length ≤ c ∧ c ≤ maxLen := by
  have hss : (strOfNums l).size = l.length := strOfNums_size l
  have h := Lib.run_convert_string_bytes (P := Tryz.prog) w 9 22 5 (strOfNums l) under_string under_bytes under_byte
  rw [hss] at h
  refine ⟨_, _, h, ⟨hl, fun j hj => ⟨_, rfl, ?_, ?_⟩⟩, ⟨rfl, rfl, rfl, ?_, fun k hk => Lib.bytesWorld_at_old w _ _ k hk⟩, grownCap_ge w _ _ _, grownCap_le_maxLen w _ _ _ (by simp only [maxLen]; omega)⟩
  · rw [Lib.bytesWorld_size]; simp
  · rw [addPlain, Nat.zero_add, Lib.bytesWorld_cell w _ _ j (by rw [hss]; exact hj)]
    obtain ⟨z0, z1⟩ := hl (l.getD j 0) (by rw [List.getD_eq_getElem?_getD, List.getElem?_eq_getElem hj]; exact List.getElem_mem hj)
    rw [strOfNums_data, List.getD_eq_getElem?_getD, List.getElem?_map, List.getElem?_eq_getElem hj]
    rw [List.getD_eq_getElem?_getD, List.getElem?_eq_getElem hj] at z0 z1 ⊢
    simp only [Option.map_some, Option.getD_some] at z0 z1 ⊢
    rw [UInt8.toNat_ofNat_of_lt' (by simp; omega)]
    congr 2; omega
  · rw [Lib.bytesWorld_size]; omega

end Go.Proofs.YtadgiekiiicmfaaGreatDoor

/- The walk of ModForms. (Written by gen_LawMForms.py.) -/
namespace Go.Proofs.YtadgiekiiicmfaaGreatDoor
open Go.RowKit
set_option maxRecDepth 100000
set_option linter.unusedVariables false

def mtx : List (List Int) := [secFront, secFront ++ [2, 1, 0], secFront ++ [1, 1, 33], secFront ++ [1, 2, 0, 0], secFront ++ [3, 2, 1, 0], secFront ++ [3, 2, 1, 0, 10, 4, 1, 2, 0, 11], secFront ++ [3, 2, 1, 0, 10, 5, 1, 3, 0, 11, 1], secFront ++ [3, 2, 1, 0, 10, 6, 1, 4, 1, 65, 127, 11], secFront ++ [4, 4, 1, 112, 0, 1], secFront ++ [4, 4, 1, 127, 0, 1], secFront ++ [5, 3, 1, 0, 9], secFront ++ [5, 3, 1, 2, 9], secFront ++ [6, 6, 1, 127, 2, 65, 0, 11], secFront ++ [6, 6, 1, 125, 0, 65, 0, 11], secFront ++ [7, 5, 1, 1, 97, 4, 0], secFront ++ [7, 5, 1, 1, 255, 0, 0], secFront ++ [9, 7, 1, 0, 65, 0, 11, 1, 0], secFront ++ [9, 4, 1, 1, 1, 0], secFront ++ [9, 4, 1, 5, 127, 0], secFront ++ [9, 2, 1, 8], secFront ++ [11, 3, 1, 1, 0], secFront ++ [11, 2, 1, 3], secFront ++ [12, 1, 1], secFront ++ [12, 1, 1, 11, 3, 1, 1, 0], secFront ++ [8, 1, 5]]
def merr : List Int := [0, 0, 4, 2, 2, 0, 2, 4, 0, 2, 0, 2, 2, 5, 2, 2, 0, 2, 2, 2, 0, 2, 2, 0, 0]
theorem mtab_ok (k : Nat) (hk : k < 25) : ∃ l er, (mtx.map fun l => Value.string (strOfNums l))[k]? = some (.string (strOfNums l)) ∧ (merr.map (Value.int .i64))[k]? = some (.int .i64 er) ∧ IsBytes l ∧ l.length ≤ 100 ∧ mtE (modP l) = er := by
  have key : ∀ k : Fin 25, (∀ z ∈ mtx.getD k.val [], 0 ≤ z ∧ z ≤ 255) ∧ (mtx.getD k.val []).length ≤ 100 ∧ mtE (modP (mtx.getD k.val [])) = merr.getD k.val 0 := by decide +kernel
  obtain ⟨h1, h2, h3⟩ := key ⟨k, hk⟩
  refine ⟨mtx.getD k [], merr.getD k 0, ?_, ?_, h1, h2, h3⟩
  · rw [List.getElem?_map, List.getElem?_eq_getElem (show k < mtx.length from hk), List.getD_eq_getElem?_getD, List.getElem?_eq_getElem (show k < mtx.length from hk)]; rfl
  · rw [List.getElem?_map, List.getElem?_eq_getElem (show k < merr.length from hk), List.getD_eq_getElem?_getD, List.getElem?_eq_getElem (show k < merr.length from hk)]; rfl
theorem mk_zeros8 (n : Nat) (hn : n ≤ 1000000) (ni : Int) (h : ni = n) : ∃ o : Obj, (∀ W, (Instr.makeSlice 22 (.int .i64 ni) (.int .i64 ni)).run Tryz.prog W = .ok (.slice (some ⟨W.heap.size, 0, none⟩) n n) (W.alloc o)) ∧ ∀ W : World, RdX (fun k => k = W.heap.size) (W.alloc o) (some ⟨W.heap.size, 0, none⟩) (List.replicate n 0) := by
  subst h
  refine ⟨.cells (madeCells #[Value.int .u8 0] n) 5, fun W => ?_, fun W => ?_⟩
  · exact run_make_row' (P := Tryz.prog) 22 5 (.int .u8 0) 1 under_bytes byte_info rfl .i64 .i64 n (by omega) (by omega) W
  · rw [made_one]
    have hh := rdX_lit W (List.replicate n 0) (fun z hz => by rw [List.mem_replicate] at hz; omega)
    rw [List.map_replicate] at hh
    simpa using hh
set_option maxHeartbeats 8000000 in
theorem modForms_core (w : World) (hT : Tabs w) : Calls Tryz.prog 6 #[] w fun e w' => e = .returned (.bool true) ∧ Below w.heap.size w w' := by
  have HT := Lib.hid hT
  have HG := Lib.hid (begun8_any w hT)
  clear hT
  go_enter Tryz.func6, Tryz.ntmps6
  go_wp2_with fail
  refine HG.out.mono ?_
  rintro e w1 ⟨rfl, hb1⟩
  have HB1 := Lib.hid hb1
  clear hb1
  go_upto_region 7 with fail
  go_loopw [4] (fun i wr => ∃ (k : Nat), k ≤ 25 ∧ i = .int .i64 k ∧ Hid (Own wr w1.heap.size 9 (mtx.map fun l => .string (strOfNums l)) ∧ Own wr (w1.heap.size + 1) 37 (merr.map (Value.int .i64)) ∧ Below w.heap.size w wr)) (fun i _ => 25 - (intOf i).toNat)
  case atStart =>
    refine ⟨0, by omega, rfl, ?_, ?_, ?_⟩
    · have : Own (w1.alloc (.cells (mtx.map fun l => Value.string (strOfNums l)).toArray 9)) w1.heap.size 9 (mtx.map fun l => .string (strOfNums l)) := Own.new w1 _ _
      rw [show (mtx.map fun l => Value.string (strOfNums l)).toArray = (#[Value.string (⟨#[0, 97, 115, 109, 1, 0, 0, 0]⟩ : ByteArray), Value.string ((⟨#[0, 97, 115, 109, 1, 0, 0, 0]⟩ : ByteArray) ++ (⟨#[2, 1, 0]⟩ : ByteArray)), Value.string ((⟨#[0, 97, 115, 109, 1, 0, 0, 0]⟩ : ByteArray) ++ (⟨#[1, 1, 33]⟩ : ByteArray)), Value.string ((⟨#[0, 97, 115, 109, 1, 0, 0, 0]⟩ : ByteArray) ++ (⟨#[1, 2, 0, 0]⟩ : ByteArray)), Value.string ((⟨#[0, 97, 115, 109, 1, 0, 0, 0]⟩ : ByteArray) ++ (⟨#[3, 2, 1, 0]⟩ : ByteArray)), Value.string ((⟨#[0, 97, 115, 109, 1, 0, 0, 0]⟩ : ByteArray) ++ (⟨#[3, 2, 1, 0, 10, 4, 1, 2, 0, 11]⟩ : ByteArray)), Value.string ((⟨#[0, 97, 115, 109, 1, 0, 0, 0]⟩ : ByteArray) ++ (⟨#[3, 2, 1, 0, 10, 5, 1, 3, 0, 11, 1]⟩ : ByteArray)), Value.string ((⟨#[0, 97, 115, 109, 1, 0, 0, 0]⟩ : ByteArray) ++ (⟨#[3, 2, 1, 0, 10, 6, 1, 4, 1, 65, 127, 11]⟩ : ByteArray)), Value.string ((⟨#[0, 97, 115, 109, 1, 0, 0, 0]⟩ : ByteArray) ++ (⟨#[4, 4, 1, 112, 0, 1]⟩ : ByteArray)), Value.string ((⟨#[0, 97, 115, 109, 1, 0, 0, 0]⟩ : ByteArray) ++ (⟨#[4, 4, 1, 127, 0, 1]⟩ : ByteArray)), Value.string ((⟨#[0, 97, 115, 109, 1, 0, 0, 0]⟩ : ByteArray) ++ (⟨#[5, 3, 1, 0, 9]⟩ : ByteArray)), Value.string ((⟨#[0, 97, 115, 109, 1, 0, 0, 0]⟩ : ByteArray) ++ (⟨#[5, 3, 1, 2, 9]⟩ : ByteArray)), Value.string ((⟨#[0, 97, 115, 109, 1, 0, 0, 0]⟩ : ByteArray) ++ (⟨#[6, 6, 1, 127, 2, 65, 0, 11]⟩ : ByteArray)), Value.string ((⟨#[0, 97, 115, 109, 1, 0, 0, 0]⟩ : ByteArray) ++ (⟨#[6, 6, 1, 125, 0, 65, 0, 11]⟩ : ByteArray)), Value.string ((⟨#[0, 97, 115, 109, 1, 0, 0, 0]⟩ : ByteArray) ++ (⟨#[7, 5, 1, 1, 97, 4, 0]⟩ : ByteArray)), Value.string ((⟨#[0, 97, 115, 109, 1, 0, 0, 0]⟩ : ByteArray) ++ (⟨#[7, 5, 1, 1, 255, 0, 0]⟩ : ByteArray)), Value.string ((⟨#[0, 97, 115, 109, 1, 0, 0, 0]⟩ : ByteArray) ++ (⟨#[9, 7, 1, 0, 65, 0, 11, 1, 0]⟩ : ByteArray)), Value.string ((⟨#[0, 97, 115, 109, 1, 0, 0, 0]⟩ : ByteArray) ++ (⟨#[9, 4, 1, 1, 1, 0]⟩ : ByteArray)), Value.string ((⟨#[0, 97, 115, 109, 1, 0, 0, 0]⟩ : ByteArray) ++ (⟨#[9, 4, 1, 5, 127, 0]⟩ : ByteArray)), Value.string ((⟨#[0, 97, 115, 109, 1, 0, 0, 0]⟩ : ByteArray) ++ (⟨#[9, 2, 1, 8]⟩ : ByteArray)), Value.string ((⟨#[0, 97, 115, 109, 1, 0, 0, 0]⟩ : ByteArray) ++ (⟨#[11, 3, 1, 1, 0]⟩ : ByteArray)), Value.string ((⟨#[0, 97, 115, 109, 1, 0, 0, 0]⟩ : ByteArray) ++ (⟨#[11, 2, 1, 3]⟩ : ByteArray)), Value.string ((⟨#[0, 97, 115, 109, 1, 0, 0, 0]⟩ : ByteArray) ++ (⟨#[12, 1, 1]⟩ : ByteArray)), Value.string ((⟨#[0, 97, 115, 109, 1, 0, 0, 0]⟩ : ByteArray) ++ (⟨#[12, 1, 1, 11, 3, 1, 1, 0]⟩ : ByteArray)), Value.string ((⟨#[0, 97, 115, 109, 1, 0, 0, 0]⟩ : ByteArray) ++ (⟨#[8, 1, 5]⟩ : ByteArray))] : Array Value) from by kernel_rfl] at this
      exact this.later ((Below.refl _ _).alloc (Nat.le_refl _) _)
    · have hs : ∀ o, (w1.alloc o).heap.size = w1.heap.size + 1 := fun o => by simp
      rw [← hs]
      exact Own.new _ 37 (merr.map (Value.int .i64))
    · exact HB1.out.trans ((((Below.refl w1.heap.size w1).alloc (Nat.le_refl _) _).alloc (by simp) _).mono HB1.out.size)
  case round =>
    obtain ⟨k, hk, rfl, HX⟩ := hrel
    by_cases hlt : k < 25
    · obtain ⟨l, er, hl, he, hI, hn, hcode⟩ := mtab_ok k hlt
      have hc1 := HX.out.1.cell k
      have hc2 := HX.out.2.1.cell k
      rw [hl] at hc1
      rw [he] at hc2
      obtain ⟨cc, W, hconv, hrd, hbw, hcc1, hcc2⟩ := conv_bytes wr l hI (by omega)
      have hlt2 : (k : Int) < 25 := by omega
      have hss : ((strOfNums l).size : Int) = l.length := by rw [strOfNums_size]
      have hee : (er != er) = false := by simp
      have HW := Lib.hid (And.intro hrd (And.intro hbw (And.intro hcc1 (And.intro hcc2 hcode))))
      have HTW := Lib.hid (HT.out.later (HX.out.2.2.trans (hbw.mono HX.out.2.2.size)))
      clear hrd hbw hcc1 hcc2 hcode hl he hI
      generalize hll : l.length = ll at *
      have HLL := Lib.hid hll
      clear hll
      go_wp2_with fail
      refine (mtake_any _ l ll cc W HW.out.1 HLL.out.symm (by omega) HW.out.2.2.1 HW.out.2.2.2.1 HTW.out).mono ?_
      rintro e w3 ⟨m, rfl, -, -, hb3⟩
      rw [HW.out.2.2.2.2]
      obtain ⟨⟨ztA, ztc, ztl⟩, ⟨zfA, zfc, zfl⟩, ⟨zbA, zbc, zbl⟩, ⟨zmA, zmc, zml⟩, ⟨zgA, zgc, zgl⟩, ⟨zxA, zxc, zxl⟩, zst, zsn, ⟨zeA, zec, zel⟩, zkk, zkn, ⟨zcA, zcc, zcl⟩, ⟨zdA, zdc, zdl⟩⟩ := m
      simp only [MV.v, MV.cells, LV.v]
      have h13 : Below wr.heap.size wr w3 := HW.out.2.1.trans (hb3.mono HW.out.2.1.size)
      have h14 := h13.alloc h13.size (.cells #[.slice ztA ztl.length ztc, .slice zfA zfl.length zfc, .slice zbA zbl.length zbc, .slice zmA zml.length zmc, .slice zgA zgl.length zgc, .slice zxA zxl.length zxc, .bool zst, .int .u32 zsn, .slice zeA zel.length zec, .bool zkk, .int .u32 zkn, .slice zcA zcl.length zcc, .slice zdA zdl.length zdc] MODT)
      have HX3 := Lib.hid (And.intro (HX.out.1.later h14) (And.intro (HX.out.2.1.later h14) (HX.out.2.2.trans (h14.mono HX.out.2.2.size))))
      have hc3 : (w3.alloc (.cells #[.slice ztA ztl.length ztc, .slice zfA zfl.length zfc, .slice zbA zbl.length zbc, .slice zmA zml.length zmc, .slice zgA zgl.length zgc, .slice zxA zxl.length zxc, .bool zst, .int .u32 zsn, .slice zeA zel.length zec, .bool zkk, .int .u32 zkn, .slice zcA zcl.length zcc, .slice zdA zdl.length zdc] MODT)).cell? ⟨w1.heap.size + 1, k, none⟩ = some (.int .i64 er) := by rw [h14.cell (World.block_lt_of_cell? _ _ hc2)]; exact hc2
      clear hb3 h13 h14 hc1 hc2
      go_upto_region 10 with fail
      generalize w3.alloc (.cells #[.slice ztA ztl.length ztc, .slice zfA zfl.length zfc, .slice zbA zbl.length zbc, .slice zmA zml.length zmc, .slice zgA zgl.length zgc, .slice zxA zxl.length zxc, .bool zst, .int .u32 zsn, .slice zeA zel.length zec, .bool zkk, .int .u32 zkn, .slice zcA zcl.length zcc, .slice zdA zdl.length zdc] 36) = w4 at *
      go_wp2
      refine ⟨⟨k + 1, by omega, by go_num, HX3.out⟩, ?_⟩
      simp [intOf]; omega
    · obtain rfl : k = 25 := by omega
      have HBX := Lib.hid HX.out.2.2
      obtain ⟨ob, hmk, hzz⟩ := mk_zeros8 4097 (by omega) 4097 rfl
      have hbz := (Below.refl wr.heap.size wr).alloc (Nat.le_refl _) ob
      have hp : mtE (modP (List.replicate 4097 0)) = 4 := by unfold modP; rw [if_pos (by rw [List.length_replicate]; omega)]; rfl
      have HZ := Lib.hid (mtake_any (some ⟨wr.heap.size, 0, none⟩) (List.replicate 4097 0) 4097 4097 _ (hzz wr).rd (by rw [List.length_replicate]) (by omega) (by omega) (by decide) (HT.out.later (HBX.out.trans (hbz.mono HBX.out.size))))
      have HBZ := Lib.hid (HBX.out.trans (hbz.mono HBX.out.size))
      have HP := Lib.hid hp
      clear HX hzz hbz hp
      go_wp2_with fail
      refine HZ.out.mono ?_
      unfold MtPost
      rw [HP.out]
      rintro e w3 ⟨m, rfl, -, -, hb3⟩
      obtain ⟨⟨ztA, ztc, ztl⟩, ⟨zfA, zfc, zfl⟩, ⟨zbA, zbc, zbl⟩, ⟨zmA, zmc, zml⟩, ⟨zgA, zgc, zgl⟩, ⟨zxA, zxc, zxl⟩, zst, zsn, ⟨zeA, zec, zel⟩, zkk, zkn, ⟨zcA, zcc, zcl⟩, ⟨zdA, zdc, zdl⟩⟩ := m
      simp only [MV.v, MV.cells, LV.v]
      have HB3 := Lib.hid (HBZ.out.trans (hb3.mono HBZ.out.size))
      have HB4 := Lib.hid (HB3.out.alloc HB3.out.size (.cells #[.slice ztA ztl.length ztc, .slice zfA zfl.length zfc, .slice zbA zbl.length zbc, .slice zmA zml.length zmc, .slice zgA zgl.length zgc, .slice zxA zxl.length zxc, .bool zst, .int .u32 zsn, .slice zeA zel.length zec, .bool zkk, .int .u32 zkn, .slice zcA zcl.length zcc, .slice zdA zdl.length zdc] MODT))
      clear hb3 HZ
      go_wp2
      go_ret
      exact ⟨rfl, HB4.out⟩
end Go.Proofs.YtadgiekiiicmfaaGreatDoor
