/- mod.list: lists of parts. (Written by gen_ModList.py.) -/
import Derived.Test.YtadgiekiiicmfaaGreatDoorJoin13
namespace Go.Proofs.YtadgiekiiicmfaaGreatDoor
open Go.RowKit
set_option maxRecDepth 100000
set_option linter.unusedVariables false

/-- What mod.list tells: so many elements in a row of its own. -/
def LsPost {α β : Type} (K : El α) (e : TypeId) (abs : α → β) (p : PR (List β)) (most : Int) (g N : Nat) (s : St) (w : World) (en : Ending) (w' : World) : Prop :=
  ∃ v is s', en = .returned v ∧ OwnE K e (fun k => w.heap.size ≤ k ∧ v.ownBlock ≠ some k) w' w.heap.size v is ∧ RdrAt w' g SRC (N, []) s' ∧ KP p s (is.map abs) s' ∧ Chg (fun k => k = g) w w' ∧ (is.length : Int) ≤ most
theorem mU32P (g N : Nat) (s : St) (w : World) (h : RdrAt w g SRC (N, []) s) : Calls Tryz.prog 68 #[.pointer (some ⟨g, 0, none⟩)] w (PartPost K32 (Value.int .u32) id (pU 32) g SRC (N, []) s w) := by
  refine (mU32 g N s w h).mono ?_
  rintro e w' ⟨x, s', rfl, x0, x1, h1, h2, h3⟩
  exact ⟨x, s', rfl, ⟨x0, by omega⟩, h1, h2, h3⟩
theorem under_lsfn : Tryz.prog.underlying 25 = some (.slice 79) := Tryz.underlying25
theorem info_lsfn : (Tryz.prog.info? 79).map (fun i => (i.zero, i.size, i.bytes)) = some (some (.agg #[.slice none 0 0, .slice none 0 0]), (KFn).n, 48) := by kernel_rfl
set_option maxHeartbeats 2000000 in
theorem lsfn_any (g N : Nat) (s : St) (w : World) (h : RdrAt w g SRC (N, []) s) (most : Int) (m0 : 0 ≤ most) (m1 : most ≤ 1000) :
    Calls Tryz.prog 64 #[.pointer (some ⟨g, 0, none⟩), .int .u32 most, .func (.func 65) #[.pointer (some ⟨g, 0, none⟩)] #[]] w (LsPost KFn 79 FV.x (pLs most pFn) most g N s w) := by
  have HC := Lib.hid (mCount g N s w h most m0 (by omega))
  have hgw := h.lt
  clear h
  go_enter Tryz.func64, Tryz.ntmps64
  go_wp2_with fail
  refine HC.out.mono ?_
  rintro e w1 ⟨x, s1, rfl, x0, x1, h1, h2, h3⟩
  obtain ⟨n, rfl⟩ : ∃ n : Nat, x = n := ⟨x.toNat, by omega⟩
  have H1 := Lib.hid (And.intro h1 (And.intro h2 h3))
  clear h1 h2 h3 HC
  go_wp2
  go_loopw [6, 12] (fun v i wr => ∃ (is : List _) (k : Nat) (sk : St), k ≤ n ∧ i = .int .i64 k ∧ Hid (is.length = k) ∧ Hid (RdrAt wr g SRC (N, []) sk ∧ OwnE KFn 79 (fun j => w.heap.size ≤ j ∧ v.ownBlock ≠ some j) wr w.heap.size v is ∧ KP (pRep pFn k) s1 (is.map FV.x) sk ∧ Chg (fun j => j = g) w wr)) (fun _ i _ => n - (intOf i).toNat)
  case atStart => exact ⟨[], 0, s1, by omega, rfl, rfl, H1.out.1, OwnE.nil _ _ _ _ _, pRep_zero _ _, H1.out.2.2⟩
  case round =>
    obtain ⟨is, k, sk, hk, rfl, HK, HX⟩ := hrel
    obtain ⟨Av, kv, hv, hkv, hkm, -⟩ := RdV.of_own HX.out.2.1.1
    subst hv
    have hz := HX.out.2.2.2.size
    clear hkv hkm
    generalize hq : is.length = q at *
    have HQ := Lib.hid hq
    clear hq
    by_cases hlt : k < n
    · have hlt2 : (k : Int) < n := by omega
      have hw1 : IntKind.i64.wrap ((k : Int) + 1) = (k : Int) + 1 := by rw [IntKind.wrap_i64]; omega
      have HN := Lib.hid (mfn_any g N sk wr HX.out.1)
      go_wp2_with fail
      refine HN.out.mono ?_
      rintro e w3 ⟨a, s', rfl, p1, p2, p3, p4⟩
      have hz3 := p4.size
      have H3 : Hid (OwnE KFn 79 (fun j => w.heap.size ≤ j ∧ (Value.slice Av q kv).ownBlock ≠ some j) w3 w.heap.size (.slice Av q kv) is ∧ (KFn).ok (fun j => w.heap.size ≤ j ∧ (Value.slice Av q kv).ownBlock ≠ some j) w3 a) := by
        refine ⟨HX.out.2.1.chg p4 (fun j _ hj e => by have := hj.1; omega) fun j hj e => by have := owns_ge HX.out.2.1.1 hj; omega, (KFn).mono p1 fun j _ hj => ⟨by omega, fun e => by have := owns_lt HX.out.2.1.1 e; omega⟩⟩
      have H4 := Lib.hid (And.intro p2 (And.intro p3 p4))
      clear p1 p2 p3 p4 HN
      obtain ⟨l1, A1, c1, l2, A2, c2⟩ := a
      simp only [FV.v] at *
      generalize hn1 : l1.length = n1 at *
      generalize hn2 : l2.length = n2 at *
      have HN1 := Lib.hid hn1
      have HN2 := Lib.hid hn2
      clear hn1 hn2
      go_wp2_with (at_builtin; refine wpList_appE1 (K := KFn) under_lsfn info_lsfn rfl (by omega) rfl (.tmp 14) (.tmp 17) rfl w.heap.size (.slice Av q kv) is rfl H3.out.1 ⟨l1, A1, c1, l2, A2, c2⟩ #[.slice A1 n1 c1, .slice A2 n2 c2] (by obtain rfl := HN1.out; obtain rfl := HN2.out; rfl) H3.out.2 rfl (by have := HQ.out; have := HK.out; omega) (by omega) ?_; intro v1 w4 hv1 hw1'; have HV := Lib.hid (And.intro hv1 hw1'); clear hv1 hw1')
      refine ⟨⟨is ++ [⟨l1, A1, c1, l2, A2, c2⟩], k + 1, s', by omega, rfl, ?_, ?_⟩, ?_⟩
      · have := HK.out; have := HQ.out; show (is ++ [_]).length = k + 1; rw [List.length_append, List.length_singleton]; omega
      · have y1 := HV.out.1
        have y2 := HV.out.2
        refine ⟨H4.out.1.chg y2.1 fun j hj e => by have := owns_ge H3.out.1.1 e; omega, y1.mono (fun j _ hj => ⟨hj.1.1, fun e => y1.2.2 j e hj⟩) (fun j hj e => e.2 hj), ?_, (HX.out.2.2.2.trans H4.out.2.2 fun j _ e => e).trans y2.1 fun j hj e => by have := owns_ge H3.out.1.1 e; omega⟩
        rw [List.map_append]
        exact pRep_step HX.out.2.2.1 H4.out.2.1
      · simp [intOf]; omega
    · obtain rfl : k = n := by omega
      have hnl : ¬ (k : Int) < k := by omega
      go_wp2
      go_ret
      refine ⟨_, is, sk, rfl, HX.out.2.1, HX.out.1, ?_, HX.out.2.2.2, by have := HK.out; have := HQ.out; omega⟩
      exact H1.out.2.1.then (by rw [Int.toNat_natCast]; exact HX.out.2.2.1)
theorem under_lsu : Tryz.prog.underlying 26 = some (.slice 31) := Tryz.underlying26
theorem info_lsu : (Tryz.prog.info? 31).map (fun i => (i.zero, i.size, i.bytes)) = some (some (.int .u32 0), (K32).n, 4) := by kernel_rfl
set_option maxHeartbeats 2000000 in
theorem lsu_any (g N : Nat) (s : St) (w : World) (h : RdrAt w g SRC (N, []) s) (most : Int) (m0 : 0 ≤ most) (m1 : most ≤ 1000) :
    Calls Tryz.prog 67 #[.pointer (some ⟨g, 0, none⟩), .int .u32 most, .func (.func 68) #[.pointer (some ⟨g, 0, none⟩)] #[]] w (LsPost K32 31 id (pLs most (pU 32)) most g N s w) := by
  have HC := Lib.hid (mCount g N s w h most m0 (by omega))
  have hgw := h.lt
  clear h
  go_enter Tryz.func67, Tryz.ntmps67
  go_wp2_with fail
  refine HC.out.mono ?_
  rintro e w1 ⟨x, s1, rfl, x0, x1, h1, h2, h3⟩
  obtain ⟨n, rfl⟩ : ∃ n : Nat, x = n := ⟨x.toNat, by omega⟩
  have H1 := Lib.hid (And.intro h1 (And.intro h2 h3))
  clear h1 h2 h3 HC
  go_wp2
  go_loopw [6, 12] (fun v i wr => ∃ (is : List _) (k : Nat) (sk : St), k ≤ n ∧ i = .int .i64 k ∧ Hid (is.length = k) ∧ Hid (RdrAt wr g SRC (N, []) sk ∧ OwnE K32 31 (fun j => w.heap.size ≤ j ∧ v.ownBlock ≠ some j) wr w.heap.size v is ∧ KP (pRep (pU 32) k) s1 (is.map id) sk ∧ Chg (fun j => j = g) w wr)) (fun _ i _ => n - (intOf i).toNat)
  case atStart => exact ⟨[], 0, s1, by omega, rfl, rfl, H1.out.1, OwnE.nil _ _ _ _ _, pRep_zero _ _, H1.out.2.2⟩
  case round =>
    obtain ⟨is, k, sk, hk, rfl, HK, HX⟩ := hrel
    obtain ⟨Av, kv, hv, hkv, hkm, -⟩ := RdV.of_own HX.out.2.1.1
    subst hv
    have hz := HX.out.2.2.2.size
    clear hkv hkm
    generalize hq : is.length = q at *
    have HQ := Lib.hid hq
    clear hq
    by_cases hlt : k < n
    · have hlt2 : (k : Int) < n := by omega
      have hw1 : IntKind.i64.wrap ((k : Int) + 1) = (k : Int) + 1 := by rw [IntKind.wrap_i64]; omega
      have HN := Lib.hid (mU32P g N sk wr HX.out.1)
      go_wp2_with fail
      refine HN.out.mono ?_
      rintro e w3 ⟨a, s', rfl, p1, p2, p3, p4⟩
      have hz3 := p4.size
      have H3 : Hid (OwnE K32 31 (fun j => w.heap.size ≤ j ∧ (Value.slice Av q kv).ownBlock ≠ some j) w3 w.heap.size (.slice Av q kv) is ∧ (K32).ok (fun j => w.heap.size ≤ j ∧ (Value.slice Av q kv).ownBlock ≠ some j) w3 a) := by
        refine ⟨HX.out.2.1.chg p4 (fun j _ hj e => by have := hj.1; omega) fun j hj e => by have := owns_ge HX.out.2.1.1 hj; omega, (K32).mono p1 fun j _ hj => ⟨by omega, fun e => by have := owns_lt HX.out.2.1.1 e; omega⟩⟩
      have H4 := Lib.hid (And.intro p2 (And.intro p3 p4))
      clear p1 p2 p3 p4 HN
      skip
      go_wp2_with (at_builtin; refine wpList_appE1 (K := K32) under_lsu info_lsu rfl (by omega) rfl (.tmp 14) (.tmp 17) rfl w.heap.size (.slice Av q kv) is rfl H3.out.1 a #[.int .u32 a] rfl H3.out.2 rfl (by have := HQ.out; have := HK.out; omega) (by omega) ?_; intro v1 w4 hv1 hw1'; have HV := Lib.hid (And.intro hv1 hw1'); clear hv1 hw1')
      refine ⟨⟨is ++ [a], k + 1, s', by omega, rfl, ?_, ?_⟩, ?_⟩
      · have := HK.out; have := HQ.out; show (is ++ [_]).length = k + 1; rw [List.length_append, List.length_singleton]; omega
      · have y1 := HV.out.1
        have y2 := HV.out.2
        refine ⟨H4.out.1.chg y2.1 fun j hj e => by have := owns_ge H3.out.1.1 e; omega, y1.mono (fun j _ hj => ⟨hj.1.1, fun e => y1.2.2 j e hj⟩) (fun j hj e => e.2 hj), ?_, (HX.out.2.2.2.trans H4.out.2.2 fun j _ e => e).trans y2.1 fun j hj e => by have := owns_ge H3.out.1.1 e; omega⟩
        rw [List.map_append]
        exact pRep_step HX.out.2.2.1 H4.out.2.1
      · simp [intOf]; omega
    · obtain rfl : k = n := by omega
      have hnl : ¬ (k : Int) < k := by omega
      go_wp2
      go_ret
      refine ⟨_, is, sk, rfl, HX.out.2.1, HX.out.1, ?_, HX.out.2.2.2, by have := HK.out; have := HQ.out; omega⟩
      exact H1.out.2.1.then (by rw [Int.toNat_natCast]; exact HX.out.2.2.1)
theorem under_lslim : Tryz.prog.underlying 28 = some (.slice 82) := Tryz.underlying28
theorem info_lslim : (Tryz.prog.info? 82).map (fun i => (i.zero, i.size, i.bytes)) = some (some (.agg #[.int .u32 0, .int .u32 0, .bool false]), (KLim).n, 12) := by kernel_rfl
set_option maxHeartbeats 2000000 in
theorem lslim_any (g N : Nat) (s : St) (w : World) (h : RdrAt w g SRC (N, []) s) (most : Int) (m0 : 0 ≤ most) (m1 : most ≤ 1000) :
    Calls Tryz.prog 71 #[.pointer (some ⟨g, 0, none⟩), .int .u32 most, .func (.func 72) #[.pointer (some ⟨g, 0, none⟩)] #[]] w (LsPost KLim 82 id (pLs most pLim) most g N s w) := by
  have HC := Lib.hid (mCount g N s w h most m0 (by omega))
  have hgw := h.lt
  clear h
  go_enter Tryz.func71, Tryz.ntmps71
  go_wp2_with fail
  refine HC.out.mono ?_
  rintro e w1 ⟨x, s1, rfl, x0, x1, h1, h2, h3⟩
  obtain ⟨n, rfl⟩ : ∃ n : Nat, x = n := ⟨x.toNat, by omega⟩
  have H1 := Lib.hid (And.intro h1 (And.intro h2 h3))
  clear h1 h2 h3 HC
  go_wp2
  go_loopw [6, 12] (fun v i wr => ∃ (is : List _) (k : Nat) (sk : St), k ≤ n ∧ i = .int .i64 k ∧ Hid (is.length = k) ∧ Hid (RdrAt wr g SRC (N, []) sk ∧ OwnE KLim 82 (fun j => w.heap.size ≤ j ∧ v.ownBlock ≠ some j) wr w.heap.size v is ∧ KP (pRep pLim k) s1 (is.map id) sk ∧ Chg (fun j => j = g) w wr)) (fun _ i _ => n - (intOf i).toNat)
  case atStart => exact ⟨[], 0, s1, by omega, rfl, rfl, H1.out.1, OwnE.nil _ _ _ _ _, pRep_zero _ _, H1.out.2.2⟩
  case round =>
    obtain ⟨is, k, sk, hk, rfl, HK, HX⟩ := hrel
    obtain ⟨Av, kv, hv, hkv, hkm, -⟩ := RdV.of_own HX.out.2.1.1
    subst hv
    have hz := HX.out.2.2.2.size
    clear hkv hkm
    generalize hq : is.length = q at *
    have HQ := Lib.hid hq
    clear hq
    by_cases hlt : k < n
    · have hlt2 : (k : Int) < n := by omega
      have hw1 : IntKind.i64.wrap ((k : Int) + 1) = (k : Int) + 1 := by rw [IntKind.wrap_i64]; omega
      have HN := Lib.hid (mlim_any g N sk wr HX.out.1)
      go_wp2_with fail
      refine HN.out.mono ?_
      rintro e w3 ⟨a, s', rfl, p1, p2, p3, p4⟩
      have hz3 := p4.size
      have H3 : Hid (OwnE KLim 82 (fun j => w.heap.size ≤ j ∧ (Value.slice Av q kv).ownBlock ≠ some j) w3 w.heap.size (.slice Av q kv) is ∧ (KLim).ok (fun j => w.heap.size ≤ j ∧ (Value.slice Av q kv).ownBlock ≠ some j) w3 a) := by
        refine ⟨HX.out.2.1.chg p4 (fun j _ hj e => by have := hj.1; omega) fun j hj e => by have := owns_ge HX.out.2.1.1 hj; omega, (KLim).mono p1 fun j _ hj => ⟨by omega, fun e => by have := owns_lt HX.out.2.1.1 e; omega⟩⟩
      have H4 := Lib.hid (And.intro p2 (And.intro p3 p4))
      clear p1 p2 p3 p4 HN
      obtain ⟨y1, y2, y3⟩ := a
      simp only [limV] at *
      go_wp2_with (at_builtin; refine wpList_appE1 (K := KLim) under_lslim info_lslim rfl (by omega) rfl (.tmp 14) (.tmp 17) rfl w.heap.size (.slice Av q kv) is rfl H3.out.1 ⟨y1, y2, y3⟩ #[.int .u32 y1, .int .u32 y2, .bool y3] rfl H3.out.2 rfl (by have := HQ.out; have := HK.out; omega) (by omega) ?_; intro v1 w4 hv1 hw1'; have HV := Lib.hid (And.intro hv1 hw1'); clear hv1 hw1')
      refine ⟨⟨is ++ [⟨y1, y2, y3⟩], k + 1, s', by omega, rfl, ?_, ?_⟩, ?_⟩
      · have := HK.out; have := HQ.out; show (is ++ [_]).length = k + 1; rw [List.length_append, List.length_singleton]; omega
      · have y1 := HV.out.1
        have y2 := HV.out.2
        refine ⟨H4.out.1.chg y2.1 fun j hj e => by have := owns_ge H3.out.1.1 e; omega, y1.mono (fun j _ hj => ⟨hj.1.1, fun e => y1.2.2 j e hj⟩) (fun j hj e => e.2 hj), ?_, (HX.out.2.2.2.trans H4.out.2.2 fun j _ e => e).trans y2.1 fun j hj e => by have := owns_ge H3.out.1.1 e; omega⟩
        rw [List.map_append]
        exact pRep_step HX.out.2.2.1 H4.out.2.1
      · simp [intOf]; omega
    · obtain rfl : k = n := by omega
      have hnl : ¬ (k : Int) < k := by omega
      go_wp2
      go_ret
      refine ⟨_, is, sk, rfl, HX.out.2.1, HX.out.1, ?_, HX.out.2.2.2, by have := HK.out; have := HQ.out; omega⟩
      exact H1.out.2.1.then (by rw [Int.toNat_natCast]; exact HX.out.2.2.1)
theorem under_lstab : Tryz.prog.underlying 27 = some (.slice 84) := Tryz.underlying27
theorem info_lstab : (Tryz.prog.info? 84).map (fun i => (i.zero, i.size, i.bytes)) = some (some (.agg #[.int .u8 0, .int .u32 0, .int .u32 0, .bool false]), (KTab).n, 16) := by kernel_rfl
set_option maxHeartbeats 2000000 in
theorem lstab_any (g N : Nat) (s : St) (w : World) (h : RdrAt w g SRC (N, []) s) (most : Int) (m0 : 0 ≤ most) (m1 : most ≤ 1000) :
    Calls Tryz.prog 69 #[.pointer (some ⟨g, 0, none⟩), .int .u32 most, .func (.func 70) #[.pointer (some ⟨g, 0, none⟩)] #[]] w (LsPost KTab 84 id (pLs most pTab) most g N s w) := by
  have HC := Lib.hid (mCount g N s w h most m0 (by omega))
  have hgw := h.lt
  clear h
  go_enter Tryz.func69, Tryz.ntmps69
  go_wp2_with fail
  refine HC.out.mono ?_
  rintro e w1 ⟨x, s1, rfl, x0, x1, h1, h2, h3⟩
  obtain ⟨n, rfl⟩ : ∃ n : Nat, x = n := ⟨x.toNat, by omega⟩
  have H1 := Lib.hid (And.intro h1 (And.intro h2 h3))
  clear h1 h2 h3 HC
  go_wp2
  go_loopw [6, 12] (fun v i wr => ∃ (is : List _) (k : Nat) (sk : St), k ≤ n ∧ i = .int .i64 k ∧ Hid (is.length = k) ∧ Hid (RdrAt wr g SRC (N, []) sk ∧ OwnE KTab 84 (fun j => w.heap.size ≤ j ∧ v.ownBlock ≠ some j) wr w.heap.size v is ∧ KP (pRep pTab k) s1 (is.map id) sk ∧ Chg (fun j => j = g) w wr)) (fun _ i _ => n - (intOf i).toNat)
  case atStart => exact ⟨[], 0, s1, by omega, rfl, rfl, H1.out.1, OwnE.nil _ _ _ _ _, pRep_zero _ _, H1.out.2.2⟩
  case round =>
    obtain ⟨is, k, sk, hk, rfl, HK, HX⟩ := hrel
    obtain ⟨Av, kv, hv, hkv, hkm, -⟩ := RdV.of_own HX.out.2.1.1
    subst hv
    have hz := HX.out.2.2.2.size
    clear hkv hkm
    generalize hq : is.length = q at *
    have HQ := Lib.hid hq
    clear hq
    by_cases hlt : k < n
    · have hlt2 : (k : Int) < n := by omega
      have hw1 : IntKind.i64.wrap ((k : Int) + 1) = (k : Int) + 1 := by rw [IntKind.wrap_i64]; omega
      have HN := Lib.hid (mtab_any g N sk wr HX.out.1)
      go_wp2_with fail
      refine HN.out.mono ?_
      rintro e w3 ⟨a, s', rfl, p1, p2, p3, p4⟩
      have hz3 := p4.size
      have H3 : Hid (OwnE KTab 84 (fun j => w.heap.size ≤ j ∧ (Value.slice Av q kv).ownBlock ≠ some j) w3 w.heap.size (.slice Av q kv) is ∧ (KTab).ok (fun j => w.heap.size ≤ j ∧ (Value.slice Av q kv).ownBlock ≠ some j) w3 a) := by
        refine ⟨HX.out.2.1.chg p4 (fun j _ hj e => by have := hj.1; omega) fun j hj e => by have := owns_ge HX.out.2.1.1 hj; omega, (KTab).mono p1 fun j _ hj => ⟨by omega, fun e => by have := owns_lt HX.out.2.1.1 e; omega⟩⟩
      have H4 := Lib.hid (And.intro p2 (And.intro p3 p4))
      clear p1 p2 p3 p4 HN
      obtain ⟨ty, y1, y2, y3⟩ := a
      simp only [tabV] at *
      go_wp2_with (at_builtin; refine wpList_appE1 (K := KTab) under_lstab info_lstab rfl (by omega) rfl (.tmp 14) (.tmp 17) rfl w.heap.size (.slice Av q kv) is rfl H3.out.1 (ty, ⟨y1, y2, y3⟩) #[.int .u8 ty, .int .u32 y1, .int .u32 y2, .bool y3] rfl H3.out.2 rfl (by have := HQ.out; have := HK.out; omega) (by omega) ?_; intro v1 w4 hv1 hw1'; have HV := Lib.hid (And.intro hv1 hw1'); clear hv1 hw1')
      refine ⟨⟨is ++ [(ty, ⟨y1, y2, y3⟩)], k + 1, s', by omega, rfl, ?_, ?_⟩, ?_⟩
      · have := HK.out; have := HQ.out; show (is ++ [_]).length = k + 1; rw [List.length_append, List.length_singleton]; omega
      · have y1 := HV.out.1
        have y2 := HV.out.2
        refine ⟨H4.out.1.chg y2.1 fun j hj e => by have := owns_ge H3.out.1.1 e; omega, y1.mono (fun j _ hj => ⟨hj.1.1, fun e => y1.2.2 j e hj⟩) (fun j hj e => e.2 hj), ?_, (HX.out.2.2.2.trans H4.out.2.2 fun j _ e => e).trans y2.1 fun j hj e => by have := owns_ge H3.out.1.1 e; omega⟩
        rw [List.map_append]
        exact pRep_step HX.out.2.2.1 H4.out.2.1
      · simp [intOf]; omega
    · obtain rfl : k = n := by omega
      have hnl : ¬ (k : Int) < k := by omega
      go_wp2
      go_ret
      refine ⟨_, is, sk, rfl, HX.out.2.1, HX.out.1, ?_, HX.out.2.2.2, by have := HK.out; have := HQ.out; omega⟩
      exact H1.out.2.1.then (by rw [Int.toNat_natCast]; exact HX.out.2.2.1)
theorem under_lsglob : Tryz.prog.underlying 29 = some (.slice 86) := Tryz.underlying29
theorem info_lsglob : (Tryz.prog.info? 86).map (fun i => (i.zero, i.size, i.bytes)) = some (some (.agg #[.int .u8 0, .bool false, .slice none 0 0]), (KGl).n, 32) := by kernel_rfl
set_option maxHeartbeats 2000000 in
theorem lsglob_any (g N : Nat) (s : St) (w : World) (h : RdrAt w g SRC (N, []) s) (most : Int) (m0 : 0 ≤ most) (m1 : most ≤ 1000) :
    Calls Tryz.prog 73 #[.pointer (some ⟨g, 0, none⟩), .int .u32 most, .func (.func 74) #[.pointer (some ⟨g, 0, none⟩)] #[]] w (LsPost KGl 86 GV.x (pLs most pGlob) most g N s w) := by
  have HC := Lib.hid (mCount g N s w h most m0 (by omega))
  have hgw := h.lt
  clear h
  go_enter Tryz.func73, Tryz.ntmps73
  go_wp2_with fail
  refine HC.out.mono ?_
  rintro e w1 ⟨x, s1, rfl, x0, x1, h1, h2, h3⟩
  obtain ⟨n, rfl⟩ : ∃ n : Nat, x = n := ⟨x.toNat, by omega⟩
  have H1 := Lib.hid (And.intro h1 (And.intro h2 h3))
  clear h1 h2 h3 HC
  go_wp2
  go_loopw [6, 12] (fun v i wr => ∃ (is : List _) (k : Nat) (sk : St), k ≤ n ∧ i = .int .i64 k ∧ Hid (is.length = k) ∧ Hid (RdrAt wr g SRC (N, []) sk ∧ OwnE KGl 86 (fun j => w.heap.size ≤ j ∧ v.ownBlock ≠ some j) wr w.heap.size v is ∧ KP (pRep pGlob k) s1 (is.map GV.x) sk ∧ Chg (fun j => j = g) w wr)) (fun _ i _ => n - (intOf i).toNat)
  case atStart => exact ⟨[], 0, s1, by omega, rfl, rfl, H1.out.1, OwnE.nil _ _ _ _ _, pRep_zero _ _, H1.out.2.2⟩
  case round =>
    obtain ⟨is, k, sk, hk, rfl, HK, HX⟩ := hrel
    obtain ⟨Av, kv, hv, hkv, hkm, -⟩ := RdV.of_own HX.out.2.1.1
    subst hv
    have hz := HX.out.2.2.2.size
    clear hkv hkm
    generalize hq : is.length = q at *
    have HQ := Lib.hid hq
    clear hq
    by_cases hlt : k < n
    · have hlt2 : (k : Int) < n := by omega
      have hw1 : IntKind.i64.wrap ((k : Int) + 1) = (k : Int) + 1 := by rw [IntKind.wrap_i64]; omega
      have HN := Lib.hid (mglob_any g N sk wr HX.out.1)
      go_wp2_with fail
      refine HN.out.mono ?_
      rintro e w3 ⟨a, s', rfl, p1, p2, p3, p4⟩
      have hz3 := p4.size
      have H3 : Hid (OwnE KGl 86 (fun j => w.heap.size ≤ j ∧ (Value.slice Av q kv).ownBlock ≠ some j) w3 w.heap.size (.slice Av q kv) is ∧ (KGl).ok (fun j => w.heap.size ≤ j ∧ (Value.slice Av q kv).ownBlock ≠ some j) w3 a) := by
        refine ⟨HX.out.2.1.chg p4 (fun j _ hj e => by have := hj.1; omega) fun j hj e => by have := owns_ge HX.out.2.1.1 hj; omega, (KGl).mono p1 fun j _ hj => ⟨by omega, fun e => by have := owns_lt HX.out.2.1.1 e; omega⟩⟩
      have H4 := Lib.hid (And.intro p2 (And.intro p3 p4))
      clear p1 p2 p3 p4 HN
      obtain ⟨ty, mu, isb, Ab, cb⟩ := a
      simp only [GV.v, BV.v] at *
      generalize hqb : isb.length = qb at *
      have HQB := Lib.hid hqb
      clear hqb
      go_wp2_with (at_builtin; refine wpList_appE1 (K := KGl) under_lsglob info_lsglob rfl (by omega) rfl (.tmp 14) (.tmp 17) rfl w.heap.size (.slice Av q kv) is rfl H3.out.1 ⟨ty, mu, isb, Ab, cb⟩ #[.int .u8 ty, .bool mu, .slice Ab qb cb] (by obtain rfl := HQB.out; rfl) H3.out.2 rfl (by have := HQ.out; have := HK.out; omega) (by omega) ?_; intro v1 w4 hv1 hw1'; have HV := Lib.hid (And.intro hv1 hw1'); clear hv1 hw1')
      refine ⟨⟨is ++ [⟨ty, mu, isb, Ab, cb⟩], k + 1, s', by omega, rfl, ?_, ?_⟩, ?_⟩
      · have := HK.out; have := HQ.out; show (is ++ [_]).length = k + 1; rw [List.length_append, List.length_singleton]; omega
      · have y1 := HV.out.1
        have y2 := HV.out.2
        refine ⟨H4.out.1.chg y2.1 fun j hj e => by have := owns_ge H3.out.1.1 e; omega, y1.mono (fun j _ hj => ⟨hj.1.1, fun e => y1.2.2 j e hj⟩) (fun j hj e => e.2 hj), ?_, (HX.out.2.2.2.trans H4.out.2.2 fun j _ e => e).trans y2.1 fun j hj e => by have := owns_ge H3.out.1.1 e; omega⟩
        rw [List.map_append]
        exact pRep_step HX.out.2.2.1 H4.out.2.1
      · simp [intOf]; omega
    · obtain rfl : k = n := by omega
      have hnl : ¬ (k : Int) < k := by omega
      go_wp2
      go_ret
      refine ⟨_, is, sk, rfl, HX.out.2.1, HX.out.1, ?_, HX.out.2.2.2, by have := HK.out; have := HQ.out; omega⟩
      exact H1.out.2.1.then (by rw [Int.toNat_natCast]; exact HX.out.2.2.1)
theorem under_lsexp : Tryz.prog.underlying 30 = some (.slice 88) := Tryz.underlying30
theorem info_lsexp : (Tryz.prog.info? 88).map (fun i => (i.zero, i.size, i.bytes)) = some (some (.agg #[.string ⟨#[]⟩, .int .u8 0, .int .u32 0]), (KEx).n, 24) := by kernel_rfl
set_option maxHeartbeats 2000000 in
theorem lsexp_any (g N : Nat) (s : St) (w : World) (h : RdrAt w g SRC (N, []) s) (most : Int) (m0 : 0 ≤ most) (m1 : most ≤ 1000) (hTb : Tabs w) (hg : 1 < g) :
    Calls Tryz.prog 75 #[.pointer (some ⟨g, 0, none⟩), .int .u32 most, .func (.func 76) #[.pointer (some ⟨g, 0, none⟩)] #[]] w (LsPost KEx 88 id (pLs most pExp) most g N s w) := by
  have HC := Lib.hid (mCount g N s w h most m0 (by omega))
  have hgw := h.lt
  have HTb := Lib.hid hTb
  clear hTb
  clear h
  go_enter Tryz.func75, Tryz.ntmps75
  go_wp2_with fail
  refine HC.out.mono ?_
  rintro e w1 ⟨x, s1, rfl, x0, x1, h1, h2, h3⟩
  obtain ⟨n, rfl⟩ : ∃ n : Nat, x = n := ⟨x.toNat, by omega⟩
  have H1 := Lib.hid (And.intro h1 (And.intro h2 h3))
  clear h1 h2 h3 HC
  go_wp2
  go_loopw [6, 12] (fun v i wr => ∃ (is : List _) (k : Nat) (sk : St), k ≤ n ∧ i = .int .i64 k ∧ Hid (is.length = k) ∧ Hid (RdrAt wr g SRC (N, []) sk ∧ OwnE KEx 88 (fun j => w.heap.size ≤ j ∧ v.ownBlock ≠ some j) wr w.heap.size v is ∧ KP (pRep pExp k) s1 (is.map id) sk ∧ Chg (fun j => j = g) w wr)) (fun _ i _ => n - (intOf i).toNat)
  case atStart => exact ⟨[], 0, s1, by omega, rfl, rfl, H1.out.1, OwnE.nil _ _ _ _ _, pRep_zero _ _, H1.out.2.2⟩
  case round =>
    obtain ⟨is, k, sk, hk, rfl, HK, HX⟩ := hrel
    obtain ⟨Av, kv, hv, hkv, hkm, -⟩ := RdV.of_own HX.out.2.1.1
    subst hv
    have hz := HX.out.2.2.2.size
    clear hkv hkm
    generalize hq : is.length = q at *
    have HQ := Lib.hid hq
    clear hq
    by_cases hlt : k < n
    · have hlt2 : (k : Int) < n := by omega
      have hw1 : IntKind.i64.wrap ((k : Int) + 1) = (k : Int) + 1 := by rw [IntKind.wrap_i64]; omega
      have HN := Lib.hid (mexp_any g N sk wr HX.out.1 (HTb.out.chg HX.out.2.2.2 fun k hk e => by omega) hg)
      go_wp2_with fail
      refine HN.out.mono ?_
      rintro e w3 ⟨a, s', rfl, p1, p2, p3, p4⟩
      have hz3 := p4.size
      have H3 : Hid (OwnE KEx 88 (fun j => w.heap.size ≤ j ∧ (Value.slice Av q kv).ownBlock ≠ some j) w3 w.heap.size (.slice Av q kv) is ∧ (KEx).ok (fun j => w.heap.size ≤ j ∧ (Value.slice Av q kv).ownBlock ≠ some j) w3 a) := by
        refine ⟨HX.out.2.1.chg p4 (fun j _ hj e => by have := hj.1; omega) fun j hj e => by have := owns_ge HX.out.2.1.1 hj; omega, (KEx).mono p1 fun j _ hj => ⟨by omega, fun e => by have := owns_lt HX.out.2.1.1 e; omega⟩⟩
      have H4 := Lib.hid (And.intro p2 (And.intro p3 p4))
      clear p1 p2 p3 p4 HN
      obtain ⟨nm, kd, ix⟩ := a
      simp only [expV] at *
      go_wp2_with (at_builtin; refine wpList_appE1 (K := KEx) under_lsexp info_lsexp rfl (by omega) rfl (.tmp 14) (.tmp 17) rfl w.heap.size (.slice Av q kv) is rfl H3.out.1 (nm, kd, ix) #[.string (strOfNums nm), .int .u8 kd, .int .u32 ix] rfl H3.out.2 rfl (by have := HQ.out; have := HK.out; omega) (by omega) ?_; intro v1 w4 hv1 hw1'; have HV := Lib.hid (And.intro hv1 hw1'); clear hv1 hw1')
      refine ⟨⟨is ++ [(nm, kd, ix)], k + 1, s', by omega, rfl, ?_, ?_⟩, ?_⟩
      · have := HK.out; have := HQ.out; show (is ++ [_]).length = k + 1; rw [List.length_append, List.length_singleton]; omega
      · have y1 := HV.out.1
        have y2 := HV.out.2
        refine ⟨H4.out.1.chg y2.1 fun j hj e => by have := owns_ge H3.out.1.1 e; omega, y1.mono (fun j _ hj => ⟨hj.1.1, fun e => y1.2.2 j e hj⟩) (fun j hj e => e.2 hj), ?_, (HX.out.2.2.2.trans H4.out.2.2 fun j _ e => e).trans y2.1 fun j hj e => by have := owns_ge H3.out.1.1 e; omega⟩
        rw [List.map_append]
        exact pRep_step HX.out.2.2.1 H4.out.2.1
      · simp [intOf]; omega
    · obtain rfl : k = n := by omega
      have hnl : ¬ (k : Int) < k := by omega
      go_wp2
      go_ret
      refine ⟨_, is, sk, rfl, HX.out.2.1, HX.out.1, ?_, HX.out.2.2.2, by have := HK.out; have := HQ.out; omega⟩
      exact H1.out.2.1.then (by rw [Int.toNat_natCast]; exact HX.out.2.2.1)
theorem under_lsdata : Tryz.prog.underlying 34 = some (.slice 106) := Tryz.underlying34
theorem info_lsdata : (Tryz.prog.info? 106).map (fun i => (i.zero, i.size, i.bytes)) = some (some (.agg #[.int .u8 0, .slice none 0 0, .slice none 0 0]), (KDt).n, 56) := by kernel_rfl
set_option maxHeartbeats 2000000 in
theorem lsdata_any (g N : Nat) (s : St) (w : World) (h : RdrAt w g SRC (N, []) s) (most : Int) (m0 : 0 ≤ most) (m1 : most ≤ 1000) :
    Calls Tryz.prog 81 #[.pointer (some ⟨g, 0, none⟩), .int .u32 most, .func (.func 82) #[.pointer (some ⟨g, 0, none⟩)] #[]] w (LsPost KDt 106 DV.x (pLs most pData) most g N s w) := by
  have HC := Lib.hid (mCount g N s w h most m0 (by omega))
  have hgw := h.lt
  clear h
  go_enter Tryz.func81, Tryz.ntmps81
  go_wp2_with fail
  refine HC.out.mono ?_
  rintro e w1 ⟨x, s1, rfl, x0, x1, h1, h2, h3⟩
  obtain ⟨n, rfl⟩ : ∃ n : Nat, x = n := ⟨x.toNat, by omega⟩
  have H1 := Lib.hid (And.intro h1 (And.intro h2 h3))
  clear h1 h2 h3 HC
  go_wp2
  go_loopw [6, 12] (fun v i wr => ∃ (is : List _) (k : Nat) (sk : St), k ≤ n ∧ i = .int .i64 k ∧ Hid (is.length = k) ∧ Hid (RdrAt wr g SRC (N, []) sk ∧ OwnE KDt 106 (fun j => w.heap.size ≤ j ∧ v.ownBlock ≠ some j) wr w.heap.size v is ∧ KP (pRep pData k) s1 (is.map DV.x) sk ∧ Chg (fun j => j = g) w wr)) (fun _ i _ => n - (intOf i).toNat)
  case atStart => exact ⟨[], 0, s1, by omega, rfl, rfl, H1.out.1, OwnE.nil _ _ _ _ _, pRep_zero _ _, H1.out.2.2⟩
  case round =>
    obtain ⟨is, k, sk, hk, rfl, HK, HX⟩ := hrel
    obtain ⟨Av, kv, hv, hkv, hkm, -⟩ := RdV.of_own HX.out.2.1.1
    subst hv
    have hz := HX.out.2.2.2.size
    clear hkv hkm
    generalize hq : is.length = q at *
    have HQ := Lib.hid hq
    clear hq
    by_cases hlt : k < n
    · have hlt2 : (k : Int) < n := by omega
      have hw1 : IntKind.i64.wrap ((k : Int) + 1) = (k : Int) + 1 := by rw [IntKind.wrap_i64]; omega
      have HN := Lib.hid (mdata_any g N sk wr HX.out.1)
      go_wp2_with fail
      refine HN.out.mono ?_
      rintro e w3 ⟨a, s', rfl, p1, p2, p3, p4⟩
      have hz3 := p4.size
      have H3 : Hid (OwnE KDt 106 (fun j => w.heap.size ≤ j ∧ (Value.slice Av q kv).ownBlock ≠ some j) w3 w.heap.size (.slice Av q kv) is ∧ (KDt).ok (fun j => w.heap.size ≤ j ∧ (Value.slice Av q kv).ownBlock ≠ some j) w3 a) := by
        refine ⟨HX.out.2.1.chg p4 (fun j _ hj e => by have := hj.1; omega) fun j hj e => by have := owns_ge HX.out.2.1.1 hj; omega, (KDt).mono p1 fun j _ hj => ⟨by omega, fun e => by have := owns_lt HX.out.2.1.1 e; omega⟩⟩
      have H4 := Lib.hid (And.intro p2 (And.intro p3 p4))
      clear p1 p2 p3 p4 HN
      obtain ⟨md, ⟨isb, Ab, cb⟩, ys, yA, yc⟩ := a
      simp only [DV.v, BV.v] at *
      generalize hqy : ys.length = qy at *
      have HQY := Lib.hid hqy
      clear hqy
      generalize hqb : isb.length = qb at *
      have HQB := Lib.hid hqb
      clear hqb
      go_wp2_with (at_builtin; refine wpList_appE1 (K := KDt) under_lsdata info_lsdata rfl (by omega) rfl (.tmp 14) (.tmp 17) rfl w.heap.size (.slice Av q kv) is rfl H3.out.1 ⟨md, ⟨isb, Ab, cb⟩, ys, yA, yc⟩ #[.int .u8 md, .slice Ab qb cb, .slice yA qy yc] (by obtain rfl := HQB.out; obtain rfl := HQY.out; rfl) H3.out.2 rfl (by have := HQ.out; have := HK.out; omega) (by omega) ?_; intro v1 w4 hv1 hw1'; have HV := Lib.hid (And.intro hv1 hw1'); clear hv1 hw1')
      refine ⟨⟨is ++ [⟨md, ⟨isb, Ab, cb⟩, ys, yA, yc⟩], k + 1, s', by omega, rfl, ?_, ?_⟩, ?_⟩
      · have := HK.out; have := HQ.out; show (is ++ [_]).length = k + 1; rw [List.length_append, List.length_singleton]; omega
      · have y1 := HV.out.1
        have y2 := HV.out.2
        refine ⟨H4.out.1.chg y2.1 fun j hj e => by have := owns_ge H3.out.1.1 e; omega, y1.mono (fun j _ hj => ⟨hj.1.1, fun e => y1.2.2 j e hj⟩) (fun j hj e => e.2 hj), ?_, (HX.out.2.2.2.trans H4.out.2.2 fun j _ e => e).trans y2.1 fun j hj e => by have := owns_ge H3.out.1.1 e; omega⟩
        rw [List.map_append]
        exact pRep_step HX.out.2.2.1 H4.out.2.1
      · simp [intOf]; omega
    · obtain rfl : k = n := by omega
      have hnl : ¬ (k : Int) < k := by omega
      go_wp2
      go_ret
      refine ⟨_, is, sk, rfl, HX.out.2.1, HX.out.1, ?_, HX.out.2.2.2, by have := HK.out; have := HQ.out; omega⟩
      exact H1.out.2.1.then (by rw [Int.toNat_natCast]; exact HX.out.2.2.1)
theorem under_lsbody : Tryz.prog.underlying 102 = some (.slice 71) := Tryz.underlying102
theorem info_lsbody : (Tryz.prog.info? 71).map (fun i => (i.zero, i.size, i.bytes)) = some (some (.slice none 0 0), (KB).n, 24) := by kernel_rfl
set_option maxHeartbeats 2000000 in
theorem lsbody_any (g N : Nat) (s : St) (w : World) (h : RdrAt w g SRC (N, []) s) (most : Int) (m0 : 0 ≤ most) (m1 : most ≤ 1000) :
    Calls Tryz.prog 132 #[.pointer (some ⟨g, 0, none⟩), .int .u32 most, .func (.func 127) #[.pointer (some ⟨g, 0, none⟩)] #[]] w (LsPost KB 71 BV.x (pLs most pCode) most g N s w) := by
  have HC := Lib.hid (mCount g N s w h most m0 (by omega))
  have hgw := h.lt
  clear h
  go_enter Tryz.func132, Tryz.ntmps132
  go_wp2_with fail
  refine HC.out.mono ?_
  rintro e w1 ⟨x, s1, rfl, x0, x1, h1, h2, h3⟩
  obtain ⟨n, rfl⟩ : ∃ n : Nat, x = n := ⟨x.toNat, by omega⟩
  have H1 := Lib.hid (And.intro h1 (And.intro h2 h3))
  clear h1 h2 h3 HC
  go_wp2
  go_loopw [6, 12] (fun v i wr => ∃ (is : List _) (k : Nat) (sk : St), k ≤ n ∧ i = .int .i64 k ∧ Hid (is.length = k) ∧ Hid (RdrAt wr g SRC (N, []) sk ∧ OwnE KB 71 (fun j => w.heap.size ≤ j ∧ v.ownBlock ≠ some j) wr w.heap.size v is ∧ KP (pRep pCode k) s1 (is.map BV.x) sk ∧ Chg (fun j => j = g) w wr)) (fun _ i _ => n - (intOf i).toNat)
  case atStart => exact ⟨[], 0, s1, by omega, rfl, rfl, H1.out.1, OwnE.nil _ _ _ _ _, pRep_zero _ _, H1.out.2.2⟩
  case round =>
    obtain ⟨is, k, sk, hk, rfl, HK, HX⟩ := hrel
    obtain ⟨Av, kv, hv, hkv, hkm, -⟩ := RdV.of_own HX.out.2.1.1
    subst hv
    have hz := HX.out.2.2.2.size
    clear hkv hkm
    generalize hq : is.length = q at *
    have HQ := Lib.hid hq
    clear hq
    by_cases hlt : k < n
    · have hlt2 : (k : Int) < n := by omega
      have hw1 : IntKind.i64.wrap ((k : Int) + 1) = (k : Int) + 1 := by rw [IntKind.wrap_i64]; omega
      have HN := Lib.hid (mexpr_any g N sk wr HX.out.1)
      go_wp2_with fail
      refine HN.out.mono ?_
      rintro e w3 ⟨a, s', rfl, p1, p2, p3, p4⟩
      have hz3 := p4.size
      have H3 : Hid (OwnE KB 71 (fun j => w.heap.size ≤ j ∧ (Value.slice Av q kv).ownBlock ≠ some j) w3 w.heap.size (.slice Av q kv) is ∧ (KB).ok (fun j => w.heap.size ≤ j ∧ (Value.slice Av q kv).ownBlock ≠ some j) w3 a) := by
        refine ⟨HX.out.2.1.chg p4 (fun j _ hj e => by have := hj.1; omega) fun j hj e => by have := owns_ge HX.out.2.1.1 hj; omega, (KB).mono p1 fun j _ hj => ⟨by omega, fun e => by have := owns_lt HX.out.2.1.1 e; omega⟩⟩
      have H4 := Lib.hid (And.intro p2 (And.intro p3 p4))
      clear p1 p2 p3 p4 HN
      obtain ⟨isb, Ab, cb⟩ := a
      simp only [BV.v] at *
      generalize hqb : isb.length = qb at *
      have HQB := Lib.hid hqb
      clear hqb
      go_wp2_with (at_builtin; refine wpList_appE1 (K := KB) under_lsbody info_lsbody rfl (by omega) rfl (.tmp 14) (.tmp 17) rfl w.heap.size (.slice Av q kv) is rfl H3.out.1 ⟨isb, Ab, cb⟩ #[.slice Ab qb cb] (by obtain rfl := HQB.out; rfl) H3.out.2 rfl (by have := HQ.out; have := HK.out; omega) (by omega) ?_; intro v1 w4 hv1 hw1'; have HV := Lib.hid (And.intro hv1 hw1'); clear hv1 hw1')
      refine ⟨⟨is ++ [⟨isb, Ab, cb⟩], k + 1, s', by omega, rfl, ?_, ?_⟩, ?_⟩
      · have := HK.out; have := HQ.out; show (is ++ [_]).length = k + 1; rw [List.length_append, List.length_singleton]; omega
      · have y1 := HV.out.1
        have y2 := HV.out.2
        refine ⟨H4.out.1.chg y2.1 fun j hj e => by have := owns_ge H3.out.1.1 e; omega, y1.mono (fun j _ hj => ⟨hj.1.1, fun e => y1.2.2 j e hj⟩) (fun j hj e => e.2 hj), ?_, (HX.out.2.2.2.trans H4.out.2.2 fun j _ e => e).trans y2.1 fun j hj e => by have := owns_ge H3.out.1.1 e; omega⟩
        rw [List.map_append]
        exact pRep_step HX.out.2.2.1 H4.out.2.1
      · simp [intOf]; omega
    · obtain rfl : k = n := by omega
      have hnl : ¬ (k : Int) < k := by omega
      go_wp2
      go_ret
      refine ⟨_, is, sk, rfl, HX.out.2.1, HX.out.1, ?_, HX.out.2.2.2, by have := HK.out; have := HQ.out; omega⟩
      exact H1.out.2.1.then (by rw [Int.toNat_natCast]; exact HX.out.2.2.1)
theorem under_lsfun : Tryz.prog.underlying 102 = some (.slice 71) := Tryz.underlying102
theorem info_lsfun : (Tryz.prog.info? 71).map (fun i => (i.zero, i.size, i.bytes)) = some (some (.slice none 0 0), (KB).n, 24) := by kernel_rfl
set_option maxHeartbeats 2000000 in
theorem lsfun_any (g N : Nat) (s : St) (w : World) (h : RdrAt w g SRC (N, []) s) (most : Int) (m0 : 0 ≤ most) (m1 : most ≤ 1000) :
    Calls Tryz.prog 132 #[.pointer (some ⟨g, 0, none⟩), .int .u32 most, .func (.func 133) #[.pointer (some ⟨g, 0, none⟩)] #[]] w (LsPost KB 71 BV.x (pLs most pFunI) most g N s w) := by
  have HC := Lib.hid (mCount g N s w h most m0 (by omega))
  have hgw := h.lt
  clear h
  go_enter Tryz.func132, Tryz.ntmps132
  go_wp2_with fail
  refine HC.out.mono ?_
  rintro e w1 ⟨x, s1, rfl, x0, x1, h1, h2, h3⟩
  obtain ⟨n, rfl⟩ : ∃ n : Nat, x = n := ⟨x.toNat, by omega⟩
  have H1 := Lib.hid (And.intro h1 (And.intro h2 h3))
  clear h1 h2 h3 HC
  go_wp2
  go_loopw [6, 12] (fun v i wr => ∃ (is : List _) (k : Nat) (sk : St), k ≤ n ∧ i = .int .i64 k ∧ Hid (is.length = k) ∧ Hid (RdrAt wr g SRC (N, []) sk ∧ OwnE KB 71 (fun j => w.heap.size ≤ j ∧ v.ownBlock ≠ some j) wr w.heap.size v is ∧ KP (pRep pFunI k) s1 (is.map BV.x) sk ∧ Chg (fun j => j = g) w wr)) (fun _ i _ => n - (intOf i).toNat)
  case atStart => exact ⟨[], 0, s1, by omega, rfl, rfl, H1.out.1, OwnE.nil _ _ _ _ _, pRep_zero _ _, H1.out.2.2⟩
  case round =>
    obtain ⟨is, k, sk, hk, rfl, HK, HX⟩ := hrel
    obtain ⟨Av, kv, hv, hkv, hkm, -⟩ := RdV.of_own HX.out.2.1.1
    subst hv
    have hz := HX.out.2.2.2.size
    clear hkv hkm
    generalize hq : is.length = q at *
    have HQ := Lib.hid hq
    clear hq
    by_cases hlt : k < n
    · have hlt2 : (k : Int) < n := by omega
      have hw1 : IntKind.i64.wrap ((k : Int) + 1) = (k : Int) + 1 := by rw [IntKind.wrap_i64]; omega
      have HN := Lib.hid (mfun_any g N sk wr HX.out.1)
      go_wp2_with fail
      refine HN.out.mono ?_
      rintro e w3 ⟨a, s', rfl, p1, p2, p3, p4⟩
      have hz3 := p4.size
      have H3 : Hid (OwnE KB 71 (fun j => w.heap.size ≤ j ∧ (Value.slice Av q kv).ownBlock ≠ some j) w3 w.heap.size (.slice Av q kv) is ∧ (KB).ok (fun j => w.heap.size ≤ j ∧ (Value.slice Av q kv).ownBlock ≠ some j) w3 a) := by
        refine ⟨HX.out.2.1.chg p4 (fun j _ hj e => by have := hj.1; omega) fun j hj e => by have := owns_ge HX.out.2.1.1 hj; omega, (KB).mono p1 fun j _ hj => ⟨by omega, fun e => by have := owns_lt HX.out.2.1.1 e; omega⟩⟩
      have H4 := Lib.hid (And.intro p2 (And.intro p3 p4))
      clear p1 p2 p3 p4 HN
      obtain ⟨isb, Ab, cb⟩ := a
      simp only [BV.v] at *
      generalize hqb : isb.length = qb at *
      have HQB := Lib.hid hqb
      clear hqb
      go_wp2_with (at_builtin; refine wpList_appE1 (K := KB) under_lsfun info_lsfun rfl (by omega) rfl (.tmp 14) (.tmp 17) rfl w.heap.size (.slice Av q kv) is rfl H3.out.1 ⟨isb, Ab, cb⟩ #[.slice Ab qb cb] (by obtain rfl := HQB.out; rfl) H3.out.2 rfl (by have := HQ.out; have := HK.out; omega) (by omega) ?_; intro v1 w4 hv1 hw1'; have HV := Lib.hid (And.intro hv1 hw1'); clear hv1 hw1')
      refine ⟨⟨is ++ [⟨isb, Ab, cb⟩], k + 1, s', by omega, rfl, ?_, ?_⟩, ?_⟩
      · have := HK.out; have := HQ.out; show (is ++ [_]).length = k + 1; rw [List.length_append, List.length_singleton]; omega
      · have y1 := HV.out.1
        have y2 := HV.out.2
        refine ⟨H4.out.1.chg y2.1 fun j hj e => by have := owns_ge H3.out.1.1 e; omega, y1.mono (fun j _ hj => ⟨hj.1.1, fun e => y1.2.2 j e hj⟩) (fun j hj e => e.2 hj), ?_, (HX.out.2.2.2.trans H4.out.2.2 fun j _ e => e).trans y2.1 fun j hj e => by have := owns_ge H3.out.1.1 e; omega⟩
        rw [List.map_append]
        exact pRep_step HX.out.2.2.1 H4.out.2.1
      · simp [intOf]; omega
    · obtain rfl : k = n := by omega
      have hnl : ¬ (k : Int) < k := by omega
      go_wp2
      go_ret
      refine ⟨_, is, sk, rfl, HX.out.2.1, HX.out.1, ?_, HX.out.2.2.2, by have := HK.out; have := HQ.out; omega⟩
      exact H1.out.2.1.then (by rw [Int.toNat_natCast]; exact HX.out.2.2.1)
end Go.Proofs.YtadgiekiiicmfaaGreatDoor
