/- The document's Split: which sections bytes are. -/
import Derived.Test.YtgbjlcedabkdkaaDoorSectSplit
import Derived.Test.YtgbjlcedabkdkaaDoorRefReader
import Derived.Test.YtgbjlcedabkdkaaDoorRefReader5
import Derived.Test.YtgbjlcedabkdkaaDoorRefU8b
namespace Go.Proofs.YtgbjlcedabkdkaaDoor
open Go.RowKit
set_option maxRecDepth 100000
set_option linter.unusedVariables false

def muS (s : St) : Nat := match s with
  | .error _ => 0
  | .ok l => l.length + 1
def rankS (id : Int) : Int := if id = 12 then 95 else id * 10
/-- The rank of the last section that has a place, behind k places. -/
def lastOf (k : Nat) : Int := if k = 0 then 0 else rankS (secOrder.getD (k - 1) 0)
theorem rank_all : ∀ k : Fin 13, ∀ x : Fin 256, (x.val ≠ 0 → (decide (placeIn k.val (x.val : Int) = none) = decide (12 < x.val ∨ rankS (x.val : Int) ≤ lastOf k.val))) ∧ (placeIn k.val (x.val : Int)).all (fun k' => decide (lastOf k' = rankS (x.val : Int))) = true := by decide +kernel
theorem rank_any (x : Int) (w : World) (h0 : 0 ≤ x) (h1 : x ≤ 255) : Calls Tryd.prog 20 #[.int .u8 x] w fun e w' => e = .returned (.int .i64 (rankS x)) ∧ w = w' := by
  have hw : IntKind.i64.wrap (x * 10) = x * 10 := by rw [IntKind.wrap_i64]; omega
  by_cases hx : x = 12
  · subst hx
    go_enter Tryd.func20, Tryd.ntmps20
    go_wp2
    go_ret
    exact ⟨rfl, rfl⟩
  · have hx2 : (x == 12) = false := by simpa using hx
    have hr : rankS x = x * 10 := by simp [rankS, hx]
    go_enter Tryd.func20, Tryd.ntmps20
    go_wp2
    go_ret
    exact ⟨by rw [hr]; rfl, rfl⟩
set_option maxHeartbeats 4000000 in
theorem rsplit_any (A : Option Addr) (b : List Int) (n c : Nat) (w : World) (h : Rd w w.heap.size A b) (hn : n = b.length) (hl : n ≤ 1000000) (hc : n ≤ c) (hcm : c ≤ maxLen) :
    Calls Tryd.prog 10 #[.slice A n c] w (SpPost 34 b w) := by
  have HR := Lib.hid h
  have HN := Lib.hid hn
  clear h
  by_cases h8 : n < 8
  · have h8z : (n : Int) < 8 := by omega
    have hs : split b = .error 3 := by unfold split pFront; rw [if_pos (by omega)]; rfl
    have HS := Lib.hid hs
    clear hs hn
    go_enter Tryd.func10, Tryd.ntmps10
    go_wp2
    go_returns
    exact ⟨_, [], by rw [HS.out]; rfl, OwnS.nil _ _ _ _, by rw [HS.out]; rfl, Below.refl _ _, by simp⟩
  · have h8z : ¬ ((n : Int) < 8) := by omega
    obtain ⟨A8, c8, hE8, hc8, hX8⟩ := cutB_h A n c 8 8 rfl (by omega)
    rw [hc8] at hE8
    have hr8 := hX8 _ w b (by omega) HR.out.rx
    have hst := Rd.string hr8.rd c
    obtain ⟨n2, hn2⟩ : ∃ n2, n2 + 8 = n := ⟨n - 8, by omega⟩
    obtain ⟨A9, c9, hE9, hc9, hX9⟩ := cutB_l A n c 8 8 n2 rfl (by omega) (by omega) hc
    subst hc9
    have hr9 := hX9 _ w b (by omega) HR.out.rx
    have hty : IsBytes (b.take 8) := hr8.1
    have hcmp : ((strOfNums (b.take 8)).toList == [0, 97, 115, 109, 1, 0, 0, 0]) = decide (b.take 8 = secFront) := by
      rw [← strOfNums_eq hty (by decide), show (strOfNums secFront).toList = [0, 97, 115, 109, 1, 0, 0, 0] from by decide +kernel]
    rw [show (b.take 8).length = 8 from by simp; omega] at hst
    have HR9 := Lib.hid hr9
    clear hr8 hX8 hX9 hr9 hty
    generalize hsf : strOfNums (b.take 8) = sf at *
    clear hsf
    by_cases hf : b.take 8 = secFront
    · rw [decide_eq_true hf] at hcmp
      have hs : split b = goSecs 0 [] (.ok (b.drop 8)) := by rw [split_eq]; unfold pFront; rw [if_neg (by omega), if_pos hf]
      have HS := Lib.hid hs
      have HF := Lib.hid hf
      clear hs hf hn
      go_enter Tryd.func10, Tryd.ntmps10
      go_upto_region 6 with fail
      have HA : Hid (RfAt5 (w.alloc (.cells #[.slice A9 n2 (c - 8), .int .i64 0] 56)) w.heap.size (.ok (b.drop 8)) ∧ Below w.heap.size w (w.alloc (.cells #[.slice A9 n2 (c - 8), .int .i64 0] 56))) := by
        have hln : (b.drop 8).length = n2 := by rw [List.length_drop]; have := HN.out; omega
        have hA := (Below.refl w.heap.size w).alloc (Nat.le_refl _) (.cells #[.slice A9 n2 (c - 8), .int .i64 0] 56)
        refine ⟨⟨A9, c - 8, ?_, HR9.out.later hA, by omega, by unfold maxLen at *; omega, by omega⟩, hA⟩
        rw [hln]
        exact Own.new w 56 [.slice A9 n2 (c - 8), .int .i64 0]
      have HL9 : Hid ((b.drop 8).length = n2) := by unfold Hid; rw [List.length_drop]; have := HN.out; omega
      clear hE8 hE9 hst hcmp
      go_upto_region 8 with fail
      generalize w.alloc (.cells #[.slice A9 n2 (c - 8), .int .i64 0] 56) = W1 at *
      obtain ⟨g, hg⟩ : ∃ g, w.heap.size = g := ⟨_, rfl⟩
      rw [hg] at HA ⊢
      have HG := Lib.hid hg
      clear hg
      go_loopg [5, 6] (n2 + 2) (fun gk v lv wx => ∃ (is : List SV) (s : St) (k : Nat), lv = .int .i64 (lastOf k) ∧ muS s ≤ gk ∧ k ≤ 12 ∧ Hid (RfAt5 wx g s ∧ OwnS 34 (fun i => g < i ∧ v.ownBlock ≠ some i) wx (g + 1) v is ∧ split b = goSecs k (is.map SV.sec) s ∧ Below g w wx ∧ is.length + lenS s ≤ n))
      case atStart => exact ⟨[], _, 0, rfl, by simp only [muS, HL9.out]; omega, by omega, HA.out.1, OwnS.nil _ _ _ _, HS.out, HA.out.2, by simp only [lenS, HL9.out, List.length_nil]; omega⟩
      case round =>
        obtain ⟨is, s, k, rfl, hgk, hk, HX⟩ := hrel
        have hgw := RfAt5.lt HX.out.1
        obtain ⟨A1, k1, rfl, hk1, hk2, -⟩ := RdV.of_own HX.out.2.1.1
        clear hk1 hk2
        rcases s with e0 | (_ | ⟨x, l⟩)
        · -- an error was met
          have he0 : (e0 == 0) = false := by have := HX.out.1.err e0 rfl; simp; omega
          have he1 : (e0 != 0) = true := by have := HX.out.1.err e0 rfl; simp; omega
          obtain ⟨Ar, nr, cr, ho, -, -, -⟩ := HX.out.1
          have hc1 : wr.cell? ⟨g, 1, none⟩ = some (.int .i64 e0) := ho.cell 1
          clear ho
          have HSE : Hid (split b = .error e0 ∧ Below g w wr) := ⟨HX.out.2.2.1, HX.out.2.2.2.1⟩
          clear HX
          generalize is.length = q at *
          go_wp2
          go_region
          go_wp2
          go_returns
          exact ⟨_, [], by rw [HSE.out.1]; rfl, OwnS.nil _ _ _ _, by rw [HSE.out.1]; rfl, by rw [HG.out]; exact HSE.out.2.drew, by simp⟩
        · obtain ⟨Ar, cr, ho, -, -, -, -⟩ := HX.out.1
          have hc1 : wr.cell? ⟨g, 1, none⟩ = some (.int .i64 0) := ho.cell 1
          have hc0 : wr.cell? ⟨g, 0, none⟩ = some (.slice Ar 0 cr) := ho.cell 0
          clear ho
          generalize hq : is.length = q at *
          have HQ := Lib.hid hq
          clear hq
          go_wp2
          go_returns
          obtain ⟨x1, x2, x3, x4, x5⟩ := HX.out
          refine ⟨_, is, by rw [x3]; rfl, ⟨owns_base x2.1 (by have := HG.out; omega), fun i hi => (x2.2.1 i hi).mono fun j _ hj => ⟨by have := hj.1; have := HG.out; omega, hj.2⟩, fun j hj e => e.2 hj⟩, by rw [x3]; rfl, by rw [HG.out]; exact x4, by rw [HQ.out]; omega⟩
        · obtain ⟨g', rfl⟩ : ∃ g', gk = g' + 1 := ⟨gk - 1, by simp only [muS] at hgk; omega⟩
          have HB := Lib.hid (fbyte5_any g _ wr HX.out.1)
          obtain ⟨Ar, cr, ho, -, -, -, -⟩ := HX.out.1
          have hc1 : wr.cell? ⟨g, 1, none⟩ = some (.int .i64 0) := ho.cell 1
          have hc0 : wr.cell? ⟨g, 0, none⟩ = some (.slice Ar (x :: l).length cr) := ho.cell 0
          have hpos : (0 : Int) < ((x :: l).length : Nat) := by simp
          clear ho
          generalize hxl : (x :: l).length = xl at hc0 hpos
          clear hxl
          generalize hq : is.length = q at *
          have HQ := Lib.hid hq
          clear hq
          go_wp2_with fail
          refine HB.out.mono ?_
          rintro e w1 ⟨x', rfl, i0, i1, p3, p4, p5⟩
          obtain rfl : x' = x := p4 x l rfl
          have HR1 : Hid (RfAt5 w1 g (.ok l)) := p3
          have HC1 := Lib.hid p5
          clear p3 p4 p5 HB hc0 hc1
          have hg1 := RfAt5.lt HR1.out
          go_upto_region 10 with fail
          obtain ⟨gs, hgs⟩ : ∃ gs, w1.heap.size = gs := ⟨_, rfl⟩
          have HO2 := Lib.hid (Own.new w1 34 [.int .u8 x', .slice none 0 0])
          simp only [List.toArray] at HO2
          have HR2 : Hid (RfAt5 (w1.alloc (.cells #[.int .u8 x', .slice none 0 0] 34)) g (.ok l)) := HR1.out.later ((Below.refl _ _).alloc (Nat.le_refl _) _)
          have HC2 : Hid (Chg (fun i => i = g) wr (w1.alloc (.cells #[.int .u8 x', .slice none 0 0] 34))) := HC1.out.trans (Chg.alloc _ _) fun i _ e => e
          generalize w1.alloc (.cells #[.int .u8 x', .slice none 0 0] 34) = w2 at *
          rw [hgs] at HO2 hg1 ⊢
          have HGS : Hid (wr.heap.size ≤ gs) := by unfold Hid; rw [← hgs]; exact HC1.out.size
          clear HC1 HR1 hgs
          have hc20 : w2.cell? ⟨gs, 0, none⟩ = some (.int .u8 x') := HO2.out.cell 0
          have hf20 := HO2.out.frozen 0
          have hf21 := HO2.out.frozen 1
          -- which ID
          have hidx : (x' = 0 ∧ pId k (x' :: l) = .ok ((0, k), l)) ∨ (x' ≠ 0 ∧ placeIn k x' = none ∧ (12 < x' ∨ rankS x' ≤ lastOf k) ∧ pId k (x' :: l) = .error 2) ∨ (x' ≠ 0 ∧ ∃ k', placeIn k x' = some k' ∧ x' ≤ 12 ∧ ¬ (rankS x' ≤ lastOf k) ∧ lastOf k' = rankS x' ∧ pId k (x' :: l) = .ok ((x', k'), l)) := by
            have hr := rank_all ⟨k, by omega⟩ ⟨x'.toNat, by omega⟩
            have hxx : ((x'.toNat : Nat) : Int) = x' := by omega
            simp only [hxx] at hr
            by_cases h0 : x' = 0
            · exact .inl ⟨h0, by simp [pId, seq, pByte, h0]⟩
            · have hr1 := hr.1 (by omega)
              cases hp : placeIn k x' with
              | none =>
                rw [hp] at hr1
                simp at hr1
                exact .inr (.inl ⟨h0, rfl, by omega, by simp [pId, seq, pByte, h0, hp]⟩)
              | some k' =>
                rw [hp] at hr1 hr
                simp at hr1 hr
                exact .inr (.inr ⟨h0, k', rfl, by omega, by omega, hr.2, by simp [pId, seq, pByte, h0, hp]⟩)
          rcases hidx with ⟨h0, hp⟩ | ⟨h0, hpl, hbad, hp⟩ | ⟨h0, k', hpl, h12, hrk, hlast, hp⟩
          · subst h0
            have hx12 : ¬ ((12 : Int) < 0) := by omega
            go_upto_region 12 with fail
            have HU := Lib.hid (fU325_any g _ w2 HR2.out)
            go_wp2_with fail
            refine HU.out.mono ?_
            rintro e w3 ⟨nn, rfl, n0, n1, p3, p4, p5⟩
            obtain ⟨nl, rfl⟩ : ∃ nl : Nat, nn = nl := ⟨nn.toNat, by omega⟩
            have HK := Lib.hid (ftake5_any g _ nl w3 p3 (by omega))
            have H5 := Lib.hid (And.intro p4 p5)
            clear p3 p4 p5 HU n0 n1
            go_wp2_with fail
            refine HK.out.mono ?_
            rintro e w4 ⟨v, y, rfl, p1, p2, p3, p4, p5, p6⟩
            have HO4 := Lib.hid ((HO2.out.chg H5.out.2 (by omega)).chg p5 (by omega))
            have hf41 := HO4.out.frozen 1
            have hc41 : w4.cell? ⟨gs, 1, none⟩ = some (.slice none 0 0) := HO4.out.cell 1
            have hgs3 : gs < w3.heap.size := (HO2.out.chg H5.out.2 (by omega)).lt
            have hvb : ∀ i, v.ownBlock = some i → gs < i := fun i hi => by have := owns_ge p1 hi; omega
            obtain ⟨A2, c2, rfl, r1, r2, r3⟩ := p1.rdX p2
            have hst5 : nx pSized (.ok l) = nx (pBytes nl) (nx (pU 32) (.ok l)) := by unfold pSized; rw [nx_seq' (x := (nl : Int)) H5.out.1]; rfl
            have hb5 : ∀ a l', bd (.ok l) pSized = .ok (a, l') → y = a := fun a l' h => by
              obtain ⟨m, l1, q1, q2, q3⟩ := bd_seq h
              have := H5.out.1 m l1 q1
              subst this
              exact p4 a l' (by rw [q3, bd_ok]; exact q2)
            have hpn : nx (pId k) (.ok ((0 : Int) :: l)) = .ok l := by rw [nx_ok, hp]; rfl
            have HM := Lib.hid (sec_math (s := .ok ((0 : Int) :: l)) (k := k) (k' := k) (id := (0 : Int)) (y := y) (fun a l' h => by rw [bd_ok, hp] at h; injection h with h; injection h with h; exact h.symm) (fun a l' h => by rw [hpn] at h; exact hb5 a l' h))
            have hmore := goSecs_more (acc := is.map SV.sec) hk (s := .ok ((0 : Int) :: l)) (by simp [lenS]) HM.out.2
            have HMM := Lib.hid (And.intro hmore (And.intro hpn hst5))
            have h45 : Chg (fun i => i = gs) w4 (w4.setCell ⟨gs, 1, none⟩ (.slice A2 y.length c2)) := chgSet _ _ _ _
            have HR5 : Hid (RfAt5 (w4.setCell ⟨gs, 1, none⟩ (.slice A2 y.length c2)) g (nx pSized (.ok l))) := by
              rw [hst5]; exact p3.chg h45 fun i hi e => by omega
            have HO5 := Lib.hid (HO4.out.set 1 (.slice A2 y.length c2))
            have HV5 : Hid (SecX (fun i => gs < i) (w4.setCell ⟨gs, 1, none⟩ (.slice A2 y.length c2)) ⟨(0 : Int), y, A2, c2⟩) :=
              ⟨i0, i1, (r3.chg h45 fun i _ hi e => by have := hvb i hi; omega).mono fun i _ hi => hvb i hi, r1, r2, p6⟩
            have HC5 : Hid (Chg (fun i => i = g ∨ i = gs) wr (w4.setCell ⟨gs, 1, none⟩ (.slice A2 y.length c2))) := (((HC2.out.mono (S' := fun i => i = g ∨ i = gs) fun i _ e => .inl e).trans H5.out.2 fun i _ e => .inl e).trans p5 fun i _ e => .inl e).trans h45 fun i _ e => .inr e
            clear p1 p2 p3 p4 p5 p6 r1 r2 r3 hvb hst5 hb5 hpn hmore h45 HK H5 HO2 HR2 HC2 hc20 hf20 hf21 hp
            go_upto_region 14 with fail
            generalize w4.setCell ⟨gs, 1, none⟩ (.slice A2 y.length c2) = w5 at *
            simp only [List.set] at HO5
            clear HO4 hf41 hc41 hgs3
            rcases hss : nx pSized (.ok l) with e5 | l5
            · rw [hss] at HR5 HMM
              have he5 : (e5 != 0) = true := by have := HR5.out.err e5 rfl; simp; omega
              have hce := HR5.out.own1
              have HSE : Hid (split b = .error e5 ∧ Below g w w5) := by
                obtain ⟨x1, x2, x3, x4, x5⟩ := HX.out
                refine ⟨?_, x4.trans (HC5.out.below (Nat.le_of_lt hgw) fun i hi e => by have := HGS.out; omega)⟩
                rw [x3, HMM.out.1.1, HM.out.1, HMM.out.2.1, hss]
                split <;> rfl
              clear HR5 HMM HM hss
              generalize y.length = yl at *
              go_wp2
              go_region
              go_wp2
              go_returns
              exact ⟨_, [], by rw [HSE.out.1]; rfl, OwnS.nil _ _ _ _, by rw [HSE.out.1]; rfl, by rw [HG.out]; exact HSE.out.2.drew, by simp⟩
            · rw [hss] at HR5 HMM
              have hce := HR5.out.own0
              have HSS := Lib.hid hss
              clear hss
              have hc50 : w5.cell? ⟨gs, 0, none⟩ = some (.int .u8 (0 : Int)) := HO5.out.cell 0
              have hc51 : w5.cell? ⟨gs, 1, none⟩ = some (.slice A2 y.length c2) := HO5.out.cell 1
              have hbx : Below w5.heap.size w5 (w5.alloc (.cells #[.slice A2 y.length c2, .int .i64 0] 54)) := (Below.refl _ _).alloc (Nat.le_refl _) _
              obtain ⟨v5a, v5b, v5c, v5d, v5e, v5f⟩ := HV5.out
              have HX6 : Hid (RfAt (w5.alloc (.cells #[.slice A2 y.length c2, .int .i64 0] 54)) w5.heap.size (.ok y)) :=
                ⟨A2, c2, Own.new w5 _ [_, _], v5c.rd.rx.later hbx, v5d, v5e, v5f⟩
              have HO6 := Lib.hid (HO5.out.later hbx)
              have HS6 := Lib.hid ((HV5.out.mono (Y := fun i => gs < i ∧ i ≠ w5.heap.size) fun i hi h => ⟨h, by omega⟩).later hbx)
              have HR6 := Lib.hid (HR5.out.later hbx)
              have HC6 : Hid (Chg (fun i => i = g ∨ i = gs) wr (w5.alloc (.cells #[.slice A2 y.length c2, .int .i64 0] 54))) := HC5.out.trans (Chg.of_below hbx) fun i _ e => e
              have HGX : Hid (gs < w5.heap.size ∧ wr.heap.size ≤ w5.heap.size) := ⟨HO5.out.lt, HC5.out.size⟩
              clear v5a v5b v5c v5d v5e v5f hbx HO5 HV5 HR5 HC5 HA HR HR9
              go_upto_region 18 with fail
              generalize w5.alloc (.cells #[.slice A2 y.length c2, .int .i64 0] 54) = w6 at *
              generalize w5.heap.size = gx at *
              clear hc50 hc51 hce
              have HU6 := Lib.hid (fU32_any gx _ w6 HX6.out)
              go_wp2_with fail
              refine HU6.out.mono ?_
              rintro e w61 ⟨nn, rfl, n0, n1, p3, p4, p5⟩
              obtain ⟨ml, rfl⟩ : ∃ ml : Nat, nn = ml := ⟨nn.toNat, by omega⟩
              have HK6 := Lib.hid (ftake_any gx _ ml w61 p3 (by omega))
              have H6 := Lib.hid (And.intro p4 p5)
              clear p3 p4 p5 HU6 n0 n1
              go_wp2_with fail
              refine HK6.out.mono ?_
              rintro e w7 ⟨v, nm, rfl, p1, p2, p3, p4, p5, p6⟩
              obtain ⟨A7, c7, rfl, r1, r2, r3⟩ := p1.rdX p2
              have h67 : Chg (fun i => i = gx) w6 w7 := H6.out.2.trans p5 fun i _ e => e
              have HO7 := Lib.hid (HO6.out.chg h67 (by have := HGX.out.1; omega))
              have HS7 : Hid (SecX (fun i => gs < i ∧ i ≠ gx) w7 ⟨0, y, A2, c2⟩) := Lib.hid (SecX.chg HS6.out h67 fun i _ hi e => hi.2 e)
              have HR7 := Lib.hid (HR6.out.chg h67 fun i hi e => by have := HGX.out.1; omega)
              have HC7 : Hid (Chg (fun i => i = g ∨ i = gs) wr w7) := ((HC6.out.mono (S' := fun i => i = g ∨ i = gs ∨ i = gx) fun i _ e => e.elim .inl fun e => .inr (.inl e)).trans h67 fun i _ e => .inr (.inr e)).mono fun i hi e => by have := HGX.out.2; omega
              have hnm : nx pSized (.ok y) = nx (pBytes ml) (nx (pU 32) (.ok y)) := by unfold pSized; rw [nx_seq' (x := (ml : Int)) H6.out.1]; rfl
              have HNM : Hid (nameOk y = (match nx pSized (.ok y) with | .ok _ => vd nm | .error _ => false)) := by
                unfold Hid nameOk
                have hb := fun a l' h => p4 a l' h
                rw [nx_ok]
                cases hp : pSized y with
                | error e => rfl
                | ok r =>
                  have hq : bd (.ok y) pSized = .ok (r.1, r.2) := by rw [bd_ok, hp]
                  obtain ⟨m, l1, q1, q2, q3⟩ := bd_seq hq
                  have := H6.out.1 m l1 q1
                  subst this
                  rw [p4 r.1 r.2 (by rw [q3, bd_ok]; exact q2)]; rfl
              rw [← hnm] at p3
              have HP7 := Lib.hid (And.intro r3 (And.intro r1 p6))
              have HXS : Hid (RfAt w7 gx (nx pSized (.ok y))) := p3
              clear p1 p2 p3 p4 p5 p6 r1 r2 r3 h67 hnm HK6 H6 HS6 HR6 HC6 HO6 HX6
              obtain ⟨nx7, hnx7⟩ : ∃ s, nx pSized (.ok y) = s := ⟨_, rfl⟩
              rw [hnx7] at HXS HNM
              clear hnx7
              rcases nx7 with e7 | l7
              · have he7 : (e7 != 0) = true := by have := HXS.out.err e7 rfl; simp; omega
                have hce7 : w7.cell? ⟨gx, 1, none⟩ = some (.int .i64 e7) := by obtain ⟨_, _, _, h1, _⟩ := HXS.out; exact h1.cell 1
                have HF := Lib.hid (ffail5_any g _ 2 w7 HR7.out (by omega) (by omega))
                have HNO : Hid (nameOk y = false) := HNM.out
                clear HXS HNM
                generalize nm.length = nml at *
                go_wp2_with fail
                refine HF.out.mono ?_
                rintro e w8 ⟨⟨u, rfl⟩, f1, f2⟩
                have HO8 := Lib.hid ((HO7.out).chg f2 (by omega))
                have HS8 : Hid (SecX (fun i => gs < i) w8 ⟨0, y, A2, c2⟩) := (((HS7.out).mono (Y := fun i => gs < i) fun i _ h => h.1).chg f2 fun i _ hi e => by omega)
                have HC8 : Hid (Chg (fun i => i = g ∨ i = gs) wr w8) := HC7.out.trans f2 fun i _ e => .inl e
                have HR8 : Hid (RfAt5 w8 g (.error 2)) := f1
                have HST : Hid (nx (pSec k) (.ok ((0 : Int) :: l)) = .error 2) := by
                  unfold Hid
                  rw [HM.out.1, HMM.out.2.1, HSS.out, HNO.out]; simp [failS]
                clear f1 f2
                have hc8_0 : w8.cell? ⟨gs, 0, none⟩ = some (.int .u8 (0 : Int)) := HO8.out.cell 0
                have hc8_1 : w8.cell? ⟨gs, 1, none⟩ = some (.slice A2 y.length c2) := HO8.out.cell 1
                have HAP : Hid (OwnS 34 (fun i => g < i ∧ (Value.slice A1 q k1).ownBlock ≠ some i) w8 (g + 1) (.slice A1 q k1) is ∧ SecX (fun i => g < i ∧ (Value.slice A1 q k1).ownBlock ≠ some i) w8 ⟨(0 : Int), y, A2, c2⟩) := by
                  obtain ⟨x1, x2, x3, x4, x5⟩ := HX.out
                  refine ⟨x2.chg HC8.out (fun i hil hi e => by have := hi.1; have := HGS.out; omega) (fun i hi e => by have := owns_ge x2.1 hi; have := owns_lt x2.1 hi; have := HGS.out; omega), HS8.out.mono fun i _ hi => ⟨by omega, fun e => by have := owns_lt x2.1 e; have := HGS.out; omega⟩⟩
                have hgw8 : g < w8.heap.size := RfAt5.lt HR8.out
                have hil : is.length + 1 ≤ 1000000000 := by have h1 := HX.out.2.2.2.2; have h2 := HQ.out; simp only [lenS] at h1; omega
                skip
                go_wp2_with (at_builtin; refine wpList_appS1 under_rsecs rsec_info rfl (.tmp 103) (.tmp 105) rfl (g + 1) (.slice A1 q k1) is rfl HAP.out.1 ⟨(0 : Int), y, A2, c2⟩ HAP.out.2 rfl hil (by omega) ?_; intro v1 w9 hv1 hw1; have HV := Lib.hid (And.intro hv1 hw1); clear hv1 hw1)
                go_roundg g'
                case measure => omega
                case rel =>
                  obtain ⟨x1, x2, x3, x4, x5⟩ := HX.out
                  have y1 := HV.out.1
                  have y2 := HV.out.2
                  have hlt := HMM.out.1.2
                  rw [HST.out] at hlt
                  simp only [lenS, List.length_cons] at hlt x5
                  simp only [muS, List.length_cons] at hgk
                  refine ⟨is ++ [⟨(0 : Int), y, A2, c2⟩], .error 2, k, by first | rfl | rw [hlast], by simp only [muS]; omega, by first | exact hk | exact (placeIn_le hk hpl).2.1, HR8.out.chg y2.1 fun i hi e => by have := owns_ge HAP.out.1.1 e; omega, y1.mono (fun i _ hi => ⟨hi.1.1, fun e => y1.2.2 i e hi⟩) (fun i hi e => e.2 hi), ?_, (x4.trans (HC8.out.below (Nat.le_of_lt hgw) fun i hi e => by have := HGS.out; omega)).trans (y2.1.below (by have := x4.size; have := HC8.out.size; omega) fun i hi e => by have := owns_ge HAP.out.1.1 e; omega), ?_⟩
                  · rw [x3, HMM.out.1.1, HST.out, List.map_append]; rfl
                  · rw [List.length_append, HQ.out]; simp only [lenS, List.length_cons, List.length_nil]; omega
              · have hce7 : w7.cell? ⟨gx, 1, none⟩ = some (.int .i64 0) := by obtain ⟨_, _, h1, _⟩ := HXS.out; exact h1.cell 1
                have HNO : Hid (nameOk y = vd nm) := HNM.out
                have HV7 := Lib.hid (rutf_any A7 nm nm.length c7 w7 HP7.out.1 rfl HP7.out.2.1 HP7.out.2.2)
                clear HXS HNM
                generalize hnml : nm.length = nml at *
                clear hnml
                cases hvd : vd nm with
                | true =>
                  rw [hvd] at HNO HV7
                  go_wp2_with fail
                  refine HV7.out.mono ?_
                  rintro e w8 ⟨rfl, hb8⟩
                  have HO8 := Lib.hid (HO7.out.later hb8)
                  have HS8 : Hid (SecX (fun i => gs < i) w8 ⟨0, y, A2, c2⟩) := (HS7.out.later hb8).mono fun i _ h => h.1
                  have HC8 : Hid (Chg (fun i => i = g ∨ i = gs) wr w8) := HC7.out.trans (Chg.of_below hb8) fun i _ e => e
                  have HR8 := Lib.hid (HR7.out.later hb8)
                  have HST : Hid (nx (pSec k) (.ok ((0 : Int) :: l)) = .ok l5) := by
                    unfold Hid
                    rw [HM.out.1, HMM.out.2.1, HSS.out, HNO.out]; simp
                  clear hb8
                  have hc8_0 : w8.cell? ⟨gs, 0, none⟩ = some (.int .u8 (0 : Int)) := HO8.out.cell 0
                  have hc8_1 : w8.cell? ⟨gs, 1, none⟩ = some (.slice A2 y.length c2) := HO8.out.cell 1
                  have HAP : Hid (OwnS 34 (fun i => g < i ∧ (Value.slice A1 q k1).ownBlock ≠ some i) w8 (g + 1) (.slice A1 q k1) is ∧ SecX (fun i => g < i ∧ (Value.slice A1 q k1).ownBlock ≠ some i) w8 ⟨(0 : Int), y, A2, c2⟩) := by
                    obtain ⟨x1, x2, x3, x4, x5⟩ := HX.out
                    refine ⟨x2.chg HC8.out (fun i hil hi e => by have := hi.1; have := HGS.out; omega) (fun i hi e => by have := owns_ge x2.1 hi; have := owns_lt x2.1 hi; have := HGS.out; omega), HS8.out.mono fun i _ hi => ⟨by omega, fun e => by have := owns_lt x2.1 e; have := HGS.out; omega⟩⟩
                  have hgw8 : g < w8.heap.size := RfAt5.lt HR8.out
                  have hil : is.length + 1 ≤ 1000000000 := by have h1 := HX.out.2.2.2.2; have h2 := HQ.out; simp only [lenS] at h1; omega
                  skip
                  go_wp2_with (at_builtin; refine wpList_appS1 under_rsecs rsec_info rfl (.tmp 103) (.tmp 105) rfl (g + 1) (.slice A1 q k1) is rfl HAP.out.1 ⟨(0 : Int), y, A2, c2⟩ HAP.out.2 rfl hil (by omega) ?_; intro v1 w9 hv1 hw1; have HV := Lib.hid (And.intro hv1 hw1); clear hv1 hw1)
                  go_roundg g'
                  case measure => omega
                  case rel =>
                    obtain ⟨x1, x2, x3, x4, x5⟩ := HX.out
                    have y1 := HV.out.1
                    have y2 := HV.out.2
                    have hlt := HMM.out.1.2
                    rw [HST.out] at hlt
                    simp only [lenS, List.length_cons] at hlt x5
                    simp only [muS, List.length_cons] at hgk
                    refine ⟨is ++ [⟨(0 : Int), y, A2, c2⟩], .ok l5, k, by first | rfl | rw [hlast], by simp only [muS]; omega, by first | exact hk | exact (placeIn_le hk hpl).2.1, HR8.out.chg y2.1 fun i hi e => by have := owns_ge HAP.out.1.1 e; omega, y1.mono (fun i _ hi => ⟨hi.1.1, fun e => y1.2.2 i e hi⟩) (fun i hi e => e.2 hi), ?_, (x4.trans (HC8.out.below (Nat.le_of_lt hgw) fun i hi e => by have := HGS.out; omega)).trans (y2.1.below (by have := x4.size; have := HC8.out.size; omega) fun i hi e => by have := owns_ge HAP.out.1.1 e; omega), ?_⟩
                    · rw [x3, HMM.out.1.1, HST.out, List.map_append]; rfl
                    · rw [List.length_append, HQ.out]; simp only [lenS, List.length_cons, List.length_nil]; omega
                | false =>
                  rw [hvd] at HNO HV7
                  go_wp2_with fail
                  refine HV7.out.mono ?_
                  rintro e w71 ⟨rfl, hb8⟩
                  have HF := Lib.hid (ffail5_any g _ 2 w71 (HR7.out.later hb8) (by omega) (by omega))
                  have HB71 := Lib.hid hb8
                  clear hb8
                  go_wp2_with fail
                  refine HF.out.mono ?_
                  rintro e w8 ⟨⟨u, rfl⟩, f1, f2⟩
                  have HO8 := Lib.hid ((HO7.out.later HB71.out).chg f2 (by omega))
                  have HS8 : Hid (SecX (fun i => gs < i) w8 ⟨0, y, A2, c2⟩) := (((HS7.out.later HB71.out).mono (Y := fun i => gs < i) fun i _ h => h.1).chg f2 fun i _ hi e => by omega)
                  have HC8 : Hid (Chg (fun i => i = g ∨ i = gs) wr w8) := (HC7.out.trans (Chg.of_below HB71.out) fun i _ e => e).trans f2 fun i _ e => .inl e
                  have HR8 : Hid (RfAt5 w8 g (.error 2)) := f1
                  have HST : Hid (nx (pSec k) (.ok ((0 : Int) :: l)) = .error 2) := by
                    unfold Hid
                    rw [HM.out.1, HMM.out.2.1, HSS.out, HNO.out]; simp [failS]
                  clear f1 f2
                  have hc8_0 : w8.cell? ⟨gs, 0, none⟩ = some (.int .u8 (0 : Int)) := HO8.out.cell 0
                  have hc8_1 : w8.cell? ⟨gs, 1, none⟩ = some (.slice A2 y.length c2) := HO8.out.cell 1
                  have HAP : Hid (OwnS 34 (fun i => g < i ∧ (Value.slice A1 q k1).ownBlock ≠ some i) w8 (g + 1) (.slice A1 q k1) is ∧ SecX (fun i => g < i ∧ (Value.slice A1 q k1).ownBlock ≠ some i) w8 ⟨(0 : Int), y, A2, c2⟩) := by
                    obtain ⟨x1, x2, x3, x4, x5⟩ := HX.out
                    refine ⟨x2.chg HC8.out (fun i hil hi e => by have := hi.1; have := HGS.out; omega) (fun i hi e => by have := owns_ge x2.1 hi; have := owns_lt x2.1 hi; have := HGS.out; omega), HS8.out.mono fun i _ hi => ⟨by omega, fun e => by have := owns_lt x2.1 e; have := HGS.out; omega⟩⟩
                  have hgw8 : g < w8.heap.size := RfAt5.lt HR8.out
                  have hil : is.length + 1 ≤ 1000000000 := by have h1 := HX.out.2.2.2.2; have h2 := HQ.out; simp only [lenS] at h1; omega
                  skip
                  go_wp2_with (at_builtin; refine wpList_appS1 under_rsecs rsec_info rfl (.tmp 103) (.tmp 105) rfl (g + 1) (.slice A1 q k1) is rfl HAP.out.1 ⟨(0 : Int), y, A2, c2⟩ HAP.out.2 rfl hil (by omega) ?_; intro v1 w9 hv1 hw1; have HV := Lib.hid (And.intro hv1 hw1); clear hv1 hw1)
                  go_roundg g'
                  case measure => omega
                  case rel =>
                    obtain ⟨x1, x2, x3, x4, x5⟩ := HX.out
                    have y1 := HV.out.1
                    have y2 := HV.out.2
                    have hlt := HMM.out.1.2
                    rw [HST.out] at hlt
                    simp only [lenS, List.length_cons] at hlt x5
                    simp only [muS, List.length_cons] at hgk
                    refine ⟨is ++ [⟨(0 : Int), y, A2, c2⟩], .error 2, k, by first | rfl | rw [hlast], by simp only [muS]; omega, by first | exact hk | exact (placeIn_le hk hpl).2.1, HR8.out.chg y2.1 fun i hi e => by have := owns_ge HAP.out.1.1 e; omega, y1.mono (fun i _ hi => ⟨hi.1.1, fun e => y1.2.2 i e hi⟩) (fun i hi e => e.2 hi), ?_, (x4.trans (HC8.out.below (Nat.le_of_lt hgw) fun i hi e => by have := HGS.out; omega)).trans (y2.1.below (by have := x4.size; have := HC8.out.size; omega) fun i hi e => by have := owns_ge HAP.out.1.1 e; omega), ?_⟩
                    · rw [x3, HMM.out.1.1, HST.out, List.map_append]; rfl
                    · rw [List.length_append, HQ.out]; simp only [lenS, List.length_cons, List.length_nil]; omega
          · have hsp : split b = .error 2 ∧ Below g w w2 := by
              obtain ⟨x1, x2, x3, x4, x5⟩ := HX.out
              refine ⟨?_, x4.trans (HC2.out.below (Nat.le_of_lt hgw) fun i hi e => by omega)⟩
              rw [x3]
              unfold goSecs
              rw [bd_ok, show (x' :: l).length = l.length + 1 from rfl]
              simp only [pSecs, if_false, reduceCtorEq]
              rw [show pSec k (x' :: l) = .error 2 from by unfold pSec seq; rw [hp]; rfl]
              rfl
            have HSP := Lib.hid hsp
            clear hsp hp hpl
            by_cases hx12 : 12 < x'
            · go_wp2
              go_returns
              exact ⟨_, [], by rw [HSP.out.1]; rfl, OwnS.nil _ _ _ _, by rw [HSP.out.1]; rfl, by rw [HG.out]; exact HSP.out.2, by simp⟩
            · have hle : rankS x' ≤ lastOf k := by omega
              have hxp : x' > 0 := by omega
              go_wp2_with fail
              refine (rank_any x' w2 i0 i1).mono ?_
              rintro e w3 ⟨rfl, rfl⟩
              go_wp2
              go_returns
              exact ⟨_, [], by rw [HSP.out.1]; rfl, OwnS.nil _ _ _ _, by rw [HSP.out.1]; rfl, by rw [HG.out]; exact HSP.out.2, by simp⟩
          · have hx12 : ¬ (12 < x') := by omega
            have hxp : x' > 0 := by omega
            go_wp2_with fail
            refine (rank_any x' w2 i0 i1).mono ?_
            rintro e w3 ⟨rfl, rfl⟩
            go_upto_region 12 with fail
            have HU := Lib.hid (fU325_any g _ w2 HR2.out)
            go_wp2_with fail
            refine HU.out.mono ?_
            rintro e w3 ⟨nn, rfl, n0, n1, p3, p4, p5⟩
            obtain ⟨nl, rfl⟩ : ∃ nl : Nat, nn = nl := ⟨nn.toNat, by omega⟩
            have HK := Lib.hid (ftake5_any g _ nl w3 p3 (by omega))
            have H5 := Lib.hid (And.intro p4 p5)
            clear p3 p4 p5 HU n0 n1
            go_wp2_with fail
            refine HK.out.mono ?_
            rintro e w4 ⟨v, y, rfl, p1, p2, p3, p4, p5, p6⟩
            have HO4 := Lib.hid ((HO2.out.chg H5.out.2 (by omega)).chg p5 (by omega))
            have hf41 := HO4.out.frozen 1
            have hc41 : w4.cell? ⟨gs, 1, none⟩ = some (.slice none 0 0) := HO4.out.cell 1
            have hgs3 : gs < w3.heap.size := (HO2.out.chg H5.out.2 (by omega)).lt
            have hvb : ∀ i, v.ownBlock = some i → gs < i := fun i hi => by have := owns_ge p1 hi; omega
            obtain ⟨A2, c2, rfl, r1, r2, r3⟩ := p1.rdX p2
            have hst5 : nx pSized (.ok l) = nx (pBytes nl) (nx (pU 32) (.ok l)) := by unfold pSized; rw [nx_seq' (x := (nl : Int)) H5.out.1]; rfl
            have hb5 : ∀ a l', bd (.ok l) pSized = .ok (a, l') → y = a := fun a l' h => by
              obtain ⟨m, l1, q1, q2, q3⟩ := bd_seq h
              have := H5.out.1 m l1 q1
              subst this
              exact p4 a l' (by rw [q3, bd_ok]; exact q2)
            have hpn : nx (pId k) (.ok (x' :: l)) = .ok l := by rw [nx_ok, hp]; rfl
            have HM := Lib.hid (sec_math (s := .ok (x' :: l)) (k := k) (k' := k') (id := x') (y := y) (fun a l' h => by rw [bd_ok, hp] at h; injection h with h; injection h with h; exact h.symm) (fun a l' h => by rw [hpn] at h; exact hb5 a l' h))
            have hmore := goSecs_more (acc := is.map SV.sec) hk (s := .ok (x' :: l)) (by simp [lenS]) HM.out.2
            have HMM := Lib.hid (And.intro hmore (And.intro hpn hst5))
            have h45 : Chg (fun i => i = gs) w4 (w4.setCell ⟨gs, 1, none⟩ (.slice A2 y.length c2)) := chgSet _ _ _ _
            have HR5 : Hid (RfAt5 (w4.setCell ⟨gs, 1, none⟩ (.slice A2 y.length c2)) g (nx pSized (.ok l))) := by
              rw [hst5]; exact p3.chg h45 fun i hi e => by omega
            have HO5 := Lib.hid (HO4.out.set 1 (.slice A2 y.length c2))
            have HV5 : Hid (SecX (fun i => gs < i) (w4.setCell ⟨gs, 1, none⟩ (.slice A2 y.length c2)) ⟨x', y, A2, c2⟩) :=
              ⟨i0, i1, (r3.chg h45 fun i _ hi e => by have := hvb i hi; omega).mono fun i _ hi => hvb i hi, r1, r2, p6⟩
            have HC5 : Hid (Chg (fun i => i = g ∨ i = gs) wr (w4.setCell ⟨gs, 1, none⟩ (.slice A2 y.length c2))) := (((HC2.out.mono (S' := fun i => i = g ∨ i = gs) fun i _ e => .inl e).trans H5.out.2 fun i _ e => .inl e).trans p5 fun i _ e => .inl e).trans h45 fun i _ e => .inr e
            clear p1 p2 p3 p4 p5 p6 r1 r2 r3 hvb hst5 hb5 hpn hmore h45 HK H5 HO2 HR2 HC2 hc20 hf20 hf21 hp
            go_upto_region 14 with fail
            generalize w4.setCell ⟨gs, 1, none⟩ (.slice A2 y.length c2) = w5 at *
            simp only [List.set] at HO5
            clear HO4 hf41 hc41 hgs3
            rcases hss : nx pSized (.ok l) with e5 | l5
            · rw [hss] at HR5 HMM
              have he5 : (e5 != 0) = true := by have := HR5.out.err e5 rfl; simp; omega
              have hce := HR5.out.own1
              have HSE : Hid (split b = .error e5 ∧ Below g w w5) := by
                obtain ⟨x1, x2, x3, x4, x5⟩ := HX.out
                refine ⟨?_, x4.trans (HC5.out.below (Nat.le_of_lt hgw) fun i hi e => by have := HGS.out; omega)⟩
                rw [x3, HMM.out.1.1, HM.out.1, HMM.out.2.1, hss]
                split <;> rfl
              clear HR5 HMM HM hss
              generalize y.length = yl at *
              go_wp2
              go_region
              go_wp2
              go_returns
              exact ⟨_, [], by rw [HSE.out.1]; rfl, OwnS.nil _ _ _ _, by rw [HSE.out.1]; rfl, by rw [HG.out]; exact HSE.out.2.drew, by simp⟩
            · rw [hss] at HR5 HMM
              have hce := HR5.out.own0
              have HSS := Lib.hid hss
              clear hss
              have hc50 : w5.cell? ⟨gs, 0, none⟩ = some (.int .u8 x') := HO5.out.cell 0
              have hc51 : w5.cell? ⟨gs, 1, none⟩ = some (.slice A2 y.length c2) := HO5.out.cell 1
              have hx00 : (x' == 0) = false := by simpa using h0
              have hx0n : x' ≠ 0 := h0
              have HST : Hid (nx (pSec k) (.ok (x' :: l)) = .ok l5) := by
                unfold Hid
                rw [HM.out.1, HMM.out.2.1, HSS.out]; simp [h0]
              have HS5 := HV5
              have hc5_0 : w5.cell? ⟨gs, 0, none⟩ = some (.int .u8 x') := HO5.out.cell 0
              have hc5_1 : w5.cell? ⟨gs, 1, none⟩ = some (.slice A2 y.length c2) := HO5.out.cell 1
              have HAP : Hid (OwnS 34 (fun i => g < i ∧ (Value.slice A1 q k1).ownBlock ≠ some i) w5 (g + 1) (.slice A1 q k1) is ∧ SecX (fun i => g < i ∧ (Value.slice A1 q k1).ownBlock ≠ some i) w5 ⟨x', y, A2, c2⟩) := by
                obtain ⟨x1, x2, x3, x4, x5⟩ := HX.out
                refine ⟨x2.chg HC5.out (fun i hil hi e => by have := hi.1; have := HGS.out; omega) (fun i hi e => by have := owns_ge x2.1 hi; have := owns_lt x2.1 hi; have := HGS.out; omega), HS5.out.mono fun i _ hi => ⟨by omega, fun e => by have := owns_lt x2.1 e; have := HGS.out; omega⟩⟩
              have hgw5 : g < w5.heap.size := RfAt5.lt HR5.out
              have hil : is.length + 1 ≤ 1000000000 := by have h1 := HX.out.2.2.2.2; have h2 := HQ.out; simp only [lenS] at h1; omega
              go_wp2_with fail
              refine (rank_any x' w5 i0 i1).mono ?_
              rintro e w6 ⟨rfl, rfl⟩
              go_wp2_with (at_builtin; refine wpList_appS1 under_rsecs rsec_info rfl (.tmp 103) (.tmp 105) rfl (g + 1) (.slice A1 q k1) is rfl HAP.out.1 ⟨x', y, A2, c2⟩ HAP.out.2 rfl hil (by omega) ?_; intro v1 w9 hv1 hw1; have HV := Lib.hid (And.intro hv1 hw1); clear hv1 hw1)
              go_roundg g'
              case measure => omega
              case rel =>
                obtain ⟨x1, x2, x3, x4, x5⟩ := HX.out
                have y1 := HV.out.1
                have y2 := HV.out.2
                have hlt := HMM.out.1.2
                rw [HST.out] at hlt
                simp only [lenS, List.length_cons] at hlt x5
                simp only [muS, List.length_cons] at hgk
                refine ⟨is ++ [⟨x', y, A2, c2⟩], .ok l5, k', by first | rfl | rw [hlast], by simp only [muS]; omega, by first | exact hk | exact (placeIn_le hk hpl).2.1, HR5.out.chg y2.1 fun i hi e => by have := owns_ge HAP.out.1.1 e; omega, y1.mono (fun i _ hi => ⟨hi.1.1, fun e => y1.2.2 i e hi⟩) (fun i hi e => e.2 hi), ?_, (x4.trans (HC5.out.below (Nat.le_of_lt hgw) fun i hi e => by have := HGS.out; omega)).trans (y2.1.below (by have := x4.size; have := HC5.out.size; omega) fun i hi e => by have := owns_ge HAP.out.1.1 e; omega), ?_⟩
                · rw [x3, HMM.out.1.1, HST.out, List.map_append]; rfl
                · rw [List.length_append, HQ.out]; simp only [lenS, List.length_cons, List.length_nil]; omega
    · rw [decide_eq_false hf] at hcmp
      have hs : split b = .error 2 := by unfold split pFront; rw [if_neg (by omega), if_neg hf]; rfl
      have HS := Lib.hid hs
      clear hs hf hn
      go_enter Tryd.func10, Tryd.ntmps10
      go_wp2
      go_returns
      exact ⟨_, [], by rw [HS.out]; rfl, OwnS.nil _ _ _ _, by rw [HS.out]; rfl, Below.refl _ _, by simp⟩
end Go.Proofs.YtgbjlcedabkdkaaDoor
