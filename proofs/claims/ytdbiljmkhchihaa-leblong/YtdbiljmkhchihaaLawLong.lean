/- The walk of LebLong: out of the contracts. -/
import Derived.Test.YtdbiljmkhchihaaLebMath4
import Derived.Test.YtdbiljmkhchihaaLebRead2
import Derived.Test.YtdbiljmkhchihaaLebPut
import Derived.Test.YtdbiljmkhchihaaBegun1
import Derived.Test.YtdbiljmkhchihaaRows1
import Derived.Test.YtdbiljmkhchihaaBytesStore
namespace Go.Proofs.Ytdbiljmkhchihaa
open Go.RowKit
set_option linter.unusedVariables false

theorem or128_small (c : Int) (h0 : 0 ≤ c) (h1 : c < 128) : Go.bits .or .u8 c 128 = c + 128 := by
  have := or128 c
  rw [show c % 256 = c from by omega, show c % 128 = c from by omega] at this
  exact this

set_option maxHeartbeats 4000000 in
theorem longer_any (A : Option Addr) (gs : List Int) (n c k : Nat) (e : Int) (w : World) (hne : gs ≠ []) (hG : Groups gs) (h : Rd w w.heap.size A (bytesOf gs)) (hn : n = (bytesOf gs).length) (hl : n ≤ 10) (hk : k ≤ 7) (he : 0 ≤ e ∧ e < 128) :
    Calls Try.prog 27 #[.slice A n c, .int .i64 k, .int .u8 e] w fun en w' => ∃ v, en = .returned v ∧ OwnB w' w.heap.size v (bytesOf (gs ++ List.replicate k e)) ∧ Below w.heap.size w w' := by
  have HR := Lib.hid h
  have HN := Lib.hid hn
  have HG := Lib.hid (And.intro hne hG)
  obtain ⟨he0, he1⟩ := he
  clear h hn hne hG
  go_enter Try.func27, Try.ntmps27
  go_wp2_with (at_builtin; refine wpList_app rfl (.tmp 9) (.tmp 10) rfl w.heap.size _ [] rfl (ownB_lit0 w) A n c (bytesOf gs) rfl HN.out (by exact HR.out.later ((Below.refl _ _).alloc (Nat.le_refl _) _)) (by simp; omega) (by simp) ?_; intro v0' w0 hv0 hw0; have HV0 := Lib.hid (And.intro hv0 (((Below.refl w.heap.size w).alloc (Nat.le_refl _) (.cells #[] 5)).trans hw0)); clear hv0 hw0)
  go_loopw [7, 8] (fun u i wr => ∃ (j : Nat), j ≤ k ∧ i = .int .i64 j ∧ Hid (OwnB wr w.heap.size u (bytesOf (gs ++ List.replicate j e)) ∧ Below w.heap.size w wr)) (fun _ i _ => k - (intOf i).toNat)
  case atStart => exact ⟨0, by omega, rfl, by simpa using HV0.out.1, HV0.out.2⟩
  case round =>
    obtain ⟨j, hj, rfl, HX⟩ := hrel
    clear HV0
    by_cases hlt : j < k
    · have hne : gs ++ List.replicate j e ≠ [] := by simp [HG.out.1]
      have hGj : Groups (gs ++ List.replicate j e) := groups_app HG.out.2 (groups_rep j e he0 he1)
      have hlen : (bytesOf (gs ++ List.replicate j e)).length = n + j := by rw [bytesOf_length, HN.out, bytesOf_length]; simp
      have hpos : 0 < (bytesOf (gs ++ List.replicate j e)).length := by rw [bytesOf_length]; exact List.length_pos_iff.2 hne
      obtain ⟨g, cap, rfl, hg, hcap, hcap2, hcells⟩ := HX.out.1.spot hpos
      have hlast := bytesOf_last _ hne hGj
      have hsn := bytesOf_snoc _ hne e
      have hsn2 : bytesOf (gs ++ List.replicate (j + 1) e) = bytesOf ((gs ++ List.replicate j e) ++ [e]) := by
        rw [List.replicate_succ', ← List.append_assoc]
      rw [hsn] at hsn2
      have hst := HX.out.1.store (n + j - 1) ((bytesOf (gs ++ List.replicate j e)).getD (n + j - 1) 0 + 128)
      rw [← bytesOf_length, hlen] at hlast hsn2
      have hc := hcells (n + j - 1) (by omega)
      obtain ⟨hc1, hc2⟩ := hc
      have hbis := bytesOf_is _ hGj
      generalize bytesOf (gs ++ List.replicate j e) = L at *
      rw [hlen] at hst hcap ⊢
      generalize hz : L.getD (n + j - 1) 0 = z at *
      have hor := or128_small z hlast.1 hlast.2
      have HS := Lib.hid (And.intro hst (And.intro hsn2 (And.intro hlen (And.intro hg hbis))))
      have hnj : 1 ≤ n + j := by omega
      clear hst hsn hsn2 hlen hz hcells hpos hGj hne hbis
      go_wp2_with (at_builtin; refine wpList_app1n rfl (.tmp 25) (.tmp 27) rfl w.heap.size _ _ rfl HS.out.1 e wr.heap.size (by simp [World.setCell]) rfl he0 (by omega) (by rw [List.length_set, HS.out.2.2.1]; omega) (by simp [World.setCell]; exact HX.out.2.size) ?_; intro v1 w1 hv1 hw1; have HV := Lib.hid (And.intro hv1 hw1); clear hv1 hw1)
      exact ⟨⟨j + 1, by omega, by go_num, by rw [HS.out.2.1]; exact HV.out.1, (HX.out.2.setCell (p := ⟨g, n + j - 1, none⟩) HS.out.2.2.2.1 _).trans HV.out.2⟩, by simp [intOf]; omega⟩
    · obtain rfl : j = k := by omega
      go_wp2
      go_ret
      exact ⟨_, rfl, HX.out⟩

set_option maxRecDepth 100000 in
set_option maxHeartbeats 8000000 in
theorem lebLong_core (v s n : Int) (w : World) (hv : 0 ≤ v ∧ v < 4294967296) (hs : -2147483648 ≤ s ∧ s < 2147483648) (hn : 0 ≤ n ∧ n ≤ 255) :
    Calls Try.prog 6 #[.int .u32 v, .int .i32 s, .int .u8 n] w fun e w' => e = .returned (.bool true) ∧ Below w.heap.size w w' := by
  obtain ⟨hv1, hv2⟩ := hv
  obtain ⟨hs1, hs2⟩ := hs
  obtain ⟨hn1, hn2⟩ := hn
  obtain ⟨k, hk⟩ : ∃ k : Nat, n % 8 = k := ⟨(n % 8).toNat, by omega⟩
  have hk7 : k ≤ 7 := by omega
  obtain ⟨u1, u2, u3, u4, u5⟩ := dgU_spec 9 v hv1 (by simp; omega)
  obtain ⟨d1, d2, d3, d4, d5, d6⟩ := dgS_spec 9 s (by simp; omega) (by simp; omega)
  have C1 := Lib.hid (fun W => putU_any none [] 0 0 v W (Rd.nil _ _ _) rfl (by omega) hv1 (by omega))
  have C2 := Lib.hid (fun W => putS_any none [] 0 0 s W (Rd.nil _ _ _) rfl (by omega) (by omega) (by omega))
  simp only [List.nil_append] at C1 C2
  have E1 := Lib.hid (rdU32_long v k hk7 hv1 hv2)
  have E2 := Lib.hid (rdS32_long s k hk7 hs1 hs2)
  have GU := Lib.hid (And.intro (dgU_ne 9 v) u1)
  have GS := Lib.hid (And.intro (dgS_ne 9 s) d1)
  have PU : 0 < (encU v).length ∧ (encU v).length ≤ 10 := by unfold encU; rw [bytesOf_length]; exact ⟨List.length_pos_iff.2 (dgU_ne _ _), dgU_len 9 v⟩
  have PS : 0 < (encS s).length ∧ (encS s).length ≤ 10 := by unfold encS; rw [bytesOf_length]; exact ⟨List.length_pos_iff.2 (dgS_ne _ _), dgS_len 9 s⟩
  clear u1 u2 u3 u4 u5 d1 d2 d3 d4 d5 d6
  unfold encU at C1 E1 PU
  unfold encS at C2 E2 PS
  generalize dgU 9 v = gU at *
  generalize dgS 9 s = gS at *
  obtain ⟨nU, hnU⟩ : ∃ q, q = (bytesOf gU).length := ⟨_, rfl⟩
  obtain ⟨nS, hnS⟩ : ∃ q, q = (bytesOf gS).length := ⟨_, rfl⟩
  rw [← hnU] at E1 PU
  rw [← hnS] at E2 PS
  obtain ⟨pu1, pu2⟩ := PU
  obtain ⟨ps1, ps2⟩ := PS
  have NU := Lib.hid hnU
  have NS := Lib.hid hnS
  clear hnU hnS
  obtain ⟨se, he⟩ : ∃ e : Int, e = (if s < 0 then 127 else 0) := ⟨_, rfl⟩
  rw [← he] at E2
  have he2 : 0 ≤ se ∧ se < 128 := by rw [he]; split <;> omega
  have HE := Lib.hid (And.intro he he2)
  clear he he2
  have LU : (bytesOf (gU ++ List.replicate k 0)).length = nU + k := by rw [bytesOf_length, NU.out, bytesOf_length]; simp
  have LS : (bytesOf (gS ++ List.replicate k se)).length = nS + k := by rw [bytesOf_length, NS.out, bytesOf_length]; simp
  have HLU := Lib.hid LU
  have HLS := Lib.hid LS
  clear LU LS
  go_enter Try.func6, Try.ntmps6
  go_wp2_with fail
  refine (begun1_any w).mono ?_
  rintro e w1 ⟨rfl, hb1⟩
  have HB1 := Lib.hid hb1
  clear hb1
  go_wp2_with fail
  refine (C1.out w1).mono ?_
  rintro e w2 ⟨v2, rfl, ho2, hb2⟩
  obtain ⟨AU, cU, rfl, hrU, hcU, hcU2⟩ := ho2.form2 (bytesOf_is _ GU.out.2)
  rw [← NU.out] at hcU ⊢
  have HU := Lib.hid hrU
  have HB2 := Lib.hid (HB1.out.trans (hb2.mono HB1.out.size))
  clear ho2 hb2 hrU C1 HB1
  go_wp2_with fail
  refine (C2.out w2).mono ?_
  rintro e w3 ⟨v3, rfl, ho3, hb3⟩
  obtain ⟨AS, cS, rfl, hrS, hcS, hcS2⟩ := ho3.form2 (bytesOf_is _ GS.out.2)
  rw [← NS.out] at hcS ⊢
  have HS := Lib.hid hrS
  have HU3 := Lib.hid (HU.out.later hb3)
  have HB3 := Lib.hid (HB2.out.trans (hb3.mono HB2.out.size))
  clear ho3 hb3 hrS C2 HB2 HU
  unfold maxLen at hcU2 hcS2
  have hz1 : ((nU : Int) == 0) = false := by simp; omega
  have hz2 : ((nS : Int) == 0) = false := by simp; omega
  by_cases hneg : s < 0
  · obtain rfl : se = 127 := by rw [HE.out.1, if_pos hneg]
    go_wp2_with fail
    refine (longer_any AU gU nU cU k 0 w3 GU.out.1 GU.out.2 HU3.out NU.out pu2 hk7 (by omega)).mono ?_
    rintro e w4 ⟨v4, rfl, ho4, hb4⟩
    obtain ⟨A4, c4, rfl, hr4, hc4, hc42⟩ := ho4.form2 (bytesOf_is _ (groups_app GU.out.2 (groups_rep k 0 (by omega) (by omega))))
    rw [HLU.out] at hc4 ⊢
    have H4 := Lib.hid hr4
    have HS4 := Lib.hid (HS.out.later hb4)
    have HB4 := Lib.hid (HB3.out.trans (hb4.mono HB3.out.size))
    clear ho4 hb4 hr4
    go_wp2_with fail
    refine (longer_any AS gS nS cS k 127 w4 GS.out.1 GS.out.2 HS4.out NS.out ps2 hk7 (by omega)).mono ?_
    rintro e w5 ⟨v5, rfl, ho5, hb5⟩
    obtain ⟨A5, c5, rfl, hr5, hc5, hc52⟩ := ho5.form2 (bytesOf_is _ (groups_app GS.out.2 (groups_rep k 127 (by omega) (by omega))))
    rw [HLS.out] at hc5 ⊢
    have H5 := Lib.hid hr5
    have H45 := Lib.hid (H4.out.later hb5)
    have HB5 := Lib.hid (HB4.out.trans (hb5.mono HB4.out.size))
    clear ho5 hb5 hr5
    unfold maxLen at hc42 hc52
    have hwv : IntKind.u32.wrap v = v := by rw [IntKind.wrap_u32]; omega
    have hws : wrap32 s = s := by unfold wrap32; omega
    have hwv0 : IntKind.u32.wrap 0 = 0 := by rw [IntKind.wrap_u32]; omega
    have hws0 : wrap32 0 = 0 := by unfold wrap32; omega
    have HWW := Lib.hid (And.intro hwv (And.intro hws (And.intro hwv0 hws0)))
    clear hwv hws hwv0 hws0
    by_cases a1 : nU + k ≤ 5
    all_goals (first | rw [if_pos a1] at E1 | rw [if_neg a1] at E1)
    all_goals by_cases a2 : nS + k ≤ 5
    all_goals (first | rw [if_pos a2] at E2 | rw [if_neg a2] at E2)
    all_goals
      go_wp2_with fail
      refine (U32_any A4 _ (nU + k) c4 w5 H45.out HLU.out.symm (by simp only [maxLen]; omega)).mono ?_
      rintro e w' ⟨rfl, rfl⟩
      rw [E1.out]
      unfold three on1
      simp only [HWW.out.1, HWW.out.2.2.1]
      go_wp2_with fail
      refine (S32_any A5 _ (nS + k) c5 w5 H5.out HLS.out.symm (by simp only [maxLen]; omega)).mono ?_
      rintro e w' ⟨rfl, rfl⟩
      rw [E2.out]
      unfold three on1
      simp only [HWW.out.2.1, HWW.out.2.2.2]
      clear E1 E2 HLU HLS HWW
      go_wp2
      go_ret
      exact ⟨by first | rfl | (simp; omega), HB5.out⟩
  · obtain rfl : se = 0 := by rw [HE.out.1, if_neg hneg]
    go_wp2_with fail
    refine (longer_any AU gU nU cU k 0 w3 GU.out.1 GU.out.2 HU3.out NU.out pu2 hk7 (by omega)).mono ?_
    rintro e w4 ⟨v4, rfl, ho4, hb4⟩
    obtain ⟨A4, c4, rfl, hr4, hc4, hc42⟩ := ho4.form2 (bytesOf_is _ (groups_app GU.out.2 (groups_rep k 0 (by omega) (by omega))))
    rw [HLU.out] at hc4 ⊢
    have H4 := Lib.hid hr4
    have HS4 := Lib.hid (HS.out.later hb4)
    have HB4 := Lib.hid (HB3.out.trans (hb4.mono HB3.out.size))
    clear ho4 hb4 hr4
    go_wp2_with fail
    refine (longer_any AS gS nS cS k 0 w4 GS.out.1 GS.out.2 HS4.out NS.out ps2 hk7 (by omega)).mono ?_
    rintro e w5 ⟨v5, rfl, ho5, hb5⟩
    obtain ⟨A5, c5, rfl, hr5, hc5, hc52⟩ := ho5.form2 (bytesOf_is _ (groups_app GS.out.2 (groups_rep k 0 (by omega) (by omega))))
    rw [HLS.out] at hc5 ⊢
    have H5 := Lib.hid hr5
    have H45 := Lib.hid (H4.out.later hb5)
    have HB5 := Lib.hid (HB4.out.trans (hb5.mono HB4.out.size))
    clear ho5 hb5 hr5
    unfold maxLen at hc42 hc52
    have hwv : IntKind.u32.wrap v = v := by rw [IntKind.wrap_u32]; omega
    have hws : wrap32 s = s := by unfold wrap32; omega
    have hwv0 : IntKind.u32.wrap 0 = 0 := by rw [IntKind.wrap_u32]; omega
    have hws0 : wrap32 0 = 0 := by unfold wrap32; omega
    have HWW := Lib.hid (And.intro hwv (And.intro hws (And.intro hwv0 hws0)))
    clear hwv hws hwv0 hws0
    by_cases a1 : nU + k ≤ 5
    all_goals (first | rw [if_pos a1] at E1 | rw [if_neg a1] at E1)
    all_goals by_cases a2 : nS + k ≤ 5
    all_goals (first | rw [if_pos a2] at E2 | rw [if_neg a2] at E2)
    all_goals
      go_wp2_with fail
      refine (U32_any A4 _ (nU + k) c4 w5 H45.out HLU.out.symm (by simp only [maxLen]; omega)).mono ?_
      rintro e w' ⟨rfl, rfl⟩
      rw [E1.out]
      unfold three on1
      simp only [HWW.out.1, HWW.out.2.2.1]
      go_wp2_with fail
      refine (S32_any A5 _ (nS + k) c5 w5 H5.out HLS.out.symm (by simp only [maxLen]; omega)).mono ?_
      rintro e w' ⟨rfl, rfl⟩
      rw [E2.out]
      unfold three on1
      simp only [HWW.out.2.1, HWW.out.2.2.2]
      clear E1 E2 HLU HLS HWW
      go_wp2
      go_ret
      exact ⟨by first | rfl | (simp; omega), HB5.out⟩
end Go.Proofs.Ytdbiljmkhchihaa
