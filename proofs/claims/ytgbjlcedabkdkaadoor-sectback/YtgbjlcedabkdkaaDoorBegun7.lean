/- sect has begun: what each statement of layer 7 asks first. -/
import Derived.Test.YtgbjlcedabkdkaaDoorSectSplit
import Derived.Test.YtgbjlcedabkdkaaDoorSectJoin
import Derived.Deep.RegionWith
import Derived.Deep.RegionHeld3
namespace Go.Proofs.YtgbjlcedabkdkaaDoor
open Go.RowKit
set_option maxRecDepth 100000
set_option linter.unusedVariables false

theorem spl_b1 : split (secFront ++ [1, 1, 0]) = .ok [(1, [0])] := by kernel_rfl
theorem spl_b2 : split [120] = .error 3 := by kernel_rfl
theorem vd_a : vd [97] = true := by decide +kernel
theorem vd_x : vd [255] = false := by decide +kernel
theorem join_b1 : secFront ++ joinS [(1, [0])] = [0, 97, 115, 109, 1, 0, 0, 0, 1, 1, 0] := by decide +kernel
set_option maxHeartbeats 8000000 in
theorem begun7_any (w : World) (hT : Tabs w) :
    Calls Tryd.prog 8 #[] w fun e w' => e = .returned (.bool true) ∧ Below w.heap.size w w' := by
  have kc := fun (w : World) (C : Array Value) (n c : Nat) => Lib.run_convert_bytes_const (P := Tryd.prog) w 22 5 C n c under_bytes under_byte
  have HT := Lib.hid hT
  have HF := Lib.hid (And.intro (rd_marked w secFront secF_is (8, 9)) ((Below.refl w.heap.size w).alloc (Nat.le_refl _) (.cells (secFront.map (Value.int .u8)).toArray 5 (8, 9))))
  have HFF : Hid (secFront = [0, 97, 115, 109, 1, 0, 0, 0]) := rfl
  simp only [secFront, List.map_cons, List.map_nil, List.toArray] at HF
  rw [← HFF.out] at HF
  go_enter Tryd.func8, Tryd.ntmps8
  go_upto_region 2 with fail
  generalize hW1 : w.alloc (.cells #[.int .u8 0, .int .u8 97, .int .u8 115, .int .u8 109, .int .u8 1, .int .u8 0, .int .u8 0, .int .u8 0] 5 (8, 9)) = W1 at *
  have hsz : w.heap.size < W1.heap.size := by rw [← hW1]; simp
  clear hW1
  obtain ⟨g, hg⟩ : ∃ g, w.heap.size = g := ⟨_, rfl⟩
  rw [hg] at HF hsz ⊢
  have HG := Lib.hid hg
  clear hg
  have hlit := rdX_lit W1 [1, 1, 0] (by intro z hz; simp at hz; omega)
  have HL := Lib.hid (And.intro (HF.out.1.later ((Below.refl W1.heap.size W1).alloc (Nat.le_refl _) (.cells #[.int .u8 1, .int .u8 1, .int .u8 0] 5))) hlit)
  clear hlit
  go_wp2_with (at_builtin; refine wpList_appFull rfl (.tmp 9) (.tmp 10) rfl g 8 secFront rfl rfl HL.out.1 _ 3 3 [1, 1, 0] rfl rfl (by omega) HL.out.2 (by omega) ?_; intro v2 w2 hv2 hw2; have HV := Lib.hid (And.intro hv2 hw2); clear hv2 hw2; obtain ⟨A2, c2, e2, -, -, -⟩ := HV.out.1.rdX (secF_is.app (by intro z hz; simp at hz; omega)); have e3 : v2 = .slice A2 11 c2 := e2; clear e2; subst e3)
  have HI11 : Hid (IsBytes (secFront ++ [1, 1, 0])) := secF_is.app (by intro z hz; simp at hz; omega)
  have HB2 : Hid (Below g w w2 ∧ RdX (fun k => k = g) w2 (some ⟨g, 0, none⟩) secFront) := by
    have h12 : Below W1.heap.size W1 w2 := ((Below.refl _ _).alloc (Nat.le_refl _) _).trans (HV.out.2.mono (by simp))
    exact ⟨HF.out.2.trans (h12.mono (by omega)), HF.out.1.later h12⟩
  have hT2 : Tabs w2 := HT.out.later (by rw [HG.out]; exact HB2.out.1)
  obtain ⟨B2, d2, e2, hlc, hcm, hr2⟩ := HV.out.1.rdX HI11.out
  injection e2 with e3 e5 e4
  clear e5
  subst e3 e4
  have HS1 := Lib.hid (ssplit_any A2 (secFront ++ [1, 1, 0]) 11 c2 w2 hr2.rd rfl (by omega) hlc hcm hT2)
  clear hT2 hlc hcm hr2
  refine HS1.out.mono ?_
  rintro e w3 ⟨v, is, rfl, p1, p2, p3, p4⟩
  rw [spl_b1] at p2
  simp only [spL] at p2
  rw [spl_b1]
  simp only [spE]
  have hlen : is.length = 1 := by have := congrArg List.length p2; simpa using this
  obtain ⟨A3, c3, rfl, -, -, -⟩ := RdV.of_own p1.1
  have HP3 := Lib.hid (And.intro p1 (And.intro p2 (And.intro (HB2.out.1.trans (p3.mono HB2.out.1.size |> fun h => h.mono (by have := HB2.out.1.size; have := HG.out; omega))) (HB2.out.2.later p3))))
  rw [hlen] at HP3 ⊢
  have HLEN := Lib.hid hlen
  clear p1 p2 p3 p4 hlen HS1 HV HL
  have HX1 := Lib.hid (rd_marked w3 [120] (by intro z hz; simp at hz; omega) (1, 2))
  simp only [List.map_cons, List.map_nil, List.toArray] at HX1
  have hb4 : Below w3.heap.size w3 (w3.alloc (.cells #[.int .u8 120] 5 (1, 2))) := (Below.refl _ _).alloc (Nat.le_refl _) _
  have HP4 : Hid (Below g w (w3.alloc (.cells #[.int .u8 120] 5 (1, 2))) ∧ Below w3.heap.size w3 (w3.alloc (.cells #[.int .u8 120] 5 (1, 2)))) := ⟨HP3.out.2.2.1.trans (hb4.mono (by have := HP3.out.2.2.1.size; have := HG.out; omega)), hb4⟩
  have HS2 := Lib.hid (ssplit_any (some ⟨w3.heap.size, 0, none⟩) [120] 1 1 _ HX1.out.rd rfl (by omega) (by omega) (by decide) (HT.out.later (by rw [HG.out]; exact HP4.out.1)))
  clear hb4
  go_wp2_with fail
  refine HS2.out.mono ?_
  rintro e w5 ⟨v5, is5, rfl, -, -, p3, -⟩
  rw [spl_b2]
  simp only [spE]
  have HB5 : Hid (Below g w w5 ∧ Below w3.heap.size w3 w5) := ⟨HP4.out.1.trans (p3.mono (Nat.le_trans (by have := HG.out; omega) HP4.out.1.size)), HP4.out.2.trans (p3.mono (by simp))⟩
  clear p3 HS2 HX1 HP4
  go_upto_region 4 with fail
  have HQ : Hid (RdS (fun _ => True) w5 (.slice A3 1 c3) is ∧ RdX (fun _ => True) w5 (some ⟨g, 0, none⟩) secFront) := by
    have h1 := HP3.out.1.rd
    rw [show (Value.slice A3 1 c3) = .slice A3 is.length c3 from by rw [HLEN.out]] at h1
    exact ⟨by have := (h1.later HB5.out.2).mono (Y := fun _ => True) fun _ _ _ => trivial; rwa [HLEN.out] at this, (HP3.out.2.2.2.later HB5.out.2).mono fun _ _ _ => trivial⟩
  obtain ⟨i0, hi0⟩ : ∃ i, is[0]? = some i := ⟨is[0]'(by rw [HLEN.out]; omega), List.getElem?_eq_getElem _⟩
  have hi1 : i0.id = 1 ∧ i0.y = [0] := by
    have := HP3.out.2.1
    have h2 : (is.map SV.sec)[0]? = some i0.sec := by rw [List.getElem?_map, hi0]; rfl
    rw [this] at h2
    simp [SV.sec] at h2
    exact ⟨h2.1.symm, h2.2.symm⟩
  obtain ⟨bl, ol, rfl, -, -, ci, -, -⟩ := HQ.out.1.at_ hi0
  rw [hi1.1] at ci
  simp only [Nat.zero_mul, Nat.add_zero] at ci
  have HCI : Hid (∀ W, Below w5.heap.size w5 W → W.cell? ⟨bl, ol, none⟩ = some (.int .u8 1) ∧ (convert 22 9 (.slice (some ⟨g, 0, none⟩) 8 8)).run Tryd.prog W = .ok (.string (strOfNums secFront)) W) := fun W hW => by
    refine ⟨?_, (HQ.out.2.later hW).rd.string 8⟩
    rw [hW.cell (World.block_lt_of_cell? _ _ ci)]; exact ci
  have HY : ∀ i ∈ is, i.y.length ≤ 1 := fun i hi => by
    have hm : i.sec ∈ is.map SV.sec := List.mem_map_of_mem hi
    rw [HP3.out.2.1] at hm
    simp [SV.sec] at hm
    rw [hm.2]; simp
  have HJ : Hid (∀ W, Below w5.heap.size w5 W → Calls Tryd.prog 13 #[.slice (some ⟨bl, ol, none⟩) 1 c3] W (fun e w' => ∃ A c, e = .returned (.slice A 11 c) ∧ Below W.heap.size W w' ∧ RdX (fun _ => True) w' A (secFront ++ joinS [(1, [0])]))) := fun W hW => by
    refine (sjoin_any _ is 1 W (HQ.out.1.later hW) HY (by rw [HLEN.out]; omega)).mono ?_
    rw [HP3.out.2.1]
    rintro e w' ⟨A, c, rfl, h1, h2, h3, h4⟩
    exact ⟨A, c, rfl, h4, h1.mono fun _ _ _ => trivial⟩
  have HUA : Hid (∀ W, Below g w W → Calls Tryd.prog 11 #[.slice (some ⟨W.heap.size, 0, none⟩) 1 1] (W.alloc (.cells #[.int .u8 97] 5 (1, 2))) (fun e w' => e = .returned (.bool true) ∧ Below W.heap.size W w')) := fun W hW => by
    have hb : Below W.heap.size W (W.alloc (.cells #[.int .u8 97] 5 (1, 2))) := (Below.refl _ _).alloc (Nat.le_refl _) _
    refine (sutf_any _ [97] 1 1 _ (rd_marked W [97] (by intro z hz; simp at hz; omega) (1, 2)) rfl (by omega) (HT.out.later (by rw [HG.out]; exact hW.trans (hb.mono (by have := hW.size; have := HG.out; omega))))).mono ?_
    rintro e w' ⟨rfl, h⟩
    exact ⟨by rw [vd_a], hb.trans (h.mono (by simp))⟩
  have HUX : Hid (∀ W, Below g w W → Calls Tryd.prog 11 #[.slice (some ⟨W.heap.size, 0, none⟩) 1 1] (W.alloc (.cells #[.int .u8 255] 5)) (fun e w' => e = .returned (.bool false) ∧ Below W.heap.size W w')) := fun W hW => by
    have hb : Below W.heap.size W (W.alloc (.cells #[.int .u8 255] 5)) := (Below.refl _ _).alloc (Nat.le_refl _) _
    refine (sutf_any _ [255] 1 1 _ (rdX_lit W [255] (by intro z hz; simp at hz; omega)) rfl (by omega) (HT.out.later (by rw [HG.out]; exact hW.trans (hb.mono (by have := hW.size; have := HG.out; omega))))).mono ?_
    rintro e w' ⟨rfl, h⟩
    exact ⟨by rw [vd_x], hb.trans (h.mono (by simp))⟩
  have hstr : ((strOfNums (secFront ++ joinS [(1, [0])])).toList == (strOfNums secFront).toList ++ [1, 1, 0]) = true := by decide +kernel
  have HD : Hid (Below w5.heap.size w5 w5.drew) := (Below.refl _ _).drew
  have HB5' := HB5.out.1
  clear hi0 ci HQ HP3 hi1 HY
  go_region_held (fun (w' : World) => w'.cell? ⟨bl, ol, none⟩ = some (.int .u8 1) ∧ (convert 22 9 (.slice (some ⟨g, 0, none⟩) 8 8)).run Tryd.prog w' = .ok (.string (strOfNums secFront)) w') (exact HCI.out _ (by first | exact HB8.out | exact HB7.out | exact HB7.out.alloc HB7.out.size _ | exact HB6.out | exact HB6.out.alloc HB6.out.size _ | exact HD.out))
    (first
      | (go_at_call 13; refine (HJ.out w5.drew HD.out).mono ?_; rintro e w6 ⟨A6, c6, rfl, hb, hr⟩; have hs6 : (convert 22 9 (.slice A6 11 c6)).run Tryd.prog w6 = .ok (.string (strOfNums (secFront ++ joinS [(1, [0])]))) w6 := hr.rd.string c6; have HB6 := Lib.hid (HD.out.trans (hb.mono HD.out.size)); have HG6 := Lib.hid (HB5'.trans (HB6.out.mono (Nat.le_trans (by have := HG.out; omega) HB5'.size))); clear hb hr)
      | (go_at_call 11; refine (HUX.out w7 HG7.out).mono ?_; rintro e w8 ⟨rfl, hb⟩; have HB8 := Lib.hid (HB7.out.trans (hb.mono HB7.out.size)); have HG8 := Lib.hid (HG7.out.trans (hb.mono (Nat.le_trans (by have := HG.out; omega) HG7.out.size))); clear hb)
      | (go_at_call 11; refine (HUA.out w6 HG6.out).mono ?_; rintro e w7 ⟨rfl, hb⟩; have HB7 := Lib.hid (HB6.out.trans (hb.mono HB6.out.size)); have HG7 := Lib.hid (HG6.out.trans (hb.mono (Nat.le_trans (by have := HG.out; omega) HG6.out.size))); clear hb))
  all_goals go_wp2_with fail
  all_goals go_ret
  all_goals exact ⟨rfl, by rw [HG.out]; exact HG8.out⟩
end Go.Proofs.YtgbjlcedabkdkaaDoor
