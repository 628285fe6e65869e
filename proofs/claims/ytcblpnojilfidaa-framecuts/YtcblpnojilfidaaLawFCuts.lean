/- The walk of FrameCuts: out of the contracts. -/
import Derived.Test.YtcblpnojilfidaaBegun2
import Derived.Test.YtcblpnojilfidaaCuts
import Derived.Test.YtcblpnojilfidaaSame2
import Derived.Test.YtcblpnojilfidaaSteps
namespace Go.Proofs.Ytcblpnojilfidaa
open Go.RowKit
set_option linter.unusedVariables false

theorem enAll_take (ls : List (List Int)) (k : Nat) (h : k < ls.length) : enAll (ls.take (k + 1)) = enAll (ls.take k) ++ enF (ls.getD k []) := by
  rw [List.take_succ_eq_append_getElem h, List.getD_eq_getElem?_getD, List.getElem?_eq_getElem h]
  unfold enAll
  rw [List.map_append, List.flatten_append]
  simp only [List.map_cons, List.map_nil, List.flatten_cons, List.flatten_nil, List.append_nil, Option.getD_some]
/-- What is cut off the front is no bad one, where the whole is none. -/
theorem fr_front (a b : List Int) (ls : List (List Int)) (h : fr (a ++ b) = (ls, [], false)) : (fr a).2.2 = false := by
  have e := fr_app a b
  rw [h] at e
  cases hb : (fr a).2.2
  · rfl
  · rw [hb] at e; simp at e
theorem fr_more (a b : List Int) (h : (fr a).2.2 = false) : fr (a ++ b) = ((fr a).1 ++ (fr ((fr a).2.1 ++ b)).1, (fr ((fr a).2.1 ++ b)).2) := by
  rw [fr_app, h]; simp
theorem enF_bytes' {l : List Int} (h : IsBytes l) (hl : l.length ≤ 65535) : IsBytes (enF l) := fun z hz => by
  simp [enF] at hz
  rcases hz with rfl | rfl | hz
  · omega
  · omega
  · exact h z hz
theorem enF_len' (l : List Int) : (enF l).length = l.length + 2 := by simp [enF]

theorem PIn.chgX {S : Nat → Prop} {B : Nat} {w0 w w' : World} {g : Nat} {v : Value} {l : List Int} {bad : Bool} (h : PIn B w0 w g v l bad) (hc : Chg S w w') (hg : ¬ S g) (hv : ∀ k, v.ownBlock = some k → ¬ S k) (hB : ∀ i, i < B → ¬ S i) : PIn B w0 w' g v l bad :=
  ⟨h.1.chg hc hg hv, h.2.1, h.2.2.1, h.2.2.2.1.trans (hc.below (Nat.le_trans h.2.2.2.2 h.2.2.2.1.size) hB), h.2.2.2.2⟩

def lenV : Value → Nat
  | .slice _ n _ => n
  | _ => 0

set_option maxRecDepth 100000 in
set_option maxHeartbeats 4000000 in
theorem frameCuts_core (A C : Option Addr) (ls : List (List Int)) (cs : List Int) (n c nc cc : Nat) (w : World) (h : RdL (· < w.heap.size) w (.slice A n c) ls) (hn : n = ls.length) (hl : n ≤ maxLen) (hc : Rd w w.heap.size C cs) (hnc : nc = cs.length) (hlc : nc ≤ maxLen) :
    Calls Try.prog 4 #[.slice A n c, .slice C nc cc] w fun e w' => e = .returned (.bool true) ∧ Below w.heap.size w w' := by
  have HR := Lib.hid h
  have HN := Lib.hid hn
  have HC := Lib.hid (And.intro hc hnc)
  clear h hn hc hnc
  unfold maxLen at hl hlc
  by_cases h10 : 10 < n ∨ 60 < nc
  · by_cases h10a : 10 < n
    · have g1 : decide ((10 : Int) < (n : Int)) = true := by simp; omega
      go_enter Try.func4, Try.ntmps4
      go_wp2_with fail
      refine (begun2_any w).mono ?_
      rintro e w1 ⟨rfl, hb1⟩
      have HB1 := Lib.hid hb1
      clear hb1
      go_wp2
      go_ret
      exact ⟨rfl, HB1.out⟩
    · have g1 : decide ((10 : Int) < (n : Int)) = false := by simp; omega
      have g2 : decide ((60 : Int) < (nc : Int)) = true := by simp; omega
      go_enter Try.func4, Try.ntmps4
      go_wp2_with fail
      refine (begun2_any w).mono ?_
      rintro e w1 ⟨rfl, hb1⟩
      have HB1 := Lib.hid hb1
      clear hb1
      go_wp2
      go_ret
      exact ⟨rfl, HB1.out⟩
  · have g1 : decide ((10 : Int) < (n : Int)) = false := by simp; omega
    have g2 : decide ((60 : Int) < (nc : Int)) = false := by simp; omega
    go_enter Try.func4, Try.ntmps4
    go_wp2_with fail
    refine (begun2_any w).mono ?_
    rintro e w1 ⟨rfl, hb1⟩
    have HB1 := Lib.hid hb1
    clear hb1
    go_wp2
    go_loopw [5, 6] (fun v i wr => ∃ (k : Nat), k ≤ n ∧ i = .int .i64 k ∧ Hid (OwnB wr w.heap.size v (enAll (ls.take k)) ∧ IsBytes (enAll (ls.take k)) ∧ Below w.heap.size w wr ∧ (enAll (ls.take k)).length ≤ 42 * k ∧ ∀ x ∈ ls.take k, x.length ≤ 40)) (fun _ i _ => n - (intOf i).toNat)
    case atStart => exact ⟨0, by omega, rfl, OwnB.nil _ _, IsBytes.nil, HB1.out, by simp [enAll], by simp⟩
    case round =>
      obtain ⟨k, hk, rfl, HX⟩ := hrel
      by_cases hlt : k < n
      · have hRk : RdL (· < w.heap.size) wr (.slice A n c) ls := HR.out.chg (S := fun i => w.heap.size ≤ i) ⟨HX.out.2.2.1.os, HX.out.2.2.1.tape, HX.out.2.2.1.output, HX.out.2.2.1.size, fun i hi _ => HX.out.2.2.1.block i hi⟩ (fun i _ hi e => by omega)
        obtain ⟨b, o, P, d, rfl, hbX, hbw, hcell, hpl, hpd, hrp⟩ := hRk.at_ (j := k) (by rw [← HN.out]; exact hlt)
        have HT := Lib.hid (enAll_take ls k (by rw [← HN.out]; exact hlt))
        have HM' : Hid (ls.take (k + 1) = ls.take k ++ [ls.getD k []]) := by
          unfold Hid
          rw [List.take_succ_eq_append_getElem (by rw [← HN.out]; exact hlt)]
          simp [List.getD_eq_getElem?_getD, List.getElem?_eq_getElem (show k < ls.length by rw [← HN.out]; exact hlt)]
        generalize ls.getD k [] = pc at *
        generalize hm : pc.length = m at *
        have HM := Lib.hid hm
        unfold maxLen at hpd
        have HRp := Lib.hid hrp
        clear hm hrp hRk
        by_cases h40 : 40 < m
        · have h40' : (40 : Int) < (m : Int) := by omega
          go_wp2
          go_ret
          exact ⟨rfl, HX.out.2.2.1⟩
        · have h40' : ¬ (40 : Int) < (m : Int) := by omega
          go_wp2_with fail
          refine (put_any2 P pc m d wr HRp.out.rd HM.out.symm (by omega)).mono ?_
          rintro e w2 ⟨v2, rfl, ho2, hb2⟩
          have hby := enF_bytes' HRp.out.1 (by rw [HM.out]; omega)
          obtain ⟨A2, c2, rfl, -, -, hr2⟩ := ho2.rdX hby
          have hown2 := HX.out.1.later hb2
          have H2 := Lib.hid (And.intro hr2 (And.intro hown2 (And.intro hby (HX.out.2.2.1.trans (hb2.mono HX.out.2.2.1.size)))))
          have hlen2 : (enF pc).length = m + 2 := by rw [enF_len', HM.out]
          have HL2 := Lib.hid hlen2
          have h420 : (enAll (ls.take k)).length ≤ 420 := by have := HX.out.2.2.2.1; omega
          clear ho2 hb2 hby hr2 hown2
          generalize hq : (enF pc).length = q at *
          have HQ := Lib.hid hq
          clear hq hlen2
          have hq4 : q ≤ 100 := by have := HL2.out; omega
          go_wp2_with (at_builtin; go_loud (refine wpList_app rfl (.tmp 35) (.tmp 40) rfl w.heap.size u5 (enAll (ls.take k)) rfl H2.out.2.1 A2 q c2 (enF pc) rfl HQ.out.symm H2.out.1.rd (by omega) H2.out.2.2.2.size ?_; intro v3 w3 hv3 hw3; rw [← HT.out] at hv3; have H3 := Lib.hid (And.intro hv3 (H2.out.2.2.2.trans hw3)); clear hv3 hw3))
          go_wp2
          refine ⟨⟨k + 1, by omega, by go_num, H3.out.1, ?_, H3.out.2, ?_, ?_⟩, by simp [intOf]; omega⟩
          · rw [HT.out]; exact HX.out.2.1.app H2.out.2.2.1
          · rw [HT.out, List.length_append, HQ.out, HL2.out]; have := HX.out.2.2.2.1; omega
          · rw [HM'.out]; intro y hy; rcases List.mem_append.1 hy with hy | hy
            · exact HX.out.2.2.2.2 y hy
            · simp at hy; subst hy; rw [HM.out]; omega
      · have hkn : k = n := by omega
        obtain ⟨wx, hwx⟩ : ∃ wx, wx = wr := ⟨_, rfl⟩
        subst hwx
        have hall : ls.take k = ls := List.take_of_length_le (by rw [← HN.out]; omega)
        have hX := HX.out
        rw [hall] at hX
        obtain ⟨hx1, hx2, hx3, hx4, hx5⟩ := hX
        have HFR := Lib.hid (fr_all ls (fun x hx => by have := hx5 x hx; omega))
        generalize enAll ls = L at *
        obtain ⟨A5, c5, rfl, hn5, hm5, hr5⟩ := hx1.rdX hx2
        generalize hq : L.length = q at *
        have HQ := Lib.hid hq
        clear hq
        have H5 := Lib.hid (And.intro hr5.rd.rx hx3)
        have h420 : q ≤ 420 := by omega
        unfold maxLen at hm5
        clear hx1 hx2 hx3 hx4 hx5 hr5 hall HX hkn
        go_wp2_with fail
        refine (new_any wx).mono ?_
        intro e w2 h2
        obtain ⟨rfl, hp2⟩ := PIn.new (Below.refl wx.heap.size wx) (Nat.le_refl _) h2
        generalize hgp : wx.heap.size = gp at *
        have HGP := Lib.hid hgp
        have HP := Lib.hid hp2
        clear hp2 h2 hgp
        go_wp2
        go_loopw [5, 8, 9] (fun a5 v8 i w' => ∃ (k : Nat) (dn rest : List Int) (A' : Option Addr) (m c' : Nat) (vp : Value), a5 = .slice A' m c' ∧ i = .int .i64 k ∧ m ≤ c' ∧ c' ≤ 9223372036854775807 ∧ m ≤ 420 ∧ k ≤ nc + 1 ∧ (k ≤ nc ∨ m = 0) ∧ Hid (m = rest.length ∧ dn ++ rest = L ∧ RdX (· < gp) wx A' rest ∧ PIn gp wx w' gp vp (fr dn).2.1 false ∧ OwnL (fun x => gp < x ∧ vp.ownBlock ≠ some x) w' v8 (fr dn).1 ∧ (fr dn).1.length ≤ dn.length)) (fun a5 _ i _ => (nc - (intOf i).toNat) + lenV a5)
        case atStart => exact ⟨0, [], L, A5, q, c5, _, rfl, rfl, hn5, by omega, h420, by omega, .inl (by omega), HQ.out.symm, rfl, H5.out.1, HP.out, OwnL.nil _ _, by simp [fr_nil]⟩
        case round =>
          obtain ⟨k, dn, rest, A', m, c', vp, rfl, rfl, hmc, hcm, hm4, hk1, hk2, HY⟩ := hrel
          clear HP
          by_cases hm0 : 0 < m
          · have hm0' : (0 : Int) < (m : Int) := by omega
            by_cases hkc : k < nc
            · have hkc' : (k : Int) < (nc : Int) := by omega
              have hRc : Rd wr w.heap.size C cs := (HC.out.1.below H5.out.2).below (HY.out.2.2.2.1.2.2.2.1.mono (by rw [← HGP.out]; exact H5.out.2.size))
              obtain ⟨bc, oc, rfl, hbc, hcc⟩ := hRc.spot (j := k) (by rw [← HC.out.2]; exact hkc)
              have hcell := hcc k (by rw [← HC.out.2]; exact hkc)
              obtain ⟨hx0, hx1⟩ := hRc.byte (k := k) (by rw [← HC.out.2]; exact hkc)
              generalize cs.getD k 0 = x at *
              clear hcc hRc
              obtain ⟨j, hj⟩ : ∃ j : Nat, x % 20 = j := ⟨(x % 20).toNat, by omega⟩
              by_cases hjm0 : j ≤ m
              · have hmin : (x % 20 : Int) ≤ (m : Int) := by omega
                have HJ := Lib.hid hj
                clear hj
                go_wp2_with fail
                rw [show (x % 20).toNat = j by have := HJ.out; omega, HJ.out]
                clear hmin
                have hjm : j ≤ m := by omega
                have hfrd : (fr dn).2.2 = false := fr_front dn rest ls (by rw [HY.out.2.1]; exact HFR.out)
                have hfr2 : (fr (dn ++ rest.take j)).2.2 = false := fr_front (dn ++ rest.take j) (rest.drop j) ls (by rw [List.append_assoc, List.take_append_drop, HY.out.2.1]; exact HFR.out)
                have hmore := fr_more dn (rest.take j) hfrd
                have hlen1 := (fr_restLen dn).2
                have hR2 : (fr ((fr dn).2.1 ++ rest.take j)).2.2 = false := by rw [hmore] at hfr2; exact hfr2
                have hlt1 : ((fr dn).2.1 ++ rest.take j).length ≤ 6000 := by simp; omega
                have HMO := Lib.hid (And.intro hmore (And.intro hR2 hlen1))
                have hrd1 : RdX (· < gp) wr A' rest := HY.out.2.2.1.chg (S := fun i => gp ≤ i) ⟨HY.out.2.2.2.1.2.2.2.1.os, HY.out.2.2.2.1.2.2.2.1.tape, HY.out.2.2.2.1.2.2.2.1.output, HY.out.2.2.2.1.2.2.2.1.size, fun i _ hi => HY.out.2.2.2.1.2.2.2.1.block i (by omega)⟩ (fun i _ hi e => by omega)
                have hrd2 : RdX (· < gp) wr A' (rest.take j) := ⟨IsBytes.take hrd1.1 _, by have := hrd1.2.take j; rwa [← List.map_take] at this⟩
                have hjl : j = (rest.take j).length := by rw [List.length_take, ← HY.out.1]; omega
                refine (add_in gp vp (fr dn).2.1 (rest.take j) _ _ 0 A' j c' wr HY.out.2.2.2.1 hrd2 hjl (by omega) rfl rfl (by rw [hR2]; rfl)).mono ?_
                rintro e w4 ⟨f4, v4, rfl, hf4, hp4, hc4, hv4⟩
                have hgw : gp < wr.heap.size := HY.out.2.2.2.1.1.1.lt
                have hO8 : OwnL (fun x => gp < x ∧ v4.ownBlock ≠ some x) w4.drew u8 (fr dn).1 := by
                  have h1 := HY.out.2.2.2.2.1.mono (Y := fun x => (gp < x ∧ vp.ownBlock ≠ some x) ∧ x < wr.heap.size) fun x hx hx2 => ⟨hx2, hx⟩
                  refine ((h1.chg hc4 fun x _ hx e => ?_).mono fun x _ hx => ⟨hx.1.1, fun e => ?_⟩).later ((Below.refl _ _).drew)
                  · rcases e with e | e
                    · have := hx.1.1; omega
                    · exact hx.1.2 e
                  · rcases hv4 x e with e1 | e1
                    · exact hx.1.2 e1
                    · have := hx.2; omega
                have hF4 : OwnL (fun x => gp < x ∧ v4.ownBlock ≠ some x) w4.drew f4 (fr ((fr dn).2.1 ++ rest.take j)).1 := (hf4.mono fun x _ hx => ⟨by have := hx.1; omega, hx.2⟩).later ((Below.refl _ _).drew)
                have hs4 := hc4.size
                have hfl : (fr ((fr dn).2.1 ++ rest.take j)).1.length ≤ 6000 := by
                  have := hf4
                  exact Nat.le_trans (fr_frames _) hlt1
                have hdl : dn.length ≤ 420 := by have := HY.out.2.1; have := congrArg List.length this; rw [List.length_append, HQ.out] at this; omega
                obtain ⟨P2, p2, hp2, hpe2, hq2⟩ := cutB_l A' m c' (j : Int) j (m - j) rfl (by omega) hjm hmc
                have HP2 : Hid (RdX (· < gp) wx P2 (rest.drop j) ∧ p2 ≤ c' ∧ m - j ≤ p2) := ⟨hq2 _ wx rest (by rw [← HY.out.1]; exact hmc) HY.out.2.2.1, by omega, by omega⟩
                have hXX : ∀ x, w4.drew.heap.size ≤ x → gp < x ∧ v4.ownBlock ≠ some x := fun x hx => by
                  have hx' : w4.heap.size ≤ x := hx
                  refine ⟨by omega, fun e => ?_⟩
                  have := owns_lt hp4.1.2.1 e
                  omega
                have HZ := Lib.hid (And.intro hO8 (And.intro hF4 (And.intro hXX (And.intro hfl (And.intro hp4 hdl)))))
                have hlenS : (fr dn).1.length + (fr ((fr dn).2.1 ++ rest.take j)).1.length ≤ 1000000000 := by have := HY.out.2.2.2.2.2; omega
                have HLS := Lib.hid hlenS
                clear hO8 hF4 hXX hfl hdl hpe2 hq2 hf4 hp4 hc4 hv4 hrd1 hrd2 hjl hlt1 hR2 hmore hfr2 hfrd hlenS
                go_wp2
                go_region_law (go_loud (refine step_appLL (X := fun x => gp < x ∧ v4.ownBlock ≠ some x) rfl (.tmp 73) (.tmp 74) rfl u8 _ _ (by simp [Act.eval, Act.put]) HZ.out.1 f4 (by simp [Act.eval, Act.put]) HZ.out.2.1 HZ.out.2.2.1 HLS.out ?_; intro v5 w5 hv5 hw5; have H6 := Lib.hid (And.intro hv5 hw5); clear hv5 hw5))
                all_goals go_wp2
                all_goals
                  have hc45 : Chg (fun x => some x = u8.ownBlock) w4 w5 := H6.out.2.undrew
                  have hX8 : ∀ x, some x = u8.ownBlock → gp < x := fun x e => by obtain ⟨vs, _, h2, _⟩ := HZ.out.1; exact (h2 x e.symm).1
                  have hP4 := HZ.out.2.2.2.2.1
                  have hO8' : OwnL (fun x => gp < x ∧ v4.ownBlock ≠ some x) w4 u8 (fr dn).1 := HZ.out.1
                  have hP5 := hP4.chgX hc45 (fun e => by have := hX8 _ e; omega) (fun x hx e => hO8'.neB hP4.1.2.1 hx e.symm) (fun x hx e => by have := hX8 _ e; omega)
                  refine ⟨⟨k + 1, dn ++ rest.take j, rest.drop j, P2, m - j, p2, v4, rfl, by go_num, HP2.out.2.2, by have := HP2.out.2.1; omega, by omega, by omega, by omega, by have h1 := HY.out.1; rw [List.length_drop]; omega, by rw [List.append_assoc, List.take_append_drop]; exact HY.out.2.1, HP2.out.1, ?_, ?_, ?_⟩, ?_⟩
                  · rw [HMO.out.1]; rw [HMO.out.2.1] at hP5; exact hP5
                  · rw [HMO.out.1]; exact H6.out.1
                  · rw [HMO.out.1]
                    have := fr_frames (dn ++ rest.take j)
                    rw [HMO.out.1] at this
                    exact this
                  · simp [intOf, lenV]; omega
              · have hmin : ¬ (x % 20 : Int) ≤ (m : Int) := by omega
                have hmin2 : (m : Int) < (x % 20 : Int) := by omega
                clear hj
                go_wp2_with fail
                have hjm : m ≤ m := by omega
                have hfrd : (fr dn).2.2 = false := fr_front dn rest ls (by rw [HY.out.2.1]; exact HFR.out)
                have hfr2 : (fr (dn ++ rest.take m)).2.2 = false := fr_front (dn ++ rest.take m) (rest.drop m) ls (by rw [List.append_assoc, List.take_append_drop, HY.out.2.1]; exact HFR.out)
                have hmore := fr_more dn (rest.take m) hfrd
                have hlen1 := (fr_restLen dn).2
                have hR2 : (fr ((fr dn).2.1 ++ rest.take m)).2.2 = false := by rw [hmore] at hfr2; exact hfr2
                have hlt1 : ((fr dn).2.1 ++ rest.take m).length ≤ 6000 := by simp; omega
                have HMO := Lib.hid (And.intro hmore (And.intro hR2 hlen1))
                have hrd1 : RdX (· < gp) wr A' rest := HY.out.2.2.1.chg (S := fun i => gp ≤ i) ⟨HY.out.2.2.2.1.2.2.2.1.os, HY.out.2.2.2.1.2.2.2.1.tape, HY.out.2.2.2.1.2.2.2.1.output, HY.out.2.2.2.1.2.2.2.1.size, fun i _ hi => HY.out.2.2.2.1.2.2.2.1.block i (by omega)⟩ (fun i _ hi e => by omega)
                have hrd2 : RdX (· < gp) wr A' (rest.take m) := ⟨IsBytes.take hrd1.1 _, by have := hrd1.2.take m; rwa [← List.map_take] at this⟩
                have hjl : m = (rest.take m).length := by rw [List.length_take, ← HY.out.1]; omega
                refine (add_in gp vp (fr dn).2.1 (rest.take m) _ _ 0 A' m c' wr HY.out.2.2.2.1 hrd2 hjl (by omega) rfl rfl (by rw [hR2]; rfl)).mono ?_
                rintro e w4 ⟨f4, v4, rfl, hf4, hp4, hc4, hv4⟩
                have hgw : gp < wr.heap.size := HY.out.2.2.2.1.1.1.lt
                have hO8 : OwnL (fun x => gp < x ∧ v4.ownBlock ≠ some x) w4.drew u8 (fr dn).1 := by
                  have h1 := HY.out.2.2.2.2.1.mono (Y := fun x => (gp < x ∧ vp.ownBlock ≠ some x) ∧ x < wr.heap.size) fun x hx hx2 => ⟨hx2, hx⟩
                  refine ((h1.chg hc4 fun x _ hx e => ?_).mono fun x _ hx => ⟨hx.1.1, fun e => ?_⟩).later ((Below.refl _ _).drew)
                  · rcases e with e | e
                    · have := hx.1.1; omega
                    · exact hx.1.2 e
                  · rcases hv4 x e with e1 | e1
                    · exact hx.1.2 e1
                    · have := hx.2; omega
                have hF4 : OwnL (fun x => gp < x ∧ v4.ownBlock ≠ some x) w4.drew f4 (fr ((fr dn).2.1 ++ rest.take m)).1 := (hf4.mono fun x _ hx => ⟨by have := hx.1; omega, hx.2⟩).later ((Below.refl _ _).drew)
                have hs4 := hc4.size
                have hfl : (fr ((fr dn).2.1 ++ rest.take m)).1.length ≤ 6000 := by
                  have := hf4
                  exact Nat.le_trans (fr_frames _) hlt1
                have hdl : dn.length ≤ 420 := by have := HY.out.2.1; have := congrArg List.length this; rw [List.length_append, HQ.out] at this; omega
                obtain ⟨P2, p2, hp2, hpe2, hq2⟩ := cutB_l A' m c' (m : Int) m (0) rfl (by omega) hjm hmc
                have HP2 : Hid (RdX (· < gp) wx P2 (rest.drop m) ∧ p2 ≤ c' ∧ 0 ≤ p2) := ⟨hq2 _ wx rest (by rw [← HY.out.1]; exact hmc) HY.out.2.2.1, by omega, by omega⟩
                have hXX : ∀ x, w4.drew.heap.size ≤ x → gp < x ∧ v4.ownBlock ≠ some x := fun x hx => by
                  have hx' : w4.heap.size ≤ x := hx
                  refine ⟨by omega, fun e => ?_⟩
                  have := owns_lt hp4.1.2.1 e
                  omega
                have HZ := Lib.hid (And.intro hO8 (And.intro hF4 (And.intro hXX (And.intro hfl (And.intro hp4 hdl)))))
                have hlenS : (fr dn).1.length + (fr ((fr dn).2.1 ++ rest.take m)).1.length ≤ 1000000000 := by have := HY.out.2.2.2.2.2; omega
                have HLS := Lib.hid hlenS
                clear hO8 hF4 hXX hfl hdl hpe2 hq2 hf4 hp4 hc4 hv4 hrd1 hrd2 hjl hlt1 hR2 hmore hfr2 hfrd hlenS
                go_wp2
                go_region_law (go_loud (refine step_appLL (X := fun x => gp < x ∧ v4.ownBlock ≠ some x) rfl (.tmp 73) (.tmp 74) rfl u8 _ _ (by simp [Act.eval, Act.put]) HZ.out.1 f4 (by simp [Act.eval, Act.put]) HZ.out.2.1 HZ.out.2.2.1 HLS.out ?_; intro v5 w5 hv5 hw5; have H6 := Lib.hid (And.intro hv5 hw5); clear hv5 hw5))
                all_goals go_wp2
                all_goals
                  have hc45 : Chg (fun x => some x = u8.ownBlock) w4 w5 := H6.out.2.undrew
                  have hX8 : ∀ x, some x = u8.ownBlock → gp < x := fun x e => by obtain ⟨vs, _, h2, _⟩ := HZ.out.1; exact (h2 x e.symm).1
                  have hP4 := HZ.out.2.2.2.2.1
                  have hO8' : OwnL (fun x => gp < x ∧ v4.ownBlock ≠ some x) w4 u8 (fr dn).1 := HZ.out.1
                  have hP5 := hP4.chgX hc45 (fun e => by have := hX8 _ e; omega) (fun x hx e => hO8'.neB hP4.1.2.1 hx e.symm) (fun x hx e => by have := hX8 _ e; omega)
                  refine ⟨⟨k + 1, dn ++ rest.take m, rest.drop m, P2, 0, p2, v4, rfl, by go_num, HP2.out.2.2, by have := HP2.out.2.1; omega, by omega, by omega, by omega, by have h1 := HY.out.1; rw [List.length_drop]; omega, by rw [List.append_assoc, List.take_append_drop]; exact HY.out.2.1, HP2.out.1, ?_, ?_, ?_⟩, ?_⟩
                  · rw [HMO.out.1]; rw [HMO.out.2.1] at hP5; exact hP5
                  · rw [HMO.out.1]; exact H6.out.1
                  · rw [HMO.out.1]
                    have := fr_frames (dn ++ rest.take m)
                    rw [HMO.out.1] at this
                    exact this
                  · simp [intOf, lenV]; omega
            · have hkc' : ¬ (k : Int) < (nc : Int) := by omega
              go_wp2_with fail
              have hjm : m ≤ m := by omega
              have hfrd : (fr dn).2.2 = false := fr_front dn rest ls (by rw [HY.out.2.1]; exact HFR.out)
              have hfr2 : (fr (dn ++ rest.take m)).2.2 = false := fr_front (dn ++ rest.take m) (rest.drop m) ls (by rw [List.append_assoc, List.take_append_drop, HY.out.2.1]; exact HFR.out)
              have hmore := fr_more dn (rest.take m) hfrd
              have hlen1 := (fr_restLen dn).2
              have hR2 : (fr ((fr dn).2.1 ++ rest.take m)).2.2 = false := by rw [hmore] at hfr2; exact hfr2
              have hlt1 : ((fr dn).2.1 ++ rest.take m).length ≤ 6000 := by simp; omega
              have HMO := Lib.hid (And.intro hmore (And.intro hR2 hlen1))
              have hrd1 : RdX (· < gp) wr A' rest := HY.out.2.2.1.chg (S := fun i => gp ≤ i) ⟨HY.out.2.2.2.1.2.2.2.1.os, HY.out.2.2.2.1.2.2.2.1.tape, HY.out.2.2.2.1.2.2.2.1.output, HY.out.2.2.2.1.2.2.2.1.size, fun i _ hi => HY.out.2.2.2.1.2.2.2.1.block i (by omega)⟩ (fun i _ hi e => by omega)
              have hrd2 : RdX (· < gp) wr A' (rest.take m) := ⟨IsBytes.take hrd1.1 _, by have := hrd1.2.take m; rwa [← List.map_take] at this⟩
              have hjl : m = (rest.take m).length := by rw [List.length_take, ← HY.out.1]; omega
              refine (add_in gp vp (fr dn).2.1 (rest.take m) _ _ 0 A' m c' wr HY.out.2.2.2.1 hrd2 hjl (by omega) rfl rfl (by rw [hR2]; rfl)).mono ?_
              rintro e w4 ⟨f4, v4, rfl, hf4, hp4, hc4, hv4⟩
              have hgw : gp < wr.heap.size := HY.out.2.2.2.1.1.1.lt
              have hO8 : OwnL (fun x => gp < x ∧ v4.ownBlock ≠ some x) w4.drew u8 (fr dn).1 := by
                have h1 := HY.out.2.2.2.2.1.mono (Y := fun x => (gp < x ∧ vp.ownBlock ≠ some x) ∧ x < wr.heap.size) fun x hx hx2 => ⟨hx2, hx⟩
                refine ((h1.chg hc4 fun x _ hx e => ?_).mono fun x _ hx => ⟨hx.1.1, fun e => ?_⟩).later ((Below.refl _ _).drew)
                · rcases e with e | e
                  · have := hx.1.1; omega
                  · exact hx.1.2 e
                · rcases hv4 x e with e1 | e1
                  · exact hx.1.2 e1
                  · have := hx.2; omega
              have hF4 : OwnL (fun x => gp < x ∧ v4.ownBlock ≠ some x) w4.drew f4 (fr ((fr dn).2.1 ++ rest.take m)).1 := (hf4.mono fun x _ hx => ⟨by have := hx.1; omega, hx.2⟩).later ((Below.refl _ _).drew)
              have hs4 := hc4.size
              have hfl : (fr ((fr dn).2.1 ++ rest.take m)).1.length ≤ 6000 := by
                have := hf4
                exact Nat.le_trans (fr_frames _) hlt1
              have hdl : dn.length ≤ 420 := by have := HY.out.2.1; have := congrArg List.length this; rw [List.length_append, HQ.out] at this; omega
              obtain ⟨P2, p2, hp2, hpe2, hq2⟩ := cutB_l A' m c' (m : Int) m (0) rfl (by omega) hjm hmc
              have HP2 : Hid (RdX (· < gp) wx P2 (rest.drop m) ∧ p2 ≤ c' ∧ 0 ≤ p2) := ⟨hq2 _ wx rest (by rw [← HY.out.1]; exact hmc) HY.out.2.2.1, by omega, by omega⟩
              have hXX : ∀ x, w4.drew.heap.size ≤ x → gp < x ∧ v4.ownBlock ≠ some x := fun x hx => by
                have hx' : w4.heap.size ≤ x := hx
                refine ⟨by omega, fun e => ?_⟩
                have := owns_lt hp4.1.2.1 e
                omega
              have HZ := Lib.hid (And.intro hO8 (And.intro hF4 (And.intro hXX (And.intro hfl (And.intro hp4 hdl)))))
              have hlenS : (fr dn).1.length + (fr ((fr dn).2.1 ++ rest.take m)).1.length ≤ 1000000000 := by have := HY.out.2.2.2.2.2; omega
              have HLS := Lib.hid hlenS
              clear hO8 hF4 hXX hfl hdl hpe2 hq2 hf4 hp4 hc4 hv4 hrd1 hrd2 hjl hlt1 hR2 hmore hfr2 hfrd hlenS
              go_wp2
              go_region_law (go_loud (refine step_appLL (X := fun x => gp < x ∧ v4.ownBlock ≠ some x) rfl (.tmp 73) (.tmp 74) rfl u8 _ _ (by simp [Act.eval, Act.put]) HZ.out.1 f4 (by simp [Act.eval, Act.put]) HZ.out.2.1 HZ.out.2.2.1 HLS.out ?_; intro v5 w5 hv5 hw5; have H6 := Lib.hid (And.intro hv5 hw5); clear hv5 hw5))
              all_goals go_wp2
              all_goals
                have hc45 : Chg (fun x => some x = u8.ownBlock) w4 w5 := H6.out.2.undrew
                have hX8 : ∀ x, some x = u8.ownBlock → gp < x := fun x e => by obtain ⟨vs, _, h2, _⟩ := HZ.out.1; exact (h2 x e.symm).1
                have hP4 := HZ.out.2.2.2.2.1
                have hO8' : OwnL (fun x => gp < x ∧ v4.ownBlock ≠ some x) w4 u8 (fr dn).1 := HZ.out.1
                have hP5 := hP4.chgX hc45 (fun e => by have := hX8 _ e; omega) (fun x hx e => hO8'.neB hP4.1.2.1 hx e.symm) (fun x hx e => by have := hX8 _ e; omega)
                refine ⟨⟨k + 1, dn ++ rest.take m, rest.drop m, P2, 0, p2, v4, rfl, by go_num, HP2.out.2.2, by have := HP2.out.2.1; omega, by omega, by omega, by omega, by have h1 := HY.out.1; rw [List.length_drop]; omega, by rw [List.append_assoc, List.take_append_drop]; exact HY.out.2.1, HP2.out.1, ?_, ?_, ?_⟩, ?_⟩
                · rw [HMO.out.1]; rw [HMO.out.2.1] at hP5; exact hP5
                · rw [HMO.out.1]; exact H6.out.1
                · rw [HMO.out.1]
                  have := fr_frames (dn ++ rest.take m)
                  rw [HMO.out.1] at this
                  exact this
                · simp [intOf, lenV]; omega
          · have hm0' : ¬ (0 : Int) < (m : Int) := by omega
            have hrn : rest = [] := List.eq_nil_of_length_eq_zero (by have := HY.out.1; omega)
            have hdn : dn = L := by have := HY.out.2.1; rw [hrn, List.append_nil] at this; exact this
            have hY := HY.out
            rw [hdn, HFR.out] at hY
            obtain ⟨-, -, -, hy1, hy2, -⟩ := hY
            have hbel : Below w.heap.size w wr := H5.out.2.trans (hy1.2.2.2.1.mono (by rw [← HGP.out]; exact H5.out.2.size))
            have hRk : RdL (· < w.heap.size) wr (.slice A n c) ls := HR.out.chg (S := fun i => w.heap.size ≤ i) ⟨hbel.os, hbel.tape, hbel.output, hbel.size, fun i hi _ => hbel.block i hi⟩ (fun i _ hi e => by omega)
            have HE := Lib.hid (And.intro hy1 (And.intro hy2.rd (And.intro hbel hRk)))
            clear hy1 hy2 hbel hRk hrn hdn
            go_wp2_with fail
            refine (same_any _ _ ls wr HE.out.2.1 HE.out.2.2.2).mono ?_
            rintro e w5 ⟨rfl, nq, rfl⟩
            go_wp2_with fail
            refine (rest_any gp vp [] false (wr.drewN nq) HE.out.1.1).mono ?_
            rintro e w5 ⟨rfl, rfl⟩
            go_wp2
            go_ret
            exact ⟨rfl, below_drewN' HE.out.2.2.1 nq⟩
end Go.Proofs.Ytcblpnojilfidaa
