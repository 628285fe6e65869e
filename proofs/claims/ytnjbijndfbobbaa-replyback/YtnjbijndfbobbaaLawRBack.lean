/- The walk of ReplyBack: out of the contracts. -/
import Derived.Test.YtnjbijndfbobbaaRowsR
import Derived.Test.YtnjbijndfbobbaaReqMath
import Derived.Test.YtnjbijndfbobbaaPlace
import Derived.Deep.Cut
namespace Go.Proofs.Ytnjbijndfbobbaa
open Go.RowKit
set_option maxRecDepth 100000
set_option linter.unusedVariables false

set_option maxHeartbeats 1000000 in
theorem sameRep_any {X Y : Nat → Prop} (v u : Value) (q r : Rep) (w : World) (hq : RepV X w v q) (hr : RepV Y w u r) :
    Calls Try.prog 27 #[v, u] w fun e w' => e = .returned (.bool (decide (q = r))) ∧ Below w.heap.size w w' := by
  obtain ⟨B, d, rfl, hB, hd1, hd2, hok⟩ := hq
  obtain ⟨B', d', rfl, hB', hd1', hd2', hok'⟩ := hr
  obtain ⟨token, er, handle, values⟩ := q
  obtain ⟨token', er', handle', values'⟩ := r
  simp only at *
  generalize hal : values.length = al at *
  generalize hal' : values'.length = al' at *
  have hbel := Bx.below w [.int .u64 token, .int .i64 er, .int .u64 handle, .slice B al d] [.int .u64 token', .int .i64 er', .int .u64 handle', .slice B' al' d'] 41
  have ho1 := Bx.own1 w [.int .u64 token, .int .i64 er, .int .u64 handle, .slice B al d] [.int .u64 token', .int .i64 er', .int .u64 handle', .slice B' al' d'] 41
  have ho2 := Bx.own2 w [.int .u64 token, .int .i64 er, .int .u64 handle, .slice B al d] [.int .u64 token', .int .i64 er', .int .u64 handle', .slice B' al' d'] 41
  go_enter Try.func27, Try.ntmps27
  go_upto_region 1 with fail
  change Code.wp _ _ _ _ (Bx w [.int .u64 token, .int .i64 er, .int .u64 handle, .slice B al d] [.int .u64 token', .int .i64 er', .int .u64 handle', .slice B' al' d'] 41)
  have hB2 := hB.later hbel
  have hB2' := hB'.later hbel
  generalize Bx w [.int .u64 token, .int .i64 er, .int .u64 handle, .slice B al d] [.int .u64 token', .int .i64 er', .int .u64 handle', .slice B' al' d'] 41 = W at *
  obtain ⟨c0, c1, c2, c3, -, -, -, -⟩ := own_cells4 ho1
  obtain ⟨k0, k1, k2, k3, -, -, -, -⟩ := own_cells4 ho2
  have HS := Lib.hid (sameNums_any B B' values values' al al' d d' W hB2 hB2' hal.symm hal'.symm (by omega) (by omega))
  have HBEL := Lib.hid hbel
  clear hB hB' hB2 hB2' hd1 hd2 hd1' hd2' hok hok' hal hal' ho1 ho2 hbel
  by_cases h : token = token'
  case neg =>
    have b_token : (token == token') = false := by simpa using h
    have HH := Lib.hid h
    clear h
    go_wp2_with (first | (go_at_call 24; refine HS.out.mono ?_; rintro e w' ⟨rfl, j, rfl⟩))
    go_ret
    exact ⟨by simp [HH.out], by first | exact HBEL.out | exact below_drewN' HBEL.out _⟩
  have b_token : (token == token') = true := by simpa using h
  have E_token := Lib.hid h
  clear h
  by_cases h : er = er'
  case neg =>
    have b_er : (er == er') = false := by simpa using h
    have HH := Lib.hid h
    clear h
    go_wp2_with (first | (go_at_call 24; refine HS.out.mono ?_; rintro e w' ⟨rfl, j, rfl⟩))
    go_ret
    exact ⟨by simp [HH.out], by first | exact HBEL.out | exact below_drewN' HBEL.out _⟩
  have b_er : (er == er') = true := by simpa using h
  have E_er := Lib.hid h
  clear h
  by_cases h : handle = handle'
  case neg =>
    have b_handle : (handle == handle') = false := by simpa using h
    have HH := Lib.hid h
    clear h
    go_wp2_with (first | (go_at_call 24; refine HS.out.mono ?_; rintro e w' ⟨rfl, j, rfl⟩))
    go_ret
    exact ⟨by simp [HH.out], by first | exact HBEL.out | exact below_drewN' HBEL.out _⟩
  have b_handle : (handle == handle') = true := by simpa using h
  have E_handle := Lib.hid h
  clear h
  by_cases h : values = values'
  case neg =>
    have b_values : decide (values = values') = false := decide_eq_false h
    have HH := Lib.hid h
    clear h
    go_wp2_with (first | (go_at_call 24; refine HS.out.mono ?_; rintro e w' ⟨rfl, j, rfl⟩))
    go_ret
    exact ⟨by simp [HH.out], by first | exact HBEL.out | exact below_drewN' HBEL.out _⟩
  have b_values : decide (values = values') = true := decide_eq_true h
  have E_values := Lib.hid h
  clear h
  go_wp2_with (first | (go_at_call 24; refine HS.out.mono ?_; rintro e w' ⟨rfl, j, rfl⟩))
  go_ret
  exact ⟨by simp [E_token.out, E_er.out, E_handle.out, E_values.out], by first | exact HBEL.out | exact below_drewN' HBEL.out _⟩

set_option maxHeartbeats 4000000 in
theorem replyBack_core {X : Nat → Prop} (v : Value) (q : Rep) (cut more : Int) (w : World) (hq : RepV X w v q) (hcut : -9223372036854775808 ≤ cut ∧ cut < 9223372036854775808) (hm : 0 ≤ more ∧ more ≤ 255) :
    Calls Try.prog 5 #[v, .int .i64 cut, .int .u8 more] w fun e w' => e = .returned (.bool true) ∧ Below w.heap.size w w' := by
  have HQ := Lib.hid hq
  obtain ⟨B, d, rfl, hB, hd1, hd2, hok⟩ := hq
  obtain ⟨token, er, handle, values⟩ := q
  simp only at *
  generalize hal : values.length = al at *
  have HAL := Lib.hid hal
  have hbel := (Below.refl w.heap.size w).alloc (Nat.le_refl _) (.cells #[.int .u64 token, .int .i64 er, .int .u64 handle, .slice B al d] 41)
  have ho := Own.new w 41 [.int .u64 token, .int .i64 er, .int .u64 handle, .slice B al d]
  simp only [List.toArray] at ho
  go_enter Try.func5, Try.ntmps5
  go_wp2_with fail
  generalize w.alloc (.cells #[.int .u64 token, .int .i64 er, .int .u64 handle, .slice B al d] 41) = w0 at *
  refine (begun3_any w0).mono ?_
  rintro e w1 ⟨rfl, hb1⟩
  have hO1 := ho.later hb1
  have hs0 := hbel.size
  have hB1 := hbel.trans (hb1.mono hs0)
  have hv1 := HQ.out.later hB1
  obtain ⟨c0, c1, c2, c3, -, -, -, -⟩ := own_cells4 hO1
  have H1 := Lib.hid (And.intro hO1 (And.intro hB1 (And.intro hv1 (And.intro hB.1 hok))))
  clear hO1 hB1 hv1 hb1 hbel ho hB hok hal HQ hd1 hd2
  by_cases hbad : (8 : Int) < al ∨ er < 0 ∨ 17 < er
  · by_cases h1 : (8 : Int) < al
    · go_wp2
      go_ret
      exact ⟨rfl, H1.out.2.1⟩
    · by_cases h2 : er < 0
      · go_wp2
        go_ret
        exact ⟨rfl, H1.out.2.1⟩
      · have h3 : 17 < er := by omega
        go_wp2
        go_ret
        exact ⟨rfl, H1.out.2.1⟩
  · have h1 : ¬ (8 : Int) < al := by omega
    have h2 : ¬ er < 0 := by omega
    have h3 : ¬ 17 < er := by omega
    have hvl : values.length ≤ 8 := by have := HAL.out; omega
    obtain ⟨m1, m2, m3⟩ := rep_back ⟨token, er, handle, values⟩ H1.out.2.2.2.2 (by simp only []; omega) (by simp only []; omega) H1.out.2.2.2.1 hvl
    have hIb : IsBytes (putRep ⟨token, er, handle, values⟩) := by
      have hk := H1.out.2.2.2.2
      exact ((((IsBytes.app (be8_is token) (IsBytes.one (by omega) (by omega))).app (encU_is handle hk.2.2.1 hk.2.2.2)).app (encU_is _ (by simp only []; omega) (by simp only []; omega))).app (encs_is values H1.out.2.2.2.1))
    have hlen : 0 < (putRep ⟨token, er, handle, values⟩).length ∧ (putRep ⟨token, er, handle, values⟩).length ≤ 1000 := by
      have h5 := (encU_len handle).2; have h6 := (encU_len (values.length : Int)).2; have h7 := encs_len values
      simp [putRep, be8_len]; omega
    have HP := Lib.hid (put_rep (.agg #[.int .u64 token, .int .i64 er, .int .u64 handle, .slice B al d]) ⟨token, er, handle, values⟩ w1 H1.out.2.2.1 (by simp only []; omega))
    generalize putRep ⟨token, er, handle, values⟩ = l at *
    have HM := Lib.hid (And.intro m1 (And.intro m2 (And.intro m3 (And.intro hIb hlen))))
    clear m1 m2 m3 hIb hbad hvl
    go_wp2_with fail
    refine HP.out.mono ?_
    intro e w2 h
    obtain ⟨A2, k2, rfl, hr2, hk1, hk2, hb2⟩ := h.arg HM.out.2.2.2.1
    have H2 := Lib.hid (And.intro hr2 (And.intro hk1 (And.intro hk2 hb2)))
    clear h hr2 hk1 hk2 hb2 HP
    generalize hll : l.length = ll at *
    have HLL := Lib.hid hll
    clear hll
    obtain ⟨hl0, hl1⟩ := hlen
    go_wp2_with fail
    refine (take_rep A2 l ll k2 w2 H2.out.1 HLL.out.symm (by omega) H2.out.2.1 H2.out.2.2.1).mono ?_
    rintro e w3 ⟨v3, rfl, hv3, hb3⟩
    rw [HM.out.1] at hv3 ⊢
    simp only [repOf, codeOf] at hv3 ⊢
    have hv3f := hv3.form
    obtain ⟨B3, d3, rfl⟩ := hv3f
    have hb34 := (Below.refl w3.heap.size w3).alloc (Nat.le_refl _) (.cells #[.int .u64 token, .int .i64 er, .int .u64 handle, .slice B3 values.length d3] 41)
    have ho4 := Own.new w3 41 [.int .u64 token, .int .i64 er, .int .u64 handle, .slice B3 values.length d3]
    simp only [List.toArray] at ho4
    have hs3 := hb3.size
    have H3 := Lib.hid (And.intro (hv3.later hb34) (And.intro (hb3.trans (hb34.mono hs3)) ho4))
    clear hv3 hb3 hb34 ho4
    go_wp2_with fail
    generalize w3.alloc (.cells #[.int .u64 token, .int .i64 er, .int .u64 handle, .slice B3 values.length d3] 41) = w4 at *
    refine (place_any cut ll w4 hl0 (by omega) hcut).mono ?_
    rintro e w4' ⟨j, rfl, hj, rfl⟩
    obtain ⟨Ac, cc, hE, hcc, hX⟩ := cutB_h A2 ll k2 (j : Int) j rfl (by have := H2.out.2.1; omega)
    have hrl : RdX _ w4 Ac (l.take j) := (hX _ _ _ (by rw [HLL.out]; exact H2.out.2.1) (H2.out.1.rx.later H3.out.2.1))
    have hln : j = (l.take j).length := by rw [List.length_take, HLL.out]; omega
    have HC := Lib.hid (And.intro hrl.rd (And.intro hln (And.intro (show j ≤ cc by have := H2.out.2.1; omega) (show cc ≤ maxLen by have := H2.out.2.2.1; omega))))
    clear hrl hln hX hcc
    go_wp2_with fail
    refine (take_rep Ac (l.take j) j cc w4 HC.out.1 HC.out.2.1 (by omega) HC.out.2.2.1 HC.out.2.2.2).mono ?_
    rintro e w5 ⟨v5, rfl, hv5, hb5⟩
    rw [HM.out.2.1 j hj] at hv5 ⊢
    simp only [repOf, codeOf] at hv5 ⊢
    obtain ⟨B5, d5, rfl⟩ := hv5.form
    simp only [zrep, List.length_nil] at *
    have hb56 := (Below.refl w5.heap.size w5).alloc (Nat.le_refl _) (.cells #[.int .u64 0, .int .i64 0, .int .u64 0, .slice B5 0 d5] 41)
    have hb46 := hb5.trans (hb56.mono hb5.size)
    clear hv5 hb5 hb56 hE
    go_upto_region 8 with fail
    generalize w5.alloc (.cells #[.int .u64 0, .int .i64 0, .int .u64 0, .slice B5 0 d5] 41) = w6 at *
    have hr6 := (H2.out.1.rx.later H3.out.2.1).later hb46
    have hb67 := (Below.refl w6.heap.size w6).alloc (Nat.le_refl _) (.cells #[] 5)
    have H6 := Lib.hid (And.intro hb46 (hr6.later hb67).rd)
    clear hb46 hr6 hb67
    go_wp2_with (first
      | (at_builtin; refine wpList_app rfl (.tmp 48) (.tmp 49) rfl w6.heap.size _ [] rfl (ownB_lit0 w6) A2 ll k2 l rfl HLL.out.symm H6.out.2 (by simp; omega) (by simp) ?_; intro v7 w7 hv7 hw7; rw [List.nil_append] at hv7; have H7 := Lib.hid (And.intro hv7 (((Below.refl w6.heap.size w6).alloc (Nat.le_refl _) _).trans hw7)); obtain ⟨A7, c7, rfl, -, -, -⟩ := hv7.rdX HM.out.2.2.2.1; clear hv7 hw7)
      | (at_builtin; refine wpList_app1 rfl (.tmp 50) (.tmp 52) rfl w6.heap.size _ _ rfl H7.out.1 more rfl hm.1 hm.2 (by rw [HLL.out]; omega) H7.out.2.size ?_; intro v8 w8 hv8 hw8; obtain ⟨A8, c8, hA8, hr8, hk8, hm8⟩ := hv8.form2 (HM.out.2.2.2.1.app (IsBytes.one hm.1 hm.2)); generalize hl8 : (l ++ [more]).length = l8 at *; have HL8 := Lib.hid hl8; clear hl8; subst hA8; have H8 := Lib.hid (And.intro hr8 (And.intro hk8 (And.intro hm8 (H7.out.2.trans hw8)))); clear hv8 hw8 hr8 hk8 hm8))
    have hl8b : l8 ≤ 2000 := by have := HL8.out; rw [List.length_append, HLL.out] at this; simp at this; omega
    refine (take_rep A8 (l ++ [more]) l8 c8 w8 H8.out.1 HL8.out.symm (by omega) H8.out.2.1 H8.out.2.2.1).mono ?_
    rintro e w9 ⟨v9, rfl, hv9, hb9⟩
    rw [HM.out.2.2.1 more] at hv9 ⊢
    simp only [repOf, codeOf] at hv9 ⊢
    obtain ⟨B9, d9, rfl⟩ := hv9.form
    simp only [zrep, List.length_nil] at *
    have hb910 := (Below.refl w9.heap.size w9).alloc (Nat.le_refl _) (.cells #[.int .u64 0, .int .i64 0, .int .u64 0, .slice B9 0 d9] 41)
    have hb4 : Below w4.heap.size w4 (w9.alloc (.cells #[.int .u64 0, .int .i64 0, .int .u64 0, .slice B9 0 d9] 41)) := by
      have a1 := H6.out.1
      have a2 := a1.trans (H8.out.2.2.2.mono a1.size)
      have a3 := a2.trans (hb9.mono a2.size)
      exact a3.trans (hb910.mono a3.size)
    clear hv9 hb9 hb910
    go_upto_region 9 with fail
    generalize w9.alloc (.cells #[.int .u64 0, .int .i64 0, .int .u64 0, .slice B9 0 d9] 41) = wF at *
    have hO1 := ((H1.out.1.later H2.out.2.2.2).later H3.out.2.1).later hb4
    have hO3 := H3.out.2.2.later hb4
    have hV1 := ((H1.out.2.2.1.later H2.out.2.2.2).later H3.out.2.1).later hb4
    have hV3 := H3.out.1.later hb4
    have hBF : Below w.heap.size w wF := by
      have a1 := H1.out.2.1
      have a2 := a1.trans (H2.out.2.2.2.mono a1.size)
      have a3 := a2.trans (H3.out.2.1.mono a2.size)
      exact a3.trans (hb4.mono a3.size)
    have HS := Lib.hid (sameRep_any _ _ _ _ wF hV3 hV1)
    rw [decide_eq_true rfl] at HS
    have HBF := Lib.hid hBF
    clear c0 c1 c2 c3 hBF hV1 hV3 hb4
    obtain ⟨c0, c1, c2, c3, -, -, -, -⟩ := own_cells4 hO1
    obtain ⟨k0, k1, k2', k3, -, -, -, -⟩ := own_cells4 hO3
    clear hO1 hO3
    go_wp2_with (go_at_call 27; refine HS.out.mono ?_; rintro e w10 ⟨rfl, hb10⟩; have HBB := Lib.hid (HBF.out.trans (hb10.mono HBF.out.size)); clear hb10)
    go_ret
    exact ⟨rfl, HBB.out⟩
end Go.Proofs.Ytnjbijndfbobbaa
