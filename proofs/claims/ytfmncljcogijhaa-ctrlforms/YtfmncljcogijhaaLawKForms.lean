/- The walk of CtrlForms. -/
import Derived.Test.YtfmncljcogijhaaBegun10
import Derived.Deep.Cut
namespace Go.Proofs.Ytfmncljcogijhaa
open Go.RowKit
set_option maxRecDepth 100000
set_option linter.unusedVariables false

def OpsPost (l : List Int) (w : World) (e : Ending) (w' : World) : Prop := ∃ A c, e = .returned (.slice A l.length c) ∧ RdN (fun k => w.heap.size ≤ k) w' (.slice A l.length c) (l.map opI) ∧ Below w.heap.size w w'
set_option maxHeartbeats 2000000 in
theorem ops_any {X : Nat → Prop} (A : Option Addr) (l : List Int) (n c : Nat) (w : World) (h : RdI X w A l) (hn : n = l.length) (hl : n ≤ 100) :
    Calls Try.prog 15 #[.slice A n c] w (OpsPost l w) := by
  have HN := Lib.hid (And.intro h hn)
  clear h hn
  go_enter Try.func15, Try.ntmps15
  go_wp2
  go_loopw [3, 4] (fun v i wr => ∃ (k : Nat), k ≤ n ∧ i = .int .i64 k ∧ Hid (OwnN (fun _ => False) wr w.heap.size v ((l.take k).map opI) ∧ Below w.heap.size w wr)) (fun _ i _ => n - (intOf i).toNat)
  case atStart => exact ⟨0, Nat.zero_le _, rfl, OwnN.nil _ _ _, Below.refl _ _⟩
  case round =>
    obtain ⟨k, hk, rfl, HX⟩ := hrel
    obtain ⟨A1, c1, rfl, -, -, -⟩ := RdV.of_own HX.out.1.1
    by_cases hlt : k < n
    · have hlt2 : (k : Int) < n := by omega
      have hkl : k < l.length := by rw [← HN.out.2]; exact hlt
      have hr := HN.out.1.later HX.out.2
      obtain ⟨b, o, rfl, hcell⟩ := RdI.spot hr (by omega)
      have hck := hcell k hkl
      have hk1 : (l.take (k + 1)).map opI = (l.take k).map opI ++ [opI (l.getD k 0)] := by
        rw [List.take_add_one, List.getElem?_eq_getElem hkl, List.getD_eq_getElem?_getD, List.getElem?_eq_getElem hkl]; simp only [Option.toList_some, List.map_append, List.map_cons, List.map_nil, Option.getD_some]
      have HK := Lib.hid hk1
      have hqk : ((l.take k).map opI).length ≤ 100 := by simp; omega
      have HQ := Lib.hid hqk
      have hsz := HX.out.2.size
      clear hk1 hcell hr hqk hkl
      generalize l.getD k 0 = x at *
      generalize hq : ((l.take k).map opI).length = q at *
      have HQ2 := Lib.hid hq
      clear hq
      go_wp2_with (at_builtin; refine wpList_appN1 (X := fun _ => False) rfl (.tmp 11) (.tmp 17) rfl w.heap.size (.slice A1 q c1) ((l.take k).map opI) rfl HX.out.1 (opI x) (LabX.nil _ _ rfl) (opI_ok x) rfl (by have := HQ.out; have := HQ2.out; omega) (by omega) ?_; intro v1 w3 hv1 hw1; have hv2 := hv1.mono (Y := fun _ => False) (fun _ _ e => e.1) (fun _ _ => id); have H3 := Lib.hid (And.intro hv2 hw1.1); obtain ⟨A3, c3, rfl, -, -, -⟩ := RdV.of_own hv2.1; clear hv1 hw1 hv2)
      refine ⟨⟨k + 1, by omega, by go_num, ?_, ?_⟩, ?_⟩
      · rw [HK.out]
        have h9 := H3.out.1
        simp only [List.length_append, List.length_map, List.length_take, List.length_singleton] at h9
        exact h9
      · exact HX.out.2.trans (below_chg H3.out.2 (by omega) fun i e => by have := owns_ge HX.out.1.1 e; omega)
      · simp [intOf]; omega
    · obtain rfl : k = n := by omega
      have hk0 : l.take k = l := by rw [List.take_of_length_le (by rw [← HN.out.2]; exact Nat.le_refl _)]
      have HX2 := HX.out
      rw [hk0, List.length_map] at HX2
      have hrd := HX2.1.rd.mono (Y := fun i => w.heap.size ≤ i) fun i _ e => by
        rcases e with e | e
        · exact e.elim
        · exact owns_ge HX2.1.1 e
      have HR := Lib.hid (And.intro hrd HX2.2)
      rw [hk0, List.length_map]
      clear HX2 hk0 hrd HX
      go_wp2
      go_ret
      exact ⟨_, _, rfl, HR.out.1, HR.out.2⟩

/-- ops of a literal. -/
theorem ops_lit (l : List Int) (hl : l.length ≤ 100) (w : World) : Calls Try.prog 15 #[.slice (some ⟨w.heap.size, 0, none⟩) l.length l.length] (w.alloc (.cells (l.map (Value.int .i64)).toArray 3)) fun e w' => ∃ A c, e = .returned (.slice A l.length c) ∧ RdN (fun k => w.heap.size ≤ k) w' (.slice A l.length c) (l.map opI) ∧ Below w.heap.size w w' := by
  refine (ops_any _ l l.length l.length _ (rdI_lit w l) rfl hl).mono ?_
  rintro e w' ⟨A, c, rfl, h1, h2⟩
  have ha := (Below.refl w.heap.size w).alloc (Nat.le_refl _) (.cells (l.map (Value.int .i64)).toArray 3)
  exact ⟨A, c, rfl, h1.mono fun k _ hk => by simp at hk; omega, ha.trans (h2.mono ha.size)⟩
def badL : List (List Int) := [[], [1], [2, 11], [5, 11], [2, 5, 11, 11], [4, 5, 5, 11, 11], [11, 11], [11, 1], [4, 2, 5, 11, 11, 11]]
theorem badL_no : ∀ j, j < 9 → resB (badL.getD j []) = none
  | 0, _ => rfl
  | 1, _ => rfl
  | 2, _ => rfl
  | 3, _ => rfl
  | 4, _ => rfl
  | 5, _ => rfl
  | 6, _ => rfl
  | 7, _ => rfl
  | 8, _ => rfl
  | _ + 9, h => by omega
def goodL : List Int := [2, 3, 4, 5, 11, 11, 11, 11]
theorem good_ok : ∃ s, resB goodL = some s ∧ s.n = 3 ∧ s.d = 3 ∧ fw 0 s.f 0 = some (.agg #[.int .i64 (-1), .int .i64 6]) ∧ fw 0 s.f 1 = some (.agg #[.int .i64 (-1), .int .i64 5]) ∧ fw 0 s.f 2 = some (.agg #[.int .i64 3, .int .i64 4]) := ⟨_, rfl, rfl, rfl, rfl, rfl, rfl⟩
/-- The slices of a list of instructions, as they lie. -/
def SlV (w : World) (v : Value) (l : List Int) : Prop := ∃ A c, v = .slice A l.length c ∧ RdN (· < w.heap.size) w v (l.map opI)
theorem SlV.later {w w' : World} {v : Value} {l : List Int} (h : SlV w v l) (hb : Below w.heap.size w w') : SlV w' v l := by
  obtain ⟨A, c, rfl, h⟩ := h
  exact ⟨A, c, rfl, (h.later hb).mono fun k hk e => hk⟩
theorem SlV.opsL {w : World} {A : Option Addr} {n c : Nat} {l : List Int} (h : SlV w (.slice A n c) l) : n = (l.map opI).length ∧ RdN (· < w.heap.size) w (.slice A n c) (l.map opI) := by
  obtain ⟨A', c', e, h⟩ := h
  injection e with _ e _
  exact ⟨by rw [List.length_map]; exact e, h⟩
set_option maxHeartbeats 4000000 in
theorem ctrlForms_core (w : World) : Calls Try.prog 6 #[] w fun e w' => e = .returned (.bool true) ∧ Below w.heap.size w w' := by
  go_enter Try.func6, Try.ntmps6
  go_wp2_with fail
  refine (begun10_any w).mono ?_
  rintro e w1 ⟨rfl, hb1⟩
  have HB1 := Lib.hid hb1
  clear hb1
  go_wp2_with fail
  refine (ops_lit goodL (by decide) w1).mono ?_
  rintro e w2 ⟨A0, k0, rfl, h1, hb⟩
  have hs : SlV w2 (.slice A0 8 k0) goodL := ⟨A0, k0, rfl, h1.mono fun k hk e => hk⟩
  have HG := Lib.hid (And.intro hs (HB1.out.trans (hb.mono HB1.out.size)))
  clear hs h1 hb HB1
  go_wp2_with fail
  refine (kblocks_any A0 8 k0 (goodL.map opI) w2 HG.out.1.opsL.2 rfl (by omega)).mono ?_
  rintro e w3 ⟨v, rfl, h1, hb⟩
  rw [opsOf_opI] at h1 ⊢
  obtain ⟨s, hs, q1, q2, q3, q4, q5⟩ := good_ok
  have HS := Lib.hid (And.intro hs (And.intro q1 (And.intro q2 (And.intro q3 (And.intro q4 q5)))))
  rw [hs] at h1 ⊢
  obtain ⟨mb, rfl, h2, h3⟩ := h1
  simp only [Option.isSome_some]
  have H3 := Lib.hid (And.intro h3 (And.intro (HG.out.1.later hb) (HG.out.2.trans (hb.mono HG.out.2.size))))
  clear h2 h3 hb hs q1 q2 q3 q4 q5 HG
  go_wp2_with fail
  refine (ops_lit [1] (by decide) w3).mono ?_
  rintro e w4 ⟨A1, k1, rfl, h1, hb⟩
  have hs : SlV w4 (.slice A1 1 k1) [1] := ⟨A1, k1, rfl, h1.mono fun k hk e => hk⟩
  have P1 := Lib.hid (And.intro hs hb)
  clear hs h1 hb
  go_wp2_with fail
  refine (ops_lit [2, 11] (by decide) w4).mono ?_
  rintro e w5 ⟨A2, k2, rfl, h1, hb⟩
  have hs : SlV w5 (.slice A2 2 k2) [2, 11] := ⟨A2, k2, rfl, h1.mono fun k hk e => hk⟩
  have P2 := Lib.hid (And.intro hs hb)
  clear hs h1 hb
  go_wp2_with fail
  refine (ops_lit [5, 11] (by decide) w5).mono ?_
  rintro e w6 ⟨A3, k3, rfl, h1, hb⟩
  have hs : SlV w6 (.slice A3 2 k3) [5, 11] := ⟨A3, k3, rfl, h1.mono fun k hk e => hk⟩
  have P3 := Lib.hid (And.intro hs hb)
  clear hs h1 hb
  go_wp2_with fail
  refine (ops_lit [2, 5, 11, 11] (by decide) w6).mono ?_
  rintro e w7 ⟨A4, k4, rfl, h1, hb⟩
  have hs : SlV w7 (.slice A4 4 k4) [2, 5, 11, 11] := ⟨A4, k4, rfl, h1.mono fun k hk e => hk⟩
  have P4 := Lib.hid (And.intro hs hb)
  clear hs h1 hb
  go_wp2_with fail
  refine (ops_lit [4, 5, 5, 11, 11] (by decide) w7).mono ?_
  rintro e w8 ⟨A5, k5, rfl, h1, hb⟩
  have hs : SlV w8 (.slice A5 5 k5) [4, 5, 5, 11, 11] := ⟨A5, k5, rfl, h1.mono fun k hk e => hk⟩
  have P5 := Lib.hid (And.intro hs hb)
  clear hs h1 hb
  go_wp2_with fail
  refine (ops_lit [11, 11] (by decide) w8).mono ?_
  rintro e w9 ⟨A6, k6, rfl, h1, hb⟩
  have hs : SlV w9 (.slice A6 2 k6) [11, 11] := ⟨A6, k6, rfl, h1.mono fun k hk e => hk⟩
  have P6 := Lib.hid (And.intro hs hb)
  clear hs h1 hb
  go_wp2_with fail
  refine (ops_lit [11, 1] (by decide) w9).mono ?_
  rintro e w10 ⟨A7, k7, rfl, h1, hb⟩
  have hs : SlV w10 (.slice A7 2 k7) [11, 1] := ⟨A7, k7, rfl, h1.mono fun k hk e => hk⟩
  have P7 := Lib.hid (And.intro hs hb)
  clear hs h1 hb
  go_wp2_with fail
  refine (ops_lit [4, 2, 5, 11, 11, 11] (by decide) w10).mono ?_
  rintro e w11 ⟨A8, k8, rfl, h1, hb⟩
  have hs : SlV w11 (.slice A8 6 k8) [4, 2, 5, 11, 11, 11] := ⟨A8, k8, rfl, h1.mono fun k hk e => hk⟩
  have P8 := Lib.hid (And.intro hs hb)
  clear hs h1 hb
  have c8 : Below w11.heap.size w11 w11 := Below.refl _ _
  have c7 : Below w10.heap.size w10 w11 := P8.out.2.trans (c8.mono P8.out.2.size)
  have c6 : Below w9.heap.size w9 w11 := P7.out.2.trans (c7.mono P7.out.2.size)
  have c5 : Below w8.heap.size w8 w11 := P6.out.2.trans (c6.mono P6.out.2.size)
  have c4 : Below w7.heap.size w7 w11 := P5.out.2.trans (c5.mono P5.out.2.size)
  have c3 : Below w6.heap.size w6 w11 := P4.out.2.trans (c4.mono P4.out.2.size)
  have c2 : Below w5.heap.size w5 w11 := P3.out.2.trans (c3.mono P3.out.2.size)
  have c1 : Below w4.heap.size w4 w11 := P2.out.2.trans (c2.mono P2.out.2.size)
  have c0 : Below w3.heap.size w3 w11 := P1.out.2.trans (c1.mono P1.out.2.size)
  have HC := Lib.hid (And.intro (H3.out.1.later c0) (And.intro (H3.out.2.1.later c0) (H3.out.2.2.trans (c0.mono H3.out.2.2.size))))
  have HT : Hid (∀ j, j < 9 → ∃ A c, (#[.slice none 0 0, .slice A1 1 k1, .slice A2 2 k2, .slice A3 2 k3, .slice A4 4 k4, .slice A5 5 k5, .slice A6 2 k6, .slice A7 2 k7, .slice A8 6 k8] : Array Value)[j]? = some (.slice A (badL.getD j []).length c) ∧ SlV w11 (.slice A (badL.getD j []).length c) (badL.getD j [])) := by
    unfold Hid
    intro j hj
    match j, hj with
    | 0, _ => exact ⟨none, 0, rfl, none, 0, rfl, RdN.nil _ _⟩
    | 1, _ => exact ⟨A1, k1, rfl, P1.out.1.later c1⟩
    | 2, _ => exact ⟨A2, k2, rfl, P2.out.1.later c2⟩
    | 3, _ => exact ⟨A3, k3, rfl, P3.out.1.later c3⟩
    | 4, _ => exact ⟨A4, k4, rfl, P4.out.1.later c4⟩
    | 5, _ => exact ⟨A5, k5, rfl, P5.out.1.later c5⟩
    | 6, _ => exact ⟨A6, k6, rfl, P6.out.1.later c6⟩
    | 7, _ => exact ⟨A7, k7, rfl, P7.out.1.later c7⟩
    | 8, _ => exact ⟨A8, k8, rfl, P8.out.1.later c8⟩
    | _ + 9, h => omega
  have hlen9 : (#[.slice none 0 0, .slice A1 1 k1, .slice A2 2 k2, .slice A3 2 k3, .slice A4 4 k4, .slice A5 5 k5, .slice A6 2 k6, .slice A7 2 k7, .slice A8 6 k8] : Array Value).size = 9 := rfl
  clear c0 c1 c2 c3 c4 c5 c6 c7 c8 P1 P2 P3 P4 P5 P6 P7 P8 H3
  have hal := (Below.refl w11.heap.size w11).alloc (Nat.le_refl _) (.cells #[.slice none 0 0, .slice A1 1 k1, .slice A2 2 k2, .slice A3 2 k3, .slice A4 4 k4, .slice A5 5 k5, .slice A6 2 k6, .slice A7 2 k7, .slice A8 6 k8] 24)
  have HT2 : Hid (∀ j, j < 9 → ∃ A c, (w11.alloc (.cells #[.slice none 0 0, .slice A1 1 k1, .slice A2 2 k2, .slice A3 2 k3, .slice A4 4 k4, .slice A5 5 k5, .slice A6 2 k6, .slice A7 2 k7, .slice A8 6 k8] 24)).cell? ⟨w11.heap.size, j, none⟩ = some (.slice A (badL.getD j []).length c) ∧ SlV (w11.alloc (.cells #[.slice none 0 0, .slice A1 1 k1, .slice A2 2 k2, .slice A3 2 k3, .slice A4 4 k4, .slice A5 5 k5, .slice A6 2 k6, .slice A7 2 k7, .slice A8 6 k8] 24)) (.slice A (badL.getD j []).length c) (badL.getD j [])) := by
    unfold Hid
    intro j hj
    obtain ⟨A, c, h1, h2⟩ := HT.out j hj
    have ho := Own.new w11 24 [.slice none 0 0, .slice A1 1 k1, .slice A2 2 k2, .slice A3 2 k3, .slice A4 4 k4, .slice A5 5 k5, .slice A6 2 k6, .slice A7 2 k7, .slice A8 6 k8]
    refine ⟨A, c, ?_, h2.later hal⟩
    have := ho.cell j
    rw [show (w11.alloc (.cells #[.slice none 0 0, .slice A1 1 k1, .slice A2 2 k2, .slice A3 2 k3, .slice A4 4 k4, .slice A5 5 k5, .slice A6 2 k6, .slice A7 2 k7, .slice A8 6 k8] 24)) = (w11.alloc (.cells ([.slice none 0 0, .slice A1 1 k1, .slice A2 2 k2, .slice A3 2 k3, .slice A4 4 k4, .slice A5 5 k5, .slice A6 2 k6, .slice A7 2 k7, .slice A8 6 k8] : List Value).toArray 24)) from rfl, this]
    simpa using h1
  have HD : Hid (MapAt (w11.alloc (.cells #[.slice none 0 0, .slice A1 1 k1, .slice A2 2 k2, .slice A3 2 k3, .slice A4 4 k4, .slice A5 5 k5, .slice A6 2 k6, .slice A7 2 k7, .slice A8 6 k8] 24)) mb .i64 (fw 0 s.f) s.n ∧ SlV (w11.alloc (.cells #[.slice none 0 0, .slice A1 1 k1, .slice A2 2 k2, .slice A3 2 k3, .slice A4 4 k4, .slice A5 5 k5, .slice A6 2 k6, .slice A7 2 k7, .slice A8 6 k8] 24)) (.slice A0 8 k0) goodL ∧ Below w.heap.size w (w11.alloc (.cells #[.slice none 0 0, .slice A1 1 k1, .slice A2 2 k2, .slice A3 2 k3, .slice A4 4 k4, .slice A5 5 k5, .slice A6 2 k6, .slice A7 2 k7, .slice A8 6 k8] 24))) := ⟨HC.out.1.later hal, HC.out.2.1.later hal, HC.out.2.2.trans (hal.mono HC.out.2.2.size)⟩
  have hlt9 : w11.heap.size < (w11.alloc (.cells #[.slice none 0 0, .slice A1 1 k1, .slice A2 2 k2, .slice A3 2 k3, .slice A4 4 k4, .slice A5 5 k5, .slice A6 2 k6, .slice A7 2 k7, .slice A8 6 k8] 24)).heap.size := by simp
  clear hal HT HC hlen9
  go_upto_region 6 with fail
  generalize w11.alloc _ = w12 at *
  generalize w11.heap.size = g at *
  go_wp2
  go_loopw [5] (fun i wr => ∃ (k : Nat), k ≤ 9 ∧ i = .int .i64 k ∧ Hid (Below w12.heap.size w12 wr)) (fun i _ => 9 - (intOf i).toNat)
  case atStart => exact ⟨0, by omega, rfl, Below.refl _ _⟩
  case round =>
    obtain ⟨k, hk, rfl, HX⟩ := hrel
    by_cases hlt : k < 9
    · have hlt2 : (k : Int) < 9 := by omega
      obtain ⟨A, c, hc, hs⟩ := HT2.out k hlt
      have hc2 : wr.cell? ⟨g, k, none⟩ = some (.slice A (badL.getD k []).length c) := by rw [World.cell?_of_block (w := w12) (HX.out.block g hlt9)]; exact hc
      obtain ⟨hn1, hn2⟩ := (hs.later HX.out).opsL
      have hl5 : (badL.getD k []).length ≤ 5000 := by
        match k, hlt with
        | 0, _ => decide
        | 1, _ => decide
        | 2, _ => decide
        | 3, _ => decide
        | 4, _ => decide
        | 5, _ => decide
        | 6, _ => decide
        | 7, _ => decide
        | 8, _ => decide
        | _ + 9, h => omega
      have C1 := Lib.hid (kblocks_any A _ c ((badL.getD k []).map opI) wr hn2 hn1 hl5)
      have hno := badL_no k hlt
      have HS2 := Lib.hid (And.intro (hs.later HX.out) (And.intro hn1 (And.intro hl5 hno)))
      rw [opsOf_opI, hno] at C1
      clear hc hs hn1 hn2 hl5 hno
      generalize badL.getD k [] = l at *
      generalize hq : l.length = q at *
      clear hq
      go_wp2_with fail
      refine C1.out.mono ?_
      rintro e w13 ⟨v, rfl, h1, hb⟩
      simp only [BlkV] at h1
      subst h1
      have C2 := Lib.hid (kdepth_any A q c (l.map opI) w13 (HS2.out.1.later hb).opsL.2 HS2.out.2.1 HS2.out.2.2.1)
      rw [opsOf_opI, HS2.out.2.2.2] at C2
      have HX3 : Hid (Below w12.heap.size w12 w13) := HX.out.trans (hb.mono HX.out.size)
      have hc3 : w13.cell? ⟨g, k, none⟩ = some (.slice A q c) := by rw [World.cell?_of_block (w := wr) (hb.block g (World.block_lt_of_cell? wr _ hc2))]; exact hc2
      have hnl := nil_len (w := w13) under_bmap 3
      simp only [Option.isSome_none]
      clear C1 hb hc2
      go_wp2_with fail
      refine C2.out.mono ?_
      rintro e w14 ⟨rfl, hb⟩
      have HX4 : Hid (Below w12.heap.size w12 w14) := HX3.out.trans (hb.mono HX3.out.size)
      simp only [depB]
      clear hb C2 hnl hc3
      go_wp2
      refine ⟨⟨k + 1, by omega, by go_num, HX4⟩, ?_⟩
      simp [intOf]; omega
    · obtain rfl : k = 9 := by omega
      have hm := HD.out.1.later HX.out
      obtain ⟨hs, q1, q2, q3, q4, q5⟩ := HS.out
      have l0 := hm.look under_int under_bmap (zero_block _) 0 (by decide) false
      have l1 := hm.look under_int under_bmap (zero_block _) 1 (by decide) false
      have l2 := hm.look under_int under_bmap (zero_block _) 2 (by decide) false
      have hln := hm.len under_bmap 3
      rw [q3] at l0
      rw [q4] at l1
      rw [q5] at l2
      rw [q1] at hln
      simp only [Bool.false_eq_true, if_false, Option.getD_some] at l0 l1 l2
      have hgd := (HD.out.2.1.later HX.out).opsL
      have C1 := Lib.hid (kdepth_any A0 8 k0 (goodL.map opI) wr hgd.2 hgd.1 (by omega))
      rw [opsOf_opI, hs] at C1
      have HB := Lib.hid (HD.out.2.2.trans (HX.out.mono HD.out.2.2.size))
      have HQ2 := Lib.hid q2
      clear hm hs q1 q2 q3 q4 q5 hgd
      go_wp2_with fail
      refine C1.out.mono ?_
      rintro e w13 ⟨rfl, hb⟩
      have HB2 : Hid (Below w.heap.size w w13) := HB.out.trans (hb.mono HB.out.size)
      simp only [depB]
      rw [HQ2.out]
      clear C1 hb HB l0 l1 l2 hln
      go_wp2_with fail
      refine (ops_lit [11] (by decide) w13).mono ?_
      rintro e w14 ⟨A9, k9, rfl, h1, hb⟩
      have hs : SlV w14 (.slice A9 1 k9) [11] := ⟨A9, k9, rfl, h1.mono fun k hk e => hk⟩
      have C2 := Lib.hid (kdepth_any A9 1 k9 ([11].map opI) w14 hs.opsL.2 hs.opsL.1 (by omega))
      rw [opsOf_opI] at C2
      have hd0 : depB (resB [11]) = 0 := rfl
      rw [hd0] at C2
      have HB3 : Hid (Below w.heap.size w w14) := HB2.out.trans (hb.mono HB2.out.size)
      clear h1 hb hs hd0
      go_wp2_with fail
      refine C2.out.mono ?_
      rintro e w15 ⟨rfl, hb⟩
      have HB4 : Hid (Below w.heap.size w w15) := HB3.out.trans (hb.mono HB3.out.size)
      clear hb C2
      go_wp2
      go_ret
      exact ⟨rfl, HB4.out⟩
end Go.Proofs.Ytfmncljcogijhaa
