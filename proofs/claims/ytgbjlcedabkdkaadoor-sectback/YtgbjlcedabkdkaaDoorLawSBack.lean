/- The walk of SectBack. -/
import Derived.Test.YtgbjlcedabkdkaaDoorBegun7
import Derived.Test.YtgbjlcedabkdkaaDoorBackMath
import Derived.Test.YtgbjlcedabkdkaaDoorRowsS
import Derived.Deep.QuietTactic
import Derived.BigQuiet
namespace Go.Proofs.YtgbjlcedabkdkaaDoor
open Go.RowKit
set_option maxRecDepth 100000
set_option linter.unusedVariables false

/-- The section that the law makes of what came in. -/
def fx (i : SV) : Sec := (i.id, if i.id = 0 then 1 :: 97 :: i.y else i.y)
def stF (is : List SV) (j : Nat) : Bool × Int := ((is.take j).map fx).foldl stp (true, -1)
theorem stF_next {is : List SV} {j : Nat} {i : SV} (h : is[j]? = some i) : stF is (j + 1) = stp (stF is j) (fx i) := by
  unfold stF
  rw [List.take_add_one, h]
  simp [List.map_append, List.foldl_append]
theorem stF_rng (is : List SV) (hb : ∀ i ∈ is, 0 ≤ i.id ∧ i.id ≤ 255) : ∀ j, -1 ≤ (stF is j).2 ∧ (stF is j).2 ≤ 11
  | 0 => by simp [stF]
  | j + 1 => by
    cases h : is[j]? with
    | none =>
      have : is.take (j + 1) = is.take j := by rw [List.take_add_one, h]; simp
      have h2 := stF_rng is hb j
      unfold stF at *
      rw [this]; exact h2
    | some i =>
      rw [stF_next h]
      have h2 := stF_rng is hb j
      obtain ⟨b0, b1⟩ := hb i (List.mem_of_getElem? h)
      have h3 := at_rng ⟨i.id.toNat, by omega⟩ ⟨12, by omega⟩
      simp only [show ((i.id.toNat : Nat) : Int) = i.id from by omega] at h3
      unfold stp
      split
      · exact h2
      · simp only [fx, atS]; omega
theorem fx_good {X : Nat → Prop} {w : World} {i : SV} (h : SecY X w i) (hl : i.y.length ≤ 30) : goodSec (fx i) := by
  obtain ⟨h0, h1, h2, _⟩ := h
  refine ⟨h0, h1, ?_, ?_, fun e => ?_⟩
  · show IsBytes (if i.id = 0 then 1 :: 97 :: i.y else i.y)
    split
    · intro z hz; simp at hz; rcases hz with rfl | rfl | hz
      · omega
      · omega
      · exact h2.1 z hz
    · exact h2.1
  · show (if i.id = 0 then 1 :: 97 :: i.y else i.y).length ≤ 1000
    split
    · simp only [List.length_cons]; omega
    · omega
  · have e' : i.id = 0 := e
    have : ∀ y : List Int, nameOk (1 :: 97 :: y) = true := fun y => by
      have h := pSized_sec [97] y (by simp)
      have he : encU (([97] : List Int).length : Int) = [1] := by decide +kernel
      rw [he] at h
      have h' : pSized (1 :: 97 :: y) = .ok ([97], y) := h
      unfold nameOk
      rw [h']
      exact (by decide +kernel : vd [97] = true)
    show nameOk (if i.id = 0 then 1 :: 97 :: i.y else i.y) = true
    rw [if_pos e']
    exact this _
theorem secs_get7 {is js : List SV} (h : is.map SV.sec = js.map SV.sec) {k : Nat} {i j : SV} (hi : is[k]? = some i) (hj : js[k]? = some j) : i.id = j.id ∧ i.y = j.y := by
  have h1 : (is.map SV.sec)[k]? = some i.sec := by rw [List.getElem?_map, hi]; rfl
  rw [h, List.getElem?_map, hj] at h1
  simp [SV.sec] at h1
  exact ⟨h1.1.symm, h1.2.symm⟩
set_option maxHeartbeats 8000000 in
theorem sectBack_core (v : Value) (is : List SV) (w : World) (hT : Tabs w) (h : RdA (· < w.heap.size) w v is) :
    Calls Tryd.prog 4 #[v] w fun e w' => e = .returned (.bool true) ∧ Below w.heap.size w w' := by
  have HT := Lib.hid hT
  have HG := Lib.hid (begun7_any w hT)
  have HA := Lib.hid h
  obtain ⟨A, c, rfl, -, -, -, hall⟩ := h
  have HALL := Lib.hid hall
  generalize hq : is.length = q at *
  have HQ := Lib.hid hq
  clear hT hall hq
  by_cases hn3 : q > 10
  · have hz : (q : Int) > 10 := by omega
    go_enter Tryd.func4, Tryd.ntmps4
    go_wp2_with fail
    refine HG.out.mono ?_
    rintro e w1 ⟨rfl, hb1⟩
    have HB1 := Lib.hid hb1
    clear hb1
    go_wp2
    go_ret
    exact ⟨rfl, HB1.out⟩
  have hz : ¬ ((q : Int) > 10) := by omega
  go_enter Tryd.func4, Tryd.ntmps4
  go_wp2_with fail
  refine HG.out.mono ?_
  rintro e w1 ⟨rfl, hb1⟩
  have HO1 : Hid (RdX (fun k => k = w1.heap.size) (w1.alloc (.cells #[.int .u8 1, .int .u8 2, .int .u8 3, .int .u8 4, .int .u8 5, .int .u8 6, .int .u8 7, .int .u8 8, .int .u8 9, .int .u8 12, .int .u8 10, .int .u8 11] 5)) (some ⟨w1.heap.size, 0, none⟩) secOrder) :=
    rdX_lit w1 secOrder (by intro z hz; simp [secOrder] at hz; omega)
  have HB2 : Hid (Below w.heap.size w (w1.alloc (.cells #[.int .u8 1, .int .u8 2, .int .u8 3, .int .u8 4, .int .u8 5, .int .u8 6, .int .u8 7, .int .u8 8, .int .u8 9, .int .u8 12, .int .u8 10, .int .u8 11] 5)) ∧ w.heap.size ≤ w1.heap.size ∧ (w1.alloc (.cells #[.int .u8 1, .int .u8 2, .int .u8 3, .int .u8 4, .int .u8 5, .int .u8 6, .int .u8 7, .int .u8 8, .int .u8 9, .int .u8 12, .int .u8 10, .int .u8 11] 5)).heap.size = w1.heap.size + 1) := ⟨hb1.alloc hb1.size _, hb1.size, by simp⟩
  clear hb1 HG
  go_upto_region 10 with fail
  generalize w1.alloc (.cells #[.int .u8 1, .int .u8 2, .int .u8 3, .int .u8 4, .int .u8 5, .int .u8 6, .int .u8 7, .int .u8 8, .int .u8 9, .int .u8 12, .int .u8 10, .int .u8 11] 5) = w2 at *
  generalize w1.heap.size = go at *
  go_loopw [3, 4, 5, 7] (fun v L r i wr => ∃ (j : Nat) (js : List SV) (u : Value), u = v ∧ j ≤ q ∧ i = .int .i64 j ∧ L = .int .i64 (stF is j).2 ∧ r = .bool (stF is j).1 ∧ Hid (OwnS 33 (fun b => u.ownBlock ≠ some b) wr (go + 1) u js ∧ js.map SV.sec = (is.take j).map fx ∧ RdX (fun k => k = go) wr (some ⟨go, 0, none⟩) secOrder ∧ Below w.heap.size w wr ∧ go + 1 ≤ wr.heap.size ∧ (∀ i ∈ js, i.y.length ≤ 32) ∧ js.length = j ∧ ∀ i ∈ is.take j, i.y.length ≤ 30)) (fun _ _ _ i _ => q - (intOf i).toNat)
  case atStart => exact ⟨0, [], _, rfl, by omega, rfl, rfl, rfl, OwnS.nil _ _ _ _, rfl, HO1.out, HB2.out.1, by have := HB2.out.2.2; omega, by simp, rfl, by simp⟩
  case round =>
    obtain ⟨j, js, u, rfl, hj, rfl, rfl, rfl, HX⟩ := hrel
    obtain ⟨A1, k1, hu, -, -, -⟩ := RdV.of_own HX.out.1.1
    have hjl := HX.out.2.2.2.2.2.2.1
    rw [hjl] at hu
    subst hu
    obtain ⟨hL0, hL1⟩ := stF_rng is (fun i hi => ⟨(HALL.out i hi).1, (HALL.out i hi).2.1⟩) j
    have hst : ∃ R Lz, stF is j = (R, Lz) := ⟨_, _, rfl⟩
    obtain ⟨R, Lz, hst⟩ := hst
    have HST := Lib.hid hst
    rw [hst] at hL0 hL1 ⊢
    clear hst hjl
    simp only at hL0 hL1 ⊢
    by_cases hlt : j < q
    · have hlt2 : (j : Int) < q := by omega
      obtain ⟨i, hi⟩ : ∃ i, is[j]? = some i := ⟨is[j]'(by rw [HQ.out]; exact hlt), List.getElem?_eq_getElem _⟩
      obtain ⟨b1, o1, rfl, hb1, -, ci0, ci1, hsy⟩ := (HA.out.later HX.out.2.2.2.1).at_ hi
      have hw1 : IntKind.i64.wrap ((j : Int) + 1) = (j : Int) + 1 := by rw [IntKind.wrap_i64]; omega
      have hnj := stF_next hi
      rw [HST.out] at hnj
      have HNJ := Lib.hid hnj
      have HI := Lib.hid hi
      have HSY := Lib.hid hsy
      clear hnj hi hsy
      by_cases hy : i.y.length > 30
      · have hyz : (i.y.length : Int) > 30 := by omega
        have HBX := Lib.hid HX.out.2.2.2.1
        clear HX
        generalize i.y.length = yl at *
        go_wp2
        go_ret
        exact ⟨rfl, HBX.out⟩
      · have hyz : ¬ ((i.y.length : Int) > 30) := by omega
        have hba : Below wr.heap.size wr (wr.alloc (.cells #[.int .u8 0, .slice none 0 0] 33)) := (Below.refl _ _).alloc (Nat.le_refl _) _
        have cia0 : (wr.alloc (.cells #[.int .u8 0, .slice none 0 0] 33)).cell? ⟨b1, o1 + j * 2, none⟩ = some (.int .u8 i.id) := by rw [hba.cell (World.block_lt_of_cell? _ _ ci0)]; exact ci0
        have cia1 : (wr.alloc (.cells #[.int .u8 0, .slice none 0 0] 33)).cell? ⟨b1, o1 + j * 2 + 1, none⟩ = some (.slice i.A i.y.length i.c) := by rw [hba.cell (World.block_lt_of_cell? _ _ ci1)]; exact ci1
        have HOA := Lib.hid (Own.new wr 33 [.int .u8 0, .slice none 0 0])
        have caa0 : (wr.alloc (.cells #[.int .u8 0, .slice none 0 0] 33)).cell? ⟨wr.heap.size, 0, none⟩ = some (.int .u8 0) := HOA.out.cell 0
        have caa1 : (wr.alloc (.cells #[.int .u8 0, .slice none 0 0] 33)).cell? ⟨wr.heap.size, 1, none⟩ = some (.slice none 0 0) := HOA.out.cell 1
        have faa0 : (wr.alloc (.cells #[.int .u8 0, .slice none 0 0] 33)).frozen? ⟨wr.heap.size, 0, none⟩ = false := HOA.out.frozen 0
        have faa1 : (wr.alloc (.cells #[.int .u8 0, .slice none 0 0] 33)).frozen? ⟨wr.heap.size, 1, none⟩ = false := HOA.out.frozen 1
        have HBA := Lib.hid hba
        clear hba
        go_upto_region 14 with fail
        go_region
        go_upto_region 15 with fail
        have HO3 := Lib.hid (Own.new wr 33 [.int .u8 i.id, .slice i.A i.y.length i.c])
        have hb3 : Below wr.heap.size wr (wr.alloc (.cells #[.int .u8 i.id, .slice i.A i.y.length i.c] 33)).drew := ((Below.refl _ _).alloc (Nat.le_refl _) _).drew
        have HO3 : Hid (Own (wr.alloc (.cells #[.int .u8 i.id, .slice i.A i.y.length i.c] 33)).drew wr.heap.size 33 [.int .u8 i.id, .slice i.A i.y.length i.c]) := HO3.out
        have HGX : Hid (go + 1 ≤ wr.heap.size ∧ w.heap.size ≤ wr.heap.size) := ⟨HX.out.2.2.2.2.1, HX.out.2.2.2.1.size⟩
        have HOB : Hid (∀ b, (Value.slice A1 j k1).ownBlock = some b → b < wr.heap.size) := fun b hb => owns_lt HX.out.1.1 hb
        have HL3 : Hid (OwnS 33 (fun b => (Value.slice A1 j k1).ownBlock ≠ some b ∧ b < wr.heap.size) (wr.alloc (.cells #[.int .u8 i.id, .slice i.A i.y.length i.c] 33)).drew (go + 1) (.slice A1 j k1) js ∧ SecX (fun b => (Value.slice A1 j k1).ownBlock ≠ some b ∧ b < w.heap.size) (wr.alloc (.cells #[.int .u8 i.id, .slice i.A i.y.length i.c] 33)).drew i ∧ RdX (fun k => k = go) (wr.alloc (.cells #[.int .u8 i.id, .slice i.A i.y.length i.c] 33)).drew (some ⟨go, 0, none⟩) secOrder ∧ Below w.heap.size w (wr.alloc (.cells #[.int .u8 i.id, .slice i.A i.y.length i.c] 33)).drew) := by
          obtain ⟨x1, x2, x3, x4, x5, x6, x7, x8⟩ := HX.out
          obtain ⟨s0, s1, s2, s3, s4⟩ := HSY.out
          refine ⟨(x1.mono (Y := fun b => (Value.slice A1 j k1).ownBlock ≠ some b ∧ b < wr.heap.size) (fun b hb hx => ⟨hx, hb⟩) fun b hb e => e.1 hb).later hb3, ⟨s0, s1, (s2.mono (Y := fun b => (Value.slice A1 j k1).ownBlock ≠ some b ∧ b < w.heap.size) fun b _ hb => ⟨fun e => by have := owns_ge x1.1 e; have := HB2.out.2.1; omega, hb⟩).later hb3, s3, s4, by omega⟩, x3.later hb3, x4.trans (hb3.mono x4.size)⟩
        clear hb3 ci0 ci1 cia0 cia1 caa0 caa1 faa0 faa1 HOA HBA
        generalize (wr.alloc (.cells #[.int .u8 i.id, .slice i.A i.y.length i.c] 33)).drew = w3 at *
        generalize wr.heap.size = gx at *
        have c30 : w3.cell? ⟨gx, 0, none⟩ = some (.int .u8 i.id) := HO3.out.cell 0
        have c31 : w3.cell? ⟨gx, 1, none⟩ = some (.slice i.A i.y.length i.c) := HO3.out.cell 1
        obtain ⟨id, hgid⟩ : ∃ id, i.id = id := ⟨_, rfl⟩
        rw [hgid] at HO3 c30 ⊢
        have HGI := Lib.hid hgid
        clear hgid
        by_cases hid : id = 0
        · subst hid
          have hlit : OwnB (w3.alloc (.cells #[.int .u8 1, .int .u8 97] 5)) w3.heap.size (.slice (some ⟨w3.heap.size, 0, none⟩) 2 2) [1, 97] := ownB_lits w3 [1, 97] (by decide)
          have hbl : Below w3.heap.size w3 (w3.alloc (.cells #[.int .u8 1, .int .u8 97] 5)) := (Below.refl _ _).alloc (Nat.le_refl _) _
          have HO4a := Lib.hid (HO3.out.later hbl)
          have c4a : (w3.alloc (.cells #[.int .u8 1, .int .u8 97] 5)).cell? ⟨gx, 1, none⟩ = some (.slice i.A i.y.length i.c) := HO4a.out.cell 1
          have HI12 : Hid (IsBytes ([1, 97] ++ i.y)) := IsBytes.app (by intro z hz; simp at hz; omega) HSY.out.2.2.1.1
          have HLI := Lib.hid (And.intro hlit (And.intro hbl (HL3.out.2.1.2.2.1.later hbl)))
          clear hlit hbl
          go_upto_region 25 with (at_builtin; refine wpList_appXG rfl (.tmp 47) (.tmp 49) rfl w3.heap.size (.slice (some ⟨w3.heap.size, 0, none⟩) 2 2) [1, 97] rfl HLI.out.1 i.A i.y.length i.c i.y rfl rfl HLI.out.2.2 (by simp; omega) (by simp) ?_; intro v5 w5 hv5 hw5; have HV5 := Lib.hid (And.intro hv5 hw5); clear hv5 hw5; obtain ⟨A5, c5, e5, -, -, -⟩ := HV5.out.1.rdX HI12.out; have e6 : v5 = .slice A5 (i.y.length + 2) c5 := e5; clear e5; subst e6; have HO5 := Lib.hid (HO4a.out.chg HV5.out.2.1 fun e => by simp [Value.ownBlock] at e; have := HO3.out.lt; omega); have c50 : w5.cell? ⟨gx, 0, none⟩ = some (.int .u8 0) := HO5.out.cell 0; have c51 : w5.cell? ⟨gx, 1, none⟩ = some (.slice i.A i.y.length i.c) := HO5.out.cell 1; have f50 := HO5.out.frozen 0; have f51 := HO5.out.frozen 1)
          have HO6 := Lib.hid (HO5.out.set 1 (.slice A5 (i.y.length + 2) c5))
          simp only [List.set] at HO6
          have h35 : Below w3.heap.size w3 w5 := HLI.out.2.1.trans (HV5.out.2.1.below HLI.out.2.1.size fun b hb e => by simp [Value.ownBlock] at e; omega)
          have hg3 := HO3.out.lt
          have HL6 : Hid (OwnS 33 (fun b => (Value.slice A1 j k1).ownBlock ≠ some b) (w5.setCell ⟨gx, 1, none⟩ (.slice A5 (i.y.length + 2) c5)) (go + 1) (.slice A1 j k1) js ∧ SecX (fun b => (Value.slice A1 j k1).ownBlock ≠ some b) (w5.setCell ⟨gx, 1, none⟩ (.slice A5 (i.y.length + 2) c5)) ⟨0, 1 :: 97 :: i.y, A5, c5⟩ ∧ RdX (fun k => k = go) (w5.setCell ⟨gx, 1, none⟩ (.slice A5 (i.y.length + 2) c5)) (some ⟨go, 0, none⟩) secOrder ∧ Below w.heap.size w (w5.setCell ⟨gx, 1, none⟩ (.slice A5 (i.y.length + 2) c5))) := by
            have hset : Chg (fun b => b = gx) w5 (w5.setCell ⟨gx, 1, none⟩ (.slice A5 (i.y.length + 2) c5)) := chgSet _ _ _ _
            obtain ⟨l1, l2, l3, l4⟩ := HL3.out
            obtain ⟨A6, c6, e6, r1, r2, r3⟩ := HV5.out.1.rdX HI12.out
            injection e6 with e61 e62 e63
            subst e61 e63
            refine ⟨?_, ⟨by show (0 : Int) ≤ 0; omega, by show (0 : Int) ≤ 255; omega, ?_, r1, r2, by simp; omega⟩, (l3.later h35).chg hset fun b _ hb e => by have := HGX.out.1; omega, (l4.trans (h35.mono l4.size)).trans (hset.below (l4.trans (h35.mono l4.size)).size fun b hb e => by have := HGX.out.2; omega)⟩
            · exact ((l1.later h35).chg hset (fun b _ hb e => by have := hb.2; omega) fun b hb e => by have := HOB.out b hb; omega).mono (fun b _ hb => hb.1) fun b hb e => e hb
            · refine (r3.chg hset fun b _ hb e => ?_).mono fun b _ hb e => ?_
              · have := owns_ge HV5.out.1 hb; omega
              · have := owns_ge HV5.out.1 hb; have := owns_lt l1.1 e; omega
          have HFX : Hid (SV.sec ⟨0, 1 :: 97 :: i.y, A5, c5⟩ = fx i) := by unfold Hid fx SV.sec; simp [HGI.out]
          clear c50 c51 f50 f51 h35 c30 c31 c4a HO4a
          generalize w5.setCell ⟨gx, 1, none⟩ (.slice A5 (i.y.length + 2) c5) = w6 at *
          have hlen2 : i.y.length + 2 = (1 :: 97 :: i.y).length := rfl
          have hblen : (1 :: 97 :: i.y).length ≤ 32 := by simp; omega
          rw [hlen2] at HO6 ⊢
          generalize (1 :: 97 :: i.y) = body at *
          clear hlen2
          have hcW0 : w6.cell? ⟨gx, 0, none⟩ = some (.int .u8 0) := HO6.out.cell 0
          have hcW1 : w6.cell? ⟨gx, 1, none⟩ = some (.slice A5 body.length c5) := HO6.out.cell 1
          have hgW : go + 1 ≤ w6.heap.size := by have := HGX.out.1; have := HO6.out.lt; omega
          go_wp2_with (at_builtin; refine wpList_appS1 under_secs sec_info rfl (.tmp 75) (.tmp 77) rfl (go + 1) (.slice A1 j k1) js rfl HL6.out.1 ⟨0, body, A5, c5⟩ HL6.out.2.1 rfl (by have := HX.out.2.2.2.2.2.2.1; omega) (by omega) ?_; intro v9 w9 hv9 hw9; have HV := Lib.hid (And.intro hv9 hw9); clear hv9 hw9)
          have y1 := HV.out.1
          have y2 := HV.out.2
          obtain ⟨x1, x2, x3, x4, x5, x6, x7, x8⟩ := HX.out
          have hb9 : ∀ b, (Value.slice A1 j k1).ownBlock = some b → go + 1 ≤ b := fun b hb => owns_ge HL6.out.1.1 hb
          have htk : is.take (j + 1) = is.take j ++ [i] := by rw [List.take_add_one, HI.out]; rfl
          refine ⟨⟨j + 1, js ++ [⟨0, body, A5, c5⟩], v9, rfl, by omega, by go_num, ?_, ?_, y1.mono (fun b _ hb e => y1.2.2 b e hb) (fun b hb e => e hb), ?_, HL6.out.2.2.1.chg y2.1 fun b _ hb e => by have := hb9 b e; omega, HL6.out.2.2.2.trans (y2.1.below HL6.out.2.2.2.size fun b hb e => by have := hb9 b e; have := HB2.out.2.1; omega), by have := y2.1.size; omega, ?_, by rw [List.length_append, x7]; rfl, ?_⟩, ?_⟩
          · rw [HNJ.out]; exact by simp [stp, fx, HGI.out]
          · rw [HNJ.out]; exact by simp [stp, fx, HGI.out]
          · rw [List.map_append, x2, htk, List.map_append]; exact congrArg (fun z => (is.take j).map fx ++ [z]) (HFX.out)
          · intro z hz
            rcases List.mem_append.1 hz with hz | hz
            · exact x6 z hz
            · simp only [List.mem_singleton] at hz; subst hz; exact hblen
          · intro z hz
            rw [htk] at hz
            rcases List.mem_append.1 hz with hz | hz
            · exact x8 z hz
            · simp only [List.mem_singleton] at hz; subst hz; omega
          · simp [intOf]; omega
        · have hid0 : (id == 0) = false := by simpa using hid
          have hO6 := HL3.out.2.2.1
          have HID := Lib.hid hid
          have hidb : 0 ≤ id ∧ id ≤ 255 := by have := HSY.out.1; have := HSY.out.2.1; rw [HGI.out] at *; omega
          clear c31
          go_upto_region 19 with fail
          go_loopw [9, 10] (fun a kk wx => ∃ (m : Nat), m ≤ 12 ∧ kk = .int .i64 m ∧ a = .int .i64 (atU id m) ∧ Hid (Below w3.heap.size w3 wx)) (fun _ kk _ => 12 - (intOf kk).toNat)
          case atStart => exact ⟨0, by omega, rfl, rfl, Below.refl _ _⟩
          case round =>
            obtain ⟨m, hm, rfl, rfl, HM⟩ := hrel
            by_cases hm2 : m < 12
            · have hmz : (m : Int) < 12 := by omega
              have hwm : IntKind.i64.wrap ((m : Int) + 1) = (m : Int) + 1 := by rw [IntKind.wrap_i64]; omega
              have hmn : ((m : Int)).toNat = m := by omega
              obtain ⟨ad, ead, -, hco⟩ := (HL3.out.2.2.1.later HM.out).2 m _ (map_u8_get (show m < secOrder.length from hm2))
              injection ead with ead
              subst ead
              rw [addPlain, Nat.zero_add] at hco
              have hcx : wr.cell? ⟨gx, 0, none⟩ = some (.int .u8 id) := by rw [HM.out.cell (World.block_lt_of_cell? _ _ c30)]; exact c30
              have hnx : atU id (m + 1) = if secOrder.getD m 0 = id then (m : Int) else atU id m := rfl
              have HNX := Lib.hid hnx
              clear hnx
              generalize secOrder.getD m 0 = so at *
              by_cases hso : so = id
              · have HSO := Lib.hid hso
                subst hso
                have hss : (so == so) = true := by simp
                go_wp2_with fail
                go_quiet (fail)
                go_wp2
                refine ⟨⟨m + 1, by omega, by go_num, by rw [HNX.out]; simp, below_drewN' HM.out nq⟩, ?_⟩
                simp [intOf]; omega
              · have hss : (so == id) = false := by simpa using hso
                have HSO := Lib.hid hso
                clear hso
                go_wp2_with fail
                go_quiet (fail)
                go_wp2
                refine ⟨⟨m + 1, by omega, by go_num, by rw [HNX.out, if_neg HSO.out], below_drewN' HM.out nq⟩, ?_⟩
                simp [intOf]; omega
            · obtain rfl : m = 12 := by omega
              have har := at_rng ⟨id.toNat, by omega⟩ ⟨12, by omega⟩
              simp only [show ((id.toNat : Nat) : Int) = id from by omega] at har
              have HSTP : Hid (stp (R, Lz) (fx i) = (R && decide (atU id 12 > Lz), max Lz (atU id 12))) := by
                unfold Hid stp fx atS
                simp [HGI.out, HID.out]
              obtain ⟨AT, hAT⟩ : ∃ AT, atU id 12 = AT := ⟨_, rfl⟩
              rw [hAT] at har HSTP ⊢
              clear hAT
              obtain ⟨ha0, ha1⟩ := har
              have HO7 := Lib.hid (HO3.out.later HM.out)
              have HL7 : Hid (OwnS 33 (fun b => (Value.slice A1 j k1).ownBlock ≠ some b) wr (go + 1) (.slice A1 j k1) js ∧ SecX (fun b => (Value.slice A1 j k1).ownBlock ≠ some b) wr ⟨id, i.y, i.A, i.c⟩ ∧ RdX (fun k => k = go) wr (some ⟨go, 0, none⟩) secOrder ∧ Below w.heap.size w wr) := by
                obtain ⟨l1, l2, l3, l4⟩ := HL3.out
                have l5 := l2.later HM.out
                exact ⟨(l1.later HM.out).mono (fun b _ hb => hb.1) fun b hb e => e hb, ⟨hidb.1, hidb.2, l5.2.2.1.mono fun b _ hb => hb.1, l5.2.2.2⟩, l3.later HM.out, l4.trans (HM.out.mono l4.size)⟩
              have HFX : Hid (SV.sec ⟨id, i.y, i.A, i.c⟩ = fx i) := by unfold Hid fx SV.sec; simp [HGI.out, HID.out]
              have hblen : i.y.length ≤ 32 := by omega
              cases R with
              | true =>
                by_cases hgt : AT > Lz
                · have hdg : decide (AT > Lz) = true := decide_eq_true hgt
                  have hmx : max Lz AT = AT := by omega
                  have hcW0 : wr.cell? ⟨gx, 0, none⟩ = some (.int .u8 id) := HO7.out.cell 0
                  have hcW1 : wr.cell? ⟨gx, 1, none⟩ = some (.slice i.A i.y.length i.c) := HO7.out.cell 1
                  have hgW : go + 1 ≤ wr.heap.size := by have := HGX.out.1; have := HO7.out.lt; omega
                  go_wp2_with (at_builtin; refine wpList_appS1 under_secs sec_info rfl (.tmp 75) (.tmp 77) rfl (go + 1) (.slice A1 j k1) js rfl HL7.out.1 ⟨id, i.y, i.A, i.c⟩ HL7.out.2.1 rfl (by have := HX.out.2.2.2.2.2.2.1; omega) (by omega) ?_; intro v9 w9 hv9 hw9; have HV := Lib.hid (And.intro hv9 hw9); clear hv9 hw9)
                  have y1 := HV.out.1
                  have y2 := HV.out.2
                  obtain ⟨x1, x2, x3, x4, x5, x6, x7, x8⟩ := HX.out
                  have hb9 : ∀ b, (Value.slice A1 j k1).ownBlock = some b → go + 1 ≤ b := fun b hb => owns_ge HL7.out.1.1 hb
                  have htk : is.take (j + 1) = is.take j ++ [i] := by rw [List.take_add_one, HI.out]; rfl
                  refine ⟨⟨j + 1, js ++ [⟨id, i.y, i.A, i.c⟩], v9, rfl, by omega, by go_num, ?_, ?_, y1.mono (fun b _ hb e => y1.2.2 b e hb) (fun b hb e => e hb), ?_, HL7.out.2.2.1.chg y2.1 fun b _ hb e => by have := hb9 b e; omega, HL7.out.2.2.2.trans (y2.1.below HL7.out.2.2.2.size fun b hb e => by have := hb9 b e; have := HB2.out.2.1; omega), by have := y2.1.size; omega, ?_, by rw [List.length_append, x7]; rfl, ?_⟩, ?_⟩
                  · rw [HNJ.out]; exact (by rw [HSTP.out]; first | rfl | (simp only []; rw [hmx]) | simp [hmx])
                  · rw [HNJ.out]; exact (by rw [HSTP.out]; first | rfl | simp [hdg])
                  · rw [List.map_append, x2, htk, List.map_append]; exact congrArg (fun z => (is.take j).map fx ++ [z]) (HFX.out)
                  · intro z hz
                    rcases List.mem_append.1 hz with hz | hz
                    · exact x6 z hz
                    · simp only [List.mem_singleton] at hz; subst hz; exact hblen
                  · intro z hz
                    rw [htk] at hz
                    rcases List.mem_append.1 hz with hz | hz
                    · exact x8 z hz
                    · simp only [List.mem_singleton] at hz; subst hz; omega
                  · simp [intOf]; omega
                · have hdg : decide (AT > Lz) = false := decide_eq_false hgt
                  have hmx : max Lz AT = Lz := by omega
                  have hcW0 : wr.cell? ⟨gx, 0, none⟩ = some (.int .u8 id) := HO7.out.cell 0
                  have hcW1 : wr.cell? ⟨gx, 1, none⟩ = some (.slice i.A i.y.length i.c) := HO7.out.cell 1
                  have hgW : go + 1 ≤ wr.heap.size := by have := HGX.out.1; have := HO7.out.lt; omega
                  go_wp2_with (at_builtin; refine wpList_appS1 under_secs sec_info rfl (.tmp 75) (.tmp 77) rfl (go + 1) (.slice A1 j k1) js rfl HL7.out.1 ⟨id, i.y, i.A, i.c⟩ HL7.out.2.1 rfl (by have := HX.out.2.2.2.2.2.2.1; omega) (by omega) ?_; intro v9 w9 hv9 hw9; have HV := Lib.hid (And.intro hv9 hw9); clear hv9 hw9)
                  have y1 := HV.out.1
                  have y2 := HV.out.2
                  obtain ⟨x1, x2, x3, x4, x5, x6, x7, x8⟩ := HX.out
                  have hb9 : ∀ b, (Value.slice A1 j k1).ownBlock = some b → go + 1 ≤ b := fun b hb => owns_ge HL7.out.1.1 hb
                  have htk : is.take (j + 1) = is.take j ++ [i] := by rw [List.take_add_one, HI.out]; rfl
                  refine ⟨⟨j + 1, js ++ [⟨id, i.y, i.A, i.c⟩], v9, rfl, by omega, by go_num, ?_, ?_, y1.mono (fun b _ hb e => y1.2.2 b e hb) (fun b hb e => e hb), ?_, HL7.out.2.2.1.chg y2.1 fun b _ hb e => by have := hb9 b e; omega, HL7.out.2.2.2.trans (y2.1.below HL7.out.2.2.2.size fun b hb e => by have := hb9 b e; have := HB2.out.2.1; omega), by have := y2.1.size; omega, ?_, by rw [List.length_append, x7]; rfl, ?_⟩, ?_⟩
                  · rw [HNJ.out]; exact (by rw [HSTP.out]; first | rfl | (simp only []; rw [hmx]) | simp [hmx])
                  · rw [HNJ.out]; exact (by rw [HSTP.out]; first | rfl | simp [hdg])
                  · rw [List.map_append, x2, htk, List.map_append]; exact congrArg (fun z => (is.take j).map fx ++ [z]) (HFX.out)
                  · intro z hz
                    rcases List.mem_append.1 hz with hz | hz
                    · exact x6 z hz
                    · simp only [List.mem_singleton] at hz; subst hz; exact hblen
                  · intro z hz
                    rw [htk] at hz
                    rcases List.mem_append.1 hz with hz | hz
                    · exact x8 z hz
                    · simp only [List.mem_singleton] at hz; subst hz; omega
                  · simp [intOf]; omega
              | false =>
                by_cases hgt : AT > Lz
                · have hdg : decide (AT > Lz) = true := decide_eq_true hgt
                  have hmx : max Lz AT = AT := by omega
                  have hcW0 : wr.cell? ⟨gx, 0, none⟩ = some (.int .u8 id) := HO7.out.cell 0
                  have hcW1 : wr.cell? ⟨gx, 1, none⟩ = some (.slice i.A i.y.length i.c) := HO7.out.cell 1
                  have hgW : go + 1 ≤ wr.heap.size := by have := HGX.out.1; have := HO7.out.lt; omega
                  go_wp2_with (at_builtin; refine wpList_appS1 under_secs sec_info rfl (.tmp 75) (.tmp 77) rfl (go + 1) (.slice A1 j k1) js rfl HL7.out.1 ⟨id, i.y, i.A, i.c⟩ HL7.out.2.1 rfl (by have := HX.out.2.2.2.2.2.2.1; omega) (by omega) ?_; intro v9 w9 hv9 hw9; have HV := Lib.hid (And.intro hv9 hw9); clear hv9 hw9)
                  have y1 := HV.out.1
                  have y2 := HV.out.2
                  obtain ⟨x1, x2, x3, x4, x5, x6, x7, x8⟩ := HX.out
                  have hb9 : ∀ b, (Value.slice A1 j k1).ownBlock = some b → go + 1 ≤ b := fun b hb => owns_ge HL7.out.1.1 hb
                  have htk : is.take (j + 1) = is.take j ++ [i] := by rw [List.take_add_one, HI.out]; rfl
                  refine ⟨⟨j + 1, js ++ [⟨id, i.y, i.A, i.c⟩], v9, rfl, by omega, by go_num, ?_, ?_, y1.mono (fun b _ hb e => y1.2.2 b e hb) (fun b hb e => e hb), ?_, HL7.out.2.2.1.chg y2.1 fun b _ hb e => by have := hb9 b e; omega, HL7.out.2.2.2.trans (y2.1.below HL7.out.2.2.2.size fun b hb e => by have := hb9 b e; have := HB2.out.2.1; omega), by have := y2.1.size; omega, ?_, by rw [List.length_append, x7]; rfl, ?_⟩, ?_⟩
                  · rw [HNJ.out]; exact (by rw [HSTP.out]; first | rfl | (simp only []; rw [hmx]) | simp [hmx])
                  · rw [HNJ.out]; exact (by rw [HSTP.out]; first | rfl | simp [hdg])
                  · rw [List.map_append, x2, htk, List.map_append]; exact congrArg (fun z => (is.take j).map fx ++ [z]) (HFX.out)
                  · intro z hz
                    rcases List.mem_append.1 hz with hz | hz
                    · exact x6 z hz
                    · simp only [List.mem_singleton] at hz; subst hz; exact hblen
                  · intro z hz
                    rw [htk] at hz
                    rcases List.mem_append.1 hz with hz | hz
                    · exact x8 z hz
                    · simp only [List.mem_singleton] at hz; subst hz; omega
                  · simp [intOf]; omega
                · have hdg : decide (AT > Lz) = false := decide_eq_false hgt
                  have hmx : max Lz AT = Lz := by omega
                  have hcW0 : wr.cell? ⟨gx, 0, none⟩ = some (.int .u8 id) := HO7.out.cell 0
                  have hcW1 : wr.cell? ⟨gx, 1, none⟩ = some (.slice i.A i.y.length i.c) := HO7.out.cell 1
                  have hgW : go + 1 ≤ wr.heap.size := by have := HGX.out.1; have := HO7.out.lt; omega
                  go_wp2_with (at_builtin; refine wpList_appS1 under_secs sec_info rfl (.tmp 75) (.tmp 77) rfl (go + 1) (.slice A1 j k1) js rfl HL7.out.1 ⟨id, i.y, i.A, i.c⟩ HL7.out.2.1 rfl (by have := HX.out.2.2.2.2.2.2.1; omega) (by omega) ?_; intro v9 w9 hv9 hw9; have HV := Lib.hid (And.intro hv9 hw9); clear hv9 hw9)
                  have y1 := HV.out.1
                  have y2 := HV.out.2
                  obtain ⟨x1, x2, x3, x4, x5, x6, x7, x8⟩ := HX.out
                  have hb9 : ∀ b, (Value.slice A1 j k1).ownBlock = some b → go + 1 ≤ b := fun b hb => owns_ge HL7.out.1.1 hb
                  have htk : is.take (j + 1) = is.take j ++ [i] := by rw [List.take_add_one, HI.out]; rfl
                  refine ⟨⟨j + 1, js ++ [⟨id, i.y, i.A, i.c⟩], v9, rfl, by omega, by go_num, ?_, ?_, y1.mono (fun b _ hb e => y1.2.2 b e hb) (fun b hb e => e hb), ?_, HL7.out.2.2.1.chg y2.1 fun b _ hb e => by have := hb9 b e; omega, HL7.out.2.2.2.trans (y2.1.below HL7.out.2.2.2.size fun b hb e => by have := hb9 b e; have := HB2.out.2.1; omega), by have := y2.1.size; omega, ?_, by rw [List.length_append, x7]; rfl, ?_⟩, ?_⟩
                  · rw [HNJ.out]; exact (by rw [HSTP.out]; first | rfl | (simp only []; rw [hmx]) | simp [hmx])
                  · rw [HNJ.out]; exact (by rw [HSTP.out]; first | rfl | simp [hdg])
                  · rw [List.map_append, x2, htk, List.map_append]; exact congrArg (fun z => (is.take j).map fx ++ [z]) (HFX.out)
                  · intro z hz
                    rcases List.mem_append.1 hz with hz | hz
                    · exact x6 z hz
                    · simp only [List.mem_singleton] at hz; subst hz; exact hblen
                  · intro z hz
                    rw [htk] at hz
                    rcases List.mem_append.1 hz with hz | hz
                    · exact x8 z hz
                    · simp only [List.mem_singleton] at hz; subst hz; omega
                  · simp [intOf]; omega
    · obtain rfl : j = q := by omega
      have htk : is.take is.length = is := List.take_length
      have hql := HQ.out
      have hjm : js.map SV.sec = is.map fx := by rw [HX.out.2.1, ← hql, htk]
      have hsf : (is.map fx).foldl stp (true, -1) = (R, Lz) := by
        have := HST.out
        unfold stF at this
        rw [← hql, htk] at this
        exact this
      have hgood : ∀ x ∈ is.map fx, goodSec x := by
        intro x hx
        obtain ⟨i, hi, rfl⟩ := List.mem_map.1 hx
        exact fx_good (HALL.out i hi) (HX.out.2.2.2.2.2.2.2 i (by rw [← hql, htk]; exact hi))
      have hsplit := join_all (is.map fx) hgood
      rw [hsf] at hsplit
      have hRS := HX.out.1.rd
      have hbis := joinS_is js (fun i hi => (HX.out.1.2.1 i hi)) 32 HX.out.2.2.2.2.2.1
      have hjl := HX.out.2.2.2.2.2.2.1
      have C4 := Lib.hid (sjoin_any _ js 32 wr hRS HX.out.2.2.2.2.2.1 (by omega))
      rw [hjm] at C4 hbis
      have hLl : (secFront ++ joinS (is.map fx)).length ≤ 1000000 := by
        rw [List.length_append]
        have : secFront.length = 8 := rfl
        omega
      have HJS := Lib.hid (And.intro hRS (And.intro hjl (And.intro hjm HX.out.2.2.2.1)))
      generalize secFront ++ joinS (is.map fx) = LL at *
      have HLL := Lib.hid (And.intro hsplit hLl)
      have hjq : j ≤ 10 := by omega
      clear HX hjl hjm hgood hsplit hLl hbis hRS hsf hql htk hlt
      go_wp2_with fail
      refine C4.out.mono ?_
      rintro e w7 ⟨A5, c5, rfl, p1, p2, p3, p4⟩
      have HB7 := Lib.hid (And.intro HJS.out.2.2.2 p4)
      have hT7 := HT.out.later (HJS.out.2.2.2.trans (p4.mono HJS.out.2.2.2.size))
      have C5 := Lib.hid (ssplit_any A5 LL LL.length c5 w7 p1.rd rfl HLL.out.2 p2 p3 hT7)
      clear p1 p2 p3 p4 hT7 C4
      go_wp2_with fail
      refine C5.out.mono ?_
      rintro e w8 ⟨v, ms, rfl, p1, p2, p3, p4⟩
      obtain ⟨A6, k6, rfl, -, -, -⟩ := RdV.of_own p1.1
      have HB8 := Lib.hid (HB7.out.1.trans (HB7.out.2.trans (p3.mono HB7.out.2.size) |>.mono HB7.out.1.size))
      have HRA := Lib.hid ((HJS.out.1.later HB7.out.2).later p3)
      have HP := Lib.hid (And.intro p1.rd (And.intro p2 p4))
      clear p1 p2 p3 p4 C5 HB7
      rw [HLL.out.1] at HP ⊢
      cases R with
      | false =>
        have hms : ms = [] := by have := HP.out.2.1; simpa [spL] using this
        subst hms
        simp only [Bool.false_eq_true, if_false, spE]
        go_wp2_with fail
        go_ret
        exact ⟨rfl, HB8.out⟩
      | true =>
        have hmj : ms.map SV.sec = js.map SV.sec := by
          have := HP.out.2.1
          rw [if_pos rfl] at this
          rw [HJS.out.2.2.1]; exact this
        have hml : ms.length = j := by
          have := congrArg List.length hmj
          simp only [List.length_map] at this
          rw [this]; exact HJS.out.2.1
        have HMJ := Lib.hid (And.intro hmj (And.intro hml HJS.out.2.1))
        have HPR := Lib.hid HP.out.1
        rw [hml] at HPR ⊢
        clear hmj HP
        have hmj2 : ((j : Int) != (j : Int)) = false := by simp
        simp only [if_true, spE]
        go_wp2_with fail
        go_loopw [13] (fun i wr => ∃ k : Nat, k ≤ j ∧ i = .int .i64 k ∧ Hid (Below w8.heap.size w8 wr)) (fun i _ => j - (intOf i).toNat)
        case atStart => exact ⟨0, by omega, rfl, Below.refl _ _⟩
        case round =>
          obtain ⟨k, hk, rfl, HX⟩ := hrel
          by_cases hlt : k < j
          · have hlt2 : (k : Int) < j := by omega
            obtain ⟨i, hi⟩ : ∃ i, ms[k]? = some i := ⟨ms[k]'(by rw [HMJ.out.2.1]; exact hlt), List.getElem?_eq_getElem _⟩
            obtain ⟨j', hj'⟩ : ∃ j', js[k]? = some j' := ⟨js[k]'(by rw [HMJ.out.2.2]; exact hlt), List.getElem?_eq_getElem _⟩
            obtain ⟨e1, e2⟩ := secs_get7 HMJ.out.1 hi hj'
            obtain ⟨b1, o1, rfl, -, -, i1, i2, i3⟩ := (HPR.out.later HX.out).at_ hi
            obtain ⟨b2, o2, rfl, -, -, j1, j2, j3⟩ := (HRA.out.later HX.out).at_ hj'
            rw [e1] at i1
            rw [e2] at i2
            have hs1 : ∀ m, (convert 22 9 (.slice i.A j'.y.length i.c)).run Tryd.prog (wr.drewN m) = .ok (.string (strOfNums j'.y)) (wr.drewN m) := fun m => by rw [← e2]; exact (i3.2.2.1.drewN m).rd.string i.c
            have hs2 : ∀ m, (convert 22 9 (.slice j'.A j'.y.length j'.c)).run Tryd.prog (wr.drewN m) = .ok (.string (strOfNums j'.y)) (wr.drewN m) := fun m => (j3.2.2.1.drewN m).rd.string j'.c
            have hst : ((strOfNums j'.y).toList == (strOfNums j'.y).toList) = true := by simp
            have hid : (j'.id != j'.id) = false := by simp
            have hw1 : IntKind.i64.wrap ((k : Int) + 1) = (k : Int) + 1 := by rw [IntKind.wrap_i64]; omega
            have htn : ((k : Int)).toNat = k := by omega
            clear i3 j3 hi hj' e1 e2
            generalize i.A = iA at *
            generalize i.c = ic at *
            generalize j'.A = jA at *
            generalize j'.c = jc at *
            generalize j'.y.length = jl at *
            generalize strOfNums j'.y = jss at *
            generalize j'.id = jid at *
            go_wp2_with fail
            go_quiet (fail)
            go_wp2
            refine ⟨⟨k + 1, by omega, by go_num, below_drewN' HX.out nq⟩, ?_⟩
            simp [intOf]; omega
          · obtain rfl : k = j := by omega
            go_wp2
            go_ret
            exact ⟨rfl, HB8.out.trans (HX.out.mono HB8.out.size)⟩
end Go.Proofs.YtgbjlcedabkdkaaDoor
