/- sect.Join: which bytes sections have. -/
import Derived.Test.YtgbjlcedabkdkaaDoorSecL
import Derived.Test.YtgbjlcedabkdkaaDoorLebPut
import Derived.Test.YtgbjlcedabkdkaaDoorConcat
import Derived.Test.YtgbjlcedabkdkaaDoorSectApp
import Derived.Deep.DeepCutAuto
import Derived.Deep.CutBlock
import Derived.Handy
namespace Go.Proofs.YtgbjlcedabkdkaaDoor
open Go.RowKit
set_option maxRecDepth 100000
set_option linter.unusedVariables false

theorem encU_len7 (v : Int) : 0 < (encU v).length ∧ (encU v).length ≤ 10 := by
  unfold encU; rw [bytesOf_length]; exact ⟨List.length_pos_iff.2 (dgU_ne _ _), dgU_len 9 v⟩
theorem encU_is7 (v : Int) (h0 : 0 ≤ v) (h1 : v < 18446744073709551616) : IsBytes (encU v) := bytesU_is 9 v h0 (by simp; omega)
/-- One section's bytes. -/
def secB (x : Sec) : List Int := x.1 :: (encU (x.2.length : Int) ++ x.2)
def joinS : List Sec → List Int
  | [] => []
  | x :: xs => secB x ++ joinS xs
theorem joinS_app (a b : List Sec) : joinS (a ++ b) = joinS a ++ joinS b := by
  induction a with
  | nil => rfl
  | cons x a ih => simp [joinS, ih]
theorem secB_is (i : SV) {X : Nat → Prop} {w : World} (h : SecX X w i) : IsBytes (secB i.sec) ∧ (secB i.sec).length ≤ i.y.length + 11 := by
  obtain ⟨h0, h1, h2, h3, h4, h5⟩ := h
  have := encU_len7 (i.y.length : Int)
  refine ⟨fun z hz => ?_, by simp [secB, SV.sec]; omega⟩
  simp only [secB, SV.sec, List.mem_cons, List.mem_append] at hz
  rcases hz with rfl | hz | hz
  · exact ⟨h0, h1⟩
  · exact encU_is7 _ (by omega) (by omega) z hz
  · exact h2.1 z hz
theorem secF_is : IsBytes secFront := by intro z hz; simp [secFront] at hz; omega
theorem joinS_take {ls : List Sec} {k : Nat} (hk : k < ls.length) : joinS (ls.take (k + 1)) = joinS (ls.take k) ++ secB (ls.getD k (0, [])) := by
  rw [List.take_add_one, List.getElem?_eq_getElem hk, joinS_app, List.getD_eq_getElem?_getD, List.getElem?_eq_getElem hk]
  simp [joinS]
theorem joinS_is {X : Nat → Prop} {w : World} (is : List SV) (h : ∀ i ∈ is, SecX X w i) (m : Nat) (hm : ∀ i ∈ is, i.y.length ≤ m) : IsBytes (joinS (is.map SV.sec)) ∧ (joinS (is.map SV.sec)).length ≤ is.length * (m + 11) := by
  induction is with
  | nil => exact ⟨IsBytes.nil, by simp [joinS]⟩
  | cons i is ih =>
    obtain ⟨h1, h2⟩ := ih (fun j hj => h j (by simp [hj])) (fun j hj => hm j (by simp [hj]))
    obtain ⟨h3, h4⟩ := secB_is i (h i (by simp))
    have := hm i (by simp)
    refine ⟨h3.app h1, ?_⟩
    simp only [List.map_cons, joinS, List.length_append, List.length_cons, Nat.add_mul]
    omega
set_option maxHeartbeats 4000000 in
theorem sjoin_any {X : Nat → Prop} (v : Value) (is : List SV) (m : Nat) (w : World) (h : RdS X w v is) (hm : ∀ i ∈ is, i.y.length ≤ m) (hl : is.length * (m + 11) ≤ 10000000) :
    Calls Tryd.prog 13 #[v] w fun e w' => ∃ A c, e = .returned (.slice A (secFront ++ joinS (is.map SV.sec)).length c) ∧ RdX (fun k => w.heap.size ≤ k) w' A (secFront ++ joinS (is.map SV.sec)) ∧ (secFront ++ joinS (is.map SV.sec)).length ≤ c ∧ c ≤ maxLen ∧ Below w.heap.size w w' := by
  have kc := fun (w : World) (C : Array Value) (n c : Nat) => Lib.run_convert_bytes_const (P := Tryd.prog) w 22 5 C n c under_bytes under_byte
  have HR := Lib.hid (h.mono (Y := fun k => X k ∧ k < w.heap.size) fun k hk hx => ⟨hx, hk⟩)
  obtain ⟨A, c, rfl, hnc, hcm, -, hall⟩ := h
  obtain ⟨hI, hJ⟩ := joinS_is is hall m hm
  have HI := Lib.hid (And.intro hI (And.intro hm hall))
  have HJ := Lib.hid (fun k => (joinS_is (is.take k) (fun j hj => hall j (List.mem_of_mem_take hj)) m (fun j hj => hm j (List.mem_of_mem_take hj))))
  have HF := Lib.hid (And.intro (rd_marked w secFront secF_is (8, 9)) ((Below.refl w.heap.size w).alloc (Nat.le_refl _) (.cells (secFront.map (Value.int .u8)).toArray 5 (8, 9))))
  simp only [secFront, List.map_cons, List.map_nil, List.toArray] at HF
  have hilm : is.length ≤ 1000000 := by
    have : is.length * 11 ≤ is.length * (m + 11) := Nat.mul_le_mul_left _ (by omega)
    omega
  clear hI hm hall hJ
  generalize hq : is.length = q at *
  have HQ := Lib.hid hq
  have HL := Lib.hid hl
  clear hq hl
  go_enter Tryd.func13, Tryd.ntmps13
  go_upto_region 3 with fail
  generalize hW1 : w.alloc (.cells #[.int .u8 0, .int .u8 97, .int .u8 115, .int .u8 109, .int .u8 1, .int .u8 0, .int .u8 0, .int .u8 0] 5 (8, 9)) = W1 at *
  have HSZ : Hid (w.heap.size + 1 = W1.heap.size) := by unfold Hid; rw [← hW1]; simp
  clear hW1
  obtain ⟨g, hg⟩ : ∃ g, w.heap.size = g := ⟨_, rfl⟩
  rw [hg] at HF HSZ ⊢
  have HG := Lib.hid hg
  clear hg kc
  go_loopw [3, 10] (fun v i wr => ∃ (k : Nat) (u : Value), u = v ∧ k ≤ q ∧ i = .int .i64 k ∧ g + 1 ≤ wr.heap.size ∧ Hid (((k = 0 ∧ u = .slice (some ⟨g, 0, none⟩) 8 8 ∧ RdX (fun k => k = g) wr (some ⟨g, 0, none⟩) secFront) ∨ OwnB wr (g + 1) u (secFront ++ joinS ((is.take k).map SV.sec))) ∧ Below g w wr)) (fun _ i _ => q - (intOf i).toNat)
  case atStart => exact ⟨0, _, rfl, by omega, rfl, by have := HSZ.out; omega, .inl ⟨rfl, rfl, HF.out.1⟩, HF.out.2⟩
  case round =>
    obtain ⟨k, u, rfl, hk, rfl, hgr, HX⟩ := hrel
    by_cases hlt : k < q
    · have hlt2 : (k : Int) < q := by omega
      have hkl : k < is.length := by rw [HQ.out]; exact hlt
      obtain ⟨i, hi⟩ : ∃ i, is[k]? = some i := ⟨is[k], List.getElem?_eq_getElem hkl⟩
      have hb2 : Below w.heap.size w wr := by rw [HG.out]; exact HX.out.2
      obtain ⟨ba, oa, rfl, hXb, hba, ca0, ca1, hsx⟩ := (HR.out.later hb2).at_ hi
      have HT : Hid (joinS ((is.take (k + 1)).map SV.sec) = joinS ((is.take k).map SV.sec) ++ secB i.sec) := by
        unfold Hid
        rw [List.map_take, List.map_take, joinS_take (by simpa using hkl)]
        simp [hi]
      obtain ⟨s0, s1, s2, s3, s4, s5⟩ := hsx
      have hJk := HJ.out k
      have hml := HI.out.2.1 i (List.mem_of_getElem? hi)
      have hlen : (joinS ((is.take k).map SV.sec)).length ≤ 10000000 := by
        refine Nat.le_trans hJk.2 (Nat.le_trans (Nat.mul_le_mul_right _ ?_) HL.out)
        simp; omega
      have hIB : IsBytes (secFront ++ joinS ((is.take k).map SV.sec)) := IsBytes.app secF_is hJk.1
      have hw1 : IntKind.i64.wrap ((k : Int) + 1) = (k : Int) + 1 := by rw [IntKind.wrap_i64]; omega
      have hln : (secFront ++ joinS ((is.take k).map SV.sec)).length ≤ 10000008 := by rw [List.length_append]; have : secFront.length = 8 := rfl; omega
      have h0 : k = 0 → secFront ++ joinS ((is.take k).map SV.sec) = secFront := by rintro rfl; simp [joinS]
      generalize hLL : secFront ++ joinS ((is.take k).map SV.sec) = LL at *
      generalize hqq : LL.length = ql at *
      obtain ⟨id, y, Ay, cy⟩ := i
      simp only at *
      have HY := Lib.hid (And.intro s0 (And.intro s1 (And.intro s2 (And.intro s3 (And.intro s4 s5)))))
      have HLL := Lib.hid (And.intro hLL (And.intro hqq (And.intro hlen (And.intro hml hIB))))
      have HE := Lib.hid hi
      have H0 := Lib.hid h0
      clear s0 s1 s2 s3 s4 s5 hLL hqq hlen hml hi hJk hIB hb2 HJ hXb h0
      -- the copy
      have HO0 := Lib.hid (Own.new wr 33 [.int .u8 id, .slice Ay y.length cy])
      simp only [List.toArray] at HO0
      have hb0 : Below wr.heap.size wr (wr.alloc (.cells #[.int .u8 id, .slice Ay y.length cy] 33)) := (Below.refl _ _).alloc (Nat.le_refl _) _
      have HX0 : Hid (((k = 0 ∧ u = .slice (some ⟨g, 0, none⟩) 8 8 ∧ RdX (fun k => k = g) (wr.alloc (.cells #[.int .u8 id, .slice Ay y.length cy] 33)) (some ⟨g, 0, none⟩) secFront) ∨ (OwnB (wr.alloc (.cells #[.int .u8 id, .slice Ay y.length cy] 33)) (g + 1) u LL)) ∧ Below g w (wr.alloc (.cells #[.int .u8 id, .slice Ay y.length cy] 33)) ∧ g + 1 ≤ (wr.alloc (.cells #[.int .u8 id, .slice Ay y.length cy] 33)).heap.size) := by
        refine ⟨?_, HX.out.2.trans (hb0.mono (by omega)), by simp; omega⟩
        rcases HX.out.1 with ⟨e1, e2, e3⟩ | e
        · exact .inl ⟨e1, e2, e3.later hb0⟩
        · exact .inr (OwnB.later e hb0)
      clear hb0 HX
      go_upto_region 5 with fail
      generalize wr.alloc (.cells #[.int .u8 id, .slice Ay y.length cy] 33) = w1 at *
      generalize wr.heap.size = gx at *
      have hc10 : w1.cell? ⟨gx, 0, none⟩ = some (.int .u8 id) := HO0.out.cell 0
      have hc11 : w1.cell? ⟨gx, 1, none⟩ = some (.slice Ay y.length cy) := HO0.out.cell 1
      have hsz1 := HX0.out.2.2
      rcases HX0.out.1 with ⟨e1, e2, e3⟩ | hown
      · subst e2
        have HE3 := Lib.hid (And.intro (H0.out e1) e3)
        clear e3
        go_upto_region 6 with (at_builtin; refine wpList_appFull rfl (.tmp 14) (.tmp 17) rfl g 8 secFront rfl rfl (HE3.out.2.later ((Below.refl _ _).alloc (Nat.le_refl _) _)) _ 1 1 [id] rfl rfl (by omega) (rdX_lit w1 [id] (IsBytes.one HY.out.1 HY.out.2.1)) (by omega) ?_; intro v2 w2 hv2 hw2)
        have H2 : Hid (OwnB w2 (g + 1) v2 (LL ++ [id]) ∧ Below g w w2 ∧ Own w2 gx 33 [.int .u8 id, .slice Ay y.length cy] ∧ g + 1 ≤ w2.heap.size) := by
          have h12 : Below w1.heap.size w1 w2 := ((Below.refl _ _).alloc (Nat.le_refl _) _).trans (hw2.mono (by simp))
          refine ⟨?_, HX0.out.2.1.trans (h12.mono (by omega)), HO0.out.later h12, by have := h12.size; omega⟩
          rw [HE3.out.1]
          exact owns_base hv2 (by simp; omega)
        clear hv2 hw2 hc10 hc11 HX0
        have hO2 := H2.out.2.2.1
        have hc20 : w2.cell? ⟨gx, 0, none⟩ = some (.int .u8 id) := hO2.cell 0
        have hc21 : w2.cell? ⟨gx, 1, none⟩ = some (.slice Ay y.length cy) := hO2.cell 1
        have hU := putU_any none [] 0 0 (y.length : Int) w2 (Rd.nil _ _ _) rfl (by omega) (by omega) (by have := HY.out.2.2.2.2.2; omega)
        have hwu : IntKind.u64.wrap ((y.length : Nat) : Int) = (y.length : Int) := by rw [IntKind.wrap_u64]; have := HY.out.2.2.2.2.2; omega
        have hIB2 : IsBytes (LL ++ [id]) := HLL.out.2.2.2.2.app (IsBytes.one HY.out.1 HY.out.2.1)
        obtain ⟨A2, c2, rfl, -, -, -⟩ := H2.out.1.rdX hIB2
        have hl2 : (LL ++ [id]).length = ql + 1 := by simp; exact HLL.out.2.1
        have HU := Lib.hid hU
        have hyl2 : y.length ≤ 1000000 := HY.out.2.2.2.2.2
        generalize hyy : y.length = yl at *
        have HYY := Lib.hid hyy
        rw [hl2] at H2 ⊢
        have HL2 := Lib.hid hl2
        clear hU hIB2 hl2 hyy hO2
        go_wp2_with fail
        refine HU.out.mono ?_
        rintro e w3 ⟨v3, rfl, ho3, hb3⟩
        rw [List.nil_append] at ho3
        obtain ⟨A3, c3, rfl, -, -, hr3⟩ := ho3.rdX (encU_is7 (yl : Int) (by omega) (by omega))
        have h33 := (encU_len7 (yl : Int)).2
        have H3 : Hid (OwnB w3 (g + 1) (.slice A2 (ql + 1) c2) (LL ++ [id]) ∧ RdX (fun k => (Value.slice A3 (encU (yl : Int)).length c3).ownBlock = some k) w3 A3 (encU (yl : Int)) ∧ Below g w w3 ∧ Own w3 gx 33 [.int .u8 id, .slice Ay yl cy] ∧ g + 1 ≤ w3.heap.size) := ⟨OwnB.later H2.out.1 hb3, hr3, H2.out.2.1.trans (hb3.mono (by have := H2.out.2.2.2; omega)), H2.out.2.2.1.later hb3, by have := hb3.size; have := H2.out.2.2.2; omega⟩
        clear ho3 hb3 hr3 hc20 hc21
        generalize hqe : (encU (yl : Int)).length = qe at *
        have HQE := Lib.hid hqe
        clear hqe
        go_upto_region 7 with (at_builtin; refine wpList_appXG rfl (.tmp 19) (.tmp 24) rfl (g + 1) (.slice A2 (ql + 1) c2) (LL ++ [id]) rfl H3.out.1 A3 qe c3 (encU (yl : Int)) rfl HQE.out.symm H3.out.2.1 (by rw [HL2.out]; omega) (by have := H3.out.2.2.2.2; omega) ?_; intro v4 w4 hv4 hw4)
        have hch4 := hw4.1
        have H4 : Hid (OwnB w4 (g + 1) v4 (LL ++ [id] ++ encU (yl : Int)) ∧ Below g w w4 ∧ Own w4 gx 33 [.int .u8 id, .slice Ay yl cy] ∧ g + 1 ≤ w4.heap.size) := ⟨hv4, H3.out.2.2.1.trans (hch4.below (by have := H3.out.2.2.2.2; omega) fun i hi e => by have := owns_ge H3.out.1 e; omega), H3.out.2.2.2.1.chg hch4 fun e => owns_ne H3.out.1 H3.out.2.2.2.1 (by decide) e, by have := hch4.size; have := H3.out.2.2.2.2; omega⟩
        clear hv4 hw4 hch4 H3 H2
        have hIB4 : IsBytes (LL ++ [id] ++ encU (yl : Int)) := (HLL.out.2.2.2.2.app (IsBytes.one HY.out.1 HY.out.2.1)).app (encU_is7 _ (by omega) (by omega))
        obtain ⟨A4, c4, rfl, -, -, -⟩ := H4.out.1.rdX hIB4
        have hl4 : (LL ++ [id] ++ encU (yl : Int)).length = ql + 1 + qe := by rw [List.length_append, HL2.out, HQE.out]
        rw [hl4] at H4 ⊢
        clear hIB4 hl4
        have hc40 : w4.cell? ⟨gx, 0, none⟩ = some (.int .u8 id) := H4.out.2.2.1.cell 0
        have hc41 : w4.cell? ⟨gx, 1, none⟩ = some (.slice Ay yl cy) := H4.out.2.2.1.cell 1
        have hry : RdX (fun i => X i ∧ i < w.heap.size) w4 Ay y := by
          have h0 := HR.out
          obtain ⟨Aq, cq, hAq, -, -, -, hall⟩ := h0
          exact RdX.later (hall ⟨id, y, Ay, cy⟩ (List.mem_of_getElem? HE.out)).2.2.1 (by rw [HG.out]; exact H4.out.2.1)
        have hg4 := H4.out.2.2.2
        go_upto_region 8 with (at_builtin; refine wpList_appXG rfl (.tmp 26) (.tmp 28) rfl (g + 1) (.slice A4 (ql + 1 + qe) c4) (LL ++ [id] ++ encU (yl : Int)) rfl H4.out.1 Ay yl cy y rfl HYY.out.symm hry (by rw [List.length_append, HL2.out, HQE.out]; omega) (by omega) ?_; intro v5 w5 hv5 hw5)
        have H5 : Hid (OwnB w5 (g + 1) v5 (LL ++ [id] ++ encU (yl : Int) ++ y) ∧ Below g w w5 ∧ g + 1 ≤ w5.heap.size) := ⟨hv5, H4.out.2.1.trans (hw5.1.below (by have := H4.out.2.2.2; omega) fun i hi e => by have := owns_ge H4.out.1 e; omega), by have := hw5.1.size; have := H4.out.2.2.2; omega⟩
        have hg5 := H5.out.2.2
        clear hv5 hw5 hry hc40 hc41
        go_wp2
        refine ⟨⟨k + 1, v5, rfl, by omega, by go_num, hg5, .inr ?_, H5.out.2.1⟩, ?_⟩
        · have hh := H5.out.1
          rw [← HLL.out.1] at hh
          rw [HT.out]
          simpa [secB, SV.sec, HYY.out, List.append_assoc] using hh
        · simp [intOf]; omega
      · obtain ⟨Au, cu, hu, -, -, -⟩ := OwnB.rdX hown HLL.out.2.2.2.2
        subst hu
        have HOW := Lib.hid hown
        clear hown
        rw [HLL.out.2.1] at HOW HX0 ⊢
        go_upto_region 6 with (at_builtin; refine wpList_app1G rfl (.tmp 14) (.tmp 17) rfl (g + 1) (.slice Au ql cu) LL rfl HOW.out id rfl HY.out.1 HY.out.2.1 (by rw [HLL.out.2.1]; omega) (by omega) ?_; intro v2 w2 hv2 hw2)
        have H2 : Hid (OwnB w2 (g + 1) v2 (LL ++ [id]) ∧ Below g w w2 ∧ Own w2 gx 33 [.int .u8 id, .slice Ay y.length cy] ∧ g + 1 ≤ w2.heap.size) :=
          ⟨hv2, HX0.out.2.1.trans (hw2.1.below (by omega) fun i hi e => by have := owns_ge HOW.out e; omega), HO0.out.chg hw2.1 fun e => owns_ne HOW.out HO0.out (by decide) e, by have := hw2.1.size; omega⟩
        clear hv2 hw2 hc10 hc11 HX0
        have hO2 := H2.out.2.2.1
        have hc20 : w2.cell? ⟨gx, 0, none⟩ = some (.int .u8 id) := hO2.cell 0
        have hc21 : w2.cell? ⟨gx, 1, none⟩ = some (.slice Ay y.length cy) := hO2.cell 1
        have hU := putU_any none [] 0 0 (y.length : Int) w2 (Rd.nil _ _ _) rfl (by omega) (by omega) (by have := HY.out.2.2.2.2.2; omega)
        have hwu : IntKind.u64.wrap ((y.length : Nat) : Int) = (y.length : Int) := by rw [IntKind.wrap_u64]; have := HY.out.2.2.2.2.2; omega
        have hIB2 : IsBytes (LL ++ [id]) := HLL.out.2.2.2.2.app (IsBytes.one HY.out.1 HY.out.2.1)
        obtain ⟨A2, c2, rfl, -, -, -⟩ := H2.out.1.rdX hIB2
        have hl2 : (LL ++ [id]).length = ql + 1 := by simp; exact HLL.out.2.1
        have HU := Lib.hid hU
        have hyl2 : y.length ≤ 1000000 := HY.out.2.2.2.2.2
        generalize hyy : y.length = yl at *
        have HYY := Lib.hid hyy
        rw [hl2] at H2 ⊢
        have HL2 := Lib.hid hl2
        clear hU hIB2 hl2 hyy hO2
        go_wp2_with fail
        refine HU.out.mono ?_
        rintro e w3 ⟨v3, rfl, ho3, hb3⟩
        rw [List.nil_append] at ho3
        obtain ⟨A3, c3, rfl, -, -, hr3⟩ := ho3.rdX (encU_is7 (yl : Int) (by omega) (by omega))
        have h33 := (encU_len7 (yl : Int)).2
        have H3 : Hid (OwnB w3 (g + 1) (.slice A2 (ql + 1) c2) (LL ++ [id]) ∧ RdX (fun k => (Value.slice A3 (encU (yl : Int)).length c3).ownBlock = some k) w3 A3 (encU (yl : Int)) ∧ Below g w w3 ∧ Own w3 gx 33 [.int .u8 id, .slice Ay yl cy] ∧ g + 1 ≤ w3.heap.size) := ⟨OwnB.later H2.out.1 hb3, hr3, H2.out.2.1.trans (hb3.mono (by have := H2.out.2.2.2; omega)), H2.out.2.2.1.later hb3, by have := hb3.size; have := H2.out.2.2.2; omega⟩
        clear ho3 hb3 hr3 hc20 hc21
        generalize hqe : (encU (yl : Int)).length = qe at *
        have HQE := Lib.hid hqe
        clear hqe
        go_upto_region 7 with (at_builtin; refine wpList_appXG rfl (.tmp 19) (.tmp 24) rfl (g + 1) (.slice A2 (ql + 1) c2) (LL ++ [id]) rfl H3.out.1 A3 qe c3 (encU (yl : Int)) rfl HQE.out.symm H3.out.2.1 (by rw [HL2.out]; omega) (by have := H3.out.2.2.2.2; omega) ?_; intro v4 w4 hv4 hw4)
        have hch4 := hw4.1
        have H4 : Hid (OwnB w4 (g + 1) v4 (LL ++ [id] ++ encU (yl : Int)) ∧ Below g w w4 ∧ Own w4 gx 33 [.int .u8 id, .slice Ay yl cy] ∧ g + 1 ≤ w4.heap.size) := ⟨hv4, H3.out.2.2.1.trans (hch4.below (by have := H3.out.2.2.2.2; omega) fun i hi e => by have := owns_ge H3.out.1 e; omega), H3.out.2.2.2.1.chg hch4 fun e => owns_ne H3.out.1 H3.out.2.2.2.1 (by decide) e, by have := hch4.size; have := H3.out.2.2.2.2; omega⟩
        clear hv4 hw4 hch4 H3 H2
        have hIB4 : IsBytes (LL ++ [id] ++ encU (yl : Int)) := (HLL.out.2.2.2.2.app (IsBytes.one HY.out.1 HY.out.2.1)).app (encU_is7 _ (by omega) (by omega))
        obtain ⟨A4, c4, rfl, -, -, -⟩ := H4.out.1.rdX hIB4
        have hl4 : (LL ++ [id] ++ encU (yl : Int)).length = ql + 1 + qe := by rw [List.length_append, HL2.out, HQE.out]
        rw [hl4] at H4 ⊢
        clear hIB4 hl4
        have hc40 : w4.cell? ⟨gx, 0, none⟩ = some (.int .u8 id) := H4.out.2.2.1.cell 0
        have hc41 : w4.cell? ⟨gx, 1, none⟩ = some (.slice Ay yl cy) := H4.out.2.2.1.cell 1
        have hry : RdX (fun i => X i ∧ i < w.heap.size) w4 Ay y := by
          have h0 := HR.out
          obtain ⟨Aq, cq, hAq, -, -, -, hall⟩ := h0
          exact RdX.later (hall ⟨id, y, Ay, cy⟩ (List.mem_of_getElem? HE.out)).2.2.1 (by rw [HG.out]; exact H4.out.2.1)
        have hg4 := H4.out.2.2.2
        go_upto_region 8 with (at_builtin; refine wpList_appXG rfl (.tmp 26) (.tmp 28) rfl (g + 1) (.slice A4 (ql + 1 + qe) c4) (LL ++ [id] ++ encU (yl : Int)) rfl H4.out.1 Ay yl cy y rfl HYY.out.symm hry (by rw [List.length_append, HL2.out, HQE.out]; omega) (by omega) ?_; intro v5 w5 hv5 hw5)
        have H5 : Hid (OwnB w5 (g + 1) v5 (LL ++ [id] ++ encU (yl : Int) ++ y) ∧ Below g w w5 ∧ g + 1 ≤ w5.heap.size) := ⟨hv5, H4.out.2.1.trans (hw5.1.below (by have := H4.out.2.2.2; omega) fun i hi e => by have := owns_ge H4.out.1 e; omega), by have := hw5.1.size; have := H4.out.2.2.2; omega⟩
        have hg5 := H5.out.2.2
        clear hv5 hw5 hry hc40 hc41
        go_wp2
        refine ⟨⟨k + 1, v5, rfl, by omega, by go_num, hg5, .inr ?_, H5.out.2.1⟩, ?_⟩
        · have hh := H5.out.1
          rw [← HLL.out.1] at hh
          rw [HT.out]
          simpa [secB, SV.sec, HYY.out, List.append_assoc] using hh
        · simp [intOf]; omega
    · obtain rfl : k = q := by omega
      have hfin : (is.take k).map SV.sec = is.map SV.sec := by rw [List.take_of_length_le (by rw [HQ.out]; omega)]
      rw [hfin] at HX
      rcases HX.out.1 with ⟨e1, e2, e3⟩ | hown
      · subst e2
        have hnil : is = [] := List.eq_nil_of_length_eq_zero (by rw [HQ.out]; exact e1)
        have HE3 := Lib.hid (And.intro hnil e3)
        clear hnil e3 hfin
        go_wp2
        go_ret
        refine ⟨_, 8, by rw [HE3.out.1]; rfl, ?_, by rw [HE3.out.1]; decide, by decide, by rw [HG.out]; exact HX.out.2⟩
        rw [HE3.out.1]
        simpa [joinS] using HE3.out.2.mono (Y := fun i => w.heap.size ≤ i) fun i _ hi => by have := HG.out; omega
      · have hIB : IsBytes (secFront ++ joinS (is.map SV.sec)) := secF_is.app HI.out.1
        obtain ⟨Au, cu, hu, hh1, hh2, hh3⟩ := OwnB.rdX hown hIB
        have hbl := fun i hi => owns_ge hown (g := i) hi
        have HE3 := Lib.hid (And.intro hh1 (And.intro hh2 (And.intro hh3 hbl)))
        subst hu
        clear hown hIB hfin hh1 hh2 hh3 hbl
        generalize hzz : (secFront ++ joinS (is.map SV.sec)).length = zz at *
        have HZZ := Lib.hid hzz
        clear hzz
        go_wp2
        go_ret
        exact ⟨_, _, by rw [HZZ.out]; rfl, HE3.out.2.2.1.mono fun i _ hi => by have := HE3.out.2.2.2 i hi; have := HG.out; omega, by rw [HZZ.out]; exact HE3.out.1, HE3.out.2.1, by rw [HG.out]; exact HX.out.2⟩
end Go.Proofs.YtgbjlcedabkdkaaDoor
