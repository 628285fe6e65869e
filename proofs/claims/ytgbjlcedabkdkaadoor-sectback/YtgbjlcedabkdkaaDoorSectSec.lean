/- sect: one section. -/
import Derived.Test.YtgbjlcedabkdkaaDoorSectSrc2
namespace Go.Proofs.YtgbjlcedabkdkaaDoor
open Go.RowKit
set_option maxRecDepth 100000
set_option linter.unusedVariables false

def SecPost (k : Nat) (g tot : Nat) (s : St) (w : World) (e : Ending) (w' : World) : Prop :=
  ∃ id y v k', e = .returned (.agg #[.int .u8 id, v]) ∧ 0 ≤ id ∧ id ≤ 255 ∧ k' ≤ 12 ∧ OwnB w' w.heap.size v y ∧ IsBytes y ∧ y.length ≤ 1000000 ∧ SrcAt w' g tot k' (nx (pSec k) s) ∧ (∀ r l', bd s (pSec k) = .ok (r, l') → r = ((id, y), k')) ∧ Chg (fun i => i = g) w w'
theorem sec_math {s : St} {k k' : Nat} {id : Int} {y : List Int} (h1 : ∀ a l', bd s (pId k) = .ok (a, l') → a = (id, k')) (h2 : ∀ a l', bd (nx (pId k) s) pSized = .ok (a, l') → y = a) :
    nx (pSec k) s = (if id = 0 ∧ nameOk y = false then failS 2 (nx pSized (nx (pId k) s)) else nx pSized (nx (pId k) s)) ∧ (∀ r l', bd s (pSec k) = .ok (r, l') → r = ((id, y), k')) := by
  cases s with
  | error e => exact ⟨by simp [failS], fun r l' h => by cases h⟩
  | ok l =>
    simp only [nx_ok, bd_ok] at h1 h2 ⊢
    unfold pSec seq
    cases hp : pId k l with
    | error e => exact ⟨by simp [failS], fun r l' h => by simp at h⟩
    | ok a =>
      have e1 := h1 a.1 a.2 (by rw [hp])
      rw [hp] at h2
      simp only [bd_ok, e1] at h2 ⊢
      cases hq : pSized a.2 with
      | error e => exact ⟨by simp [nx_ok, hq, failS], fun r l' h => by simp at h⟩
      | ok b =>
        have e2 := h2 b.1 b.2 (by rw [hq])
        rw [nx_ok, hq]
        simp only [bd_ok, ← e2]
        by_cases hc : id = 0 ∧ nameOk y = false
        · simp [hc, failS]
        · simp only [hc, if_false, bd_ok]
          exact ⟨by trivial, fun r l' h => by injection h with h; injection h with h; exact h.symm⟩

set_option maxHeartbeats 4000000 in
theorem ssec_any (g tot k : Nat) (s : St) (w : World) (hk : k ≤ 12) (h : SrcAt w g tot k s) (hT : Tabs w) (hg : 1 < g) :
    Calls Tryd.prog 17 #[.pointer (some ⟨g, 0, none⟩)] w (SecPost k g tot s w) := by
  have hgl := RdrAt.lt h
  have HH := Lib.hid (And.intro h hT)
  have hb0 : Below w.heap.size w (w.alloc (.cells #[.int .u8 0, .slice none 0 0] 33)) := (Below.refl _ _).alloc (Nat.le_refl _) _
  have HO := Lib.hid (Own.new w 33 [.int .u8 0, .slice none 0 0])
  have HI := Lib.hid (sid_any g tot k s _ hk (RdrAt.later h hb0))
  have HB0 := Lib.hid hb0
  have HSZ : Hid (w.heap.size < (w.alloc (.cells #[.int .u8 0, .slice none 0 0] 33)).heap.size) := by unfold Hid; simp
  clear h hT hb0
  go_enter Tryd.func17, Tryd.ntmps17
  go_upto_region 1 with fail
  simp only [List.toArray] at HO
  generalize hw0 : w.alloc (.cells #[.int .u8 0, .slice none 0 0] 33) = w0 at *
  clear hw0
  obtain ⟨gx, hgx⟩ : ∃ gx, w.heap.size = gx := ⟨_, rfl⟩
  rw [hgx] at HO HSZ hgl ⊢
  have HGX := Lib.hid hgx
  clear hgx
  have hf00 := HO.out.frozen 0
  have hf01 := HO.out.frozen 1
  go_wp2_with fail
  refine HI.out.mono ?_
  rintro e w1 ⟨id, k', rfl, i0, i1, i2, i3, i4, i5⟩
  have HO1 := Lib.hid (HO.out.chg i5 (by omega))
  have hf10 := HO1.out.frozen 0
  have hc10 : w1.cell? ⟨gx, 0, none⟩ = some (.int .u8 0) := HO1.out.cell 0
  have hf11 := HO1.out.frozen 1
  have HO2 := Lib.hid (HO1.out.set 0 (.int .u8 id))
  have HG2 : Hid (SrcAt (w1.setCell ⟨gx, 0, none⟩ (.int .u8 id)) g tot k' (nx (pId k) s)) := RdrAt.chg i3 (Chg.setCell _ _ _) fun i hi e => by simp at e; omega
  have HI5 := Lib.hid (And.intro i4 ((i5.mono (S' := fun i => i = g ∨ i = gx) fun i _ e => .inl e).trans (Chg.setCell w1 ⟨gx, 0, none⟩ (.int .u8 id)) fun i _ e => .inr e))
  clear i3 i4 i5 HI hf00 hf01
  go_upto_region 2 with fail
  generalize hw2 : w1.setCell ⟨gx, 0, none⟩ (.int .u8 id) = w2 at *
  clear hw2
  have HS := Lib.hid (rsized_any g _ _ _ _ HG2.out)
  go_wp2_with fail
  refine HS.out.mono ?_
  rintro e w3 ⟨v, y, rfl, p1, p2, p3, p4, p5, p6⟩
  have hsz2 : gx < w2.heap.size := Nat.lt_of_lt_of_le HSZ.out HI5.out.2.size
  have HO3 := Lib.hid (HO2.out.chg p5 (by omega))
  simp only [List.set] at HO3
  have hf30 := HO3.out.frozen 0
  have hc31 : w3.cell? ⟨gx, 1, none⟩ = some (.slice none 0 0) := HO3.out.cell 1
  have hf31 := HO3.out.frozen 1
  have hblk : ∀ i, v.ownBlock = some i → gx < i := fun i hi => by have := owns_ge p1 hi; omega
  have HO4 := Lib.hid (HO3.out.set 1 v)
  have hch4 : Chg (fun i => i = gx) w3 (w3.setCell ⟨gx, 1, none⟩ v) := chgSet _ _ _ _
  have HG4 : Hid (SrcAt (w3.setCell ⟨gx, 1, none⟩ v) g tot k' (nx pSized (nx (pId k) s))) := RdrAt.chg p3 hch4 fun i hi e => by omega
  have HV4 : Hid (OwnB (w3.setCell ⟨gx, 1, none⟩ v) w2.heap.size v y) := OwnB.chg p1 hch4 fun i hi e => by have := hblk i hi; omega
  have HC4 : Hid (Chg (fun i => i = g ∨ i = gx) w0 (w3.setCell ⟨gx, 1, none⟩ v)) := (HI5.out.2.trans p5 fun i _ e => .inl e).trans hch4 fun i _ e => .inr e
  have HM := Lib.hid (sec_math HI5.out.1 p4)
  have HB := Lib.hid hblk
  have HY := Lib.hid (And.intro p2 p6)
  obtain ⟨A1, c1, rfl, q1, q2, -⟩ := p1.rdX p2
  have HQ := Lib.hid (And.intro q1 q2)
  clear p1 p2 p3 p4 p5 p6 q1 q2 hblk hch4 HS hf10 hf11
  go_upto_region 3 with fail
  generalize hw4 : w3.setCell ⟨gx, 1, none⟩ (.slice A1 y.length c1) = w4 at *
  clear hw4
  simp only [List.set] at HO4
  have hc40 : w4.cell? ⟨gx, 0, none⟩ = some (.int .u8 id) := HO4.out.cell 0
  have hc41 : w4.cell? ⟨gx, 1, none⟩ = some (.slice A1 y.length c1) := HO4.out.cell 1
  have hf40 := HO4.out.frozen 0
  have hf41 := HO4.out.frozen 1
  have fin : ∀ (w5 : World) (st : St), Own w5 gx 33 [.int .u8 id, .slice A1 y.length c1] → SrcAt w5 g tot k' st → Chg (fun i => i = g ∨ i = gx) w4 w5 → nx (pSec k) s = st →
      SecPost k g tot s w (.returned (.agg #[.int .u8 id, .slice A1 y.length c1])) w5 := fun w5 st o1 o2 o3 o4 => by
    refine ⟨id, y, _, k', rfl, i0, i1, i2, ?_, HY.out.1, HY.out.2, by rw [o4]; exact o2, HM.out.2, ?_⟩
    · exact owns_base (OwnB.chg HV4.out o3 fun i hi e => by have := HB.out i hi; omega) (by have := HGX.out; omega)
    · exact ((Chg.of_below (S := fun i => i = g ∨ i = gx) HB0.out).trans (HC4.out.trans o3 fun i _ e => e) fun i _ e => e).mono fun i hi e => by have := HGX.out; omega
  by_cases hid : id = 0
  · subst hid
    have hrd4 : RdX (· < w4.heap.size) w4 A1 y := by
      obtain ⟨A2, c2, e2, -, -, q3⟩ := HV4.out.rdX HY.out.1
      injection e2 with e3 _ _
      subst e3
      exact q3.rd.rx
    have hT4 : Tabs w4 := (HH.out.2.later HB0.out).chg HC4.out fun i hi e => by have := HGX.out; omega
    have HBG := Lib.hid (sbegins_any A1 y y.length c1 w4 hrd4 rfl HY.out.2 HQ.out.1 HQ.out.2 hT4)
    clear hrd4 hT4
    generalize hyl : y.length = yl at *
    clear hyl
    go_wp2_with fail
    refine HBG.out.mono ?_
    rintro e w5 ⟨rfl, hb5⟩
    have HO5 := Lib.hid (HO4.out.later hb5)
    have HG5 := Lib.hid (RdrAt.later HG4.out hb5)
    have HC5 : Hid (Chg (fun i => i = g ∨ i = gx) w4 w5) := Chg.of_below hb5
    have hc50 : w5.cell? ⟨gx, 0, none⟩ = some (.int .u8 0) := HO5.out.cell 0
    have hc51 : w5.cell? ⟨gx, 1, none⟩ = some (.slice A1 yl c1) := HO5.out.cell 1
    have hf50 := HO5.out.frozen 0
    have hf51 := HO5.out.frozen 1
    clear hb5 hc40 hc41 hf40 hf41
    cases hn : nameOk y with
    | true =>
      have HN := Lib.hid hn
      clear hn
      go_wp2
      have O6 := (HO5.out.set 0 (.int .u8 0)).set 1 (.slice A1 yl c1)
      simp only [List.set] at O6
      have K6 : Chg (fun i => i = gx) w5 ((w5.setCell ⟨gx, 0, none⟩ (.int .u8 0)).setCell ⟨gx, 1, none⟩ (.slice A1 yl c1)) := (chgSet _ _ _ _).trans (chgSet _ _ _ _) fun i _ e => e
      have G6 : SrcAt ((w5.setCell ⟨gx, 0, none⟩ (.int .u8 0)).setCell ⟨gx, 1, none⟩ (.slice A1 yl c1)) g tot k' _ := RdrAt.chg HG5.out K6 fun i hi e => by omega
      have C6 := HC5.out.trans K6 fun i _ e => .inr e
      generalize (w5.setCell ⟨gx, 0, none⟩ (.int .u8 0)).setCell ⟨gx, 1, none⟩ (.slice A1 yl c1) = w6 at *
      have d0 : w6.cell? ⟨gx, 0, none⟩ = some (.int .u8 0) := O6.cell 0
      have d1 : w6.cell? ⟨gx, 1, none⟩ = some (.slice A1 yl c1) := O6.cell 1
      refine bodyPost_ret (by simp [results, Tryd.results17, go_sem, d0, d1]; try rfl) rfl ?_
      refine fin w6 _ O6 G6 C6 ?_
      rw [HM.out.1, HN.out]; simp
    | false =>
      have HN := Lib.hid hn
      clear hn
      have HF := Lib.hid (rfail_any g _ _ _ 2 w5 HG5.out (by omega) (by omega))
      go_wp2_with fail
      refine HF.out.mono ?_
      rintro e w7 ⟨⟨u, rfl⟩, q2, q3⟩
      have HO7 := Lib.hid (HO5.out.chg q3 (by omega))
      have HG7 := Lib.hid q2
      have HC7 := Lib.hid (HC5.out.trans q3 fun i _ e => .inl e)
      have hc70 : w7.cell? ⟨gx, 0, none⟩ = some (.int .u8 0) := HO7.out.cell 0
      have hc71 : w7.cell? ⟨gx, 1, none⟩ = some (.slice A1 yl c1) := HO7.out.cell 1
      have hf70 := HO7.out.frozen 0
      have hf71 := HO7.out.frozen 1
      clear q2 q3 hc50 hc51 hf50 hf51
      go_wp2
      have O6 := (HO7.out.set 0 (.int .u8 0)).set 1 (.slice A1 yl c1)
      simp only [List.set] at O6
      have K6 : Chg (fun i => i = gx) w7 ((w7.setCell ⟨gx, 0, none⟩ (.int .u8 0)).setCell ⟨gx, 1, none⟩ (.slice A1 yl c1)) := (chgSet _ _ _ _).trans (chgSet _ _ _ _) fun i _ e => e
      have G6 : SrcAt ((w7.setCell ⟨gx, 0, none⟩ (.int .u8 0)).setCell ⟨gx, 1, none⟩ (.slice A1 yl c1)) g tot k' _ := RdrAt.chg HG7.out K6 fun i hi e => by omega
      have C6 := HC7.out.trans K6 fun i _ e => .inr e
      generalize (w7.setCell ⟨gx, 0, none⟩ (.int .u8 0)).setCell ⟨gx, 1, none⟩ (.slice A1 yl c1) = w6 at *
      have d0 : w6.cell? ⟨gx, 0, none⟩ = some (.int .u8 0) := O6.cell 0
      have d1 : w6.cell? ⟨gx, 1, none⟩ = some (.slice A1 yl c1) := O6.cell 1
      refine bodyPost_ret (by simp [results, Tryd.results17, go_sem, d0, d1]; try rfl) rfl ?_
      refine fin w6 _ O6 G6 C6 ?_
      rw [HM.out.1, HN.out]; simp
  · have hid0 : (id == 0) = false := by simpa using hid
    have HO5 := HO4
    have HG5 := HG4
    have HC5 : Hid (Chg (fun i => i = g ∨ i = gx) w4 w4) := Chg.refl _ _
    generalize hyl : y.length = yl at *
    clear hyl
    go_wp2
    have O6 := (HO5.out.set 0 (.int .u8 id)).set 1 (.slice A1 yl c1)
    simp only [List.set] at O6
    have K6 : Chg (fun i => i = gx) w4 ((w4.setCell ⟨gx, 0, none⟩ (.int .u8 id)).setCell ⟨gx, 1, none⟩ (.slice A1 yl c1)) := (chgSet _ _ _ _).trans (chgSet _ _ _ _) fun i _ e => e
    have G6 : SrcAt ((w4.setCell ⟨gx, 0, none⟩ (.int .u8 id)).setCell ⟨gx, 1, none⟩ (.slice A1 yl c1)) g tot k' _ := RdrAt.chg HG5.out K6 fun i hi e => by omega
    have C6 := HC5.out.trans K6 fun i _ e => .inr e
    generalize (w4.setCell ⟨gx, 0, none⟩ (.int .u8 id)).setCell ⟨gx, 1, none⟩ (.slice A1 yl c1) = w6 at *
    have d0 : w6.cell? ⟨gx, 0, none⟩ = some (.int .u8 id) := O6.cell 0
    have d1 : w6.cell? ⟨gx, 1, none⟩ = some (.slice A1 yl c1) := O6.cell 1
    refine bodyPost_ret (by simp [results, Tryd.results17, go_sem, d0, d1]; try rfl) rfl ?_
    refine fin w6 _ O6 G6 C6 ?_
    rw [HM.out.1]; simp [hid]
end Go.Proofs.YtgbjlcedabkdkaaDoor
