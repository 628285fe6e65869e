/- The document's Parts: what its Add comes to. -/
import Derived.Test.YtcblpnojilfidaaFrameCut
import Derived.Test.YtcblpnojilfidaaCuts
namespace Go.Proofs.Ytcblpnojilfidaa
open Go.RowKit
set_option linter.unusedVariables false

def RefAt (w : World) (g : Nat) (v : Value) (l : List Int) (bad : Bool) : Prop := Own w g 29 [v, .bool bad] ∧ OwnB w 0 v l ∧ IsBytes l
theorem RefAt.chg {S : Nat → Prop} {w w' : World} {g : Nat} {v : Value} {l : List Int} {bad : Bool} (h : RefAt w g v l bad) (hc : Chg S w w') (hg : ¬ S g) (hv : ∀ k, v.ownBlock = some k → ¬ S k) : RefAt w' g v l bad :=
  ⟨h.1.chg hc hg, h.2.1.chg hc hv, h.2.2⟩
theorem RefAt.later {w w' : World} {g : Nat} {v : Value} {l : List Int} {bad : Bool} (h : RefAt w g v l bad) (hc : Below w.heap.size w w') : RefAt w' g v l bad := h.chg (S := fun _ => False) (Chg.of_below hc) id fun _ _ => id
theorem ref_cells {w : World} {g : Nat} {v : Value} {b : Bool} (h : Own w g 29 [v, .bool b]) : w.cell? ⟨g, 0, none⟩ = some v ∧ w.cell? ⟨g, 1, none⟩ = some (.bool b) ∧ w.frozen? ⟨g, 0, none⟩ = false ∧ w.frozen? ⟨g, 1, none⟩ = false :=
  ⟨h.cell 0, h.cell 1, h.frozen 0, h.frozen 1⟩

def lenOf : Option Value → Nat
  | some (.slice _ n _) => n
  | _ => 0

def RefAddPost (l : List Int) (g : Nat) (w : World) (e : Ending) (w' : World) : Prop :=
  ∃ f v', e = .returned (.tuple #[f, .int .i64 (if (fr l).2.2 then 4 else 0)]) ∧ OwnL (fun k => w.heap.size ≤ k) w' f (fr l).1 ∧ RefAt w' g v' (fr l).2.1 (fr l).2.2 ∧ Chg (fun k => k = g) w w' ∧ ∀ k, v'.ownBlock = some k → w.heap.size ≤ k

theorem refAdd_bad (g : Nat) (v : Value) (l : List Int) (A : Option Addr) (m c : Nat) (w : World) (hp : RefAt w g v l true) :
    Calls Try.prog 10 #[.pointer (some ⟨g, 0, none⟩), .slice A m c] w fun e w' => e = .returned (.tuple #[.slice none 0 0, .int .i64 4]) ∧ w = w' := by
  obtain ⟨hc0, hc1, hf0, hf1⟩ := ref_cells hp.1
  clear hp
  go_enter Try.func10, Try.ntmps10
  go_wp2
  go_ret2
  exact ⟨rfl, rfl⟩

set_option maxHeartbeats 2000000 in
theorem refAdd_any (g : Nat) (v : Value) (l news : List Int) (A : Option Addr) (m c : Nat) (w : World) (hp : RefAt w g v l false) (hr : Rd w w.heap.size A news) (hm : m = news.length) (hlen : l.length + m ≤ 1000000) :
    Calls Try.prog 10 #[.pointer (some ⟨g, 0, none⟩), .slice A m c] w (RefAddPost (l ++ news) g w) := by
  obtain ⟨hc0, hc1, hf0, hf1⟩ := ref_cells hp.1
  have hg := hp.1.lt
  have HR := Lib.hid hr
  have HM := Lib.hid hm
  have HP := Lib.hid hp
  obtain ⟨A0, n0, rfl, hn0, hm0, hx0⟩ := hp.2.1.rdX hp.2.2
  have HX0 := Lib.hid hx0.rd
  clear hr hm hp hx0
  have hIB : IsBytes (l ++ news) := IsBytes.app HP.out.2.2 HR.out.1
  have hLN : (l ++ news).length ≤ 1000000 := by simp; rw [← HM.out]; exact hlen
  generalize hL : l ++ news = L at *
  have HL := Lib.hid hL
  have HIB := Lib.hid hIB
  clear hIB hL
  have hb0 : Below w.heap.size w (w.alloc (.cells #[] 5)) := (Below.refl _ _).alloc (Nat.le_refl _) _
  go_enter Try.func10, Try.ntmps10
  go_wp2_with (first
    | (at_builtin; refine wpList_app rfl (.tmp 13) (.tmp 17) rfl w.heap.size _ [] rfl (ownB_lit0 w) A0 l.length n0 l rfl rfl (HX0.out.later hb0) (by simp; omega) (by simp) ?_; intro v1 w1 hv1 hw1; rw [List.nil_append] at hv1; have HV := Lib.hid (And.intro hv1 (hb0.trans hw1)); clear hv1 hw1)
    | (at_builtin; refine wpList_app rfl (.tmp 18) (.tmp 19) rfl w.heap.size v1 l rfl HV.out.1 A m c news rfl HM.out (HR.out.later HV.out.2) (by omega) HV.out.2.size ?_; intro v2 w2 hv2 hw2; rw [HL.out] at hv2; have hbb := HV.out.2.trans hw2; obtain ⟨hd0, hd1, he0, he1⟩ := ref_cells (HP.out.1.later hbb); obtain ⟨A2, c2, rfl, hn2, hm2, hr2⟩ := hv2.rdX HIB.out; have HW := Lib.hid (And.intro hv2 hbb); clear hv2 hw2 hbb hc0 hc1 hf0 hf1 HV))
  have hO3 : Own (w2.setCell ⟨g, 0, none⟩ (.slice A2 L.length c2)) g 29 [.slice A2 L.length c2, .bool false] := (HP.out.1.later HW.out.2).set 0 _
  have hB3 : OwnB (w2.setCell ⟨g, 0, none⟩ (.slice A2 L.length c2)) w.heap.size (.slice A2 L.length c2) L := OwnB.chg HW.out.1 (Chg.setCell _ _ _) fun k hk e => by have := owns_ge HW.out.1 hk; simp at e; omega
  have hC3 : Chg (fun k => k = g) w (w2.setCell ⟨g, 0, none⟩ (.slice A2 L.length c2)) := (Chg.of_below HW.out.2).trans (Chg.setCell _ _ _) fun k _ e => e
  have HS := Lib.hid (And.intro hO3 (And.intro hB3 hC3))
  clear hO3 hB3 hC3 hd0 hd1 he0 he1 hr2 hb0 HX0
  go_loopw [6] (fun f wr => ∃ (fs : List (List Int)) (v' : Value) (r : List Int), Hid (OwnL (fun k => w.heap.size ≤ k) wr f fs ∧ Own wr g 29 [v', .bool false] ∧ OwnB wr w.heap.size v' r ∧ IsBytes r ∧ Chg (fun k => k = g) w wr ∧ fr L = (fs ++ (fr r).1, (fr r).2) ∧ fs.length + r.length ≤ L.length)) (fun f wr => lenOf (wr.cell? ⟨g, 0, none⟩))
  case atStart => exact ⟨[], _, L, OwnL.nil _ _, HS.out.1, HS.out.2.1, HIB.out, HS.out.2.2, by simp, by simp⟩
  case round =>
    obtain ⟨fs, v', r, HX⟩ := hrel
    clear HS hn2 hm2 HW
    obtain ⟨hd0, hd1, he0, he1⟩ := ref_cells HX.out.2.1
    obtain ⟨A3, c3, rfl, hn3, hm3, hr3⟩ := HX.out.2.2.1.rdX HX.out.2.2.2.1
    have hrl : fs.length + r.length ≤ 1000000 := by have := HX.out.2.2.2.2.2.2; omega
    unfold maxLen at hm3
    generalize hq : r.length = q at *
    have HQ := Lib.hid hq
    clear hq
    by_cases h2 : q < 2
    · have HF : Hid (fr L = (fs, r, false)) := by
        have e := HX.out.2.2.2.2.2.1
        rw [fr_short (l := r) (by rw [HQ.out]; exact h2), List.append_nil] at e
        exact e
      have h2' : ¬ (2 : Int) ≤ (q : Int) := by omega
      clear hr3
      go_wp2
      go_ret2
      refine ⟨u6, .slice A3 q c3, ?_, ?_, ?_, HX.out.2.2.2.2.1, fun k hk => owns_ge HX.out.2.2.1 hk⟩
      · rw [HF.out]; rfl
      · rw [HF.out]; exact HX.out.1
      · rw [HF.out]; exact ⟨HX.out.2.1, HX.out.2.2.1.base (Nat.zero_le _), HX.out.2.2.2.1⟩
    · have h2' : (2 : Int) ≤ (q : Int) := by omega
      have hrd := hr3.rd
      obtain ⟨b, o, rfl, hb, hcell⟩ := hrd.spot (j := 0) (by rw [HQ.out]; omega)
      have hc0 := hcell 0 (by rw [HQ.out]; omega)
      have hc1 := hcell 1 (by rw [HQ.out]; omega)
      rw [Nat.add_zero] at hc0
      have hq0 : 0 < q := by omega
      have hq1 : 1 < q := by omega
      obtain ⟨x0, x1⟩ := hrd.byte (k := 0) (by rw [HQ.out]; omega)
      obtain ⟨y0, y1⟩ := hrd.byte (k := 1) (by rw [HQ.out]; omega)
      have HZ : Hid (szOf r = (r.getD 0 0 * 256 + r.getD 1 0).toNat) := rfl
      generalize r.getD 0 0 = x at *
      generalize r.getD 1 0 = y at *
      have HRd := Lib.hid hr3
      clear hcell hr3 hrd
      have hsz : (szOf r : Int) = x * 256 + y := by rw [HZ.out]; omega
      generalize hsn : szOf r = sz at *
      have HSN := Lib.hid hsn
      have HZ2 := Lib.hid hsz
      clear hsn HZ
      go_wp2
      go_quiet (fail)
      rw [← hsz]
      clear hsz
      have hszb : sz ≤ 65535 := by have := HZ2.out; omega
      by_cases hlong : 5000 < sz
      · have HF : Hid (fr L = (fs, [], true)) := by
          have e := HX.out.2.2.2.2.2.1
          rw [fr_long (l := r) (by rw [HQ.out]; omega) (by rw [HSN.out]; exact hlong), List.append_nil] at e
          exact e
        have hlong' : (5000 : Int) < sz := by omega
        clear HZ2 x0 x1 y0 y1 hc0 hc1
        go_wp2
        go_ret2
        refine ⟨u6, .slice none 0 0, by rw [HF.out]; rfl, ?_, ?_, ?_, fun k hk => by simp [Value.ownBlock] at hk⟩
        · rw [HF.out]
          refine (OwnL.chg (OwnL.chg (w := wr.drewN nq) HX.out.1 (Chg.setCell _ _ _) fun k _ hk e => ?_) (Chg.setCell _ _ _) fun k _ hk e => ?_)
          · simp at e; omega
          · simp at e; omega
        · rw [HF.out]
          exact ⟨(Own.set (w := wr.drewN nq) HX.out.2.1 0 _).set 1 _, OwnB.nil _ _, IsBytes.nil⟩
        · exact ((HX.out.2.2.2.2.1.drewN nq).trans (Chg.setCell _ _ _) fun k _ e => e).trans (Chg.setCell _ _ _) fun k _ e => e
      · have hlong' : ¬ (5000 : Int) < sz := by omega
        by_cases hw : q < sz + 2
        · have HF : Hid (fr L = (fs, r, false)) := by
            have e := HX.out.2.2.2.2.2.1
            rw [fr_wait (l := r) (by rw [HQ.out]; omega) (by rw [HSN.out]; exact hlong) (by rw [HSN.out, HQ.out]; exact hw), List.append_nil] at e
            exact e
          have hw' : (q : Int) - 2 < sz := by omega
          clear HZ2 x0 x1 y0 y1 hc0 hc1
          go_wp2
          go_ret2
          refine ⟨u6, .slice (some ⟨b, o, none⟩) q c3, ?_, ?_, ?_, HX.out.2.2.2.2.1.drewN nq, fun k hk => owns_ge HX.out.2.2.1 hk⟩
          · rw [HF.out]; rfl
          · rw [HF.out]; exact HX.out.1
          · rw [HF.out]; exact ⟨HX.out.2.1, HX.out.2.2.1.base (Nat.zero_le _), HX.out.2.2.2.1⟩
        · have hw' : ¬ (q : Int) - 2 < sz := by omega
          clear HZ2 x0 x1 y0 y1 hc0 hc1
          have HF : Hid (fr L = (fs ++ ((r.drop 2).take sz :: (fr (r.drop (2 + sz))).1), (fr (r.drop (2 + sz))).2)) := by
            have e := HX.out.2.2.2.2.2.1
            rw [fr_one (l := r) (by rw [HQ.out]; omega) (by rw [HSN.out]; exact hlong) (by rw [HSN.out, HQ.out]; exact hw), HSN.out, Nat.add_comm sz 2] at e
            exact e
          -- the world behind the draws, under a name of its own
          have HY : Hid (OwnL (fun k => w.heap.size ≤ k) (wr.drewN nq) u6 fs ∧ Own (wr.drewN nq) g 29 [.slice (some ⟨b, o, none⟩) q c3, .bool false] ∧ RdX (fun k => u6.ownBlock ≠ some k) (wr.drewN nq) (some ⟨b, o, none⟩) r ∧ Chg (fun k => k = g) w (wr.drewN nq)) :=
            ⟨HX.out.1, HX.out.2.1, (HRd.out.drewN nq).mono (fun k _ hk => HX.out.1.neB HX.out.2.2.1 hk), HX.out.2.2.2.2.1.drewN nq⟩
          have hlen' : fs.length ≤ 1000000 := by omega
          have hmm : lenOf (wr.cell? ⟨g, 0, none⟩) = q := by rw [hd0]; rfl
          have HMM := Lib.hid hmm
          have HLN : Hid (fs.length + q ≤ L.length ∧ IsBytes r) := ⟨HX.out.2.2.2.2.2.2, HX.out.2.2.2.1⟩
          clear HX HRd hd0 hd1 he0 he1 hmm
          generalize wr.drewN nq = W at *
          obtain ⟨hd0, hd1, he0, he1⟩ := ref_cells HY.out.2.1
          have hgW : g < W.heap.size := HY.out.2.1.lt
          have hwW := HY.out.2.2.2.size
          obtain ⟨P1, p1, hp1, hpe1, hq1'⟩ := cutB_lh (some ⟨b, o, none⟩) q c3 2 (2 + (sz : Int)) 2 (2 + sz) sz rfl (by omega) (by omega) (by omega) (by omega)
          obtain ⟨P2, p2, hp2, hpe2, hq2'⟩ := cutB_l (some ⟨b, o, none⟩) q c3 (2 + (sz : Int)) (2 + sz) (q - (2 + sz)) (by omega) rfl (by omega) (by omega)
          have HA1 : Hid (RdX (fun k => u6.ownBlock ≠ some k) W P1 ((r.drop 2).take sz) ∧ (sz = ((r.drop 2).take sz).length)) := by
            have h1 := hq1' _ W r (by rw [HQ.out]; exact hn3) HY.out.2.2.1
            exact ⟨h1, by rw [List.length_take, List.length_drop, HQ.out]; omega⟩
          have HA2 : Hid (RdX (fun k => u6.ownBlock ≠ some k) W P2 (r.drop (2 + sz)) ∧ q - (2 + sz) = (r.drop (2 + sz)).length) :=
            ⟨hq2' _ W r (by rw [HQ.out]; exact hn3) HY.out.2.2.1, by rw [List.length_drop, HQ.out]⟩
          generalize (r.drop 2).take sz = fl at *
          generalize r.drop (2 + sz) = rl at *
          clear hq1' hq2' hpe1 hpe2
          have hb0 : Below W.heap.size W (W.alloc (.cells #[] 5)) := (Below.refl _ _).alloc (Nat.le_refl _) _
          go_wp2_with (first
            | (at_builtin; refine wpList_app rfl (.tmp 63) (.tmp 70) rfl W.heap.size _ [] rfl (ownB_lit0 W) P1 sz p1 fl rfl HA1.out.2 (HA1.out.1.rd.later hb0) (by simp; omega) (by simp) ?_; intro v4 w4 hv4 hw4; rw [List.nil_append] at hv4; have hbb := hb0.trans hw4; obtain ⟨A4, c4, rfl, _, _, _⟩ := hv4.rdX HA1.out.1.1; have HV := Lib.hid (And.intro hv4 hbb); clear hv4 hw4 hbb)
            | (at_builtin; refine wpList_appL1 (X := fun x => w.heap.size ≤ x) rfl (.tmp 62) (.tmp 72) rfl u6 fs rfl (HY.out.1.later HV.out.2) _ fl (HV.out.1.base (Nat.zero_le _)) HA1.out.1.1 (fun g' hg' => Nat.le_trans hwW (owns_ge HV.out.1 hg')) (fun x hx => Nat.le_trans hwW (Nat.le_trans HV.out.2.size hx)) rfl (by omega) ?_; intro v5 w5 hv5 hw5; obtain ⟨hx0, hx1, hy0, hy1⟩ := ref_cells ((HY.out.2.1.later HV.out.2).chg hw5 fun e => (HY.out.1.ne HY.out.2.1 (by decide)) e.symm); have hsW : W.heap.size ≤ w5.heap.size := Nat.le_trans HV.out.2.size hw5.size; have hg5 : g < w5.heap.size := Nat.lt_of_lt_of_le hgW hsW; have H5 := Lib.hid (And.intro hv5 (And.intro hw5 ((HA2.out.1.later HV.out.2).chg hw5 fun k _ hk e => hk e.symm))); clear hv5 hw5 hd0 hd1 he0 he1)
            | (at_builtin; refine wpList_app rfl (.tmp 75) (.tmp 82) rfl w5.heap.size _ [] rfl (ownB_lit0 w5) P2 (q - (2 + sz)) p2 rl rfl HA2.out.2 (H5.out.2.2.rd.later ((Below.refl _ _).alloc (Nat.le_refl _) _)) (by simp; omega) (by simp) ?_; intro v6 w6 hv6 hw6; rw [List.nil_append] at hv6; have hbb := ((Below.refl w5.heap.size w5).alloc (Nat.le_refl _) (.cells #[] 5)).trans hw6; obtain ⟨hz0, hz1, hi0, hi1⟩ := ref_cells (((HY.out.2.1.later HV.out.2).chg H5.out.2.1 fun e => (HY.out.1.ne HY.out.2.1 (by decide)) e.symm).later hbb); obtain ⟨A6, c6, rfl, _, _, _⟩ := hv6.rdX HA2.out.1.1; have H6 := Lib.hid (And.intro hv6 hbb); clear hv6 hw6 hbb hx0 hx1 hy0 hy1))
          have hO6 := ((((HY.out.2.1.later HV.out.2).chg H5.out.2.1 fun e => (HY.out.1.ne HY.out.2.1 (by decide)) e.symm).later H6.out.2).set 0 (.slice A6 rl.length c6))
          have hX : ∀ i, some i = u6.ownBlock → w.heap.size ≤ i := fun i e => by obtain ⟨vs, _, h2, _⟩ := HY.out.1; exact h2 i e.symm
          refine ⟨⟨fs ++ [fl], .slice A6 rl.length c6, rl, (H5.out.1.later H6.out.2).chg (Chg.setCell _ _ _) (fun k _ hk e => ?_), hO6, OwnB.chg (H6.out.1.base (Nat.le_trans hwW hsW)) (Chg.setCell _ _ _) (fun k hk e => ?_), HA2.out.1.1, ?_, by rw [HF.out]; simp, ?_⟩, ?_⟩
          · simp at e; omega
          · have := owns_ge H6.out.1 hk; simp at e; omega
          · exact (((HY.out.2.2.2.trans (Chg.of_below (S := fun _ => False) HV.out.2) fun _ _ e => e.elim).trans H5.out.2.1 fun i hi e => by have := hX i e; omega).trans (Chg.of_below (S := fun _ => False) H6.out.2) fun _ _ e => e.elim).trans (Chg.setCell _ _ _) fun _ _ e => e
          · have := HLN.out.1; rw [← HA2.out.2]; simp; omega
          · rw [hO6.cell 0, HMM.out, ← HA2.out.2]
            simp [lenOf]; omega
end Go.Proofs.Ytcblpnojilfidaa
