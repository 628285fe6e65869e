/- types.PutFunc and types.PutLimits: which bytes types have. -/
import Derived.Test.YtnjbijndfbobbaaTypesPut
namespace Go.Proofs.Ytnjbijndfbobbaa
open Go.RowKit
set_option maxRecDepth 100000
set_option linter.unusedVariables false

set_option maxHeartbeats 16000000 in
theorem put_fn {X : Nat → Prop} (A0 : Option Addr) (bs : List Int) (n0 c0 : Nat) (v : Value) (f : Fn) (w : World) (h0 : Rd w w.heap.size A0 bs) (hn0 : n0 = bs.length) (hc0 : n0 ≤ c0) (hcm : c0 ≤ maxLen) (hl0 : n0 ≤ 1000000) (hf : FnV X w v f) (hl1 : f.1.length ≤ 1000000) (hl2 : f.2.length ≤ 1000000) :
    Calls Try.prog 38 #[.slice A0 n0 c0, v] w (WPost (bs ++ putFn f) w) := by
  obtain ⟨A1, c1, A2, c2, rfl, hr1, hq1, hm1, hr2, hq2, hm2⟩ := hf
  have S0 : Hid (SlV w (.slice A0 n0 c0) bs) := ⟨A0, c0, by rw [hn0], by omega, hcm, h0.rx.mono fun _ _ _ => trivial⟩
  have S3 : Hid (SlV w (.slice A1 f.1.length c1) f.1) := ⟨A1, c1, rfl, hq1, hm1, hr1.mono fun _ _ _ => trivial⟩
  have S5 : Hid (SlV w (.slice A2 f.2.length c2) f.2) := ⟨A2, c2, rfl, hq2, hm2, hr2.mono fun _ _ _ => trivial⟩
  have hk1 : f.1.length ≤ maxLen := by omega
  have hk2 : f.2.length ≤ maxLen := by omega
  have I1 := Lib.hid (encU_is f.1.length (by omega) (by omega))
  have I2 := Lib.hid (encU_is f.2.length (by omega) (by omega))
  have C1 := Lib.hid (fun W => count_any A1 f.1.length c1 W hk1)
  have C2 := Lib.hid (fun W => count_any A2 f.2.length c2 W hk2)
  have HLN : Hid ((bs ++ ([96] ++ (encU f.1.length ++ (f.1 ++ (encU f.2.length ++ f.2))))).length ≤ 100000000) := by
    have h1 := (encU_len f.1.length).2
    have h2 := (encU_len f.2.length).2
    unfold Hid
    simp only [List.length_append, List.length_cons, List.length_nil]
    omega
  have EQ : Hid (bs ++ ([96] ++ (encU f.1.length ++ (f.1 ++ (encU f.2.length ++ f.2)))) = bs ++ putFn f) := by
    unfold Hid putFn
    simp only [List.cons_append, List.nil_append]
  have KS0 : Hid (∀ W : World, Below (w.alloc (.cells #[.slice A1 f.1.length c1, .slice A2 f.2.length c2] 52)).heap.size (w.alloc (.cells #[.slice A1 f.1.length c1, .slice A2 f.2.length c2] 52)) W → W.cell? ⟨w.heap.size, 0, none⟩ = some (.slice A1 f.1.length c1) ∧ W.cell? ⟨w.heap.size, 1, none⟩ = some (.slice A2 f.2.length c2)) := fun W hW => by
    have ho := (Own.new w 52 [.slice A1 f.1.length c1, .slice A2 f.2.length c2]).later hW
    exact ⟨ho.cell 0, ho.cell 1⟩
  have hb1 : Below w.heap.size w (w.alloc (.cells #[.slice A1 f.1.length c1, .slice A2 f.2.length c2] 52)) := (Below.refl _ _).alloc (Nat.le_refl _) _
  have HB1 := Lib.hid hb1
  clear hr1 hr2 hq1 hm1 hq2 hm2 h0 hn0 hk1 hk2 hb1
  generalize hg1 : f.1.length = l1 at *
  generalize hg2 : f.2.length = l2 at *
  have HG := Lib.hid (And.intro hg1 hg2)
  clear hg1 hg2
  go_enter Try.func38, Try.ntmps38
  go_wp2_with fail
  have KS := KS0
  clear KS0
  generalize w.alloc (.cells #[.slice A1 l1 c1, .slice A2 l2 c2] 52) = w1 at *
  have S0 := Lib.hid (S0.out.later HB1.out)
  have S3 := Lib.hid (S3.out.later HB1.out)
  have S5 := Lib.hid (S5.out.later HB1.out)
  have HD : Hid (Below w1.heap.size w1 w1.drew) := (Below.refl _ _).drew
  have HDa : Hid (Below w1.heap.size w1 (w1.alloc (.cells #[.int .u8 96] 5)).drew) := ((Below.refl _ _).alloc (Nat.le_refl _) _).drew
  have HLa : Hid (SlV (w1.alloc (.cells #[.int .u8 96] 5)).drew (.slice (some ⟨w1.heap.size, 0, none⟩) 1 1) [96]) := (SlV.lit w1 [96] (IsBytes.one (by omega) (by omega)) (by simp [maxLen])).later (Below.refl _ _).drew
  have HLb : Hid (∀ W : World, SlV (W.alloc (.cells #[.int .u8 96] 5)) (.slice (some ⟨W.heap.size, 0, none⟩) 1 1) [96] ∧ Below W.heap.size W (W.alloc (.cells #[.int .u8 96] 5))) := fun W => ⟨SlV.lit W [96] (IsBytes.one (by omega) (by omega)) (by simp [maxLen]), (Below.refl _ _).alloc (Nat.le_refl _) _⟩
  have BA : Hid (∀ (W : World) (o : Obj), Below w1.heap.size w1 W → Below w1.heap.size w1 (W.alloc o)) := fun W o h => h.alloc h.size o
  go_region_held (fun (w' : World) => w'.cell? ⟨w.heap.size, 0, none⟩ = some (.slice A1 l1 c1) ∧ w'.cell? ⟨w.heap.size, 1, none⟩ = some (.slice A2 l2 c2)) (exact KS.out _ (by first | exact HB4.out | exact HB3.out | exact BA.out _ _ HB3.out | exact BA.out _ _ (BA.out _ _ HB3.out) | exact HB2.out | exact BA.out _ _ HB2.out | exact HD.out | exact HDa.out))
    (first
      | (go_at_call 77; have hL := HLa.out.later (HR2.out.trans (HR3.out.mono HR2.out.size)); refine (concat6_any w3 w3.heap.size rfl (.slice A0 n0 c0) (.slice (some ⟨w1.heap.size, 0, none⟩) 1 1) (.slice B2 q2 d2) (.slice A1 l1 c1) (.slice B3 q3 d3) (.slice A2 l2 c2) bs [96] (encU l1) f.1 (encU l2) f.2 (S0.out.later HB3.out) hL (HS2.out.later HB23.out) (S3.out.later HB3.out) HS3.out (S5.out.later HB3.out) HLN.out).mono ?_; rintro e w4 ⟨u4, rfl, ho4, hb4⟩; have HB4 := Lib.hid (HB3.out.trans (hb4.mono HB3.out.size)); have HO4 := Lib.hid (And.intro ho4 hb4); clear ho4 hb4 hL)
      | (go_at_call 77; have hL := (HLb.out w2).1.later HR3.out; refine (concat6_any w3 w3.heap.size rfl (.slice A0 n0 c0) (.slice (some ⟨w2.heap.size, 0, none⟩) 1 1) (.slice B2 q2 d2) (.slice A1 l1 c1) (.slice B3 q3 d3) (.slice A2 l2 c2) bs [96] (encU l1) f.1 (encU l2) f.2 (S0.out.later HB3.out) hL (HS2.out.later HB23.out) (S3.out.later HB3.out) HS3.out (S5.out.later HB3.out) HLN.out).mono ?_; rintro e w4 ⟨u4, rfl, ho4, hb4⟩; have HB4 := Lib.hid (HB3.out.trans (hb4.mono HB3.out.size)); have HO4 := Lib.hid (And.intro ho4 hb4); clear ho4 hb4 hL)
      | (go_at_call 77; have hL := HLb.out w3; have hB3 := BA.out _ (.cells #[.int .u8 96] 5) HB3.out; refine (concat6_any (w3.alloc (.cells #[.int .u8 96] 5)) (w3.heap.size + 1) (by simp) (.slice A0 n0 c0) (.slice (some ⟨w3.heap.size, 0, none⟩) 1 1) (.slice B2 q2 d2) (.slice A1 l1 c1) (.slice B3 q3 d3) (.slice A2 l2 c2) bs [96] (encU l1) f.1 (encU l2) f.2 (S0.out.later hB3) hL.1 ((HS2.out.later HB23.out).later hL.2) (S3.out.later hB3) (HS3.out.later hL.2) (S5.out.later hB3) HLN.out).mono ?_; rintro e w4 ⟨u4, rfl, ho4, hb4⟩; have HB4 := Lib.hid (hB3.trans (hb4.mono hB3.size)); have HO4 := Lib.hid (And.intro ho4 hb4); clear ho4 hb4 hL hB3)
      | (go_at_call 78; have hz := HB2.out; refine (C2.out _).mono ?_; rintro e w3 ⟨v3, rfl, ho3, hb3⟩; have HR3 := Lib.hid hb3; have HB23 : Hid (Below w2.heap.size w2 w3) := (by first | exact hb3 | exact (HLb.out w2).2.trans (hb3.mono (HLb.out w2).2.size)); have HB3 := Lib.hid (HB2.out.trans (HB23.out.mono HB2.out.size)); obtain ⟨B3, d3, rfl, -, -, -⟩ := ho3.rdX I2.out; have HS3 := Lib.hid (SlV.own ho3 I2.out); clear ho3 hb3 hz; generalize (encU l2).length = q3 at *)
      | (go_at_call 78; refine (C1.out _).mono ?_; rintro e w2 ⟨v2, rfl, ho2, hb2⟩; have HR2 := Lib.hid hb2; have HB2 : Hid (Below w1.heap.size w1 w2) := (by first | exact HD.out.trans (hb2.mono HD.out.size) | exact HDa.out.trans (hb2.mono HDa.out.size)); obtain ⟨B2, d2, rfl, -, -, -⟩ := ho2.rdX I1.out; have HS2 := Lib.hid (SlV.own ho2 I1.out); clear ho2 hb2; generalize (encU l1).length = q2 at *))
  all_goals go_wp2
  all_goals go_ret
  all_goals exact ⟨_, rfl, by rw [← EQ.out]; exact HO4.out.1.base (by have := HB1.out.size; have := HB3.out.size; first | omega | (simp; omega)), HB1.out.trans (HB4.out.mono HB1.out.size)⟩
end Go.Proofs.Ytnjbijndfbobbaa
