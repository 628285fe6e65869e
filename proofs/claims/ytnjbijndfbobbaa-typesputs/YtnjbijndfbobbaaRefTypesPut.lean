/- The document's PutFunc: the same bytes. -/
import Derived.Test.YtnjbijndfbobbaaTypesPut
import Derived.Test.YtnjbijndfbobbaaLebRefPut
import Derived.Test.YtnjbijndfbobbaaReplyPut
import Derived.Deep.Cut
import Derived.Deep.RegionHeldLaw
namespace Go.Proofs.Ytnjbijndfbobbaa
open Go.RowKit
set_option maxRecDepth 100000
set_option linter.unusedVariables false

/-- The empty bytes and one literal, laid in whatever order. -/
theorem lits_a (w : World) : OwnB (w.alloc (.cells #[] 5)).drew w.heap.size (.slice (some ⟨w.heap.size, 0, none⟩) 0 0) [] ∧ Below w.heap.size w (w.alloc (.cells #[] 5)).drew :=
  ⟨(ownB_lit0 w).later (Below.refl _ _).drew, ((Below.refl _ _).alloc (Nat.le_refl _) _).drew⟩
theorem lits_b (w : World) (z : Int) (h0 : 0 ≤ z) (h1 : z ≤ 255) : OwnB ((w.alloc (.cells #[] 5)).alloc (.cells #[.int .u8 z] 5)).drew w.heap.size (.slice (some ⟨w.heap.size, 0, none⟩) 0 0) [] ∧ Below w.heap.size w ((w.alloc (.cells #[] 5)).alloc (.cells #[.int .u8 z] 5)).drew ∧ RdX (fun k => k = w.heap.size + 1) ((w.alloc (.cells #[] 5)).alloc (.cells #[.int .u8 z] 5)).drew (some ⟨w.heap.size + 1, 0, none⟩) [z] := by
  have h2 := ownB_lit0 w
  have hb : Below w.heap.size w (w.alloc (.cells #[] 5)) := (Below.refl _ _).alloc (Nat.le_refl _) _
  have e : (w.alloc (.cells #[] 5)).heap.size = w.heap.size + 1 := by simp
  generalize w.alloc (.cells #[] 5) = W at *
  have hb2 : Below W.heap.size W (W.alloc (.cells #[.int .u8 z] 5)).drew := ((Below.refl _ _).alloc (Nat.le_refl _) _).drew
  refine ⟨h2.later hb2, hb.trans (hb2.mono hb.size), ?_⟩
  have h3 := (rdX_lit W [z] (IsBytes.one h0 h1)).later (w' := (W.alloc (.cells #[.int .u8 z] 5)).drew) (Below.refl _ _).drew
  rw [e] at h3
  exact h3
theorem lits_c (w : World) (z : Int) (h0 : 0 ≤ z) (h1 : z ≤ 255) : OwnB ((w.alloc (.cells #[.int .u8 z] 5)).alloc (.cells #[] 5)).drew w.heap.size (.slice (some ⟨w.heap.size + 1, 0, none⟩) 0 0) [] ∧ Below w.heap.size w ((w.alloc (.cells #[.int .u8 z] 5)).alloc (.cells #[] 5)).drew ∧ RdX (fun k => k = w.heap.size) ((w.alloc (.cells #[.int .u8 z] 5)).alloc (.cells #[] 5)).drew (some ⟨w.heap.size, 0, none⟩) [z] := by
  have h2 := rdX_lit w [z] (IsBytes.one h0 h1)
  have hb : Below w.heap.size w (w.alloc (.cells #[.int .u8 z] 5)) := (Below.refl _ _).alloc (Nat.le_refl _) _
  have e : (w.alloc (.cells #[.int .u8 z] 5)).heap.size = w.heap.size + 1 := by simp
  have h2' : RdX (fun k => k = w.heap.size) (w.alloc (.cells #[.int .u8 z] 5)) (some ⟨w.heap.size, 0, none⟩) [z] := h2
  generalize w.alloc (.cells #[.int .u8 z] 5) = W at *
  have hb2 : Below W.heap.size W (W.alloc (.cells #[] 5)).drew := ((Below.refl _ _).alloc (Nat.le_refl _) _).drew
  refine ⟨?_, hb.trans (hb2.mono hb.size), h2'.later hb2⟩
  have h3 := (ownB_lit0 W).later (w' := (W.alloc (.cells #[] 5)).drew) (Below.refl _ _).drew
  rw [e] at h3
  exact h3.base (by omega)

/-- Bytes of the call's own, from the world w1 on. -/
def At (w1 W : World) (A : Option Addr) (n k : Nat) (l : List Int) : Prop := n = l.length ∧ OwnB W w1.heap.size (.slice A n k) l ∧ IsBytes l ∧ Below w1.heap.size w1 W
theorem At.rdX {w1 W : World} {A : Option Addr} {n k : Nat} {l : List Int} (h : At w1 W A n k l) : RdX (fun b => (Value.slice A n k).ownBlock = some b) W A l := by
  obtain ⟨h1, h2, h3, h4⟩ := h
  obtain ⟨A', c, e, -, -, hr⟩ := h2.rdX h3
  injection e with e1 e2 e3
  subst e1
  exact hr
theorem step_at {X : Nat → Prop} {ops : Array Oper} {o : Oper} {a : Act} {K : Act → World → Prop} {Q : Exit → Act → World → Prop} {E : Prop} {w : World} (hgd : o.guard = none) (s x : Operand)
    (ho : o.op = .call { callee := .builtin .append, args := #[s, x], argTypes := #[23, 23] }) (w1 : World) (A0 : Option Addr) (n k : Nat) (l : List Int) (hs : a.eval s = .slice A0 n k) (hat : At w1 w A0 n k l)
    (A : Option Addr) (m c : Nat) (news : List Int) (hx : a.eval x = .slice A m c) (hm : m = news.length) (hr : RdX X w A news) (hlen : l.length + m ≤ 1000000000)
    (h : ∀ (A' : Option Addr) (n' k' : Nat) (w' : World), Hid (At w1 w' A' n' k' (l ++ news) ∧ Chg (fun b => (Value.slice A0 n k).ownBlock = some b) w w') → K (a.put o.dst (.slice A' n' k')) w') :
    if Region.wanted o (yielded ops a.tmps) = true then Oper.wp Try.prog o a w K Q else E := by
  refine step_appX hgd s x ho w1.heap.size _ l hs hat.2.1 A m c news hx hm hr hlen hat.2.2.2.size fun v' w' hv hw => ?_
  have hI := hat.2.2.1.app hr.1
  obtain ⟨A', k', rfl, -, -, -⟩ := hv.rdX hI
  exact h A' _ k' w' ⟨⟨rfl, hv, hI, hat.2.2.2.trans (hw.below hat.2.2.2.size fun b hb => owns_ge hat.2.1 hb)⟩, hw.1⟩
theorem putU_at (w1 W : World) (A : Option Addr) (n k : Nat) (l : List Int) (x : Int) (h : At w1 W A n k l) (hl : l.length ≤ 10000000) (x0 : 0 ≤ x) (x1 : x < 18446744073709551616) :
    Calls Try.prog 66 #[.slice A n k, .int .u64 x] W fun e w' => ∃ (A' : Option Addr) (n' k' : Nat), e = .returned (.slice A' n' k') ∧ Hid (At w1 w' A' n' k' (l ++ encU x)) := by
  refine (refPutU_any A l n k x W h.rdX.rd h.1 (by rw [h.1]; exact hl) x0 x1).mono ?_
  rintro e w' ⟨v', rfl, hv, hb⟩
  have hI := h.2.2.1.app (encU_is x x0 x1)
  obtain ⟨A', k', rfl, -, -, -⟩ := hv.rdX hI
  exact ⟨A', _, k', rfl, rfl, hv.base h.2.2.2.size, hI, h.2.2.2.trans (hb.mono h.2.2.2.size)⟩
theorem At.later {w1 W W' : World} {A : Option Addr} {n k : Nat} {l : List Int} (h : At w1 W A n k l) (hb : Below W.heap.size W W') : At w1 W' A n k l := ⟨h.1, h.2.1.later hb, h.2.2.1, h.2.2.2.trans (hb.mono h.2.2.2.size)⟩
theorem At.done {w w1 W : World} {A : Option Addr} {n k : Nat} {l : List Int} (h : At w1 W A n k l) (hb : Below w.heap.size w w1) : WPost l w (.returned (.slice A n k)) W := ⟨_, rfl, h.2.1.base hb.size, hb.trans (h.2.2.2.mono hb.size)⟩
/-- One literal behind an append. -/
theorem lit_far {S : Nat → Prop} {w w' : World} {A : Option Addr} {l : List Int} {g : Nat} (h : RdX (fun k => k = g) w A l) (hc : Chg S w w') (hg : ¬ S g) : RdX (fun _ => True) w' A l := (h.chg hc fun k _ e hs => hg (e ▸ hs)).mono fun _ _ _ => trivial

set_option maxHeartbeats 16000000 in
theorem refPut_fn {X : Nat → Prop} (A0 : Option Addr) (bs : List Int) (n0 c0 : Nat) (v : Value) (f : Fn) (w : World) (h0 : Rd w w.heap.size A0 bs) (hn0 : n0 = bs.length) (hl0 : n0 ≤ 1000000) (hf : FnV X w v f) (hl1 : f.1.length ≤ 1000000) (hl2 : f.2.length ≤ 1000000) :
    Calls Try.prog 39 #[.slice A0 n0 c0, v] w (WPost (bs ++ putFn f) w) := by
  obtain ⟨A1, c1, A2, c2, rfl, hr1, hq1, hm1, hr2, hq2, hm2⟩ := hf
  have HR0 : Hid (RdX (fun _ => True) w A0 bs ∧ RdX (fun _ => True) w A1 f.1 ∧ RdX (fun _ => True) w A2 f.2) := ⟨h0.rx.mono fun _ _ _ => trivial, hr1.mono fun _ _ _ => trivial, hr2.mono fun _ _ _ => trivial⟩
  have I1 := Lib.hid (encU_is f.1.length (by omega) (by omega))
  have I2 := Lib.hid (encU_is f.2.length (by omega) (by omega))
  have EQ : Hid ([] ++ bs ++ [96] ++ encU f.1.length ++ f.1 ++ encU f.2.length ++ f.2 = bs ++ putFn f) := by
    unfold Hid putFn
    simp only [List.nil_append, List.append_assoc, List.cons_append]
  have KS0 : Hid (∀ W : World, Below (w.alloc (.cells #[.slice A1 f.1.length c1, .slice A2 f.2.length c2] 52)).heap.size (w.alloc (.cells #[.slice A1 f.1.length c1, .slice A2 f.2.length c2] 52)) W → W.cell? ⟨w.heap.size, 0, none⟩ = some (.slice A1 f.1.length c1) ∧ W.cell? ⟨w.heap.size, 1, none⟩ = some (.slice A2 f.2.length c2)) := fun W hW => by
    have ho := (Own.new w 52 [.slice A1 f.1.length c1, .slice A2 f.2.length c2]).later hW
    exact ⟨ho.cell 0, ho.cell 1⟩
  have HB1 : Hid (Below w.heap.size w (w.alloc (.cells #[.slice A1 f.1.length c1, .slice A2 f.2.length c2] 52))) := (Below.refl _ _).alloc (Nat.le_refl _) _
  clear hr1 hr2 hq1 hm1 hq2 hm2 h0
  have L1 := Lib.hid (encU_len f.1.length).2
  have L2 := Lib.hid (encU_len f.2.length).2
  generalize hg1 : f.1.length = l1 at *
  generalize hg2 : f.2.length = l2 at *
  have HG := Lib.hid (And.intro hg1 (And.intro hg2 hn0))
  clear hg1 hg2 hn0
  have hw1 : IntKind.u64.wrap (l1 : Int) = l1 := by rw [IntKind.wrap_u64]; omega
  have hw2 : IntKind.u64.wrap (l2 : Int) = l2 := by rw [IntKind.wrap_u64]; omega
  go_enter Try.func39, Try.ntmps39
  go_upto_region 1 with fail
  have KS := KS0
  clear KS0
  generalize w.alloc (.cells #[.slice A1 l1 c1, .slice A2 l2 c2] 52) = w1 at *
  have AP : Hid (∀ W : World, Below w1.heap.size w1 W → RdX (fun _ => True) W A0 bs ∧ RdX (fun _ => True) W A1 f.1 ∧ RdX (fun _ => True) W A2 f.2) := fun W hW => ⟨(HR0.out.1.later HB1.out).later hW, (HR0.out.2.1.later HB1.out).later hW, (HR0.out.2.2.later HB1.out).later hW⟩
  clear HR0
  have LA : Hid (At w1 (w1.alloc (.cells #[] 5)).drew (some ⟨w1.heap.size, 0, none⟩) 0 0 []) := ⟨rfl, (lits_a w1).1, IsBytes.nil, (lits_a w1).2⟩
  have hb := lits_b w1 96 (by omega) (by omega)
  have LB : Hid (At w1 ((w1.alloc (.cells #[] 5)).alloc (.cells #[.int .u8 96] 5)).drew (some ⟨w1.heap.size, 0, none⟩) 0 0 [] ∧ RdX (fun k => k = w1.heap.size + 1) ((w1.alloc (.cells #[] 5)).alloc (.cells #[.int .u8 96] 5)).drew (some ⟨w1.heap.size + 1, 0, none⟩) [96]) := ⟨⟨rfl, hb.1, IsBytes.nil, hb.2.1⟩, hb.2.2⟩
  have hc := lits_c w1 96 (by omega) (by omega)
  have LC : Hid (At w1 ((w1.alloc (.cells #[.int .u8 96] 5)).alloc (.cells #[] 5)).drew (some ⟨w1.heap.size + 1, 0, none⟩) 0 0 [] ∧ RdX (fun k => k = w1.heap.size) ((w1.alloc (.cells #[.int .u8 96] 5)).alloc (.cells #[] 5)).drew (some ⟨w1.heap.size, 0, none⟩) [96]) := ⟨⟨rfl, hc.1, IsBytes.nil, hc.2.1⟩, hc.2.2⟩
  clear hb hc
  have LW : Hid (∀ W : World, Below W.heap.size W (W.alloc (.cells #[.int .u8 96] 5)) ∧ RdX (fun _ => True) (W.alloc (.cells #[.int .u8 96] 5)) (some ⟨W.heap.size, 0, none⟩) [96]) := fun W => ⟨(Below.refl _ _).alloc (Nat.le_refl _) _, (rdX_lit W [96] (IsBytes.one (by omega) (by omega))).mono fun _ _ _ => trivial⟩
  have L8 : Hid (Below w1.heap.size w1 (w1.alloc (.cells #[.int .u8 96] 5)).drew) := ((Below.refl _ _).alloc (Nat.le_refl _) _).drew
  have HD : Hid (Below w1.heap.size w1 w1.drew) := (Below.refl _ _).drew
  have BA : Hid (∀ (W : World) (o : Obj), Below w1.heap.size w1 W → Below w1.heap.size w1 (W.alloc o)) := fun W o h => h.alloc h.size o
  have N1 : Hid (([] ++ bs : List Int).length ≤ 1000000 ∧ ([] ++ bs ++ [96] : List Int).length ≤ 1000001 ∧ ([] ++ bs ++ [96] ++ encU l1 : List Int).length ≤ 1000011 ∧ ([] ++ bs ++ [96] ++ encU l1 ++ f.1 : List Int).length ≤ 2000011 ∧ ([] ++ bs ++ [96] ++ encU l1 ++ f.1 ++ encU l2 : List Int).length ≤ 2000021) := by
    have h1 := L1.out
    have h2 := L2.out
    have h3 := HG.out
    unfold Hid
    simp only [List.length_append, List.length_cons, List.length_nil]
    omega
  go_cut [0] from 5 (fun s0 wx => ∃ (A9 : Option Addr) (n9 k9 : Nat), s0 = .slice A9 n9 k9 ∧ Hid (At w1 wx A9 n9 k9 ([] ++ bs ++ [96] ++ encU l1 ++ f.1)))
  case first =>
    go_region_held_law (fun (w' : World) => w'.cell? ⟨w.heap.size, 0, none⟩ = some (.slice A1 l1 c1) ∧ w'.cell? ⟨w.heap.size, 1, none⟩ = some (.slice A2 l2 c2)) (exact KS.out _ (by first | exact H17.out.1.2.2.2 | exact H14.out.2.2.2 | exact H9.out.1.2.2.2 | exact H7.out.2.2.2 | exact BA.out _ _ H7.out.2.2.2 | exact LC.out.1.2.2.2 | exact LB.out.1.2.2.2 | exact LA.out.2.2.2 | exact L8.out | exact HD.out))
      (first
        | (refine step_at (X := fun _ => True) rfl (.tmp 14) (.tmp 16) rfl w1 A14 n14 k14 ([] ++ bs ++ [96] ++ encU l1) (by simp [Act.eval]) H14.out A1 l1 c1 f.1 (by simp [Act.eval]) HG.out.1.symm (AP.out _ H14.out.2.2.2).2.1 (by have := N1.out; omega) ?_; intro A17 n17 k17 w17 H17; simp only [Act.put, List.getElem_toArray, List.getElem_cons_succ, List.getElem_cons_zero, List.setIfInBounds_toArray, List.set_cons_zero, List.set_cons_succ])
        | (refine step_at (X := fun _ => True) rfl (.tmp 7) (.tmp 8) rfl w1 A7 n7 k7 ([] ++ bs) (by simp [Act.eval]) H7.out (some ⟨w1.heap.size + 1, 0, none⟩) 1 1 [96] (by simp [Act.eval]) rfl HLb.out (by have := N1.out; omega) ?_; intro A9 n9 k9 w9 H9; simp only [Act.put, List.getElem_toArray, List.getElem_cons_succ, List.getElem_cons_zero, List.setIfInBounds_toArray, List.set_cons_zero, List.set_cons_succ])
        | (refine step_at (X := fun _ => True) rfl (.tmp 7) (.tmp 8) rfl w1 A7 n7 k7 ([] ++ bs) (by simp [Act.eval]) H7.out (some ⟨w1.heap.size, 0, none⟩) 1 1 [96] (by simp [Act.eval]) rfl HLc.out (by have := N1.out; omega) ?_; intro A9 n9 k9 w9 H9; simp only [Act.put, List.getElem_toArray, List.getElem_cons_succ, List.getElem_cons_zero, List.setIfInBounds_toArray, List.set_cons_zero, List.set_cons_succ])
        | (refine step_at (X := fun _ => True) rfl (.tmp 7) (.tmp 8) rfl w1 A7 n7 k7 ([] ++ bs) (by simp [Act.eval]) (H7.out.later (LW.out w7).1) (some ⟨w7.heap.size, 0, none⟩) 1 1 [96] (by simp [Act.eval]) rfl (LW.out w7).2 (by have := N1.out; omega) ?_; intro A9 n9 k9 w9 H9; simp only [Act.put, List.getElem_toArray, List.getElem_cons_succ, List.getElem_cons_zero, List.setIfInBounds_toArray, List.set_cons_zero, List.set_cons_succ])
        | (refine step_at (X := fun _ => True) rfl (.tmp 5) (.tmp 6) rfl w1 (some ⟨w1.heap.size, 0, none⟩) 0 0 [] (by simp [Act.eval]) LA.out A0 n0 c0 bs (by simp [Act.eval]) HG.out.2.2 (AP.out _ LA.out.2.2.2).1 (by simp; omega) ?_; intro A7 n7 k7 w7 h7; simp only [Act.put, List.getElem_toArray, List.getElem_cons_succ, List.getElem_cons_zero, List.setIfInBounds_toArray, List.set_cons_zero, List.set_cons_succ]; have H7 := Lib.hid h7.out.1; clear h7)
        | (refine step_at (X := fun _ => True) rfl (.tmp 5) (.tmp 6) rfl w1 (some ⟨w1.heap.size, 0, none⟩) 0 0 [] (by simp [Act.eval]) LB.out.1 A0 n0 c0 bs (by simp [Act.eval]) HG.out.2.2 (AP.out _ LB.out.1.2.2.2).1 (by simp; omega) ?_; intro A7 n7 k7 w7 h7; simp only [Act.put, List.getElem_toArray, List.getElem_cons_succ, List.getElem_cons_zero, List.setIfInBounds_toArray, List.set_cons_zero, List.set_cons_succ]; have H7 := Lib.hid h7.out.1; have HLb := Lib.hid (lit_far LB.out.2 h7.out.2 (by simp [Value.ownBlock])); clear h7)
        | (refine step_at (X := fun _ => True) rfl (.tmp 5) (.tmp 6) rfl w1 (some ⟨w1.heap.size + 1, 0, none⟩) 0 0 [] (by simp [Act.eval]) LC.out.1 A0 n0 c0 bs (by simp [Act.eval]) HG.out.2.2 (AP.out _ LC.out.1.2.2.2).1 (by simp; omega) ?_; intro A7 n7 k7 w7 h7; simp only [Act.put, List.getElem_toArray, List.getElem_cons_succ, List.getElem_cons_zero, List.setIfInBounds_toArray, List.set_cons_zero, List.set_cons_succ]; have H7 := Lib.hid h7.out.1; have HLc := Lib.hid (lit_far LC.out.2 h7.out.2 (by simp [Value.ownBlock])); clear h7)
        | (go_simp; go_at_call 66; refine (putU_at w1 w9 A9 n9 k9 ([] ++ bs ++ [96]) l1 H9.out.1 (by have := N1.out; omega) (by omega) (by omega)).mono ?_; rintro e w14 ⟨A14, n14, k14, rfl, H14⟩))
    all_goals go_wp2_with fail
    all_goals go_meet
    all_goals exact ⟨A17, n17, k17, rfl, H17.out.1⟩
  case rest =>
    obtain ⟨A9, n9, k9, rfl, H9⟩ := hcut
    have HD2 : Hid (Below w1.heap.size w1 wc.drew) := H9.out.2.2.2.drew
    have H9 := Lib.hid (H9.out.later (W' := wc.drew) (Below.refl _ _).drew)
    clear LA LB LC LW L8 HD BA
    go_wp2_with fail
    go_region_held_law (fun (w' : World) => w'.cell? ⟨w.heap.size, 0, none⟩ = some (.slice A1 l1 c1) ∧ w'.cell? ⟨w.heap.size, 1, none⟩ = some (.slice A2 l2 c2)) (exact KS.out _ (by first | exact H26.out.1.2.2.2 | exact H23.out.2.2.2 | exact HD2.out))
      (first
        | (refine step_at (X := fun _ => True) rfl (.tmp 23) (.tmp 25) rfl w1 A23 n23 k23 ([] ++ bs ++ [96] ++ encU l1 ++ f.1 ++ encU l2) (by simp [Act.eval]) H23.out A2 l2 c2 f.2 (by simp [Act.eval]) HG.out.2.1.symm (AP.out _ H23.out.2.2.2).2.2 (by have := N1.out; omega) ?_; intro A26 n26 k26 w26 H26; simp only [Act.put, List.getElem_toArray, List.getElem_cons_succ, List.getElem_cons_zero, List.setIfInBounds_toArray, List.set_cons_zero, List.set_cons_succ])
        | (go_simp; go_at_call 66; refine (putU_at w1 wc.drew A9 n9 k9 ([] ++ bs ++ [96] ++ encU l1 ++ f.1) l2 H9.out (by have := N1.out; omega) (by omega) (by omega)).mono ?_; rintro e w23 ⟨A23, n23, k23, rfl, H23⟩))
    all_goals go_wp2
    all_goals go_ret
    all_goals rw [← EQ.out]
    all_goals exact H26.out.1.done HB1.out
end Go.Proofs.Ytnjbijndfbobbaa
