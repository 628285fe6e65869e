/- req's writers: what their calls come to. -/
import Derived.Test.YtnjbijndfbobbaaNums
import Derived.Test.YtnjbijndfbobbaaLebPut
import Derived.Test.YtnjbijndfbobbaaReqTake
namespace Go.Proofs.Ytnjbijndfbobbaa
open Go.RowKit
set_option maxRecDepth 100000
set_option linter.unusedVariables false

/-- Something was appended to v. -/
def GPost (base : Nat) (v : Value) (l : List Int) (w : World) (e : Ending) (w' : World) : Prop := ∃ v', e = .returned v' ∧ OwnB w' base v' l ∧ Grew v w v' w'

theorem shr_byte (x : Int) (k : Nat) (hk : k < 8) : x / 2 ^ (8 * (7 - k)) % 256 = (be8 x).getD k 0 := (be8_get x k hk).symm
theorem be8_take (x : Int) (k : Nat) (hk : k < 8) : (be8 x).take (k + 1) = (be8 x).take k ++ [(be8 x).getD k 0] := by
  rw [List.take_add_one, List.getD_eq_getElem?_getD, List.getElem?_eq_getElem (by rw [be8_len]; exact hk)]
  rfl
set_option maxHeartbeats 1000000 in
theorem putWord_any (base : Nat) (v : Value) (l : List Int) (x : Int) (w : World) (hv : OwnB w base v l) (hl : l.length ≤ 100000000) (hb : base ≤ w.heap.size) (hI : IsBytes l) (h0 : 0 ≤ x) (h1 : x < 18446744073709551616) :
    Calls Try.prog 60 #[v, .int .u64 x] w (GPost base v (l ++ be8 x) w) := by
  have HV := Lib.hid hv
  have HI := Lib.hid hI
  obtain ⟨A, c, rfl, -, -, -⟩ := hv.rdX hI
  clear hv hI
  generalize hq : l.length = q at *
  have HQ := Lib.hid hq
  clear hq
  go_enter Try.func60, Try.ntmps60
  go_wp2
  go_loopw [0, 6] (fun u i wr => ∃ (k : Nat), k ≤ 8 ∧ i = .int .i64 k ∧ base ≤ wr.heap.size ∧ Hid (OwnB wr base u (l ++ (be8 x).take k) ∧ Grew (.slice A q c) w u wr)) (fun _ i _ => 8 - (intOf i).toNat)
  case atStart => exact ⟨0, by omega, rfl, hb, by simpa using HV.out, Grew.refl _ _⟩
  case round =>
    obtain ⟨k, hk, rfl, hbr, HX⟩ := hrel
    by_cases hlt : k < 8
    · have hlt2 : (k : Int) < 8 := by omega
      have hm := be8_get x k hlt
      have hbd := be8_is x _ (by rw [List.getD_eq_getElem?_getD, List.getElem?_eq_getElem (by rw [be8_len]; exact hlt)]; exact List.getElem_mem (by rw [be8_len]; exact hlt) : (be8 x).getD k 0 ∈ be8 x)
      have HM := Lib.hid (And.intro hm (be8_take x k hlt))
      have e7 : (8 * (7 - (k : Int))).toNat = 8 * (7 - k) := by omega
      generalize (be8 x).getD k 0 = y at *
      have hm2 := hm.symm
      clear hm
      have hlk : (l ++ (be8 x).take k).length + 1 ≤ 1000000000 := by simp [be8_len]; have := HQ.out; omega
      go_wp2_with (at_builtin; refine wpList_app1G rfl (.tmp 9) (.tmp 16) rfl base u0 _ rfl HX.out.1 y rfl (by omega) (by omega) hlk hbr ?_; intro v1 w1 hv1 hw1; rw [List.append_assoc, ← HM.out.2] at hv1; have H1 := Lib.hid (And.intro hv1 hw1); clear hv1 hw1)
      go_wp2
      refine ⟨⟨k + 1, by omega, by go_num, by have := H1.out.2.1.size; omega, H1.out.1, HX.out.2.trans H1.out.2⟩, ?_⟩
      simp [intOf]; omega
    · obtain rfl : k = 8 := by omega
      go_wp2
      go_ret
      refine ⟨_, rfl, ?_, HX.out.2⟩
      have := HX.out.1
      rwa [List.take_of_length_le (by rw [be8_len]; omega)] at this

/-- The bytes of some numbers. -/
def encs : List Int → List Int
  | [] => []
  | x :: t => encU x ++ encs t
theorem encs_app (a b : List Int) : encs (a ++ b) = encs a ++ encs b := by
  induction a with
  | nil => rfl
  | cons x t ih => simp [encs, ih]
theorem encU_len (v : Int) : 0 < (encU v).length ∧ (encU v).length ≤ 10 := by
  unfold encU; rw [bytesOf_length]; exact ⟨List.length_pos_iff.2 (dgU_ne _ _), dgU_len 9 v⟩
theorem encU_is (v : Int) (h0 : 0 ≤ v) (h1 : v < 18446744073709551616) : IsBytes (encU v) := bytesU_is 9 v h0 (by simp; omega)
theorem encs_is (l : List Int) (h : IsU64 l) : IsBytes (encs l) := by
  induction l with
  | nil => exact IsBytes.nil
  | cons x t ih => exact (encU_is x (h x (by simp)).1 (h x (by simp)).2).app (ih fun z hz => h z (by simp [hz]))
theorem encs_len (l : List Int) : (encs l).length ≤ 10 * l.length := by
  induction l with
  | nil => simp [encs]
  | cons x t ih => have := (encU_len x).2; simp [encs]; omega
theorem Grew.rdU {X : Nat → Prop} {v v' : Value} {w w' : World} {A : Option Addr} {l : List Int} (h : Grew v w v' w') (hr : RdU X w A l) (hx : ∀ k, k < w.heap.size → X k → v.ownBlock ≠ some k) : RdU X w' A l := hr.chg h.1 fun k hk hX e => hx k hk hX e
theorem Grew.rdX {X : Nat → Prop} {v v' : Value} {w w' : World} {A : Option Addr} {l : List Int} (h : Grew v w v' w') (hr : RdX X w A l) (hx : ∀ k, k < w.heap.size → X k → v.ownBlock ≠ some k) : RdX X w' A l := hr.chg h.1 fun k hk hX e => hx k hk hX e

set_option maxHeartbeats 1000000 in
theorem putNumbers_any {X : Nat → Prop} (base : Nat) (v : Value) (l ns : List Int) (B : Option Addr) (m d : Nat) (w : World) (hv : OwnB w base v l) (hl : l.length ≤ 10000000) (hb : base ≤ w.heap.size) (hI : IsBytes l)
    (hr : RdU X w B ns) (hm : m = ns.length) (hm2 : m ≤ 10000) (hx : ∀ k, k < w.heap.size → X k → v.ownBlock ≠ some k) :
    Calls Try.prog 62 #[v, .slice B m d] w (GPost base v (l ++ encs ns) w) := by
  have HV := Lib.hid hv
  have HI := Lib.hid hI
  have HR := Lib.hid (And.intro hr (And.intro hm hx))
  obtain ⟨A, c, rfl, -, -, -⟩ := hv.rdX hI
  clear hv hI hr hm hx
  generalize hq : l.length = q at *
  have HQ := Lib.hid hq
  clear hq
  go_enter Try.func62, Try.ntmps62
  go_wp2
  go_loopw [0, 9] (fun u i wr => ∃ (k : Nat), k ≤ m ∧ i = .int .i64 k ∧ base ≤ wr.heap.size ∧ Hid (OwnB wr base u (l ++ encs (ns.take k)) ∧ Grew (.slice A q c) w u wr)) (fun _ i _ => m - (intOf i).toNat)
  case atStart => exact ⟨0, by omega, rfl, hb, by simpa [encs] using HV.out, Grew.refl _ _⟩
  case round =>
    obtain ⟨k, hk, rfl, hbr, HX⟩ := hrel
    by_cases hlt : k < m
    · have hlt2 : (k : Int) < m := by omega
      have hkl : k < ns.length := by rw [← HR.out.2.1]; exact hlt
      have hrw : RdU (fun k => X k ∧ k < w.heap.size) wr B ns := HX.out.2.rdU (X := fun k => X k ∧ k < w.heap.size) ⟨HR.out.1.1, HR.out.1.2.lt⟩ fun k hk hX => HR.out.2.2 k hk hX.1
      obtain ⟨bb, oo, rfl, hcell, y0, y1⟩ := hrw.at_ hkl
      have HS : Hid (encs (ns.take (k + 1)) = encs (ns.take k) ++ encU (ns.getD k 0)) := by
        unfold Hid
        rw [List.take_add_one, encs_app, List.getD_eq_getElem?_getD, List.getElem?_eq_getElem hkl]
        simp [encs]
      have HRW := Lib.hid hrw
      clear hrw
      generalize ns.getD k 0 = y at *
      have hly : (l ++ encs (ns.take k)).length ≤ 20000000 := by have h1 := encs_len (ns.take k); have h2 := HQ.out; have h3 := List.length_take_le k ns; rw [List.length_append]; omega
      go_wp2_with fail
      refine (putU_any none [] 0 0 y _ (Rd.nil _ _ _) rfl (by omega) y0 y1).mono ?_
      rintro e w1 ⟨v1, rfl, ho, hb1⟩
      rw [List.nil_append] at ho
      have hown1 : OwnB w1 base u0 (l ++ encs (ns.take k)) := HX.out.1.later hb1
      have hs1 := hb1.size
      obtain ⟨A1, c1, rfl, -, -, hr1⟩ := ho.rdX (encU_is y y0 y1)
      have HO := Lib.hid (And.intro hown1 (And.intro hr1 hb1))
      have hy10 := (encU_len y).2
      clear ho hown1 hr1 hb1
      generalize hle : (encU y).length = le at *
      have HLE := Lib.hid hle
      clear hle
      go_wp2_with (at_builtin; refine wpList_appXG rfl (.tmp 13) (.tmp 15) rfl base u0 _ rfl HO.out.1 A1 le c1 (encU y) rfl HLE.out.symm HO.out.2.1 (by omega) (by omega) ?_; intro v2 w2 hv2 hw2; rw [List.append_assoc, ← HS.out] at hv2; have H1 := Lib.hid (And.intro hv2 (hw2.before HO.out.2.2 fun k hk => owns_lt HX.out.1 hk)); clear hv2 hw2)
      go_wp2
      refine ⟨⟨k + 1, by omega, by go_num, by have := H1.out.2.1.size; omega, H1.out.1, HX.out.2.trans H1.out.2⟩, ?_⟩
      simp [intOf]; omega
    · obtain rfl : k = m := by omega
      go_wp2
      go_ret
      refine ⟨_, rfl, ?_, HX.out.2⟩
      have := HX.out.1
      rwa [List.take_of_length_le (by rw [HR.out.2.1]; omega)] at this
end Go.Proofs.Ytnjbijndfbobbaa
