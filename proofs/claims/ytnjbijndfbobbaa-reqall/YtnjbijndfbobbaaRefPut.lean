/- The document's PutRequest: the same bytes. -/
import Derived.Test.YtnjbijndfbobbaaLebRefPut
import Derived.Test.YtnjbijndfbobbaaPut3
namespace Go.Proofs.Ytnjbijndfbobbaa
open Go.RowKit
set_option maxRecDepth 100000
set_option linter.unusedVariables false

set_option maxHeartbeats 1000000 in
theorem eight_any (A : Option Addr) (l : List Int) (n c : Nat) (x : Int) (w : World) (h : Rd w w.heap.size A l) (hn : n = l.length) (hl : n ≤ 10000000) (h0 : 0 ≤ x) (h1 : x < 18446744073709551616) :
    Calls Try.prog 64 #[.slice A n c, .int .u64 x] w (PutPost (l ++ be8 x) w) := by
  have HR := Lib.hid h
  have HN := Lib.hid hn
  clear h hn
  go_enter Try.func64, Try.ntmps64
  go_wp2_with (at_builtin; refine wpList_app rfl (.tmp 7) (.tmp 8) rfl w.heap.size _ [] rfl (ownB_lit0 w) A n c l rfl HN.out (by exact HR.out.later ((Below.refl _ _).alloc (Nat.le_refl _) _)) (by simp; omega) (by simp) ?_; intro v0' w0 hv0 hw0; have HV0 := Lib.hid (And.intro hv0 (((Below.refl w.heap.size w).alloc (Nat.le_refl _) _).trans hw0)); clear hv0 hw0)
  go_loopw [5, 6] (fun u i wr => ∃ (k : Nat), k ≤ 8 ∧ i = .int .i64 k ∧ w.heap.size ≤ wr.heap.size ∧ Hid (OwnB wr w.heap.size u (l ++ (be8 x).take k) ∧ Below w.heap.size w wr)) (fun _ i _ => 8 - (intOf i).toNat)
  case atStart => exact ⟨0, by omega, rfl, HV0.out.2.size, by simpa using HV0.out.1, HV0.out.2⟩
  case round =>
    obtain ⟨k, hk, rfl, hbr, HX⟩ := hrel
    by_cases hlt : k < 8
    · have hlt2 : (k : Int) < 8 := by omega
      have hm := be8_get x k hlt
      have hbd := be8_is x _ (by rw [List.getD_eq_getElem?_getD, List.getElem?_eq_getElem (by rw [be8_len]; exact hlt)]; exact List.getElem_mem (by rw [be8_len]; exact hlt) : (be8 x).getD k 0 ∈ be8 x)
      have HM := Lib.hid (be8_take x k hlt)
      have e7 : (56 - 8 * (k : Int)).toNat = 8 * (7 - k) := by omega
      have e8 : 56 - 8 * k = 8 * (7 - k) := by omega
      generalize (be8 x).getD k 0 = y at *
      have hm2 := hm.symm
      clear hm HV0
      have hlk : (l ++ (be8 x).take k).length + 1 ≤ 1000000000 := by have := HN.out; simp [be8_len]; omega
      go_wp2_with (at_builtin; go_loud (refine wpList_app1 rfl (.tmp 14) (.tmp 21) rfl w.heap.size u5 _ rfl HX.out.1 y rfl (by omega) (by omega) hlk hbr ?_; intro v1 w1 hv1 hw1; rw [List.append_assoc, ← HM.out] at hv1; have H1 := Lib.hid (And.intro hv1 hw1); clear hv1 hw1))
      go_wp2
      refine ⟨⟨k + 1, by omega, by go_num, by have := H1.out.2.size; omega, H1.out.1, HX.out.2.trans H1.out.2⟩, ?_⟩
      simp [intOf]; omega
    · obtain rfl : k = 8 := by omega
      clear HV0
      go_wp2
      go_ret
      refine ⟨_, rfl, ?_, HX.out.2⟩
      have := HX.out.1
      rwa [List.take_of_length_le (by rw [be8_len]; omega)] at this

set_option maxHeartbeats 1000000 in
theorem refName_any (A : Option Addr) (l nm : List Int) (n c : Nat) (w : World) (h : Rd w w.heap.size A l) (hn : n = l.length) (hl : n ≤ 1000000) (hI : IsBytes l) (hnn : nm.length ≤ 1000000) (hnb : IsBytes nm) :
    Calls Try.prog 65 #[.slice A n c, .string (strOfNums nm)] w (PutPost (l ++ encU nm.length ++ nm) w) := by
  have HR := Lib.hid h
  have HN := Lib.hid hn
  have HI := Lib.hid (And.intro hI hnb)
  clear h hn hI hnb
  have hss : (strOfNums nm).size = nm.length := strOfNums_size nm
  generalize hnm : nm.length = m at *
  have HM := Lib.hid hnm
  clear hnm
  go_enter Try.func65, Try.ntmps65
  go_wp2_with fail
  refine (refPutU_any A l n c (m : Int) w HR.out HN.out (by omega) (by omega) (by omega)).mono ?_
  rintro e w1 ⟨v1, rfl, ho, hb⟩
  have hl1 : (l ++ encU (m : Int)).length ≤ 2000000 := by have h1 := (encU_len (m : Int)).2; have := HN.out; simp at h1 ⊢; omega
  have hs1 := hb.size
  obtain ⟨A1, c1, hA1, -, -, -⟩ := ho.rdX (HI.out.1.app (encU_is _ (by omega) (by omega)))
  have H1 := Lib.hid (And.intro ho (And.intro hb hl1))
  subst hA1
  clear ho hb hl1
  generalize hq1 : (l ++ encU (m : Int)).length = q1 at *
  have HQ1 := Lib.hid hq1
  clear hq1
  go_wp2_with (at_builtin; refine wpList_appStr rfl (.tmp 9) (.tmp 10) rfl w.heap.size _ _ rfl H1.out.1 nm HI.out.2 rfl (by have := H1.out.2.2; have := HM.out; have := HQ1.out; omega) (by omega) ?_; intro v2 w2 hv2 hw2; have H2 := Lib.hid (And.intro hv2 (H1.out.2.1.trans (hw2.below hs1 fun k hk => owns_ge H1.out.1 hk))); clear hv2 hw2)
  go_wp2
  go_ret
  exact ⟨_, rfl, H2.out.1, H2.out.2⟩
end Go.Proofs.Ytnjbijndfbobbaa
