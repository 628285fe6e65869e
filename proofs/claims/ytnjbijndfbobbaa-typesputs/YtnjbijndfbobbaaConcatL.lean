/- slices.Concat at bytes, of as many slices as there are. -/
import Derived.Test.YtnjbijndfbobbaaConcat
import Derived.Test.YtnjbijndfbobbaaLists
namespace Go.Proofs.Ytnjbijndfbobbaa
open Go.RowKit
set_option maxRecDepth 100000
set_option linter.unusedVariables false

theorem flat_step (ls : List (List Int)) (k : Nat) (hk : k < ls.length) : (ls.take (k + 1)).flatten = (ls.take k).flatten ++ ls.getD k [] := by
  rw [List.take_add_one, List.getElem?_eq_getElem hk, List.getD_eq_getElem?_getD, List.getElem?_eq_getElem hk]
  simp only [Option.toList_some, List.flatten_append, List.flatten_cons, List.flatten_nil, List.append_nil, Option.getD_some]
theorem flat_le (ls : List (List Int)) (k : Nat) : (ls.take k).flatten.length ≤ ls.flatten.length := by
  conv => rhs; rw [← List.take_append_drop k ls]
  rw [List.flatten_append, List.length_append]
  omega
set_option maxHeartbeats 2000000 in
theorem concatL_any {X : Nat → Prop} (A : Option Addr) (n c : Nat) (ls : List (List Int)) (w : World) (h : RdL X w (.slice A n c) ls) (hn : n = ls.length) (hb : ls.flatten.length ≤ 100000000) (hm : n ≤ 1000000) :
    Calls Try.prog 77 #[.slice A n c] w fun e w' => ∃ v, e = .returned v ∧ OwnB w' w.heap.size v ls.flatten ∧ Below w.heap.size w w' := by
  have HL := Lib.hid (And.intro h (And.intro hn hb))
  clear h hn hb
  go_enter Try.func77, Try.ntmps77
  go_wp2
  go_loop [3, 11] (fun s i => ∃ (k q : Nat), k ≤ n ∧ i = .int .i64 k ∧ s = .int .i64 q ∧ q ≤ 100000000 ∧ Hid (q = (ls.take k).flatten.length)) (fun _ i => n - (intOf i).toNat)
  case atStart => exact ⟨0, 0, by omega, rfl, rfl, by omega, by unfold Hid; simp⟩
  case round =>
    obtain ⟨k, q, hk, rfl, rfl, hq, HQ⟩ := hrel
    by_cases hlt : k < n
    · have hkl : k < ls.length := by rw [← HL.out.2.1]; exact hlt
      have hlt2 : (k : Int) < n := by omega
      obtain ⟨b, o, B, d, rfl, hX, hb, hcell, hl, hd, hr⟩ := HL.out.1.at_ hkl
      have HF : Hid (q + (ls.getD k []).length = (ls.take (k + 1)).flatten.length ∧ q + (ls.getD k []).length ≤ 100000000) := by
        have h1 := flat_step ls k hkl
        have h2 := flat_le ls (k + 1)
        have h3 := HL.out.2.2
        rw [h1] at h2 ⊢
        rw [List.length_append] at h2 ⊢
        have := HQ.out
        exact ⟨by omega, by omega⟩
      have hqb := HF.out.2
      clear hr hX hb hl hd
      generalize (ls.getD k []).length = m at *
      go_wp2
      exact ⟨⟨k + 1, q + m, by omega, by go_num, by go_num, by omega, HF.out.1⟩, by simp [intOf]; omega⟩
    · obtain rfl : k = n := by omega
      have HQ2 : Hid (q = ls.flatten.length) := by
        have := HQ.out
        rwa [HL.out.2.1, List.take_length] at this
      go_wp2_with fail
      refine (grow_any q w (by omega)).mono ?_
      rintro e w' ⟨v, rfl, ho, hbl⟩
      have HO := Lib.hid ho
      have HB := Lib.hid hbl
      clear ho hbl
      go_wp2
      go_loopw [6, 27] (fun u i wr => ∃ (j : Nat), j ≤ k ∧ i = .int .i64 j ∧ Hid (OwnB wr w.heap.size u (ls.take j).flatten ∧ Below w.heap.size w wr)) (fun _ i _ => k - (intOf i).toNat)
      case atStart => exact ⟨0, by omega, rfl, by simpa using HO.out, HB.out⟩
      case round =>
        obtain ⟨j, hj, rfl, HX⟩ := hrel
        by_cases hlt : j < k
        · have hkl : j < ls.length := by rw [← HL.out.2.1]; exact hlt
          have hlt2 : (j : Int) < k := by omega
          obtain ⟨b, o, B, d, rfl, hX, hb, hcell, hl, hd, hr⟩ := HL.out.1.at_ hkl
          have hcell := (HX.out.2.cell (p := ⟨b, o + j, none⟩) hb).trans hcell
          have HR := Lib.hid (hr.rd.later HX.out.2)
          have HS := Lib.hid (flat_step ls j hkl)
          have hlen : (ls.take j).flatten.length + (ls.getD j []).length ≤ 1000000000 := by
            have h2 := flat_le ls (j + 1)
            rw [HS.out, List.length_append] at h2
            have h3 := HL.out.2.2
            omega
          clear hr hX hb hl hd
          generalize hm' : (ls.getD j []).length = m at *
          have HM := Lib.hid hm'
          clear hm'
          go_wp2_with (at_builtin; refine wpList_app rfl (.tmp 31) (.tmp 32) rfl w.heap.size u6 _ rfl HX.out.1 B m d (ls.getD j []) rfl HM.out.symm HR.out (by omega) HX.out.2.size ?_; intro v1 w1 hv1 hw1; rw [← HS.out] at hv1; have HV := Lib.hid (And.intro hv1 hw1); clear hv1 hw1)
          go_wp2
          exact ⟨⟨j + 1, by omega, by go_num, HV.out.1, HX.out.2.trans HV.out.2⟩, by simp [intOf]; omega⟩
        · obtain rfl : j = k := by omega
          go_wp2
          go_ret
          have h1 := HX.out.1
          rw [HL.out.2.1, List.take_length] at h1
          exact ⟨_, rfl, h1, HX.out.2⟩
end Go.Proofs.Ytnjbijndfbobbaa
