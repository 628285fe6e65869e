/- code's writers: numbers. -/
import Derived.Test.YtdbbcbffmbcjiaaPuts
import Derived.Test.YtdbbcbffmbcjiaaCodeIn
import Derived.Test.YtdbbcbffmbcjiaaInsL
namespace Go.Proofs.Ytdbbcbffmbcjiaa
open Go.RowKit
set_option maxRecDepth 100000
set_option linter.unusedVariables false

theorem IsU32.u64 {l : List Int} (h : IsU32 l) : IsU64 l := fun z hz => by have := h z hz; omega
theorem encS_len (v : Int) : 0 < (encS v).length ∧ (encS v).length ≤ 10 := by
  unfold encS; rw [bytesOf_length]; exact ⟨List.length_pos_iff.2 (dgS_ne _ _), dgS_len 9 v⟩
theorem encS_is (v : Int) : IsBytes (encS v) := bytesS_is 9 v
theorem encs_take {l : List Int} {k : Nat} (hk : k < l.length) : encs (l.take (k + 1)) = encs (l.take k) ++ encU (l.getD k 0) := by
  rw [List.take_add_one, List.getElem?_eq_getElem hk, encs_app, List.getD_eq_getElem?_getD, List.getElem?_eq_getElem hk]
  simp [encs]
set_option maxHeartbeats 1000000 in
theorem cputNums_any (base : Nat) (v : Value) (l : List Int) (A : Option Addr) (ls : List Int) (n c : Nat) (w : World) (hv : OwnB w base v l) (hI : IsBytes l) (hb : base ≤ w.heap.size) (hr : RdQ (fun k => v.ownBlock ≠ some k) w A ls) (hn : n = ls.length) (hl : l.length + 10 * n ≤ 100000000) :
    Calls Try.prog 49 #[v, .slice A n c] w (GPost base v (l ++ encs ls) w) := by
  have HV := Lib.hid hv
  have HI := Lib.hid (And.intro hI hl)
  have HR := Lib.hid (And.intro hr hn)
  obtain ⟨Av, cv, rfl, -, -, -⟩ := hv.rdX hI
  have hnn : n ≤ 100000000 := by omega
  clear hv hI hr hn hl
  generalize hq : l.length = q at *
  have HQ := Lib.hid hq
  clear hq
  go_enter Try.func49, Try.ntmps49
  go_wp2
  go_loopw [0, 9] (fun u i wr => ∃ (k : Nat), k ≤ n ∧ i = .int .i64 k ∧ base ≤ wr.heap.size ∧ Hid (OwnB wr base u (l ++ encs (ls.take k)) ∧ Grew (.slice Av q cv) w u wr)) (fun _ i _ => n - (intOf i).toNat)
  case atStart => exact ⟨0, by omega, rfl, hb, by simpa [encs] using HV.out, Grew.refl _ _⟩
  case round =>
    obtain ⟨k, hk, rfl, hbr, HX⟩ := hrel
    by_cases hlt : k < n
    · have hlt2 : (k : Int) < n := by omega
      have hkl : k < ls.length := by rw [← HR.out.2]; exact hlt
      have hr2 := HR.out.1.chg HX.out.2.1 fun j _ hx e => hx e
      obtain ⟨ba, oa, rfl, hca, x0, x1⟩ := hr2.at_ hkl
      have HT := Lib.hid (encs_take hkl)
      have HB1 : Hid (IsBytes (l ++ encs (ls.take k)) ∧ (l ++ encs (ls.take k)).length ≤ 100000000) := by
        refine ⟨HI.out.1.app (encs_is _ fun z hz => (HR.out.1.1.u64) z (List.mem_of_mem_take hz)), ?_⟩
        have h1 := encs_len (ls.take k)
        have h2 : (ls.take k).length ≤ n := by rw [HR.out.2]; simp; omega
        have := HI.out.2; have := HQ.out
        simp; omega
      generalize ls.getD k 0 = z at *
      obtain ⟨Au, cu, hu, -, -, -⟩ := HX.out.1.rdX HB1.out.1
      clear hr2 hkl
      have HU := Lib.hid (putU_any none [] 0 0 z wr (Rd.nil _ _ _) rfl (by omega) x0 (by omega))
      subst hu
      generalize hql : (l ++ encs (ls.take k)).length = ql at *
      have HQL := Lib.hid hql
      clear hql
      go_wp2_with fail
      refine HU.out.mono ?_
      rintro e w2 ⟨v2, rfl, ho2, hb2⟩
      rw [List.nil_append] at ho2
      obtain ⟨A2, c2, rfl, -, -, hr2⟩ := ho2.rdX (encU_is z x0 (by omega))
      have H2 : Hid (OwnB w2 base (.slice Au ql cu) (l ++ encs (ls.take k)) ∧ RdX (fun k => (Value.slice A2 (encU z).length c2).ownBlock = some k) w2 A2 (encU z) ∧ Below wr.heap.size wr w2) := ⟨OwnB.later HX.out.1 hb2, hr2, hb2⟩
      have hs2 := hb2.size
      clear ho2 hb2 hr2 hca
      have hel := (encU_len z).2
      generalize hqe : (encU z).length = qe at *
      have HQE := Lib.hid hqe
      clear hqe
      go_wp2_with (at_builtin; refine wpList_appXG rfl (.tmp 13) (.tmp 16) rfl base (.slice Au ql cu) (l ++ encs (ls.take k)) rfl H2.out.1 A2 qe c2 (encU z) rfl HQE.out.symm H2.out.2.1 (by have := HB1.out.2; have := HQL.out; omega) (by omega) ?_; intro v3 w3 hv3 hw3; rw [List.append_assoc, ← HT.out] at hv3; have H3 := Lib.hid (And.intro hv3 (hw3.before H2.out.2.2 (fun k hk => owns_lt HX.out.1 hk))); clear hv3 hw3)
      go_wp2
      refine ⟨⟨k + 1, by omega, by go_num, by have := H3.out.2.1.size; omega, H3.out.1, HX.out.2.trans H3.out.2⟩, ?_⟩
      simp [intOf]; omega
    · obtain rfl : k = n := by omega
      go_wp2
      go_ret
      refine ⟨_, rfl, ?_, HX.out.2⟩
      have := HX.out.1
      rwa [List.take_of_length_le (by rw [← HR.out.2]; omega)] at this
set_option maxHeartbeats 1000000 in
theorem cputSigned_any (base : Nat) (v : Value) (l : List Int) (z : Int) (w : World) (hv : OwnB w base v l) (hI : IsBytes l) (hb : base ≤ w.heap.size) (hl : l.length ≤ 100000000) (z0 : -9223372036854775808 ≤ z) (z1 : z ≤ 9223372036854775807) :
    Calls Try.prog 48 #[v, .int .i64 z] w (GPost base v (l ++ encS z) w) := by
  have HV := Lib.hid hv
  obtain ⟨Av, cv, rfl, -, -, -⟩ := hv.rdX hI
  clear hv hI
  have HU := Lib.hid (putS_any none [] 0 0 z w (Rd.nil _ _ _) rfl (by omega) z0 (by omega))
  generalize hq : l.length = q at *
  have HQ := Lib.hid hq
  clear hq
  go_enter Try.func48, Try.ntmps48
  go_wp2_with fail
  refine HU.out.mono ?_
  rintro e w2 ⟨v2, rfl, ho2, hb2⟩
  rw [List.nil_append] at ho2
  obtain ⟨A2, c2, rfl, -, -, hr2⟩ := ho2.rdX (encS_is z)
  have H2 : Hid (OwnB w2 base (.slice Av q cv) l ∧ RdX (fun k => (Value.slice A2 (encS z).length c2).ownBlock = some k) w2 A2 (encS z) ∧ Below w.heap.size w w2) := ⟨OwnB.later HV.out hb2, hr2, hb2⟩
  have hs2 := hb2.size
  clear ho2 hb2 hr2
  have hel := (encS_len z).2
  generalize hqe : (encS z).length = qe at *
  have HQE := Lib.hid hqe
  clear hqe
  go_wp2_with (at_builtin; refine wpList_appXG rfl (.tmp 5) (.tmp 7) rfl base (.slice Av q cv) l rfl H2.out.1 A2 qe c2 (encS z) rfl HQE.out.symm H2.out.2.1 (by have := HQ.out; omega) (by omega) ?_; intro v3 w3 hv3 hw3; have H3 := Lib.hid (And.intro hv3 (hw3.before H2.out.2.2 (fun k hk => owns_lt HV.out hk))); clear hv3 hw3)
  go_ret
  exact ⟨_, rfl, H3.out.1, H3.out.2⟩
end Go.Proofs.Ytdbbcbffmbcjiaa
