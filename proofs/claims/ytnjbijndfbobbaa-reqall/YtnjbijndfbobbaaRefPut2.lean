/- The document's PutRequest: the same bytes. -/
import Derived.Test.YtnjbijndfbobbaaRefPut
import Derived.Deep.Cut
import Derived.Deep.RegionWith
namespace Go.Proofs.Ytnjbijndfbobbaa
open Go.RowKit
set_option maxRecDepth 100000
set_option linter.unusedVariables false

section
variable {w : World} {Q : List Value} {q : Req} {A B : Option Addr} {v v' : Value} {l l' : List Int} {wr w' : World}
theorem Pt.put (h : Pt w Q q A B v l wr) (ho : OwnB w' wr.heap.size v' l') (hI : IsBytes l') (hb : Below wr.heap.size wr w') : Pt w Q q A B v' l' w' := by
  have h2 := h.later hb
  exact ⟨h2.1, ho.base h.2.2.2.2.2.2, hI, h2.2.2.2.1, h2.2.2.2.2.1, h2.2.2.2.2.2.1, h2.2.2.2.2.2.2⟩
/-- What the next call is handed. -/
theorem Pt.arg (h : Pt w Q q A B v l wr) : ∃ A2 c2, v = .slice A2 l.length c2 ∧ Rd wr wr.heap.size A2 l := by
  obtain ⟨A2, c2, h1, h2, _⟩ := h.2.1.form h.2.2.1
  exact ⟨A2, c2, h1, h2⟩
end

set_option maxHeartbeats 4000000 in
theorem put_ref_most {X : Nat → Prop} (v : Value) (q : Req) (w : World) (hv : ReqV X w v q) (hk : 1 ≤ q.kind ∧ q.kind ≤ 6) (h4 : q.kind ≠ 4) (hn : q.name.length ≤ 1000) (hbd : q.body.length ≤ 100000) (ha : q.args.length ≤ 1000) :
    Calls Try.prog 21 #[v] w (PutPost (putReq q) w) := by
  obtain ⟨A, c, B, d, rfl, hA, hc1, hc2, hB, hd1, hd2, hok⟩ := hv
  obtain ⟨-, ⟨t0, t1⟩, ⟨h0, h1⟩, hnb, ⟨ti0, ti1⟩, ⟨o0, o1⟩⟩ := hok
  have hlA : RdX (· < w.heap.size) w A q.body := hA.mono (fun k hk _ => hk)
  have hlB : RdU (· < w.heap.size) w B q.args := hB.mono (fun k hk _ => hk)
  have HR := Lib.hid (And.intro hlA (And.intro hlB hnb))
  clear hA hB hlA hlB hnb hc1 hc2 hd1 hd2
  obtain ⟨kind, token, handle, name, body, args, ticks, other⟩ := q
  simp only at *
  generalize hbl : body.length = bl at *
  generalize hal : args.length = al at *
  have HBL := Lib.hid (And.intro hbl hal)
  clear hbl hal
  go_enter Try.func21, Try.ntmps21
  have HT0 : Hid (∀ z : Int, 0 ≤ z → z ≤ 255 → Pt w [.int .i64 kind, .int .u64 token, .int .u64 handle, .string (strOfNums name), .slice A bl c, .slice B al d, .int .u64 ticks, .int .u64 other] ⟨kind, token, handle, name, body, args, ticks, other⟩ A B (.slice (some ⟨w.heap.size + 1, 0, none⟩) 1 1) [z] ((w.alloc (.cells #[.int .i64 kind, .int .u64 token, .int .u64 handle, .string (strOfNums name), .slice A bl c, .slice B al d, .int .u64 ticks, .int .u64 other] 26)).alloc (.cells #[.int .u8 z] 5))) := by
    intro z hz0 hz1
    have hA := (Below.refl w.heap.size w).alloc (Nat.le_refl _) (.cells #[.int .i64 kind, .int .u64 token, .int .u64 handle, .string (strOfNums name), .slice A bl c, .slice B al d, .int .u64 ticks, .int .u64 other] 26)
    have h1 := Own.new w 26 [.int .i64 kind, .int .u64 token, .int .u64 handle, .string (strOfNums name), .slice A bl c, .slice B al d, .int .u64 ticks, .int .u64 other]
    have e1 : (w.alloc (.cells #[.int .i64 kind, .int .u64 token, .int .u64 handle, .string (strOfNums name), .slice A bl c, .slice B al d, .int .u64 ticks, .int .u64 other] 26)).heap.size = w.heap.size + 1 := by simp
    have hR1 := HR.out.1.later hA
    have hR2 := HR.out.2.1.later hA
    simp only [List.toArray] at h1
    generalize w.alloc (.cells #[.int .i64 kind, .int .u64 token, .int .u64 handle, .string (strOfNums name), .slice A bl c, .slice B al d, .int .u64 ticks, .int .u64 other] 26) = W at *
    have hB := (Below.refl W.heap.size W).alloc (Nat.le_refl _) (.cells #[.int .u8 z] 5)
    have h2 := ownB_lit1 W z
    rw [e1] at h2
    exact ⟨h1.later hB, h2, IsBytes.one hz0 hz1, hR1.later hB, hR2.later hB, hA.trans (hB.mono (by omega)), by simp; omega⟩
  have HT0 := Lib.hid (HT0.out kind (by omega) (by omega))
  rcases show kind = 1 ∨ kind = 2 ∨ kind = 3 ∨ kind = 5 ∨ kind = 6 from by omega with rfl | rfl | rfl | rfl | rfl
  all_goals
    obtain ⟨A0, c00, hA0, hR0⟩ := HT0.out.arg
    have eA0 : A0 = some ⟨w.heap.size + 1, 0, none⟩ := by injection hA0 with h; exact h.symm
    subst eA0
    have HR0 := Lib.hid hR0
    clear hR0 hA0
    go_wp2_with fail
    refine (eight_any _ _ 1 1 token _ HR0.out rfl (by omega) t0 t1).mono ?_
    rintro e w1 ⟨v1, rfl, ho, hg⟩
    have hT := HT0.out.put ho (HT0.out.2.2.1.app (be8_is token)) hg
    obtain ⟨c0, c1, c2, c3, c4, c5, c6, c7, -, -, -, -, -, -, -, -⟩ := own_cells8 hT.1
    obtain ⟨A1, k1, hA1, hR1⟩ := hT.arg
    subst hA1
    have HT := Lib.hid (And.intro hT hR1)
    clear ho hg hT HT0 HR0 hR1
    simp only [List.length_append, be8_len, List.length_cons, List.length_nil, Nat.zero_add, Nat.reduceAdd] at *
  · -- 1
    go_wp2_with (at_builtin; refine wpList_appXG rfl (.tmp 16) (.tmp 18) rfl (w.heap.size + 1) _ _ rfl HT.out.1.2.1 A bl c body rfl HBL.out.1.symm HT.out.1.2.2.2.1 (by simp [be8_len]; omega) HT.out.1.2.2.2.2.2.2 ?_; intro v2 w2 hv2 hw2; have H2 := Lib.hid (HT.out.1.step hv2 (HT.out.1.2.2.1.app HR.out.1.1) hw2); clear hv2 hw2)
    go_wp2
    go_ret
    exact H2.out.done
  · -- 2
    have CU : Hid (∀ (W : World) (l : List Int) (A2 : Option Addr) (k2 : Nat) (x : Int), 0 ≤ x → x < 18446744073709551616 → l.length ≤ 100000 → Pt w [.int .i64 2, .int .u64 token, .int .u64 handle, .string (strOfNums name), .slice A bl c, .slice B al d, .int .u64 ticks, .int .u64 other] ⟨2, token, handle, name, body, args, ticks, other⟩ A B (.slice A2 l.length k2) l W → Rd W W.heap.size A2 l → Calls Try.prog 66 #[.slice A2 l.length k2, .int .u64 x] W (fun e w' => ∃ A3 k3, e = .returned (.slice A3 (l ++ encU x).length k3) ∧ Pt w [.int .i64 2, .int .u64 token, .int .u64 handle, .string (strOfNums name), .slice A bl c, .slice B al d, .int .u64 ticks, .int .u64 other] ⟨2, token, handle, name, body, args, ticks, other⟩ A B (.slice A3 (l ++ encU x).length k3) (l ++ encU x) w' ∧ Rd w' w'.heap.size A3 (l ++ encU x))) := by
      intro W l A2 k2 x x0 x1 hl hp hr
      refine (refPutU_any A2 l _ k2 x W hr rfl (by omega) x0 x1).mono ?_
      rintro e w' ⟨v', rfl, ho, hb⟩
      have h3 := hp.put ho (hp.2.2.1.app (encU_is x x0 x1)) hb
      obtain ⟨A3, k3, rfl, hr3⟩ := h3.arg
      exact ⟨A3, k3, rfl, h3, hr3⟩
    have CM : Hid (∀ (W : World) (l : List Int) (A2 : Option Addr) (k2 : Nat), l.length ≤ 100000 → Pt w [.int .i64 2, .int .u64 token, .int .u64 handle, .string (strOfNums name), .slice A bl c, .slice B al d, .int .u64 ticks, .int .u64 other] ⟨2, token, handle, name, body, args, ticks, other⟩ A B (.slice A2 l.length k2) l W → Rd W W.heap.size A2 l → Calls Try.prog 65 #[.slice A2 l.length k2, .string (strOfNums name)] W (fun e w' => ∃ A3 k3, e = .returned (.slice A3 (l ++ encU name.length ++ name).length k3) ∧ Pt w [.int .i64 2, .int .u64 token, .int .u64 handle, .string (strOfNums name), .slice A bl c, .slice B al d, .int .u64 ticks, .int .u64 other] ⟨2, token, handle, name, body, args, ticks, other⟩ A B (.slice A3 (l ++ encU name.length ++ name).length k3) (l ++ encU name.length ++ name) w' ∧ Rd w' w'.heap.size A3 (l ++ encU name.length ++ name))) := by
      intro W l A2 k2 hl hp hr
      refine (refName_any A2 l name _ k2 W hr rfl (by omega) hp.2.2.1 (by omega) HR.out.2.2).mono ?_
      rintro e w' ⟨v', rfl, ho, hb⟩
      have h3 := hp.put ho ((hp.2.2.1.app (encU_is _ (by omega) (by omega))).app HR.out.2.2) hb
      obtain ⟨A3, k3, rfl, hr3⟩ := h3.arg
      exact ⟨A3, k3, rfl, h3, hr3⟩
    have hL : ([2] ++ be8 token).length = 9 := by simp [be8_len]
    have hU := CU.out w1.drew ([2] ++ be8 token) A1 k1 handle h0 h1 (by rw [hL]; omega) (by rw [hL]; exact HT.out.1.later ((Below.refl _ _).drew)) (HT.out.2.later ((Below.refl _ _).drew))
    rw [hL] at hU
    have HU := Lib.hid hU
    clear hU
    have hgw : w.heap.size < w1.heap.size := HT.out.1.2.2.2.2.2.2
    clear c1 c4 c5 c6 c7
    go_wp2
    clear c0
    go_region_with (first
      | (go_at_call 66; refine HU.out.mono ?_; rintro e w2 ⟨A2, k2, rfl, hp, hr⟩; have d3 := hp.1.cell 3; simp only [List.getElem?_cons_succ, List.getElem?_cons_zero] at d3; have H2 := Lib.hid (CM.out w2 _ A2 k2 (by have := (encU_len handle).2; simp [be8_len]; omega) hp hr); clear hp hr; generalize (([2] ++ be8 token) ++ encU handle).length = n2 at *)
      | (go_at_call 65; refine H2.out.mono ?_; rintro e w3 ⟨A3, k3, rfl, hp, -⟩; have H3 := Lib.hid hp; clear hp; generalize (([2] ++ be8 token) ++ encU handle ++ encU name.length ++ name).length = n3 at *))
    all_goals go_wp2
    all_goals go_ret
    all_goals
      rw [show putReq ⟨2, token, handle, name, body, args, ticks, other⟩ = [2] ++ be8 token ++ encU handle ++ encU name.length ++ name from by simp [putReq, putRest]]
      exact H3.out.done
  · -- 3
    have CM : Hid (∀ (W : World) (l : List Int) (A2 : Option Addr) (k2 : Nat), l.length ≤ 100000 → Pt w [.int .i64 3, .int .u64 token, .int .u64 handle, .string (strOfNums name), .slice A bl c, .slice B al d, .int .u64 ticks, .int .u64 other] ⟨3, token, handle, name, body, args, ticks, other⟩ A B (.slice A2 l.length k2) l W → Rd W W.heap.size A2 l → Calls Try.prog 65 #[.slice A2 l.length k2, .string (strOfNums name)] W (fun e w' => ∃ A3 k3, e = .returned (.slice A3 (l ++ encU name.length ++ name).length k3) ∧ Pt w [.int .i64 3, .int .u64 token, .int .u64 handle, .string (strOfNums name), .slice A bl c, .slice B al d, .int .u64 ticks, .int .u64 other] ⟨3, token, handle, name, body, args, ticks, other⟩ A B (.slice A3 (l ++ encU name.length ++ name).length k3) (l ++ encU name.length ++ name) w' ∧ Rd w' w'.heap.size A3 (l ++ encU name.length ++ name))) := by
      intro W l A2 k2 hl hp hr
      refine (refName_any A2 l name _ k2 W hr rfl (by omega) hp.2.2.1 (by omega) HR.out.2.2).mono ?_
      rintro e w' ⟨v', rfl, ho, hb⟩
      have h3 := hp.put ho ((hp.2.2.1.app (encU_is _ (by omega) (by omega))).app HR.out.2.2) hb
      obtain ⟨A3, k3, rfl, hr3⟩ := h3.arg
      exact ⟨A3, k3, rfl, h3, hr3⟩
    have hL : ([3] ++ be8 token).length = 9 := by simp [be8_len]
    have hU := CM.out w1 ([3] ++ be8 token) A1 k1 (by rw [hL]; omega) (by rw [hL]; exact HT.out.1) HT.out.2
    rw [hL] at hU
    have HU := Lib.hid hU
    clear hU
    go_wp2_with fail
    refine HU.out.mono ?_
    rintro e w2 ⟨A2, k2, rfl, hp, -⟩
    have H2 := Lib.hid hp
    clear hp
    generalize (([3] ++ be8 token) ++ encU name.length ++ name).length = n2 at *
    go_wp2
    go_ret
    rw [show putReq ⟨3, token, handle, name, body, args, ticks, other⟩ = [3] ++ be8 token ++ encU name.length ++ name from by simp [putReq, putRest]]
    exact H2.out.done
  · -- 5
    have CU : Hid (∀ (W : World) (l : List Int) (A2 : Option Addr) (k2 : Nat) (x : Int), 0 ≤ x → x < 18446744073709551616 → l.length ≤ 100000 → Pt w [.int .i64 5, .int .u64 token, .int .u64 handle, .string (strOfNums name), .slice A bl c, .slice B al d, .int .u64 ticks, .int .u64 other] ⟨5, token, handle, name, body, args, ticks, other⟩ A B (.slice A2 l.length k2) l W → Rd W W.heap.size A2 l → Calls Try.prog 66 #[.slice A2 l.length k2, .int .u64 x] W (fun e w' => ∃ A3 k3, e = .returned (.slice A3 (l ++ encU x).length k3) ∧ Pt w [.int .i64 5, .int .u64 token, .int .u64 handle, .string (strOfNums name), .slice A bl c, .slice B al d, .int .u64 ticks, .int .u64 other] ⟨5, token, handle, name, body, args, ticks, other⟩ A B (.slice A3 (l ++ encU x).length k3) (l ++ encU x) w' ∧ Rd w' w'.heap.size A3 (l ++ encU x))) := by
      intro W l A2 k2 x x0 x1 hl hp hr
      refine (refPutU_any A2 l _ k2 x W hr rfl (by omega) x0 x1).mono ?_
      rintro e w' ⟨v', rfl, ho, hb⟩
      have h3 := hp.put ho (hp.2.2.1.app (encU_is x x0 x1)) hb
      obtain ⟨A3, k3, rfl, hr3⟩ := h3.arg
      exact ⟨A3, k3, rfl, h3, hr3⟩
    have hL : ([5] ++ be8 token).length = 9 := by simp [be8_len]
    have hU := CU.out w1 ([5] ++ be8 token) A1 k1 handle h0 h1 (by rw [hL]; omega) (by rw [hL]; exact HT.out.1) HT.out.2
    rw [hL] at hU
    have HU := Lib.hid hU
    clear hU
    go_wp2_with fail
    refine HU.out.mono ?_
    rintro e w2 ⟨A2, k2, rfl, hp, -⟩
    have H2 := Lib.hid hp
    clear hp
    generalize (([5] ++ be8 token) ++ encU handle).length = n2 at *
    go_wp2
    go_ret
    rw [show putReq ⟨5, token, handle, name, body, args, ticks, other⟩ = [5] ++ be8 token ++ encU handle from by simp [putReq, putRest]]
    exact H2.out.done
  · -- 6
    go_wp2_with fail
    refine (eight_any _ _ 9 _ other _ HT.out.2 (by simp [be8_len]) (by omega) o0 o1).mono ?_
    rintro e w2 ⟨v2, rfl, ho, hg⟩
    have H2 := Lib.hid (HT.out.1.put ho (HT.out.1.2.2.1.app (be8_is other)) hg)
    obtain ⟨A2, k2, hA2, -⟩ := H2.out.arg
    subst hA2
    clear ho hg
    generalize ([6] ++ be8 token ++ be8 other).length = n2 at *
    go_wp2
    go_ret
    rw [show putReq ⟨6, token, handle, name, body, args, ticks, other⟩ = [6] ++ be8 token ++ be8 other from by simp [putReq, putRest]]
    exact H2.out.done
end Go.Proofs.Ytnjbijndfbobbaa
