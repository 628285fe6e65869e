/- The document's PutRequest, of an AskInvoke: the same bytes. -/
import Derived.Test.YtnjbijndfbobbaaRefPut2
import Derived.Deep.RegionHeld3
namespace Go.Proofs.Ytnjbijndfbobbaa
open Go.RowKit
set_option maxRecDepth 100000
set_option linter.unusedVariables false

def PtN (w : World) (Q : List Value) (q : Req) (A B A2 : Option Addr) (n2 k2 : Nat) (l : List Int) (W : World) : Prop := n2 = l.length ∧ Pt w Q q A B (.slice A2 n2 k2) l W
section
variable {w W : World} {Q : List Value} {q : Req} {A B A2 : Option Addr} {n2 k2 : Nat} {l : List Int}
theorem PtN.rd (h : PtN w Q q A B A2 n2 k2 l W) : Rd W W.heap.size A2 l := by
  obtain ⟨Ax, cx, e, hr⟩ := h.2.arg
  injection e with e1 e2 e3
  subst e1
  exact hr
theorem putU_pt (W : World) (x : Int) (h : PtN w Q q A B A2 n2 k2 l W) (hl : l.length ≤ 100000) (x0 : 0 ≤ x) (x1 : x < 18446744073709551616) :
    Calls Try.prog 66 #[.slice A2 n2 k2, .int .u64 x] W fun e w' => ∃ (A3 : Option Addr) (n3 k3 : Nat), e = .returned (.slice A3 n3 k3) ∧ Hid (PtN w Q q A B A3 n3 k3 (l ++ encU x) w') := by
  refine (refPutU_any A2 l n2 k2 x W h.rd h.1 (by rw [h.1]; omega) x0 x1).mono ?_
  rintro e w' ⟨v', rfl, ho, hb⟩
  have h3 := h.2.put ho (h.2.2.2.1.app (encU_is x x0 x1)) hb
  obtain ⟨A3, k3, rfl, hr3⟩ := h3.arg
  exact ⟨A3, _, k3, rfl, rfl, h3⟩
theorem putName_pt (W : World) (nm : List Int) (h : PtN w Q q A B A2 n2 k2 l W) (hl : l.length ≤ 100000) (hn : nm.length ≤ 1000000) (hI : IsBytes nm) :
    Calls Try.prog 65 #[.slice A2 n2 k2, .string (strOfNums nm)] W fun e w' => ∃ (A3 : Option Addr) (n3 k3 : Nat), e = .returned (.slice A3 n3 k3) ∧ Hid (PtN w Q q A B A3 n3 k3 (l ++ encU nm.length ++ nm) w') := by
  refine (refName_any A2 l nm n2 k2 W h.rd h.1 (by rw [h.1]; omega) h.2.2.2.1 hn hI).mono ?_
  rintro e w' ⟨v', rfl, ho, hb⟩
  have h3 := h.2.put ho ((h.2.2.2.1.app (encU_is _ (by omega) (by omega))).app hI) hb
  obtain ⟨A3, k3, rfl, hr3⟩ := h3.arg
  exact ⟨A3, _, k3, rfl, rfl, h3⟩
end

set_option maxHeartbeats 4000000 in
theorem put_ref_four {X : Nat → Prop} (v : Value) (q : Req) (w : World) (hv : ReqV X w v q) (hk : q.kind = 4) (hn : q.name.length ≤ 1000) (hbd : q.body.length ≤ 100000) (ha : q.args.length ≤ 1000) :
    Calls Try.prog 21 #[v] w (PutPost (putReq q) w) := by
  obtain ⟨A, c, B, d, rfl, hA, hc1, hc2, hB, hd1, hd2, hok⟩ := hv
  obtain ⟨-, ⟨t0, t1⟩, ⟨h0, h1⟩, hnb, ⟨ti0, ti1⟩, ⟨o0, o1⟩⟩ := hok
  have hlA : RdX (· < w.heap.size) w A q.body := hA.mono (fun k hk _ => hk)
  have hlB : RdU (· < w.heap.size) w B q.args := hB.mono (fun k hk _ => hk)
  have HR := Lib.hid (And.intro hlA (And.intro hlB hnb))
  clear hA hB hlA hlB hnb hc1 hc2 hd1 hd2
  obtain ⟨kind, token, handle, name, body, args, ticks, other⟩ := q
  simp only at *
  generalize hbl : body.length = bl at *
  generalize hal : args.length = al at *
  have HBL := Lib.hid (And.intro hbl hal)
  clear hbl hal
  go_enter Try.func21, Try.ntmps21
  have HT0 : Hid (∀ z : Int, 0 ≤ z → z ≤ 255 → Pt w [.int .i64 kind, .int .u64 token, .int .u64 handle, .string (strOfNums name), .slice A bl c, .slice B al d, .int .u64 ticks, .int .u64 other] ⟨kind, token, handle, name, body, args, ticks, other⟩ A B (.slice (some ⟨w.heap.size + 1, 0, none⟩) 1 1) [z] ((w.alloc (.cells #[.int .i64 kind, .int .u64 token, .int .u64 handle, .string (strOfNums name), .slice A bl c, .slice B al d, .int .u64 ticks, .int .u64 other] 26)).alloc (.cells #[.int .u8 z] 5))) := by
    intro z hz0 hz1
    have hA := (Below.refl w.heap.size w).alloc (Nat.le_refl _) (.cells #[.int .i64 kind, .int .u64 token, .int .u64 handle, .string (strOfNums name), .slice A bl c, .slice B al d, .int .u64 ticks, .int .u64 other] 26)
    have h1 := Own.new w 26 [.int .i64 kind, .int .u64 token, .int .u64 handle, .string (strOfNums name), .slice A bl c, .slice B al d, .int .u64 ticks, .int .u64 other]
    have e1 : (w.alloc (.cells #[.int .i64 kind, .int .u64 token, .int .u64 handle, .string (strOfNums name), .slice A bl c, .slice B al d, .int .u64 ticks, .int .u64 other] 26)).heap.size = w.heap.size + 1 := by simp
    have hR1 := HR.out.1.later hA
    have hR2 := HR.out.2.1.later hA
    simp only [List.toArray] at h1
    generalize w.alloc (.cells #[.int .i64 kind, .int .u64 token, .int .u64 handle, .string (strOfNums name), .slice A bl c, .slice B al d, .int .u64 ticks, .int .u64 other] 26) = W at *
    have hB := (Below.refl W.heap.size W).alloc (Nat.le_refl _) (.cells #[.int .u8 z] 5)
    have h2 := ownB_lit1 W z
    rw [e1] at h2
    exact ⟨h1.later hB, h2, IsBytes.one hz0 hz1, hR1.later hB, hR2.later hB, hA.trans (hB.mono (by omega)), by simp; omega⟩
  have HT0 := Lib.hid (HT0.out kind (by omega) (by omega))
  obtain rfl : kind = 4 := hk
  have hname : name.length ≤ 1000000 := by omega
  have hwal : IntKind.u64.wrap (al : Int) = al := by rw [IntKind.wrap_u64]; omega
  obtain ⟨A0, c00, hA0, hR0⟩ := HT0.out.arg
  have eA0 : A0 = some ⟨w.heap.size + 1, 0, none⟩ := by injection hA0 with h; exact h.symm
  subst eA0
  have HR0 := Lib.hid hR0
  clear hR0 hA0
  go_wp2_with fail
  refine (eight_any _ _ 1 1 token _ HR0.out rfl (by omega) t0 t1).mono ?_
  rintro e w1 ⟨v1, rfl, ho, hg⟩
  have hT := HT0.out.put ho (HT0.out.2.2.1.app (be8_is token)) hg
  obtain ⟨c0, c1, c2, c3, c4, c5, c6, c7, -, -, -, -, -, -, -, -⟩ := own_cells8 hT.1
  obtain ⟨A1, k1, hA1, hR1⟩ := hT.arg
  subst hA1
  have KS : Hid (∀ (W : World) (v : Value) (l : List Int), Pt w [.int .i64 4, .int .u64 token, .int .u64 handle, .string (strOfNums name), .slice A bl c, .slice B al d, .int .u64 ticks, .int .u64 other] ⟨4, token, handle, name, body, args, ticks, other⟩ A B v l W → W.cell? ⟨w.heap.size, 2, none⟩ = some (.int .u64 handle) ∧ W.cell? ⟨w.heap.size, 3, none⟩ = some (.string (strOfNums name)) ∧ W.cell? ⟨w.heap.size, 5, none⟩ = some (.slice B al d) ∧ W.cell? ⟨w.heap.size, 6, none⟩ = some (.int .u64 ticks)) := fun W v l h => ⟨h.1.cell 2, h.1.cell 3, h.1.cell 5, h.1.cell 6⟩
  have HT : Hid (PtN w [.int .i64 4, .int .u64 token, .int .u64 handle, .string (strOfNums name), .slice A bl c, .slice B al d, .int .u64 ticks, .int .u64 other] ⟨4, token, handle, name, body, args, ticks, other⟩ A B A1 ([4] ++ be8 token).length k1 ([4] ++ be8 token) w1) := ⟨rfl, hT⟩
  clear ho hg hT HT0 HR0 hR1 c1 c2 c3 c4 c5 c6 c7
  generalize [Value.int .i64 4, .int .u64 token, .int .u64 handle, .string (strOfNums name), .slice A bl c, .slice B al d, .int .u64 ticks, .int .u64 other] = Q at *
  generalize ([4] ++ be8 token : List Int).length = n1 at *
  have HIN := Lib.hid HR.out.2.2
  have N1 : Hid (([4] ++ be8 token : List Int).length ≤ 9 ∧ ([4] ++ be8 token ++ encU handle : List Int).length ≤ 19 ∧ ([4] ++ be8 token ++ encU handle ++ encU name.length ++ name : List Int).length ≤ 1100 ∧ ∀ k, ([4] ++ be8 token ++ encU handle ++ encU name.length ++ name ++ encU al ++ encs (args.take k) : List Int).length ≤ 50000) := by
    have h2 := (encU_len handle).2
    have h3 := (encU_len name.length).2
    have h4 := (encU_len al).2
    refine ⟨by simp [be8_len], by simp only [List.length_append, be8_len, List.length_cons, List.length_nil]; omega, by simp only [List.length_append, be8_len, List.length_cons, List.length_nil]; omega, fun k => ?_⟩
    have h1 := encs_len (args.take k)
    have h5 : (args.take k).length ≤ al := by rw [List.length_take, HBL.out.2]; omega
    simp only [List.length_append, be8_len, List.length_cons, List.length_nil]
    omega
  go_upto_region 10 with fail
  clear c0
  go_cut [3] from 5 (fun s3 wx => ∃ (A3 : Option Addr) (n3 k3 : Nat), s3 = .slice A3 n3 k3 ∧ Hid (PtN w Q ⟨4, token, handle, name, body, args, ticks, other⟩ A B A3 n3 k3 ([4] ++ be8 token ++ encU handle ++ encU name.length ++ name ++ encU al) wx))
  case first =>
    have HTd : Hid (PtN w Q ⟨4, token, handle, name, body, args, ticks, other⟩ A B A1 n1 k1 ([4] ++ be8 token) w1.drew) := ⟨HT.out.1, HT.out.2.later (Below.refl _ _).drew⟩
    go_region_held (fun (w' : World) => w'.cell? ⟨w.heap.size, 2, none⟩ = some (.int .u64 handle) ∧ w'.cell? ⟨w.heap.size, 3, none⟩ = some (.string (strOfNums name)) ∧ w'.cell? ⟨w.heap.size, 5, none⟩ = some (.slice B al d) ∧ w'.cell? ⟨w.heap.size, 6, none⟩ = some (.int .u64 ticks)) (exact KS.out _ _ _ (by first | exact H4.out.2 | exact H3.out.2 | exact H2.out.2 | exact HTd.out.2))
      (first
        | (go_at_call 66; have hz := H3.out; refine (putU_pt w3 (al : Int) H3.out (by have := N1.out.2.2.1; omega) (by omega) (by omega)).mono ?_; rintro e w4 ⟨A4, n4, k4, rfl, H4⟩; clear hz)
        | (go_at_call 65; refine (putName_pt w2 name H2.out (by have := N1.out.2.1; omega) hname HIN.out).mono ?_; rintro e w3 ⟨A3, n3, k3, rfl, H3⟩)
        | (go_at_call 66; refine (putU_pt w1.drew handle HTd.out (by have := N1.out.1; omega) h0 h1).mono ?_; rintro e w2 ⟨A2, n2, k2, rfl, H2⟩))
    all_goals go_wp2_with fail
    all_goals go_meet
    all_goals exact ⟨A4, n4, k4, rfl, H4.out⟩
  case rest =>
    obtain ⟨A3, n3, k3, rfl, H3⟩ := hcut
    clear HT
    go_wp2_with fail
    go_loopw [3, 4] (fun u i wr => ∃ (k : Nat) (A5 : Option Addr) (n5 k5 : Nat), k ≤ al ∧ i = .int .i64 k ∧ u = .slice A5 n5 k5 ∧ Hid (PtN w Q ⟨4, token, handle, name, body, args, ticks, other⟩ A B A5 n5 k5 ([4] ++ be8 token ++ encU handle ++ encU name.length ++ name ++ encU al ++ encs (args.take k)) wr)) (fun _ i _ => al - (intOf i).toNat)
    case atStart => exact ⟨0, A3, n3, k3, by omega, rfl, rfl, by unfold Hid; simpa [encs] using H3.out⟩
    case round =>
      obtain ⟨k, A5, n5, k5, hk, rfl, rfl, HX⟩ := hrel
      clear H3
      obtain ⟨b2, b3, b5, b6⟩ := KS.out _ _ _ HX.out.2
      have hly := N1.out.2.2.2 k
      clear b2 b3
      by_cases hlt : k < al
      · have hlt2 : (k : Int) < al := by omega
        have hkl : k < args.length := by rw [HBL.out.2]; exact hlt
        obtain ⟨bb, oo, rfl, hcell, y0, y1⟩ := HX.out.2.2.2.2.2.1.at_ hkl
        have HS : Hid (encs (args.take (k + 1)) = encs (args.take k) ++ encU (args.getD k 0)) := by
          unfold Hid
          rw [List.take_add_one, encs_app, List.getD_eq_getElem?_getD, List.getElem?_eq_getElem hkl]
          simp [encs]
        simp only at hcell y0 y1
        generalize args.getD k 0 = y at *
        have HU := Lib.hid (putU_pt wr y HX.out (by omega) y0 y1)
        clear hkl hly
        go_wp2_with fail
        refine HU.out.mono ?_
        rintro e w2 ⟨A6, n6, k6, rfl, H6⟩
        clear HU
        go_wp2
        refine ⟨⟨k + 1, A6, n6, k6, by omega, by go_num, rfl, ?_⟩, ?_⟩
        · show PtN _ _ _ _ _ _ _ _ _ _
          rw [HS.out, ← List.append_assoc]
          exact H6.out
        · simp [intOf]; omega
      · obtain rfl : k = al := by omega
        have HU := Lib.hid (putU_pt wr ticks HX.out (by omega) ti0 ti1)
        clear hly
        go_wp2_with fail
        refine HU.out.mono ?_
        rintro e w2 ⟨A6, n6, k6, rfl, H6⟩
        clear HU
        go_wp2
        go_ret
        rw [show putReq ⟨4, token, handle, name, body, args, ticks, other⟩ = [4] ++ be8 token ++ encU handle ++ encU name.length ++ name ++ encU k ++ encs (args.take k) ++ encU ticks from by rw [List.take_of_length_le (by rw [HBL.out.2]; omega)]; simp [putReq, putRest, HBL.out.2]]
        exact H6.out.2.done

theorem put_ref {X : Nat → Prop} (v : Value) (q : Req) (w : World) (hv : ReqV X w v q) (hk : 1 ≤ q.kind ∧ q.kind ≤ 6) (hn : q.name.length ≤ 1000) (hbd : q.body.length ≤ 100000) (ha : q.args.length ≤ 1000) :
    Calls Try.prog 21 #[v] w (PutPost (putReq q) w) := by
  by_cases h4 : q.kind = 4
  · exact put_ref_four v q w hv h4 hn hbd ha
  · exact put_ref_most v q w hv hk h4 hn hbd ha
end Go.Proofs.Ytnjbijndfbobbaa
