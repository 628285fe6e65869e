/- req.Put of an AskInvoke. -/
import Derived.Test.YtnjbijndfbobbaaPut3
import Derived.Deep.Cut
namespace Go.Proofs.Ytnjbijndfbobbaa
open Go.RowKit
set_option maxRecDepth 100000
set_option linter.unusedVariables false

set_option maxHeartbeats 8000000 in
theorem put_four {X : Nat → Prop} (v : Value) (q : Req) (w : World) (hv : ReqV X w v q) (hk : q.kind = 4) (hn : q.name.length ≤ 1000) (hbd : q.body.length ≤ 100000) (ha : q.args.length ≤ 1000) :
    Calls Try.prog 20 #[v] w (PutPost (putReq q) w) := by
  obtain ⟨A, c, B, d, rfl, hA, hc1, hc2, hB, hd1, hd2, hok⟩ := hv
  obtain ⟨-, ⟨t0, t1⟩, ⟨h0, h1⟩, hnb, ⟨ti0, ti1⟩, ⟨o0, o1⟩⟩ := hok
  have hlA : RdX (· < w.heap.size) w A q.body := hA.mono (fun k hk _ => hk)
  have hlB : RdU (· < w.heap.size) w B q.args := hB.mono (fun k hk _ => hk)
  have HR := Lib.hid (And.intro hlA (And.intro hlB hnb))
  clear hA hB hlA hlB hnb hc1 hc2 hd1 hd2
  obtain ⟨kind, token, handle, name, body, args, ticks, other⟩ := q
  simp only at *
  subst hk
  generalize hbl : body.length = bl at *
  generalize hal : args.length = al at *
  have HBL := Lib.hid (And.intro hbl hal)
  clear hbl hal
  go_enter Try.func20, Try.ntmps20
  have HT0 : Hid (∀ z : Int, 0 ≤ z → z ≤ 255 → Pt w [.int .i64 4, .int .u64 token, .int .u64 handle, .string (strOfNums name), .slice A bl c, .slice B al d, .int .u64 ticks, .int .u64 other] ⟨4, token, handle, name, body, args, ticks, other⟩ A B (.slice (some ⟨w.heap.size + 1, 0, none⟩) 1 1) [z] ((w.alloc (.cells #[.int .i64 4, .int .u64 token, .int .u64 handle, .string (strOfNums name), .slice A bl c, .slice B al d, .int .u64 ticks, .int .u64 other] 26)).alloc (.cells #[.int .u8 z] 5))) := by
    intro z hz0 hz1
    have hA := (Below.refl w.heap.size w).alloc (Nat.le_refl _) (.cells #[.int .i64 4, .int .u64 token, .int .u64 handle, .string (strOfNums name), .slice A bl c, .slice B al d, .int .u64 ticks, .int .u64 other] 26)
    have h1 := Own.new w 26 [.int .i64 4, .int .u64 token, .int .u64 handle, .string (strOfNums name), .slice A bl c, .slice B al d, .int .u64 ticks, .int .u64 other]
    have e1 : (w.alloc (.cells #[.int .i64 4, .int .u64 token, .int .u64 handle, .string (strOfNums name), .slice A bl c, .slice B al d, .int .u64 ticks, .int .u64 other] 26)).heap.size = w.heap.size + 1 := by simp
    have hR1 := HR.out.1.later hA
    have hR2 := HR.out.2.1.later hA
    simp only [List.toArray] at h1
    generalize w.alloc (.cells #[.int .i64 4, .int .u64 token, .int .u64 handle, .string (strOfNums name), .slice A bl c, .slice B al d, .int .u64 ticks, .int .u64 other] 26) = W at *
    have hB := (Below.refl W.heap.size W).alloc (Nat.le_refl _) (.cells #[.int .u8 z] 5)
    have h2 := ownB_lit1 W z
    rw [e1] at h2
    exact ⟨h1.later hB, h2, IsBytes.one hz0 hz1, hR1.later hB, hR2.later hB, hA.trans (hB.mono (by omega)), by simp; omega⟩
  have HT0 := Lib.hid (HT0.out 4 (by omega) (by omega))
  go_wp2_with fail
  refine (putWord_any (w.heap.size + 1) _ _ token _ HT0.out.2.1 (by simp) HT0.out.2.2.2.2.2.2 HT0.out.2.2.1 t0 t1).mono ?_
  rintro e w1 ⟨v1, rfl, ho, hg⟩
  have hT := HT0.out.step ho (HT0.out.2.2.1.app (be8_is token)) hg
  obtain ⟨c0, c1, c2, c3, c4, c5, c6, c7, f0, f1, f2, f3, f4, f5, f6, f7⟩ := own_cells8 hT.1
  have HT := Lib.hid hT
  obtain ⟨A1, k1, hA1, -, -, -⟩ := ho.rdX (HT0.out.2.2.1.app (be8_is token))
  subst hA1
  clear ho hg hT HT0 f0 f1 f2 f3 f4 f5 f6 f7
  simp only [List.length_append, be8_len, List.length_cons, List.length_nil, Nat.zero_add, Nat.reduceAdd] at *
  have HL := Lib.hid ((rdU_lit w1 [handle] (IsU64.one h0 h1)).later ((Below.refl _ _).drew))
  have hb0 : Below w1.heap.size w1 (w1.alloc (.cells #[.int .u64 handle] 22)).drew := ((Below.refl _ _).alloc (Nat.le_refl _) _).drew
  have H0 := Lib.hid (And.intro (HT.out.later hb0) hb0)
  clear hb0
  have CN : Hid (Calls Try.prog 62 #[.slice A1 9 k1, .slice (some ⟨w1.heap.size, 0, none⟩) 1 1] (w1.alloc (.cells #[.int .u64 handle] 22)).drew (GPost (w.heap.size + 1) (.slice A1 9 k1) ([4] ++ be8 token ++ encs [handle]) (w1.alloc (.cells #[.int .u64 handle] 22)).drew)) := by
    refine putNumbers_any (w.heap.size + 1) _ _ [handle] _ 1 1 _ H0.out.1.2.1 (by simp [be8_len]) H0.out.1.2.2.2.2.2.2 HT.out.2.2.1 HL.out rfl (by omega) ?_
    intro k hk e h
    have h1 := owns_lt HT.out.2.1 h
    have : k = w1.heap.size := e
    omega
  have hgw : w.heap.size < w1.heap.size := HT.out.2.2.2.2.2.2
  have CM : Hid (∀ (w2 : World) (A2 : Option Addr) (n2 k2 : Nat), Pt w [.int .i64 4, .int .u64 token, .int .u64 handle, .string (strOfNums name), .slice A bl c, .slice B al d, .int .u64 ticks, .int .u64 other] ⟨4, token, handle, name, body, args, ticks, other⟩ A B (.slice A2 n2 k2) ([4] ++ be8 token ++ encs [handle]) w2 → Calls Try.prog 61 #[.slice A2 n2 k2, .string (strOfNums name)] w2 (PtPost w [.int .i64 4, .int .u64 token, .int .u64 handle, .string (strOfNums name), .slice A bl c, .slice B al d, .int .u64 ticks, .int .u64 other] ⟨4, token, handle, name, body, args, ticks, other⟩ A B ([4] ++ be8 token ++ encs [handle] ++ encU name.length ++ name) (.slice A2 n2 k2) w2)) := by
    intro w2 A2 n2 k2 h2
    refine (putName_any (w.heap.size + 1) _ _ name _ h2.2.1 (by have := encs_len [handle]; simp [be8_len] at this ⊢; omega) h2.2.2.2.2.2.2 h2.2.2.1 (by omega) HR.out.2.2).mono ?_
    rintro e w3 ⟨v3, rfl, ho, hg⟩
    exact ⟨v3, rfl, h2.step ho ((h2.2.2.1.app (encU_is _ (by omega) (by omega))).app HR.out.2.2) hg, hg⟩
  have CL : Hid (∀ (w2 : World) (A2 : Option Addr) (n2 k2 : Nat), Pt w [.int .i64 4, .int .u64 token, .int .u64 handle, .string (strOfNums name), .slice A bl c, .slice B al d, .int .u64 ticks, .int .u64 other] ⟨4, token, handle, name, body, args, ticks, other⟩ A B (.slice A2 n2 k2) ([4] ++ be8 token ++ encs [handle] ++ encU name.length ++ name) w2 → Calls Try.prog 63 #[.slice A2 n2 k2, .slice B al d] w2 (PtPost w [.int .i64 4, .int .u64 token, .int .u64 handle, .string (strOfNums name), .slice A bl c, .slice B al d, .int .u64 ticks, .int .u64 other] ⟨4, token, handle, name, body, args, ticks, other⟩ A B ([4] ++ be8 token ++ encs [handle] ++ encU name.length ++ name ++ encU al ++ encs args) (.slice A2 n2 k2) w2)) := by
    intro w2 A2 n2 k2 h2
    refine (putList_any (w.heap.size + 1) _ _ args B al d _ h2.2.1 (by have h5 := encs_len [handle]; have h6 := (encU_len name.length).2; simp [be8_len] at h5 h6 ⊢; omega) h2.2.2.2.2.2.2 h2.2.2.1 h2.2.2.2.2.1 HBL.out.2.symm (by omega) (fun k hk hX e => by have := h2.before e; omega)).mono ?_
    rintro e w3 ⟨v3, rfl, ho, hg⟩
    exact ⟨v3, rfl, h2.step ho ((h2.2.2.1.app (encU_is _ (by omega) (by omega))).app (encs_is _ HR.out.2.1.1)) hg, hg⟩
  have CT : Hid (∀ (w2 : World) (A2 : Option Addr) (n2 k2 lit : Nat), Pt w [.int .i64 4, .int .u64 token, .int .u64 handle, .string (strOfNums name), .slice A bl c, .slice B al d, .int .u64 ticks, .int .u64 other] ⟨4, token, handle, name, body, args, ticks, other⟩ A B (.slice A2 n2 k2) ([4] ++ be8 token ++ encs [handle] ++ encU name.length ++ name ++ encU al ++ encs args) w2 → RdU (fun k => k = lit) w2 (some ⟨lit, 0, none⟩) [ticks] → (Value.slice A2 n2 k2).ownBlock ≠ some lit → Calls Try.prog 62 #[.slice A2 n2 k2, .slice (some ⟨lit, 0, none⟩) 1 1] w2 (PutPost (putReq ⟨4, token, handle, name, body, args, ticks, other⟩) w)) := by
    intro w2 A2 n2 k2 lit h2 hr hne
    refine (putNumbers_any (w.heap.size + 1) _ _ [ticks] _ 1 1 _ h2.2.1 (by have h5 := encs_len [handle]; have h6 := (encU_len name.length).2; have h7 := (encU_len al).2; have h8 := encs_len args; have := HBL.out.2; simp [be8_len] at h5 h6 h7 h8 ⊢; omega) h2.2.2.2.2.2.2 h2.2.2.1 hr rfl (by omega) (fun k hk e h => by have : k = lit := e; subst this; exact hne h)).mono ?_
    rintro e w3 ⟨v3, rfl, ho, hg⟩
    have := (h2.step ho (h2.2.2.1.app (encs_is _ (IsU64.one ti0 ti1))) hg).done
    have e1 := HBL.out.2
    simpa [putReq, putRest, encs, e1] using this
  clear c1 c4 c5 c6 c7
  go_wp2
  clear c0
  go_cut [3] from 4 (fun s3 wx => ∃ (A3 : Option Addr) (n3 k3 : Nat), s3 = .slice A3 n3 k3 ∧ Hid (Pt w [.int .i64 4, .int .u64 token, .int .u64 handle, .string (strOfNums name), .slice A bl c, .slice B al d, .int .u64 ticks, .int .u64 other] ⟨4, token, handle, name, body, args, ticks, other⟩ A B (.slice A3 n3 k3) ([4] ++ be8 token ++ encs [handle] ++ encU name.length ++ name) wx))
  case first =>
    go_region_with (first
      | (go_at_call 62; refine CN.out.mono ?_; rintro e w2 ⟨v2, rfl, ho, hg⟩; have hT2 := H0.out.1.step ho (HT.out.2.2.1.app (encs_is _ (IsU64.one h0 h1))) hg; have d3 := hT2.1.cell 3; simp only [List.getElem?_cons_succ, List.getElem?_cons_zero] at d3; obtain ⟨A2, k2, hA2, -, -, -⟩ := hT2.2.1.rdX hT2.2.2.1; subst hA2; have H2 := Lib.hid hT2; clear ho hg hT2; generalize ([4] ++ be8 token ++ encs [handle]).length = n2 at *)
      | (go_at_call 61; refine (CM.out _ _ _ _ H2.out).mono ?_; rintro e w3 ⟨v3, rfl, hp, hg⟩; obtain ⟨A3, k3, hA3, -, -, -⟩ := hp.2.1.rdX hp.2.2.1; subst hA3; have H3 := Lib.hid hp; clear hp hg; generalize ([4] ++ be8 token ++ encs [handle] ++ encU name.length ++ name).length = n3 at *))
    all_goals
      go_wp2_with fail
      go_meet
      exact ⟨_, _, _, rfl, H3⟩
  case rest =>
    obtain ⟨A3, n3, k3, rfl, H3⟩ := hcut
    have e5 := H3.out.1.cell 5
    have e6 := H3.out.1.cell 6
    simp only [List.getElem?_cons_succ, List.getElem?_cons_zero] at e5 e6
    have hgwc : w.heap.size < wc.heap.size := H3.out.2.2.2.2.2.2
    clear CN CM HL H0 c2 c3
    have H3d := Lib.hid (H3.out.later ((Below.refl _ _).drew))
    have H3l := Lib.hid (H3.out.later (((Below.refl wc.heap.size wc).alloc (Nat.le_refl _) (.cells #[.int .u64 ticks] 22)).drew))
    have HLt : Hid (RdU (fun k => k = wc.heap.size) (wc.alloc (.cells #[.int .u64 ticks] 22)).drew (some ⟨wc.heap.size, 0, none⟩) [ticks]) := (rdU_lit wc [ticks] (IsU64.one ti0 ti1)).later ((Below.refl _ _).drew)
    go_wp2
    go_region_with (first
      | (go_at_call 63; refine (CL.out wc.drew _ _ _ H3d.out).mono ?_; rintro e w4 ⟨v4, rfl, hp, hg⟩; obtain ⟨A4, k4, hA4, -, -, -⟩ := hp.2.1.rdX hp.2.2.1; subst hA4; have g6 := hp.1.cell 6; simp only [List.getElem?_cons_succ, List.getElem?_cons_zero] at g6; have hgw4 : w.heap.size < w4.heap.size := hp.2.2.2.2.2.2; have hT4 : Hid (Calls Try.prog 62 #[.slice A4 _ k4, .slice (some ⟨w4.heap.size, 0, none⟩) 1 1] (w4.alloc (.cells #[.int .u64 ticks] 22)) (PutPost (putReq ⟨4, token, handle, name, body, args, ticks, other⟩) w)) := CT.out _ _ _ _ _ (hp.later ((Below.refl _ _).alloc (Nat.le_refl _) _)) (rdU_lit w4 [ticks] (IsU64.one ti0 ti1)) (fun e => by have := owns_lt hp.2.1 e; omega); clear hp hg; generalize ([4] ++ be8 token ++ encs [handle] ++ encU name.length ++ name ++ encU al ++ encs args).length = n4 at *)
      | (go_at_call 63; refine (CL.out (wc.alloc (.cells #[.int .u64 ticks] 22)).drew _ _ _ H3l.out).mono ?_; rintro e w4 ⟨v4, rfl, hp, hg⟩; obtain ⟨A4, k4, hA4, -, -, -⟩ := hp.2.1.rdX hp.2.2.1; subst hA4; have hT4 : Hid (Calls Try.prog 62 #[.slice A4 _ k4, .slice (some ⟨wc.heap.size, 0, none⟩) 1 1] w4 (PutPost (putReq ⟨4, token, handle, name, body, args, ticks, other⟩) w)) := CT.out _ _ _ _ _ hp (HLt.out.chg hg.1 (fun k _ e h => by have := owns_lt H3.out.2.1 h; have : k = wc.heap.size := e; omega)) (fun e => by rcases hg.2 _ e with h | h; (have := owns_lt H3.out.2.1 h; omega); (have hz : (wc.alloc (.cells #[.int .u64 ticks] 22)).drew.heap.size = wc.heap.size + 1 := by simp); omega); clear hp hg; generalize ([4] ++ be8 token ++ encs [handle] ++ encU name.length ++ name ++ encU al ++ encs args).length = n4 at *)
      | (go_at_call 62; refine hT4.out.mono ?_; rintro e w5 ⟨v5, rfl, ho, hg⟩; have H5 := Lib.hid (And.intro ho hg); clear ho hg))
    all_goals go_wp2
    all_goals go_ret
    all_goals exact ⟨_, rfl, H5.out.1, H5.out.2⟩
end Go.Proofs.Ytnjbijndfbobbaa
