/- req.Put: which bytes a request has. -/
import Derived.Test.YtnjbijndfbobbaaPuts2
import Derived.Deep.RegionWith
namespace Go.Proofs.Ytnjbijndfbobbaa
open Go.RowKit
set_option maxRecDepth 100000
set_option linter.unusedVariables false

def putRest (q : Req) : List Int :=
  if q.kind = 1 then q.body
  else if q.kind = 2 then encU q.handle ++ encU q.name.length ++ q.name
  else if q.kind = 3 then encU q.name.length ++ q.name
  else if q.kind = 4 then encU q.handle ++ encU q.name.length ++ q.name ++ encU q.args.length ++ encs q.args ++ encU q.ticks
  else if q.kind = 5 then encU q.handle
  else be8 q.other
def putReq (q : Req) : List Int := q.kind :: be8 q.token ++ putRest q
theorem ownB_lit1 (w : World) (z : Int) : OwnB (w.alloc (.cells #[.int .u8 z] 5)) w.heap.size (.slice (some ⟨w.heap.size, 0, none⟩) 1 1) [z] :=
  ⟨by simp, .inr ⟨w.heap.size, 1, #[.int .u8 z], rfl, Nat.le_refl _, heap_alloc_new w _, by simp, by simp [maxLen], by simp, by simp⟩⟩
def PutPost (l : List Int) (w : World) (e : Ending) (w' : World) : Prop := ∃ v, e = .returned v ∧ OwnB w' w.heap.size v l ∧ Below w.heap.size w w'
/-- Within Put: the request in block g, the bytes so far in v. -/
def Pt (w : World) (Q : List Value) (q : Req) (A B : Option Addr) (v : Value) (l : List Int) (wr : World) : Prop :=
  Own wr w.heap.size 26 Q ∧ OwnB wr (w.heap.size + 1) v l ∧ IsBytes l ∧ RdX (· < w.heap.size) wr A q.body ∧ RdU (· < w.heap.size) wr B q.args ∧ Below w.heap.size w wr ∧ w.heap.size + 1 ≤ wr.heap.size
section
variable {w : World} {Q : List Value} {q : Req} {A B : Option Addr} {v v' : Value} {l l' : List Int} {wr w' : World}
theorem Pt.step (h : Pt w Q q A B v l wr) (ho : OwnB w' (w.heap.size + 1) v' l') (hI : IsBytes l') (hg : Grew v wr v' w') : Pt w Q q A B v' l' w' := by
  obtain ⟨p1, p2, p3, p4, p5, p6, p7⟩ := h
  have hs := hg.1.size
  have hf : ∀ k, k ≤ w.heap.size → ¬ v.ownBlock = some k := fun k hk e => by have := owns_ge p2 e; omega
  exact ⟨p1.chg hg.1 (hf _ (Nat.le_refl _)), ho, hI, p4.chg hg.1 fun k _ hk => hf k (by omega), p5.chg hg.1 fun k _ hk => hf k (by omega), p6.trans (hg.1.below (by omega) fun i hi e => by have := owns_ge p2 e; omega), by omega⟩
theorem Pt.later (h : Pt w Q q A B v l wr) (hb : Below wr.heap.size wr w') : Pt w Q q A B v l w' := by
  obtain ⟨p1, p2, p3, p4, p5, p6, p7⟩ := h
  have hs := hb.size
  exact ⟨p1.later hb, p2.later hb, p3, p4.later hb, p5.later hb, p6.trans (hb.mono (by omega)), by omega⟩
theorem Pt.before (h : Pt w Q q A B v l wr) {k : Nat} (hk : v.ownBlock = some k) : w.heap.size < k := by have := owns_ge h.2.1 hk; omega
def PtPost (w : World) (Q : List Value) (q : Req) (A B : Option Addr) (l : List Int) (v0 : Value) (w0 : World) (e : Ending) (w' : World) : Prop := ∃ v, e = .returned v ∧ Pt w Q q A B v l w' ∧ Grew v0 w0 v w'
theorem Pt.done (h : Pt w Q q A B v l wr) : PutPost l w (.returned v) wr := ⟨v, rfl, h.2.1.base (by omega), h.2.2.2.2.2.1⟩
end

set_option maxHeartbeats 2000000 in
theorem put_most {X : Nat → Prop} (v : Value) (q : Req) (w : World) (hv : ReqV X w v q) (hk : 1 ≤ q.kind ∧ q.kind ≤ 6) (h4 : q.kind ≠ 4) (hn : q.name.length ≤ 1000) (hbd : q.body.length ≤ 100000) (ha : q.args.length ≤ 1000) :
    Calls Try.prog 20 #[v] w (PutPost (putReq q) w) := by
  obtain ⟨A, c, B, d, rfl, hA, hc1, hc2, hB, hd1, hd2, hok⟩ := hv
  obtain ⟨-, ⟨t0, t1⟩, ⟨h0, h1⟩, hnb, ⟨ti0, ti1⟩, ⟨o0, o1⟩⟩ := hok
  have hlA : RdX (· < w.heap.size) w A q.body := hA.mono (fun k hk _ => hk)
  have hlB : RdU (· < w.heap.size) w B q.args := hB.mono (fun k hk _ => hk)
  have HR := Lib.hid (And.intro hlA (And.intro hlB hnb))
  clear hA hB hlA hlB hnb hc1 hc2 hd1 hd2
  obtain ⟨kind, token, handle, name, body, args, ticks, other⟩ := q
  simp only at *
  generalize hbl : body.length = bl at *
  generalize hal : args.length = al at *
  have HBL := Lib.hid (And.intro hbl hal)
  clear hbl hal
  go_enter Try.func20, Try.ntmps20
  have HT0 : Hid (∀ z : Int, 0 ≤ z → z ≤ 255 → Pt w [.int .i64 kind, .int .u64 token, .int .u64 handle, .string (strOfNums name), .slice A bl c, .slice B al d, .int .u64 ticks, .int .u64 other] ⟨kind, token, handle, name, body, args, ticks, other⟩ A B (.slice (some ⟨w.heap.size + 1, 0, none⟩) 1 1) [z] ((w.alloc (.cells #[.int .i64 kind, .int .u64 token, .int .u64 handle, .string (strOfNums name), .slice A bl c, .slice B al d, .int .u64 ticks, .int .u64 other] 26)).alloc (.cells #[.int .u8 z] 5))) := by
    intro z hz0 hz1
    have hA := (Below.refl w.heap.size w).alloc (Nat.le_refl _) (.cells #[.int .i64 kind, .int .u64 token, .int .u64 handle, .string (strOfNums name), .slice A bl c, .slice B al d, .int .u64 ticks, .int .u64 other] 26)
    have h1 := Own.new w 26 [.int .i64 kind, .int .u64 token, .int .u64 handle, .string (strOfNums name), .slice A bl c, .slice B al d, .int .u64 ticks, .int .u64 other]
    have e1 : (w.alloc (.cells #[.int .i64 kind, .int .u64 token, .int .u64 handle, .string (strOfNums name), .slice A bl c, .slice B al d, .int .u64 ticks, .int .u64 other] 26)).heap.size = w.heap.size + 1 := by simp
    have hR1 := HR.out.1.later hA
    have hR2 := HR.out.2.1.later hA
    simp only [List.toArray] at h1
    generalize w.alloc (.cells #[.int .i64 kind, .int .u64 token, .int .u64 handle, .string (strOfNums name), .slice A bl c, .slice B al d, .int .u64 ticks, .int .u64 other] 26) = W at *
    have hB := (Below.refl W.heap.size W).alloc (Nat.le_refl _) (.cells #[.int .u8 z] 5)
    have h2 := ownB_lit1 W z
    rw [e1] at h2
    exact ⟨h1.later hB, h2, IsBytes.one hz0 hz1, hR1.later hB, hR2.later hB, hA.trans (hB.mono (by omega)), by simp; omega⟩
  have HT0 := Lib.hid (HT0.out kind (by omega) (by omega))
  obtain hkk : kind = 1 ∨ kind = 2 ∨ kind = 3 ∨ kind = 5 ∨ kind = 6 := by omega
  clear h4
  rcases hkk with rfl | rfl | rfl | rfl | rfl
  all_goals
    go_wp2_with fail
    refine (putWord_any (w.heap.size + 1) _ _ token _ HT0.out.2.1 (by simp) HT0.out.2.2.2.2.2.2 HT0.out.2.2.1 t0 t1).mono ?_
    rintro e w1 ⟨v1, rfl, ho, hg⟩
    have hT := HT0.out.step ho (HT0.out.2.2.1.app (be8_is token)) hg
    obtain ⟨c0, c1, c2, c3, c4, c5, c6, c7, f0, f1, f2, f3, f4, f5, f6, f7⟩ := own_cells8 hT.1
    have HT := Lib.hid hT
    obtain ⟨A1, k1, hA1, -, -, -⟩ := ho.rdX (HT0.out.2.2.1.app (be8_is token))
    subst hA1
    clear ho hg hT HT0 f0 f1 f2 f3 f4 f5 f6 f7
    simp only [List.length_append, be8_len, List.length_cons, List.length_nil, Nat.zero_add, Nat.reduceAdd] at *
  · -- 1
    go_wp2_with (at_builtin; refine wpList_appXG rfl (.tmp 15) (.tmp 17) rfl (w.heap.size + 1) _ _ rfl HT.out.2.1 A bl c body rfl HBL.out.1.symm HT.out.2.2.2.1 (by simp [be8_len]; omega) HT.out.2.2.2.2.2.2 ?_; intro v2 w2 hv2 hw2; have H2 := Lib.hid (HT.out.step hv2 (HT.out.2.2.1.app HR.out.1.1) hw2); clear hv2 hw2)
    go_wp2
    go_ret
    exact H2.out.done
  · -- 2
    have HL := Lib.hid ((rdU_lit w1 [handle] (IsU64.one h0 h1)).later ((Below.refl _ _).drew))
    have hb0 : Below w1.heap.size w1 (w1.alloc (.cells #[.int .u64 handle] 22)).drew := ((Below.refl _ _).alloc (Nat.le_refl _) _).drew
    have H0 := Lib.hid (And.intro (HT.out.later hb0) hb0)
    clear hb0
    have CN : Hid (Calls Try.prog 62 #[.slice A1 9 k1, .slice (some ⟨w1.heap.size, 0, none⟩) 1 1] (w1.alloc (.cells #[.int .u64 handle] 22)).drew (GPost (w.heap.size + 1) (.slice A1 9 k1) ([2] ++ be8 token ++ encs [handle]) (w1.alloc (.cells #[.int .u64 handle] 22)).drew)) := by
      refine putNumbers_any (w.heap.size + 1) _ _ [handle] _ 1 1 _ H0.out.1.2.1 (by simp [be8_len]) H0.out.1.2.2.2.2.2.2 HT.out.2.2.1 HL.out rfl (by omega) ?_
      intro k hk e h
      have h1 := owns_lt HT.out.2.1 h
      have : k = w1.heap.size := e
      omega
    have hgw : w.heap.size < w1.heap.size := HT.out.2.2.2.2.2.2
    have CM : Hid (∀ (w2 : World) (A2 : Option Addr) (n2 k2 : Nat), Pt w [.int .i64 2, .int .u64 token, .int .u64 handle, .string (strOfNums name), .slice A bl c, .slice B al d, .int .u64 ticks, .int .u64 other] ⟨2, token, handle, name, body, args, ticks, other⟩ A B (.slice A2 n2 k2) ([2] ++ be8 token ++ encs [handle]) w2 → Calls Try.prog 61 #[.slice A2 n2 k2, .string (strOfNums name)] w2 (PutPost (putReq ⟨2, token, handle, name, body, args, ticks, other⟩) w)) := by
      intro w2 A2 n2 k2 h2
      refine (putName_any (w.heap.size + 1) _ _ name _ h2.2.1 (by have := encs_len [handle]; simp [be8_len] at this ⊢; omega) h2.2.2.2.2.2.2 h2.2.2.1 (by omega) HR.out.2.2).mono ?_
      rintro e w3 ⟨v3, rfl, ho, hg⟩
      have := (h2.step ho ((h2.2.2.1.app (encU_is _ (by omega) (by omega))).app HR.out.2.2) hg).done
      simpa [putReq, putRest, encs] using this
    clear c1 c4 c5 c6 c7
    go_wp2
    clear c0
    go_region_with (first
      | (go_at_call 62; refine CN.out.mono ?_; rintro e w2 ⟨v2, rfl, ho, hg⟩; have hT2 := H0.out.1.step ho (HT.out.2.2.1.app (encs_is _ (IsU64.one h0 h1))) hg; have d3 := hT2.1.cell 3; simp only [List.getElem?_cons_succ, List.getElem?_cons_zero] at d3; obtain ⟨A2, k2, hA2, -, -, -⟩ := hT2.2.1.rdX hT2.2.2.1; subst hA2; have H2 := Lib.hid hT2; clear ho hg hT2; generalize ([2] ++ be8 token ++ encs [handle]).length = n2 at *)
      | (go_at_call 61; refine (CM.out _ _ _ _ H2.out).mono ?_; rintro e w3 ⟨v3, rfl, ho, hg⟩; have H3 := Lib.hid (And.intro ho hg); clear ho hg))
    all_goals go_wp2
    all_goals go_ret
    all_goals exact ⟨_, rfl, H3.out.1, H3.out.2⟩
  · -- 3
    go_wp2_with fail
    refine (putName_any (w.heap.size + 1) _ _ name _ HT.out.2.1 (by simp [be8_len]) HT.out.2.2.2.2.2.2 HT.out.2.2.1 (by omega) HR.out.2.2).mono ?_
    rintro e w2 ⟨v2, rfl, ho, hg⟩
    have hl : (0 : Int) ≤ name.length ∧ (name.length : Int) < 18446744073709551616 := by omega
    have H2 := Lib.hid (HT.out.step ho ((HT.out.2.2.1.app (encU_is _ hl.1 hl.2)).app HR.out.2.2) hg)
    clear ho hg
    go_wp2
    go_ret
    have := H2.out.done
    simpa [putReq, putRest] using this
  · -- 5
    have HL := Lib.hid (rdU_lit w1 [handle] (IsU64.one h0 h1))
    have hb0 : Below w1.heap.size w1 (w1.alloc (.cells #[.int .u64 handle] 22)) := (Below.refl _ _).alloc (Nat.le_refl _) _
    have H0 := Lib.hid (And.intro (HT.out.later hb0) hb0)
    clear hb0
    go_wp2_with fail
    refine (putNumbers_any (w.heap.size + 1) _ _ [handle] _ 1 1 _ H0.out.1.2.1 (by simp [be8_len]) H0.out.1.2.2.2.2.2.2 HT.out.2.2.1 HL.out rfl (by omega) ?_).mono ?_
    · intro k hk e h; have h1 := owns_lt HT.out.2.1 h; omega
    rintro e w2 ⟨v2, rfl, ho, hg⟩
    have H2 := Lib.hid (H0.out.1.step ho (HT.out.2.2.1.app (encs_is _ (IsU64.one h0 h1))) hg)
    clear ho hg
    go_wp2
    go_ret
    have := H2.out.done
    simpa [putReq, putRest, encs] using this
  · -- 6
    go_wp2_with fail
    refine (putWord_any (w.heap.size + 1) _ _ other _ HT.out.2.1 (by simp [be8_len]) HT.out.2.2.2.2.2.2 HT.out.2.2.1 o0 o1).mono ?_
    rintro e w2 ⟨v2, rfl, ho, hg⟩
    have H2 := Lib.hid (HT.out.step ho (HT.out.2.2.1.app (be8_is other)) hg)
    clear ho hg
    go_wp2
    go_ret
    exact H2.out.done
end Go.Proofs.Ytnjbijndfbobbaa
