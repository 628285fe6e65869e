/- req.Put and req.PutReply. -/
import Derived.Test.YtnjbijndfbobbaaPuts
import Derived.Deep.RegionHeld3
namespace Go.Proofs.Ytnjbijndfbobbaa
open Go.RowKit
set_option maxRecDepth 100000
set_option linter.unusedVariables false

set_option maxHeartbeats 1000000 in
theorem putList_any {X : Nat → Prop} (base : Nat) (v : Value) (l ns : List Int) (B : Option Addr) (m d : Nat) (w : World) (hv : OwnB w base v l) (hl : l.length ≤ 1000000) (hb : base ≤ w.heap.size) (hI : IsBytes l)
    (hr : RdU X w B ns) (hm : m = ns.length) (hm2 : m ≤ 10000) (hx : ∀ k, k < w.heap.size → X k → v.ownBlock ≠ some k) :
    Calls Try.prog 63 #[v, .slice B m d] w (GPost base v (l ++ encU m ++ encs ns) w) := by
  have HV := Lib.hid hv
  have HI := Lib.hid hI
  have HR := Lib.hid (And.intro hr (And.intro hm hx))
  obtain ⟨A, c, rfl, -, -, -⟩ := hv.rdX hI
  clear hv hI hr hm hx
  generalize hq : l.length = q at *
  have HQ := Lib.hid hq
  clear hq
  go_enter Try.func63, Try.ntmps63
  have hb0 : Below w.heap.size w (w.alloc (.cells #[.int .u64 m] 22)) := (Below.refl _ _).alloc (Nat.le_refl _) _
  have hlit := rdU_lit w [(m : Int)] (IsU64.one (by omega) (by omega))
  have hv1 := HV.out.later hb0
  have HB := Lib.hid (And.intro hb0 (And.intro hlit hv1))
  clear hb0 hlit hv1
  go_wp2_with fail
  refine (putNumbers_any base (.slice A q c) l [(m : Int)] _ 1 1 _ HB.out.2.2 (by rw [HQ.out]; omega) (by simp; omega) HI.out HB.out.2.1 rfl (by omega) ?_).mono ?_
  · intro k hk e h; have h1 := owns_lt HV.out h; omega
  rintro e w1 ⟨v1, rfl, ho, hg⟩
  have hg1 := hg.before HB.out.1 fun k hk => owns_lt HV.out hk
  have hs1 := hg1.1.size
  have hRu : RdU (fun k => X k ∧ k < w.heap.size) w1 B ns := hg1.rdU (X := fun k => X k ∧ k < w.heap.size) ⟨HR.out.1.1, HR.out.1.2.lt⟩ fun k hk hX => HR.out.2.2 k hk hX.1
  have hI1 : IsBytes (l ++ encs [(m : Int)]) := HI.out.app (encs_is _ (IsU64.one (by omega) (by omega)))
  have hl1 : (l ++ encs [(m : Int)]).length ≤ 10000000 := by have h1 := encs_len [(m : Int)]; have := HQ.out; simp at h1 ⊢; omega
  have H1 := Lib.hid (And.intro ho (And.intro hg1 (And.intro hRu (And.intro hI1 hl1))))
  clear ho hg hg1 hRu hI1 hl1
  go_wp2_with fail
  refine (putNumbers_any base v1 _ ns B m d w1 H1.out.1 H1.out.2.2.2.2 (by omega) H1.out.2.2.2.1 H1.out.2.2.1 HR.out.2.1 hm2 ?_).mono ?_
  · intro k hk hX h
    rcases H1.out.2.1.2 k h with h1 | h1
    · exact HR.out.2.2 k hX.2 hX.1 h1
    · omega
  rintro e w2 ⟨v2, rfl, ho, hg⟩
  have H2 := Lib.hid (And.intro ho (H1.out.2.1.trans hg))
  clear ho hg
  go_wp2
  go_ret
  refine ⟨v2, rfl, ?_, H2.out.2⟩
  have := H2.out.1
  simpa [encs] using this

set_option maxHeartbeats 1000000 in
theorem putName_any (base : Nat) (v : Value) (l nm : List Int) (w : World) (hv : OwnB w base v l) (hl : l.length ≤ 1000000) (hb : base ≤ w.heap.size) (hI : IsBytes l) (hn : nm.length ≤ 1000000) (hnb : IsBytes nm) :
    Calls Try.prog 61 #[v, .string (strOfNums nm)] w (GPost base v (l ++ encU nm.length ++ nm) w) := by
  have HV := Lib.hid hv
  have HI := Lib.hid (And.intro hI hnb)
  obtain ⟨A, c, rfl, -, -, -⟩ := hv.rdX hI
  clear hv hI hnb
  have hss : (strOfNums nm).size = nm.length := strOfNums_size nm
  generalize hq : l.length = q at *
  have HQ := Lib.hid hq
  clear hq
  generalize hnm : nm.length = m at *
  have HM := Lib.hid hnm
  clear hnm
  go_enter Try.func61, Try.ntmps61
  have hb0 : Below w.heap.size w (w.alloc (.cells #[.int .u64 m] 22)) := (Below.refl _ _).alloc (Nat.le_refl _) _
  have hlit := rdU_lit w [(m : Int)] (IsU64.one (by omega) (by omega))
  have hv1 := HV.out.later hb0
  have HB := Lib.hid (And.intro hb0 (And.intro hlit hv1))
  clear hb0 hlit hv1
  go_wp2_with fail
  refine (putNumbers_any base (.slice A q c) l [(m : Int)] _ 1 1 _ HB.out.2.2 (by rw [HQ.out]; omega) (by simp; omega) HI.out.1 HB.out.2.1 rfl (by omega) ?_).mono ?_
  · intro k hk e h; have h1 := owns_lt HV.out h; omega
  rintro e w1 ⟨v1, rfl, ho, hg⟩
  have hg1 := hg.before HB.out.1 fun k hk => owns_lt HV.out hk
  have hs1 := hg1.1.size
  have hl1 : (l ++ encs [(m : Int)]).length ≤ 10000000 := by have h1 := encs_len [(m : Int)]; have := HQ.out; simp at h1 ⊢; omega
  have H1 := Lib.hid (And.intro ho (And.intro hg1 hl1))
  obtain ⟨A1, c1, hA1, -, -, -⟩ := ho.rdX (HI.out.1.app (encs_is _ (IsU64.one (by omega) (by omega))))
  subst hA1
  clear ho hg hg1 hl1
  generalize hq1 : (l ++ encs [(m : Int)]).length = q1 at *
  have HQ1 := Lib.hid hq1
  clear hq1
  go_wp2_with (at_builtin; refine wpList_appStr rfl (.tmp 10) (.tmp 11) rfl base _ _ rfl H1.out.1 nm HI.out.2 rfl (by have := H1.out.2.2; have := HM.out; have := HQ1.out; omega) (by omega) ?_; intro v2 w2 hv2 hw2; have H2 := Lib.hid (And.intro hv2 (H1.out.2.1.trans hw2)); clear hv2 hw2)
  go_wp2
  go_ret
  refine ⟨_, rfl, ?_, H2.out.2⟩
  have := H2.out.1
  simpa [encs] using this
end Go.Proofs.Ytnjbijndfbobbaa
