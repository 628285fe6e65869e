/- types.Same, types.Ref, and the document's: which types are one. -/
import Derived.Test.YtnjbijndfbobbaaTypesTake
import Derived.Test.YtnjbijndfbobbaaSames
import Derived.Deep.Cut
namespace Go.Proofs.Ytnjbijndfbobbaa
open Go.RowKit
set_option maxRecDepth 100000
set_option linter.unusedVariables false

theorem fn_eq (f g : Fn) : decide (f = g) = (decide (f.1 = g.1) && decide (f.2 = g.2)) := by
  obtain ⟨a, b⟩ := f
  obtain ⟨c, d⟩ := g
  simp only [Prod.mk.injEq]
  by_cases h1 : a = c <;> by_cases h2 : b = d <;> simp [h1, h2]
set_option maxHeartbeats 1000000 in
theorem sameFn_any {X Y : Nat → Prop} (v u : Value) (f g : Fn) (w : World) (hf : FnV X w v f) (hg : FnV Y w u g) :
    Calls Try.prog 42 #[v, u] w fun e w' => e = .returned (.bool (decide (f = g))) ∧ Below w.heap.size w w' := by
  obtain ⟨A, c, B, d, rfl, hA, -, -, hB, -, -⟩ := hf
  obtain ⟨A', c', B', d', rfl, hA', -, -, hB', -, -⟩ := hg
  rw [fn_eq]
  obtain ⟨f1, f2⟩ := f
  obtain ⟨g1, g2⟩ := g
  simp only at *
  have hbel := Bx.below w [.slice A f1.length c, .slice B f2.length d] [.slice A' g1.length c', .slice B' g2.length d'] 52
  have ho1 := Bx.own1 w [.slice A f1.length c, .slice B f2.length d] [.slice A' g1.length c', .slice B' g2.length d'] 52
  have ho2 := Bx.own2 w [.slice A f1.length c, .slice B f2.length d] [.slice A' g1.length c', .slice B' g2.length d'] 52
  go_enter Try.func42, Try.ntmps42
  go_upto_region 1 with fail
  change Code.wp _ _ _ _ (Bx w [.slice A f1.length c, .slice B f2.length d] [.slice A' g1.length c', .slice B' g2.length d'] 52)
  generalize Bx w [.slice A f1.length c, .slice B f2.length d] [.slice A' g1.length c', .slice B' g2.length d'] 52 = W at *
  have E1 := Lib.hid (equalBytes_any A A' f1 g1 f1.length g1.length c c' W (hA.later hbel) (hA'.later hbel) rfl rfl)
  have E2 := Lib.hid (equalBytes_any B B' f2 g2 f2.length g2.length d d' W (hB.later hbel) (hB'.later hbel) rfl rfl)
  obtain ⟨k0, k1, -, -⟩ := own_cells2 ho1
  obtain ⟨j0, j1, -, -⟩ := own_cells2 ho2
  have HB := Lib.hid hbel
  clear hA hB hA' hB' hbel ho1 ho2
  generalize f1.length = a1 at *
  generalize f2.length = a2 at *
  generalize g1.length = b1 at *
  generalize g2.length = b2 at *
  generalize hr1 : decide (f1 = g1) = r1 at E1
  generalize hr2 : decide (f2 = g2) = r2 at E2
  have HR := Lib.hid (And.intro hr1 hr2)
  clear hr1 hr2
  go_wp2_with fail
  refine E1.out.mono ?_
  rintro e w' ⟨rfl, rfl⟩
  cases r1 with
  | true =>
    go_wp2_with fail
    refine E2.out.mono ?_
    rintro e w' ⟨rfl, rfl⟩
    go_wp2
    go_ret
    refine ⟨?_, HB.out⟩
    show Ending.returned (.bool r2) = _
    have h1 := HR.out.1
    rw [← HR.out.2]
    simp only [decide_eq_true_eq] at h1
    simp [h1]
  | false =>
    go_wp2
    go_ret
    refine ⟨?_, HB.out⟩
    show Ending.returned (.bool false) = _
    have h1 := HR.out.1
    simp only [decide_eq_false_iff_not] at h1
    simp [h1]
set_option maxHeartbeats 1000000 in
theorem sameFnD_any {X Y : Nat → Prop} (v u : Value) (f g : Fn) (w : World) (hf : FnV X w v f) (hg : FnV Y w u g) :
    Calls Try.prog 37 #[v, u] w fun e w' => e = .returned (.bool (decide (f = g))) ∧ Below w.heap.size w w' := by
  obtain ⟨A, c, B, d, rfl, hA, -, -, hB, -, -⟩ := hf
  obtain ⟨A', c', B', d', rfl, hA', -, -, hB', -, -⟩ := hg
  rw [fn_eq]
  obtain ⟨f1, f2⟩ := f
  obtain ⟨g1, g2⟩ := g
  simp only at *
  have q1 := strOfNums_eq hA.1 hA'.1
  have q2 := strOfNums_eq hB.1 hB'.1
  have hbel := Bx.below w [.slice A f1.length c, .slice B f2.length d] [.slice A' g1.length c', .slice B' g2.length d'] 52
  have ho1 := Bx.own1 w [.slice A f1.length c, .slice B f2.length d] [.slice A' g1.length c', .slice B' g2.length d'] 52
  have ho2 := Bx.own2 w [.slice A f1.length c, .slice B f2.length d] [.slice A' g1.length c', .slice B' g2.length d'] 52
  go_enter Try.func37, Try.ntmps37
  go_upto_region 1 with fail
  change Code.wp _ _ _ _ (Bx w [.slice A f1.length c, .slice B f2.length d] [.slice A' g1.length c', .slice B' g2.length d'] 52)
  generalize Bx w [.slice A f1.length c, .slice B f2.length d] [.slice A' g1.length c', .slice B' g2.length d'] 52 = W at *
  have s1 := (hA.later hbel).rd.string c
  have s2 := (hA'.later hbel).rd.string c'
  have s3 := (hB.later hbel).rd.string d
  have s4 := (hB'.later hbel).rd.string d'
  obtain ⟨k0, k1, -, -⟩ := own_cells2 ho1
  obtain ⟨j0, j1, -, -⟩ := own_cells2 ho2
  have HB := Lib.hid hbel
  clear hA hB hA' hB' hbel ho1 ho2
  generalize f1.length = a1 at *
  generalize f2.length = a2 at *
  generalize g1.length = b1 at *
  generalize g2.length = b2 at *
  generalize hr1 : decide (f1 = g1) = r1 at q1
  generalize hr2 : decide (f2 = g2) = r2 at q2
  have HR := Lib.hid (And.intro hr1 hr2)
  clear hr1 hr2
  generalize strOfNums f1 = t1 at *
  generalize strOfNums f2 = t2 at *
  generalize strOfNums g1 = t3 at *
  generalize strOfNums g2 = t4 at *
  cases r1 with
  | true =>
    go_wp2
    go_ret
    refine ⟨?_, HB.out⟩
    show Ending.returned (.bool r2) = _
    have h1 := HR.out.1
    rw [← HR.out.2]
    simp only [decide_eq_true_eq] at h1
    simp [h1]
  | false =>
    go_wp2
    go_ret
    refine ⟨?_, HB.out⟩
    show Ending.returned (.bool false) = _
    have h1 := HR.out.1
    simp only [decide_eq_false_iff_not] at h1
    simp [h1]

def isRef (x : Int) : Bool := decide (x = 112 ∨ x = 111)
theorem ref_any (F : Nat) (hF : F = 35 ∨ F = 36) (x : Int) (w : World) :
    Calls Try.prog F #[.int .u8 x] w fun e w' => e = .returned (.bool (isRef x)) ∧ w = w' := by
  have key : x = 112 ∨ x = 111 ∨ ((x == 112) = false ∧ (x == 111) = false ∧ isRef x = false) := by
    by_cases a1 : x = 112
    · exact .inl a1
    by_cases a2 : x = 111
    · exact .inr (.inl a2)
    exact .inr (.inr ⟨by simpa using a1, by simpa using a2, by simp [isRef, a1, a2]⟩)
  rcases hF with rfl | rfl
  · rcases key with rfl | rfl | ⟨e1, e2, hv⟩
    all_goals (go_enter Try.func35, Try.ntmps35; go_wp2; go_ret)
    · exact ⟨rfl, rfl⟩
    · exact ⟨rfl, rfl⟩
    · rw [hv]; exact ⟨rfl, rfl⟩
  · rcases key with rfl | rfl | ⟨e1, e2, hv⟩
    all_goals (go_enter Try.func36, Try.ntmps36; go_wp2; go_ret)
    · exact ⟨rfl, rfl⟩
    · exact ⟨rfl, rfl⟩
    · rw [hv]; exact ⟨rfl, rfl⟩
end Go.Proofs.Ytnjbijndfbobbaa
