/- leb.put: two slices laid one behind the other. -/
import Derived.Test.YtgbjlcedabkdkaaDoorConcat
namespace Go.Proofs.YtgbjlcedabkdkaaDoor
open Go.RowKit
set_option maxRecDepth 100000
set_option linter.unusedVariables false

theorem put_any (A1 A2 : Option Addr) (l1 l2 : List Int) (n1 n2 c1 c2 : Nat) (w : World) (h1 : Rd w w.heap.size A1 l1) (h2 : Rd w w.heap.size A2 l2) (hn1 : n1 = l1.length) (hn2 : n2 = l2.length)
    (hb1 : n1 ≤ 100000000) (hb2 : n2 ≤ 100000000) :
    Calls Tryd.prog 33 #[.slice A1 n1 c1, .slice A2 n2 c2] w fun e w' => ∃ v, e = .returned v ∧ OwnB w' w.heap.size v (l1 ++ l2) ∧ Below w.heap.size w w' := by
  have H1 := Lib.hid h1
  have H2 := Lib.hid h2
  have HN1 := Lib.hid hn1
  have HN2 := Lib.hid hn2
  clear h1 h2 hn1 hn2
  go_enter Tryd.func33, Tryd.ntmps33
  go_wp2_with fail
  have hbl : Below w.heap.size w (w.alloc (.cells #[.slice A1 n1 c1, .slice A2 n2 c2] 22)) := (Below.refl _ _).alloc (Nat.le_refl _) _
  have hr := concat_any w.heap.size A1 A2 l1 l2 n1 n2 c1 c2 (w.alloc (.cells #[.slice A1 n1 c1, .slice A2 n2 c2] 22)) (H1.out.later hbl) (H2.out.later hbl) HN1.out HN2.out hb1 hb2 (by simp)
    (by rw [cell_of_row _ _ _ _ _ _ (heap_alloc_new w _)]; rfl) (by rw [cell_of_row _ _ _ _ _ _ (heap_alloc_new w _)]; rfl)
  refine hr.mono ?_
  rintro e w' ⟨v, rfl, ho, hb⟩
  have HO := Lib.hid (And.intro (ho.base (base' := w.heap.size) (by simp)) (hbl.trans (hb.mono (B' := w.heap.size) (by simp))))
  clear hr ho hb hbl
  go_wp2
  go_ret
  exact ⟨_, rfl, HO.out⟩
end Go.Proofs.YtgbjlcedabkdkaaDoor
