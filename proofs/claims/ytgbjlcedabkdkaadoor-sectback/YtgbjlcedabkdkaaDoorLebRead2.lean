/- What leb's signed readers and their like come to. -/
import Derived.Test.YtgbjlcedabkdkaaDoorLebRead
namespace Go.Proofs.YtgbjlcedabkdkaaDoor
open Go.RowKit
set_option maxRecDepth 100000
set_option linter.unusedVariables false

/-- The number alone turned. -/
def on1 (f : Int → Int) (r : Int × Int × Int) : Int × Int × Int := (f r.1, r.2.1, r.2.2)

theorem U32_any (A : Option Addr) (l : List Int) (n c : Nat) (w : World) (h : Rd w w.heap.size A l) (hn : n = l.length) (hl : n ≤ maxLen) :
    Calls Tryd.prog 44 #[.slice A n c] w fun e w' => e = three .u32 .i64 .i64 (on1 IntKind.u32.wrap (rdU 32 l)) ∧ w = w' := by
  have HT := Lib.hid (take_any 48 (.inl rfl) fitU A l n c 32 w h hn hl (by omega) (by omega) (fun g r h1 h2 h3 h4 => noughts_any g r w h1 h2 h3 h4))
  clear hn h
  unfold rdU
  generalize dec 32 fitU l 0 0 = d at *
  obtain ⟨d1, d2, d3⟩ := d
  unfold three on1 at *
  go_enter Tryd.func44, Tryd.ntmps44
  go_wp2_with fail
  refine HT.out.mono ?_
  rintro e w' ⟨rfl, rfl⟩
  go_wp2
  go_ret3
  exact ⟨rfl, rfl⟩

end Go.Proofs.YtgbjlcedabkdkaaDoor
