/- unicode/utf8.word at bytes. -/
import Derived.Test.YtgbjlcedabkdkaaDoorUtf8Math
import Derived.Test.YtgbjlcedabkdkaaDoorCuts
import Derived.Deep.QuietTactic
import Derived.BigQuiet
import Derived.Laws.BitsAllLaws
namespace Go.Proofs.YtgbjlcedabkdkaaDoor
open Go.RowKit
set_option maxRecDepth 100000
set_option linter.unusedVariables false

def WPost8 (x : Int) (w : World) (e : Ending) (w' : World) : Prop := e = .returned (.int .u64 x) ∧ ∃ q, w' = w.drewN q
set_option maxHeartbeats 8000000 in
set_option maxRecDepth 100000 in
theorem word_any (A : Option Addr) (l : List Int) (n c : Nat) (w : World) {X : Nat → Prop} (h : RdX X w A l) (hn : n = l.length) (h8 : 8 ≤ n) :
    Calls Tryd.prog 32 #[.slice A n c] w (WPost8 (wdN l : Nat) w) := by
  subst hn
  obtain ⟨b, o, rfl, -, -, hc⟩ := h.2.spot (by simp; omega)
  match l, h8, h, hc with
  | x0 :: x1 :: x2 :: x3 :: x4 :: x5 :: x6 :: x7 :: t, h8, h, hc =>
  rw [wdN_eq x0 x1 x2 x3 x4 x5 x6 x7 t h.1]
  have g0 := h.1 x0 (by simp); have g1 := h.1 x1 (by simp); have g2 := h.1 x2 (by simp); have g3 := h.1 x3 (by simp)
  have g4 := h.1 x4 (by simp); have g5 := h.1 x5 (by simp); have g6 := h.1 x6 (by simp); have g7 := h.1 x7 (by simp)
  have c0 := hc 0 _ rfl; have c1 := hc 1 _ rfl; have c2 := hc 2 _ rfl; have c3 := hc 3 _ rfl
  have c4 := hc 4 _ rfl; have c5 := hc 5 _ rfl; have c6 := hc 6 _ rfl; have c7 := hc 7 _ rfl
  rw [Nat.add_zero] at c0
  obtain ⟨g00, g01⟩ := g0; obtain ⟨g10, g11⟩ := g1; obtain ⟨g20, g21⟩ := g2; obtain ⟨g30, g31⟩ := g3
  obtain ⟨g40, g41⟩ := g4; obtain ⟨g50, g51⟩ := g5; obtain ⟨g60, g61⟩ := g6; obtain ⟨g70, g71⟩ := g7
  generalize (x0 :: x1 :: x2 :: x3 :: x4 :: x5 :: x6 :: x7 :: t).length = q at *
  clear hc h
  have p0 : (0 : Int) < (q : Int) := by omega
  have p1 : (1 : Int) < (q : Int) := by omega
  have p2 : (2 : Int) < (q : Int) := by omega
  have p3 : (3 : Int) < (q : Int) := by omega
  have p4 : (4 : Int) < (q : Int) := by omega
  have p5 : (5 : Int) < (q : Int) := by omega
  have p6 : (6 : Int) < (q : Int) := by omega
  have p7 : (7 : Int) < (q : Int) := by omega
  go_enter Tryd.func32, Tryd.ntmps32
  go_wp2
  go_quiet (fail)
  go_wp2
  go_ret
  refine ⟨?_, _, rfl⟩
  simp (disch := omega) only [u64_or8, u64_or16, u64_or24, u64_or32, u64_or40, u64_or48, u64_or56]
  rfl
end Go.Proofs.YtgbjlcedabkdkaaDoor
