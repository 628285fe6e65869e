/- slices.Grow and slices.Concat at bytes, of two slices. -/
import Derived.Test.YtgbjlcedabkdkaaDoorBytesApp
namespace Go.Proofs.YtgbjlcedabkdkaaDoor
open Go.RowKit
set_option maxRecDepth 100000
set_option linter.unusedVariables false

theorem zeroCells_size (z : Value) (n : Nat) (hz : z.cells = #[z]) : (Builtin.zeroCells z.cells n).size = n := by
  simp [Builtin.zeroCells, hz]

theorem grow_any (n : Nat) (w : World) (hn : n ≤ 1000000000) :
    Calls Tryd.prog 45 #[.slice none 0 0, .int .i64 n] w fun e w' => ∃ v, e = .returned v ∧ OwnB w' w.heap.size v [] ∧ Below w.heap.size w w' := by
  by_cases h0 : n = 0
  · subst h0
    go_enter Tryd.func45, Tryd.ntmps45
    go_wp2
    go_ret
    exact ⟨_, rfl, OwnB.nil _ _, Below.refl _ _⟩
  · obtain ⟨i, hi, hz, hs, hb⟩ := info_parts byte_info
    have hr := Lib.run_append_nil_zeros (P := Tryd.prog) w 22 3 22 5 i _ .i64 .i64 under_bytes Tryd.underlying3 hi hz n (by omega) (by omega) (by omega) (by rw [hb]; omega)
    have HR := Lib.hid hr
    clear hr
    have hc1 := grownCap_ge w n 0 5
    have hc2 := grownCap_le_maxLen w n 0 5 (by simp only [maxLen]; omega)
    have HB : Hid (Below w.heap.size w (w.drew.alloc (.cells (Builtin.zeroCells (Value.int .u8 0).cells n ++ Builtin.zeroCells (Value.int .u8 0).cells (grownCap w n 0 5 - n)) 5))) :=
      (Below.refl _ _).drew.alloc (Nat.le_refl _) _
    have HO : Hid (∀ c, c = grownCap w n 0 5 → OwnB (w.drew.alloc (.cells (Builtin.zeroCells (Value.int .u8 0).cells n ++ Builtin.zeroCells (Value.int .u8 0).cells (grownCap w n 0 5 - n)) 5)) w.heap.size (.slice (some ⟨w.heap.size, 0, none⟩) 0 c) []) := by
      rintro c rfl
      refine ⟨by simp, .inr ⟨w.heap.size, _, _, rfl, Nat.le_refl _, heap_alloc_new w.drew _, by simp, hc2, ?_, by simp⟩⟩
      simp [zeroCells_size (Value.int .u8 0) _ rfl]
      omega
    generalize grownCap w n 0 5 = gc at *
    generalize Builtin.zeroCells (Value.int .u8 0).cells n ++ Builtin.zeroCells (Value.int .u8 0).cells (gc - n) = gz at *
    have hp : (0 : Int) < (n : Int) := by omega
    go_enter Tryd.func45, Tryd.ntmps45
    go_wp2_with (at_builtin; refine Lib.wpList_append_run _ rfl (.tmp 20) (.tmp 21) _ _ rfl _ _ rfl rfl _ _ HR.out ?_)
    go_ret
    exact ⟨_, rfl, HO.out _ rfl, HB.out⟩

set_option maxHeartbeats 2000000 in
theorem concat_any (g : Nat) (A1 A2 : Option Addr) (l1 l2 : List Int) (n1 n2 c1 c2 : Nat) (w : World) (h1 : Rd w w.heap.size A1 l1) (h2 : Rd w w.heap.size A2 l2) (hn1 : n1 = l1.length) (hn2 : n2 = l2.length)
    (hb1 : n1 ≤ 100000000) (hb2 : n2 ≤ 100000000) (hg : g < w.heap.size) (hc1 : w.cell? ⟨g, 0, none⟩ = some (.slice A1 n1 c1)) (hc2 : w.cell? ⟨g, 1, none⟩ = some (.slice A2 n2 c2)) :
    Calls Tryd.prog 41 #[.slice (some ⟨g, 0, none⟩) 2 2] w fun e w' => ∃ v, e = .returned v ∧ OwnB w' w.heap.size v (l1 ++ l2) ∧ Below w.heap.size w w' := by
  have H1 := Lib.hid h1
  have H2 := Lib.hid h2
  have HN1 := Lib.hid hn1
  have HN2 := Lib.hid hn2
  clear h1 h2 hn1 hn2
  go_enter Tryd.func41, Tryd.ntmps41
  go_wp2
  go_loop [3, 11] (fun s i => (i = .int .i64 0 ∧ s = .int .i64 0) ∨ (i = .int .i64 1 ∧ s = .int .i64 n1) ∨ (i = .int .i64 2 ∧ s = .int .i64 (n1 + n2))) (fun _ i => 2 - (intOf i).toNat)
  case atStart => exact .inl ⟨rfl, rfl⟩
  case round =>
    rcases hrel with ⟨rfl, rfl⟩ | ⟨rfl, rfl⟩ | ⟨rfl, rfl⟩
    · go_wp2
      exact ⟨.inr (.inl ⟨rfl, rfl⟩), by simp [intOf]⟩
    · go_wp2
      exact ⟨.inr (.inr ⟨rfl, rfl⟩), by simp [intOf]⟩
    · go_wp2_with fail
      rw [show ((n1 : Int) + (n2 : Int)) = ((n1 + n2 : Nat) : Int) from by omega]
      refine (grow_any (n1 + n2) w (by omega)).mono ?_
      rintro e w' ⟨v, rfl, ho, hbl⟩
      have HO := Lib.hid ho
      have HB := Lib.hid hbl
      clear ho hbl
      go_wp2
      go_loopw [6, 27] (fun u i wr => ∃ (l : List Int), Hid (OwnB wr w.heap.size u l ∧ Below w.heap.size w wr) ∧ ((i = .int .i64 0 ∧ l = []) ∨ (i = .int .i64 1 ∧ l = l1) ∨ (i = .int .i64 2 ∧ l = l1 ++ l2))) (fun _ i _ => 2 - (intOf i).toNat)
      case atStart => exact ⟨[], ⟨HO.out, HB.out⟩, .inl ⟨rfl, rfl⟩⟩
      case round =>
        obtain ⟨l, HX, hrel⟩ := hrel
        have hd1 : wr.cell? ⟨g, 0, none⟩ = some (.slice A1 n1 c1) := (HX.out.2.cell (p := ⟨g, 0, none⟩) hg).trans hc1
        have hd2 : wr.cell? ⟨g, 1, none⟩ = some (.slice A2 n2 c2) := (HX.out.2.cell (p := ⟨g, 1, none⟩) hg).trans hc2
        clear hc1 hc2 HO HB
        rcases hrel with ⟨rfl, rfl⟩ | ⟨rfl, rfl⟩ | ⟨rfl, rfl⟩
        · go_wp2_with (at_builtin; refine wpList_app rfl (.tmp 31) (.tmp 32) rfl w.heap.size u6 [] rfl HX.out.1 A1 n1 c1 l1 rfl HN1.out (H1.out.later HX.out.2) (by simp; omega) HX.out.2.size ?_; intro v1 w1 hv1 hw1; have HV := Lib.hid (And.intro hv1 hw1); clear hv1 hw1)
          go_wp2
          exact ⟨⟨l1, ⟨by simpa using HV.out.1, HX.out.2.trans HV.out.2⟩, .inr (.inl ⟨rfl, rfl⟩)⟩, by simp [intOf]⟩
        · go_wp2_with (at_builtin; refine wpList_app rfl (.tmp 31) (.tmp 32) rfl w.heap.size u6 _ rfl HX.out.1 A2 n2 c2 l2 rfl HN2.out (H2.out.later HX.out.2) (by rw [← HN1.out]; omega) HX.out.2.size ?_; intro v1 w1 hv1 hw1; have HV := Lib.hid (And.intro hv1 hw1); clear hv1 hw1)
          go_wp2
          exact ⟨⟨_, ⟨HV.out.1, HX.out.2.trans HV.out.2⟩, .inr (.inr ⟨rfl, rfl⟩)⟩, by simp [intOf]⟩
        · go_wp2
          go_ret
          exact ⟨_, rfl, HX.out⟩

end Go.Proofs.YtgbjlcedabkdkaaDoor
