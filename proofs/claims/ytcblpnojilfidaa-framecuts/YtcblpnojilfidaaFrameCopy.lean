/- frame's Copy and Put. -/
import Derived.Test.YtcblpnojilfidaaFrameAdd
import Derived.Test.YtcblpnojilfidaaConcat
import Derived.Deep.RegionWith
import Derived.Deep.DrawnRows
namespace Go.Proofs.Ytcblpnojilfidaa
open Go.RowKit
set_option linter.unusedVariables false

def CopyPost (l : List Int) (bad : Bool) (w : World) (e : Ending) (w' : World) : Prop :=
  ∃ g v, e = .returned (.pointer (some ⟨g, 0, none⟩)) ∧ PartsAt w' g v l bad ∧ Below w.heap.size w w' ∧ w.heap.size ≤ g ∧ ∀ k, v.ownBlock = some k → w.heap.size ≤ k

attribute [local go_sem ↓] Go.wp_at_zero Go.wp_at_succ
set_option maxHeartbeats 1000000 in
theorem copy_any (g : Nat) (v : Value) (l : List Int) (bad : Bool) (w : World) (hp : PartsAt w g v l bad) (hlen : l.length ≤ 1000000) :
    Calls Try.prog 14 #[.pointer (some ⟨g, 0, none⟩)] w (CopyPost l bad w) := by
  obtain ⟨hc0, hc1, hf0, hf1⟩ := parts_cells hp.1
  have HI := Lib.hid hp.2.2
  have hg := hp.1.lt
  have HP := Lib.hid hp
  obtain ⟨A0, n0, rfl, hn0, hm0, hx0⟩ := hp.2.1.rdX hp.2.2
  have h0 : A0 = none → n0 = 0 := fun e => by
    subst e
    rcases hp.2.1.2 with ⟨h, _⟩ | ⟨_, _, _, h, _⟩
    · injection h
    · injection h with h; cases h
  have C1 := Lib.hid (fun W (h : Rd W W.heap.size A0 l) => clone_any A0 l l.length n0 W h rfl (by omega) h0)
  have HX := Lib.hid hx0
  clear hp hx0 h0
  generalize hq : l.length = q at *
  have HQ := Lib.hid hq
  clear hq
  go_enter Try.func14, Try.ntmps14
  go_wp2_with fail
  go_region_with (go_at_call 17; refine (C1.out _ (by exact HX.out.rd)).mono ?_; rintro e w1 ⟨v1, rfl, ho, hb⟩; obtain ⟨hd0, hd1, he0, he1⟩ := parts_cells (HP.out.1.later (below_undrew hb)); obtain ⟨A1, n1, rfl, _, _, _⟩ := ho.rdX HI.out; have HB := Lib.hid (And.intro ho (below_undrew hb)); clear ho hb hc0 hc1; rw [HQ.out] at *)
  all_goals go_wp2
  all_goals go_ret
  all_goals exact ⟨w1.heap.size, .slice A1 q n1, rfl, ⟨Own.new w1 _ [.slice A1 q n1, .bool bad], (HB.out.1.base (Nat.zero_le _)).later ((Below.refl _ _).alloc (Nat.le_refl _) _), HI.out⟩, HB.out.2.alloc HB.out.2.size _, HB.out.2.size, fun k hk => owns_ge HB.out.1 hk⟩

theorem put_any2 (A : Option Addr) (l : List Int) (n c : Nat) (w : World) (h : Rd w w.heap.size A l) (hn : n = l.length) (hl : n ≤ 5000) :
    Calls Try.prog 15 #[.slice A n c] w fun e w' => ∃ v, e = .returned v ∧ OwnB w' w.heap.size v (enF l) ∧ Below w.heap.size w w' := by
  have HR := Lib.hid h
  have HN := Lib.hid hn
  clear h hn
  have hl' : ¬ (5000 : Int) < (n : Int) := by omega
  go_enter Try.func15, Try.ntmps15
  go_wp2_with fail
  have hh : [(n : Int) / 256, (n : Int) % 256] ++ l = enF l := by simp only [enF, ← HN.out]; simp
  have hby : IsBytes [(n : Int) / 256, (n : Int) % 256] := fun z hz => by simp at hz; omega
  have hb1 : Below w.heap.size w (w.alloc (.cells #[.int .u8 ((n : Int) / 256), .int .u8 ((n : Int) % 256)] 5)) := (Below.refl _ _).alloc (Nat.le_refl _) _
  have hr1 : Rd (w.alloc (.cells #[.int .u8 ((n : Int) / 256), .int .u8 ((n : Int) % 256)] 5)) (w.alloc (.cells #[.int .u8 ((n : Int) / 256), .int .u8 ((n : Int) % 256)] 5)).heap.size (some ⟨w.heap.size, 0, none⟩) [(n : Int) / 256, (n : Int) % 256] := by
    simpa using rd_lit w [(n : Int) / 256, (n : Int) % 256] hby
  have hr2 := HR.out.later hb1
  have hz : (w.alloc (.cells #[.int .u8 ((n : Int) / 256), .int .u8 ((n : Int) % 256)] 5)).heap.size = w.heap.size + 1 := by simp
  generalize w.alloc (.cells #[.int .u8 ((n : Int) / 256), .int .u8 ((n : Int) % 256)] 5) = w1 at *
  rw [← hz]
  have hb2 : Below w1.heap.size w1 (w1.alloc (.cells #[.slice (some ⟨w.heap.size, 0, none⟩) 2 2, .slice A n c] 27)) := (Below.refl _ _).alloc (Nat.le_refl _) _
  have hr := concat_any w1.heap.size (some ⟨w.heap.size, 0, none⟩) A [(n : Int) / 256, (n : Int) % 256] l 2 n 2 c (w1.alloc (.cells #[.slice (some ⟨w.heap.size, 0, none⟩) 2 2, .slice A n c] 27)) (hr1.later hb2) (hr2.later hb2) rfl HN.out (by omega) (by omega) (by simp)
    (by rw [cell_of_row _ _ _ _ _ _ (heap_alloc_new w1 _)]; rfl) (by rw [cell_of_row _ _ _ _ _ _ (heap_alloc_new w1 _)]; rfl)
  rw [hh] at hr
  refine hr.mono ?_
  rintro e w' ⟨v, rfl, ho, hb⟩
  have HO := Lib.hid (And.intro (ho.base (base' := w.heap.size) (by simp; omega)) (hb1.trans ((hb2.mono (by omega)).trans (hb.mono (B' := w.heap.size) (by simp; omega)))))
  clear hr ho hb hb1 hb2 hh hby hr1 hr2 hz
  go_wp2
  go_ret
  exact ⟨_, rfl, HO.out⟩
theorem put_long (A : Option Addr) (n c : Nat) (w : World) (hl : 5000 < n) (hm : n ≤ maxLen) :
    Calls Try.prog 15 #[.slice A n c] w fun e w' => e = .returned (.slice none 0 0) ∧ w = w' := by
  have hl' : (5000 : Int) < (n : Int) := by omega
  unfold maxLen at hm
  go_enter Try.func15, Try.ntmps15
  go_wp2
  go_ret
  exact ⟨rfl, rfl⟩
end Go.Proofs.Ytcblpnojilfidaa
