/- types' writers: what their calls come to. -/
import Derived.Test.YtnjbijndfbobbaaTypesTake
import Derived.Test.YtnjbijndfbobbaaConcatL
import Derived.Test.YtnjbijndfbobbaaLebPut
import Derived.Test.YtnjbijndfbobbaaPuts
import Derived.Deep.RegionHeld3
namespace Go.Proofs.Ytnjbijndfbobbaa
open Go.RowKit
set_option maxRecDepth 100000
set_option linter.unusedVariables false

theorem number_any (x : Int) (w : World) (h0 : 0 ≤ x) (h1 : x < 18446744073709551616) :
    Calls Try.prog 79 #[.int .u64 x] w fun e w' => ∃ v, e = .returned v ∧ OwnB w' w.heap.size v (encU x) ∧ Below w.heap.size w w' := by
  have HP := Lib.hid (putU_any none [] 0 0 x w (Rd.nil _ _ _) rfl (by omega) h0 h1)
  go_enter Try.func79, Try.ntmps79
  go_wp2_with fail
  refine HP.out.mono ?_
  rintro e w' ⟨v, rfl, ho, hb⟩
  have HO := Lib.hid (And.intro ho hb)
  clear ho hb
  go_wp2
  go_ret
  exact ⟨_, rfl, HO.out.1, HO.out.2⟩
theorem count_any (A : Option Addr) (n c : Nat) (w : World) (h : n ≤ maxLen) :
    Calls Try.prog 78 #[.slice A n c] w fun e w' => ∃ v, e = .returned v ∧ OwnB w' w.heap.size v (encU n) ∧ Below w.heap.size w w' := by
  unfold maxLen at h
  have HP := Lib.hid (number_any n w (by omega) (by omega))
  go_enter Try.func78, Try.ntmps78
  go_wp2_with fail
  refine HP.out.mono ?_
  rintro e w' ⟨v, rfl, ho, hb⟩
  have HO := Lib.hid (And.intro ho hb)
  clear ho hb
  go_wp2
  go_ret
  exact ⟨_, rfl, HO.out.1, HO.out.2⟩
/-- A list of lists as it is written out. -/
theorem rdL_lit (w : World) (us : List Value) (ls : List (List Int)) (h : All2 (fun u l => ∃ B d, u = .slice B l.length d ∧ l.length ≤ d ∧ d ≤ maxLen ∧ RdX (fun _ => True) w B l) us ls) (hm : ls.length ≤ maxLen) :
    RdL (fun _ => True) (w.alloc (.cells us.toArray 23)) (.slice (some ⟨w.heap.size, 0, none⟩) ls.length ls.length) ls := by
  have hb := (Below.refl w.heap.size w).alloc (Nat.le_refl _) (.cells us.toArray 23)
  refine ⟨_, _, us, rfl, Nat.le_refl _, hm, fun j u hu => ⟨_, rfl, trivial, ?_⟩, h.mono fun u l ⟨B, d, a, b, c, e⟩ => ⟨B, d, a, b, c, e.later hb⟩⟩
  rw [addPlain, Nat.zero_add, (Own.new w 23 us).cell]
  exact hu
abbrev SlV (w : World) (u : Value) (l : List Int) : Prop := ∃ B d, u = .slice B l.length d ∧ l.length ≤ d ∧ d ≤ maxLen ∧ RdX (fun _ => True) w B l
theorem SlV.later {w w' : World} {u : Value} {l : List Int} (h : SlV w u l) (hb : Below w.heap.size w w') : SlV w' u l := by
  obtain ⟨B, d, a, b, c, e⟩ := h
  exact ⟨B, d, a, b, c, e.later hb⟩
theorem SlV.own {w : World} {base : Nat} {u : Value} {l : List Int} (h : OwnB w base u l) (hl : IsBytes l) : SlV w u l := by
  obtain ⟨B, d, a, b, c, e⟩ := h.rdX hl
  exact ⟨B, d, a, b, c, e.mono fun _ _ _ => trivial⟩
theorem SlV.lit (w : World) (l : List Int) (hl : IsBytes l) (hm : l.length ≤ maxLen) : SlV (w.alloc (.cells (l.map (Value.int .u8)).toArray 5)) (.slice (some ⟨w.heap.size, 0, none⟩) l.length l.length) l :=
  ⟨_, _, rfl, Nat.le_refl _, hm, (rdX_lit w l hl).mono fun _ _ _ => trivial⟩

def putFn (f : Fn) : List Int := 96 :: (encU f.1.length ++ (f.1 ++ (encU f.2.length ++ f.2)))
def putLim (l : Lim) : List Int := if l.has then 1 :: (encU l.min ++ encU l.max) else 0 :: encU l.min
def WPost (bs : List Int) (w : World) (e : Ending) (w' : World) : Prop := ∃ u, e = .returned u ∧ OwnB w' w.heap.size u bs ∧ Below w.heap.size w w'
/-- Six slices, put together. -/
theorem concat6_any (w : World) (g : Nat) (hg : g = w.heap.size) (u0 u1 u2 u3 u4 u5 : Value) (l0 l1 l2 l3 l4 l5 : List Int) (h0 : SlV w u0 l0) (h1 : SlV w u1 l1) (h2 : SlV w u2 l2) (h3 : SlV w u3 l3) (h4 : SlV w u4 l4) (h5 : SlV w u5 l5) (hb : (l0 ++ (l1 ++ (l2 ++ (l3 ++ (l4 ++ l5))))).length ≤ 100000000) :
    Calls Try.prog 77 #[.slice (some ⟨g, 0, none⟩) 6 6] (w.alloc (.cells #[u0, u1, u2, u3, u4, u5] 23)) (WPost (l0 ++ (l1 ++ (l2 ++ (l3 ++ (l4 ++ l5))))) w) := by
  subst hg
  have hA : All2 (SlV w) [u0, u1, u2, u3, u4, u5] [l0, l1, l2, l3, l4, l5] := (All2.one h0).app ((All2.one h1).app ((All2.one h2).app ((All2.one h3).app ((All2.one h4).app (All2.one h5)))))
  have hL := rdL_lit w [u0, u1, u2, u3, u4, u5] [l0, l1, l2, l3, l4, l5] hA (by simp [maxLen])
  have hf : [l0, l1, l2, l3, l4, l5].flatten = l0 ++ (l1 ++ (l2 ++ (l3 ++ (l4 ++ l5)))) := by simp
  have hB := (Below.refl w.heap.size w).alloc (Nat.le_refl _) (.cells #[u0, u1, u2, u3, u4, u5] 23)
  refine (concatL_any _ 6 6 [l0, l1, l2, l3, l4, l5] _ hL rfl (by rw [hf]; exact hb) (by omega)).mono ?_
  rintro e w' ⟨v, rfl, ho, hb⟩
  rw [hf] at ho
  have hs := hB.size
  exact ⟨v, rfl, ho.base hs, hB.trans (hb.mono hs)⟩
theorem concat4_any (w : World) (g : Nat) (hg : g = w.heap.size) (u0 u1 u2 u3 : Value) (l0 l1 l2 l3 : List Int) (h0 : SlV w u0 l0) (h1 : SlV w u1 l1) (h2 : SlV w u2 l2) (h3 : SlV w u3 l3) (hb : (l0 ++ (l1 ++ (l2 ++ l3))).length ≤ 100000000) :
    Calls Try.prog 77 #[.slice (some ⟨g, 0, none⟩) 4 4] (w.alloc (.cells #[u0, u1, u2, u3] 23)) (WPost (l0 ++ (l1 ++ (l2 ++ l3))) w) := by
  subst hg
  have hA : All2 (SlV w) [u0, u1, u2, u3] [l0, l1, l2, l3] := (All2.one h0).app ((All2.one h1).app ((All2.one h2).app (All2.one h3)))
  have hL := rdL_lit w [u0, u1, u2, u3] [l0, l1, l2, l3] hA (by simp [maxLen])
  have hf : [l0, l1, l2, l3].flatten = l0 ++ (l1 ++ (l2 ++ l3)) := by simp
  have hB := (Below.refl w.heap.size w).alloc (Nat.le_refl _) (.cells #[u0, u1, u2, u3] 23)
  refine (concatL_any _ 4 4 [l0, l1, l2, l3] _ hL rfl (by rw [hf]; exact hb) (by omega)).mono ?_
  rintro e w' ⟨v, rfl, ho, hb⟩
  rw [hf] at ho
  have hs := hB.size
  exact ⟨v, rfl, ho.base hs, hB.trans (hb.mono hs)⟩
theorem concat3_any (w : World) (g : Nat) (hg : g = w.heap.size) (u0 u1 u2 : Value) (l0 l1 l2 : List Int) (h0 : SlV w u0 l0) (h1 : SlV w u1 l1) (h2 : SlV w u2 l2) (hb : (l0 ++ (l1 ++ l2)).length ≤ 100000000) :
    Calls Try.prog 77 #[.slice (some ⟨g, 0, none⟩) 3 3] (w.alloc (.cells #[u0, u1, u2] 23)) (WPost (l0 ++ (l1 ++ l2)) w) := by
  subst hg
  have hA : All2 (SlV w) [u0, u1, u2] [l0, l1, l2] := (All2.one h0).app ((All2.one h1).app (All2.one h2))
  have hL := rdL_lit w [u0, u1, u2] [l0, l1, l2] hA (by simp [maxLen])
  have hf : [l0, l1, l2].flatten = l0 ++ (l1 ++ l2) := by simp
  have hB := (Below.refl w.heap.size w).alloc (Nat.le_refl _) (.cells #[u0, u1, u2] 23)
  refine (concatL_any _ 3 3 [l0, l1, l2] _ hL rfl (by rw [hf]; exact hb) (by omega)).mono ?_
  rintro e w' ⟨v, rfl, ho, hb⟩
  rw [hf] at ho
  have hs := hB.size
  exact ⟨v, rfl, ho.base hs, hB.trans (hb.mono hs)⟩
end Go.Proofs.Ytnjbijndfbobbaa
