/- Proved: for every input the call cloakroom/cloakroomlaw9.AsmForms returns true, and each argument reads afterwards as it read before. Conditions: none. -/
import Derived.Test.YtdngkbagfaeplaaJoin14
import Derived.Deep.RegionHeld
import Derived.Test.YtdngkbagfaeplaaRows
import Derived.WalkKit
import Derived.ProofKit
import Derived.OpenShut
import Derived.ShutString
import Derived.ChangeOld
import Derived.Below
/- The walk of AsmForms. -/
namespace Go.Proofs.Ytdngkbagfaeplaa
open Go.RowKit
set_option maxRecDepth 100000
set_option linter.unusedVariables false

abbrev i65 : IV := ⟨⟨65, 0, 0, 0, [], 0⟩, none, 0⟩
abbrev i11 : IV := ⟨⟨11, 0, 0, 0, [], 0⟩, none, 0⟩
abbrev i210 : IV := ⟨⟨210, 2, 0, 0, [], 0⟩, none, 0⟩
def at_ (g : Nat) : Option Addr := some ⟨g, 0, none⟩
/-- The nine modules, as they lie from block g on. -/
def axM (g : Nat) : List MV := [mv0, { mv0 with s := true, sn := 3 }, { mv0 with k := true },
  { mv0 with m := ⟨at_ g, 1, [⟨1, 2, true⟩]⟩ },
  { mv0 with e := ⟨at_ (g + 2), 1, [⟨0, 112, 0, ⟨[i65, i11], at_ (g + 1), 2⟩, [], none, 0⟩]⟩ },
  { mv0 with e := ⟨at_ (g + 4), 1, [⟨0, 111, 1, ⟨[i65, i11], at_ (g + 3), 2⟩, [], none, 0⟩]⟩ },
  { mv0 with e := ⟨at_ (g + 7), 1, [⟨2, 112, 0, bv0, [⟨[i210, i11], at_ (g + 5), 2⟩], at_ (g + 6), 1⟩]⟩ },
  { mv0 with d := ⟨at_ (g + 9), 1, [⟨1, bv0, [120], at_ (g + 8), 1⟩]⟩ },
  { mv0 with c := ⟨at_ (g + 12), 1, [⟨[127, 127], at_ (g + 10), 2, ⟨[i11], at_ (g + 11), 1⟩⟩]⟩ }]
def axT : List (List Int) := [[], [8, 1, 3], [12, 1, 0], [5, 4, 1, 1, 1, 2], [9, 6, 1, 4, 65, 0, 11, 0], [9, 8, 1, 6, 1, 65, 0, 11, 111, 0], [9, 7, 1, 7, 112, 1, 210, 2, 11], [11, 4, 1, 1, 1, 120], [10, 8, 1, 6, 2, 1, 127, 1, 127, 11]]
def axO : List Mo := [mo0, { mo0 with starts := true, start := 3 }, { mo0 with counts := true }, { mo0 with mems := [⟨1, 2, true⟩] },
  { mo0 with elems := [(0, 112, 0, [i65.x, i11.x], [])] }, { mo0 with elems := [(0, 111, 1, [i65.x, i11.x], [])] }, { mo0 with elems := [(2, 112, 0, [], [[i210.x, i11.x]])] },
  { mo0 with datas := [(1, [], [120])] }, { mo0 with codes := [([127, 127], [i11.x])] }]
theorem axM_mo (g : Nat) : (axM g).map MV.mo = axO := rfl
theorem ax_enc : ∀ k : Fin 9, encMo (axO.getD k.val mo0) = secFront ++ axT.getD k.val [] := by decide +kernel
/-- Blocks that are laid one behind the other. -/
def allocs (w : World) : List (TypeId × List Value × (Nat × Nat)) → World
  | [] => w
  | x :: r => allocs (w.alloc (.cells x.2.1.toArray x.1 x.2.2)) r
theorem allocs_below (ls : List (TypeId × List Value × (Nat × Nat))) : ∀ w : World, Below w.heap.size w (allocs w ls) := by
  induction ls with
  | nil => intro w; exact Below.refl _ _
  | cons x r ih => intro w; exact blT (bl2 w _) (ih _)
theorem allocs_rd (ls : List (TypeId × List Value × (Nat × Nat))) : ∀ (w : World) (j : Nat) (t : TypeId) (L : List Value) (fr : Nat × Nat), ls[j]? = some (t, L, fr) → RdV (fun _ => True) (allocs w ls) (at_ (w.heap.size + j)) L := by
  induction ls with
  | nil => intro w j t L fr h; simp at h
  | cons x r ih =>
    intro w j t L fr h
    cases j with
    | zero =>
      simp at h; subst h
      have h1 : RdV (fun _ => True) (w.alloc (.cells L.toArray t fr)) (at_ w.heap.size) L := fun k u hu => by
        refine ⟨_, rfl, trivial, ?_⟩
        rw [addPlain, Nat.zero_add, World.cell?_alloc_mark]
        simpa using hu
      exact h1.later (allocs_below r _)
    | succ j =>
      have := ih (w.alloc (.cells x.2.1.toArray x.1 x.2.2)) j t L fr (by simpa using h)
      rw [show (w.alloc (.cells x.2.1.toArray x.1 x.2.2)).heap.size = w.heap.size + 1 from by simp] at this
      rw [show w.heap.size + (j + 1) = w.heap.size + 1 + j from by omega]
      exact this
def axL (g : Nat) : List (TypeId × List Value × (Nat × Nat)) := [
  (39, KLim.cells ⟨1, 2, true⟩, (0, 0)),
  (27, flat [i65, i11], (0, 0)), (43, KElm.cells ⟨0, 112, 0, ⟨[i65, i11], at_ (g + 1), 2⟩, [], none, 0⟩, (0, 0)),
  (27, flat [i65, i11], (0, 0)), (43, KElm.cells ⟨0, 111, 1, ⟨[i65, i11], at_ (g + 3), 2⟩, [], none, 0⟩, (0, 0)),
  (27, flat [i210, i11], (0, 0)), (40, [.slice (at_ (g + 5)) 2 2], (0, 0)), (43, KElm.cells ⟨2, 112, 0, bv0, [⟨[i210, i11], at_ (g + 5), 2⟩], at_ (g + 6), 1⟩, (0, 0)),
  (5, [.int .u8 120], (1, 2)), (46, KDt.cells ⟨1, bv0, [120], at_ (g + 8), 1⟩, (0, 0)),
  (5, [.int .u8 127, .int .u8 127], (0, 0)), (27, flat [i11], (0, 0)), (48, KCd.cells ⟨[127, 127], at_ (g + 10), 2, ⟨[i11], at_ (g + 11), 1⟩⟩, (0, 0)),
  (37, ((axM g).map MV.cells).flatten, (0, 0))]
theorem rdV_own {w : World} {g : Nat} {t : TypeId} {L : List Value} (h : Own w g t L) : RdV (fun _ => True) w (at_ g) L := fun j u hu => by
  refine ⟨_, rfl, trivial, ?_⟩
  rw [addPlain, Nat.zero_add, h.cell]
  exact hu
/-- A module as an element. -/
def KMod : El MV where
  n := 13
  cells := MV.cells
  ok := MV.ok
  pos := by omega
  len _ := rfl
  one a u hu := by simp [MV.cells] at hu; rcases hu with rfl | rfl | rfl | rfl | rfl | rfl | rfl | rfl | rfl | rfl | rfl | rfl | rfl <;> rfl
  chg h hc hs := h.chg hc hs
  mono h hx := h.mono hx
theorem ins_ok {w : World} {i : IV} (hl : i.x.l = []) (hA : i.A = none) (hc : i.c = 0) (ho : InsOk i.x) : LabX (fun _ => True) w i.x i.A i.c ∧ InsOk i.x := ⟨by rw [hA, hc]; exact LabX.nil _ _ hl, ho⟩
theorem ax_ins : InsOk i65.x ∧ InsOk i11.x ∧ InsOk i210.x := by
  refine ⟨?_, ?_, ?_⟩ <;> exact ⟨by decide, by decide, by decide, by decide, by decide, by decide, by decide, by decide, IsU32.nil, by decide⟩
theorem ax_ok (w : World) (k : Nat) (m : MV) (h : (axM w.heap.size)[k]? = some m) : MV.ok (fun _ => True) (allocs w (axL w.heap.size)) m := by
  have O := fun j t L fr => allocs_rd (axL w.heap.size) w j t L fr
  have hb : ∀ (is : List IV) (j : Nat), (axL w.heap.size)[j]? = some (27, flat is, (0, 0)) → is.length ≤ 2 → (∀ i ∈ is, i = i65 ∨ i = i11 ∨ i = i210) → BV.ok (fun _ => True) (allocs w (axL w.heap.size)) ⟨is, at_ (w.heap.size + j), is.length⟩ := fun is j hj hl hi => by
    refine ⟨Nat.le_refl _, by simp only [maxLen]; omega, O j _ _ _ hj, fun i him => ?_, by simp only []; omega⟩
    rcases hi i him with rfl | rfl | rfl
    · exact ins_ok rfl rfl rfl ax_ins.1
    · exact ins_ok rfl rfl rfl ax_ins.2.1
    · exact ins_ok rfl rfl rfl ax_ins.2.2
  have m0 := MV.ok0 (fun _ => True) (allocs w (axL w.heap.size))
  have key : k = 0 ∨ k = 1 ∨ k = 2 ∨ k = 3 ∨ k = 4 ∨ k = 5 ∨ k = 6 ∨ k = 7 ∨ k = 8 := by
    have := (List.getElem?_eq_some_iff.1 h).1
    have e : (axM w.heap.size).length = 9 := rfl
    omega
  rcases key with rfl | rfl | rfl | rfl | rfl | rfl | rfl | rfl | rfl <;> (have h := (Option.some.inj h).symm; subst h)
  · exact m0
  · exact { m0 with sn := ⟨by decide, by decide⟩ }
  · exact m0 |> fun m0 => { m0 with kn := ⟨by decide, by decide⟩ }
  · exact { m0 with m := ⟨_, _, rfl, by first | (simp; done) | (simp [maxLen]; done), by first | (simp; done) | (simp [maxLen]; done), O 0 _ _ _ rfl, fun i hi => by simp at hi; subst hi; exact ⟨by first | (simp; done) | (simp [maxLen]; done), by first | (simp; done) | (simp [maxLen]; done), by first | (simp; done) | (simp [maxLen]; done), by first | (simp; done) | (simp [maxLen]; done)⟩⟩ }
  · exact { m0 with e := ⟨_, _, rfl, by first | (simp; done) | (simp [maxLen]; done), by first | (simp; done) | (simp [maxLen]; done), O 2 _ _ _ rfl, fun i hi => by simp at hi; subst hi; exact ⟨by first | (simp; done) | (simp [maxLen]; done), hb [i65, i11] 1 rfl (by first | (simp; done) | (simp [maxLen]; done)) (by simp), RdE.nil _ _ _, by first | (simp; done) | (simp [maxLen]; done)⟩⟩ }
  · exact { m0 with e := ⟨_, _, rfl, by first | (simp; done) | (simp [maxLen]; done), by first | (simp; done) | (simp [maxLen]; done), O 4 _ _ _ rfl, fun i hi => by simp at hi; subst hi; exact ⟨by first | (simp; done) | (simp [maxLen]; done), hb [i65, i11] 3 rfl (by first | (simp; done) | (simp [maxLen]; done)) (by simp), RdE.nil _ _ _, by first | (simp; done) | (simp [maxLen]; done)⟩⟩ }
  · exact { m0 with e := ⟨_, _, rfl, by first | (simp; done) | (simp [maxLen]; done), by first | (simp; done) | (simp [maxLen]; done), O 7 _ _ _ rfl, fun i hi => by simp at hi; subst hi; exact ⟨by first | (simp; done) | (simp [maxLen]; done), BV.ok0 _ _, ⟨_, _, rfl, by first | (simp; done) | (simp [maxLen]; done), by first | (simp; done) | (simp [maxLen]; done), O 6 _ _ _ rfl, fun b hb1 => by simp at hb1; subst hb1; exact hb [i210, i11] 5 rfl (by first | (simp; done) | (simp [maxLen]; done)) (by simp)⟩, by first | (simp; done) | (simp [maxLen]; done)⟩⟩ }
  · exact { m0 with d := ⟨_, _, rfl, by first | (simp; done) | (simp [maxLen]; done), by first | (simp; done) | (simp [maxLen]; done), O 9 _ _ _ rfl, fun i hi => by simp at hi; subst hi; exact ⟨by first | (simp; done) | (simp [maxLen]; done), BV.ok0 _ _, ⟨fun z hz => by simp at hz; omega, O 8 _ _ _ rfl⟩, by first | (simp; done) | (simp [maxLen]; done), by first | (simp; done) | (simp [maxLen]; done), by first | (simp; done) | (simp [maxLen]; done)⟩⟩ }
  · exact { m0 with c := ⟨_, _, rfl, by first | (simp; done) | (simp [maxLen]; done), by first | (simp; done) | (simp [maxLen]; done), O 12 _ _ _ rfl, fun i hi => by simp at hi; subst hi; exact ⟨⟨fun z hz => by simp at hz; omega, O 10 _ _ _ rfl⟩, by first | (simp; done) | (simp [maxLen]; done), by first | (simp; done) | (simp [maxLen]; done), by first | (simp; done) | (simp [maxLen]; done), hb [i11] 11 rfl (by first | (simp; done) | (simp [maxLen]; done)) (by simp)⟩⟩ }
theorem ax_put (g k : Nat) (m : MV) (h : (axM g)[k]? = some m) : PutOk m ∧ encMV m = secFront ++ axT.getD k [] ∧ m.x.l = [] := by
  have hlt : k < 9 := (List.getElem?_eq_some_iff.1 h).1
  have he : encMV m = secFront ++ axT.getD k [] := by
    rw [encMV_mo, ← ax_enc ⟨k, hlt⟩]
    have : (axO)[k]? = some m.mo := by rw [← axM_mo g, List.getElem?_map, h]; rfl
    rw [List.getD_eq_getElem?_getD, this]; rfl
  have hl : (secFront ++ axT.getD k []).length ≤ 60000000 := by
    have : ∀ k : Fin 9, (secFront ++ axT.getD k.val []).length ≤ 60000000 := by decide +kernel
    exact this ⟨k, hlt⟩
  refine ⟨?_, he, ?_⟩
  · have hall : (encMV m).length ≤ 60000000 := by rw [he]; exact hl
    have key : k = 0 ∨ k = 1 ∨ k = 2 ∨ k = 3 ∨ k = 4 ∨ k = 5 ∨ k = 6 ∨ k = 7 ∨ k = 8 := by omega
    have hB : ∀ is : List IV, (∀ i ∈ is, i = i65 ∨ i = i11 ∨ i = i210) → ∀ A c, BOk ⟨is, A, c⟩ := fun is hi A c i him => by
      rcases hi i him with rfl | rfl | rfl <;> exact ⟨by decide, by decide⟩
    rcases key with rfl | rfl | rfl | rfl | rfl | rfl | rfl | rfl | rfl <;> (have h := (Option.some.inj h).symm; subst h)
    · exact ⟨by simp [mv0, lv0], by simp [mv0, lv0], by simp [mv0, lv0], by simp [mv0, lv0], by simp [mv0, lv0], by simp [mv0, lv0], hall⟩
    · exact ⟨by simp [mv0, lv0], by simp [mv0, lv0], by simp [mv0, lv0], by simp [mv0, lv0], by simp [mv0, lv0], by simp [mv0, lv0], hall⟩
    · exact ⟨by simp [mv0, lv0], by simp [mv0, lv0], by simp [mv0, lv0], by simp [mv0, lv0], by simp [mv0, lv0], by simp [mv0, lv0], hall⟩
    · exact ⟨by simp [mv0, lv0], by simp [mv0, lv0], by simp [mv0, lv0], by simp [mv0, lv0], by simp [mv0, lv0], by simp [mv0, lv0], hall⟩
    · exact ⟨by simp [mv0, lv0], by simp [mv0, lv0], fun i hi => by simp at hi; subst hi; exact ⟨hB _ (by simp) _ _, by simp, by simp⟩, by simp [mv0, lv0], by simp [mv0, lv0], by simp [mv0, lv0], hall⟩
    · exact ⟨by simp [mv0, lv0], by simp [mv0, lv0], fun i hi => by simp at hi; subst hi; exact ⟨hB _ (by simp) _ _, by simp, by simp⟩, by simp [mv0, lv0], by simp [mv0, lv0], by simp [mv0, lv0], hall⟩
    · exact ⟨by simp [mv0, lv0], by simp [mv0, lv0], fun i hi => by simp at hi; subst hi; exact ⟨hB _ (by simp) _ _, fun b hb => by simp at hb; subst hb; exact hB _ (by simp) _ _, (show (encB [i210.x, i11.x] ++ []).length ≤ 60000000 from by decide +kernel)⟩, by simp [mv0, lv0], by simp [mv0, lv0], by simp [mv0, lv0], hall⟩
    · exact ⟨by simp [mv0, lv0], by simp [mv0, lv0], by simp [mv0, lv0], by simp [mv0, lv0], fun i hi => by simp at hi; subst hi; exact hB _ (by simp) _ _, by simp [mv0, lv0], hall⟩
    · exact ⟨by simp [mv0, lv0], by simp [mv0, lv0], by simp [mv0, lv0], fun i hi => by simp at hi; subst hi; exact hB _ (by simp) _ _, by simp [mv0, lv0], by simp [mv0, lv0], hall⟩
  · have : ∀ k : Nat, ∀ m : MV, (axM g)[k]? = some m → m.x = lv0 _ := fun k m h => by
      have := List.mem_of_getElem? h
      simp only [axM, List.mem_cons, List.not_mem_nil, or_false] at this
      rcases this with rfl | rfl | rfl | rfl | rfl | rfl | rfl | rfl | rfl <;> rfl
    rw [this k m h]; rfl
end Go.Proofs.Ytdngkbagfaeplaa

/- The walk of AsmForms: the law. -/
namespace Go.Proofs.Ytdngkbagfaeplaa
open Go.RowKit
set_option maxRecDepth 100000
set_option linter.unusedVariables false

theorem alsExp0 (A : Option Addr) (c : Nat) (W : World) : Calls Try.prog 18 #[.int .u8 7, .func (.func 19) #[] #[], .slice A 0 c] W (WPost [] W) := by
  go_enter Try.func18, Try.ntmps18
  go_wp2
  go_ret
  exact ⟨_, rfl, OwnB.nil _ _, Below.refl _ _⟩
theorem aput0 {X : Nat → Prop} (m : MV) (W : World) (h : MV.ok X W m) (hp : PutOk m) (hx : m.x.l = []) : Calls Try.prog 5 #[aMV m] W (WPostR (encMV m) W) := by
  refine aput_any m W h hp (fun W' _ => ?_) ?_
  · have := alsExp0 m.x.A m.x.c W'
    rw [LV.v, hx]
    exact this
  · rw [hx]; exact IsBytes.nil
theorem ashort0 {X : Nat → Prop} (m : MV) (W : World) (h : MV.ok X W m) (hp : PutOk m) (hx : m.x.l = []) (hl : (encMV m).length ≤ 4096) (hI : IsBytes (encMV m)) : Calls Try.prog 6 #[aMV m] W fun e w' => e = .returned (.bool true) ∧ Below W.heap.size W w' := by
  have hb := bl2 W (.cells m.cells.toArray 37)
  have HC := Lib.hid (aput0 m (W.alloc (.cells m.cells.toArray 37)) (MV.ok.chg h (S := fun _ => False) (Chg.of_below hb) fun _ _ _ => id) hp hx)
  have HB := Lib.hid hb
  have HI := Lib.hid hI
  have hln : ((encMV m).length : Int) ≤ 4096 := by omega
  clear h hp hx hb hI hl
  generalize encMV m = y at *
  obtain ⟨⟨tA, tc, tl⟩, ⟨fA, fc, fl⟩, ⟨bA, bc, bl⟩, ⟨mA, mc, ml⟩, ⟨gA, gc, gl⟩, ⟨xA, xc, xl⟩, st, sn, ⟨eA, ec, el⟩, kk, kn, ⟨cA, cc, cl⟩, ⟨dA, dc, dl⟩⟩ := m
  simp only [aMV, MV.cells, LV.v] at *
  generalize tl.length = n1 at *
  generalize fl.length = n2 at *
  generalize bl.length = n3 at *
  generalize ml.length = n4 at *
  generalize gl.length = n5 at *
  generalize xl.length = n6 at *
  generalize el.length = n7 at *
  generalize cl.length = n8 at *
  generalize dl.length = n9 at *
  go_enter Try.func6, Try.ntmps6
  go_wp2_with fail
  refine HC.out.mono ?_
  intro e w2 hP
  obtain ⟨B, d, rfl, -, hb⟩ := hP.sl
  have H2 := Lib.hid (blT HB.out hb)
  clear hP hb HC
  generalize y.length = q at *
  go_wp2
  go_ret
  exact ⟨rfl, H2.out⟩
theorem mB_ok (g : Nat) : let m : MV := { mv0 with t := ⟨at_ g, 1, [⟨[], none, 0, [], none, 0⟩]⟩ }
    PutOk m ∧ encMV m = [0, 97, 115, 109, 1, 0, 0, 0, 1, 4, 1, 96, 0, 0] := by
  intro m
  have he : encMV m = [0, 97, 115, 109, 1, 0, 0, 0, 1, 4, 1, 96, 0, 0] := by
    rw [encMV_mo]
    show encMo { mo0 with types := [([], [])] } = _
    decide +kernel
  refine ⟨⟨fun i hi => ?_, by simp [m, mv0, lv0], by simp [m, mv0, lv0], by simp [m, mv0, lv0], by simp [m, mv0, lv0], by simp [m, mv0, lv0], by rw [he]; simp⟩, he⟩
  simp [m] at hi
  subst hi
  exact ⟨by simp, by simp⟩
set_option maxHeartbeats 2000000 in
theorem begun9_any (w : World) : Calls Try.prog 4 #[] w fun e w' => e = .returned (.bool true) ∧ Below w.heap.size w w' := by
  have hb := bl4 w (.cells #[.slice none 0 0, .slice none 0 0] 53) (.cells (MV.cells { mv0 with t := ⟨at_ w.heap.size, 1, [⟨[], none, 0, [], none, 0⟩]⟩ }).toArray 37)
  have hO := (Own.new w 53 [.slice none 0 0, .slice none 0 0]).later (bl2 _ (.cells (MV.cells { mv0 with t := ⟨at_ w.heap.size, 1, [⟨[], none, 0, [], none, 0⟩]⟩ }).toArray 37))
  have hM : ∀ W', Below ((w.alloc (.cells #[.slice none 0 0, .slice none 0 0] 53)).alloc (.cells (MV.cells { mv0 with t := ⟨at_ w.heap.size, 1, [⟨[], none, 0, [], none, 0⟩]⟩ }).toArray 37)).heap.size ((w.alloc (.cells #[.slice none 0 0, .slice none 0 0] 53)).alloc (.cells (MV.cells { mv0 with t := ⟨at_ w.heap.size, 1, [⟨[], none, 0, [], none, 0⟩]⟩ }).toArray 37)) W' → MV.ok (fun _ => True) W' { mv0 with t := ⟨at_ w.heap.size, 1, [⟨[], none, 0, [], none, 0⟩]⟩ } := fun W' hW =>
    { MV.ok0 (fun _ => True) W' with t := ⟨_, _, rfl, by simp, by simp [maxLen], rdV_own (hO.later hW), fun i hi => by simp at hi; subst hi; exact ⟨RdX.nil _ _ _, by simp, by simp, RdX.nil _ _ _, by simp, by simp⟩⟩ }
  have hm := mB_ok w.heap.size
  have HP : Hid (∀ W', Below ((w.alloc (.cells #[.slice none 0 0, .slice none 0 0] 53)).alloc (.cells (MV.cells { mv0 with t := ⟨at_ w.heap.size, 1, [⟨[], none, 0, [], none, 0⟩]⟩ }).toArray 37)).heap.size ((w.alloc (.cells #[.slice none 0 0, .slice none 0 0] 53)).alloc (.cells (MV.cells { mv0 with t := ⟨at_ w.heap.size, 1, [⟨[], none, 0, [], none, 0⟩]⟩ }).toArray 37)) W' →
      Calls Try.prog 5 #[aMV { mv0 with t := ⟨at_ w.heap.size, 1, [⟨[], none, 0, [], none, 0⟩]⟩ }] W' (WPostR [0, 97, 115, 109, 1, 0, 0, 0, 1, 4, 1, 96, 0, 0] W') ∧ Calls Try.prog 6 #[aMV { mv0 with t := ⟨at_ w.heap.size, 1, [⟨[], none, 0, [], none, 0⟩]⟩ }] W' fun e w' => e = .returned (.bool true) ∧ Below W'.heap.size W' w') := fun W' hW => by
    refine ⟨?_, ashort0 _ W' (hM W' hW) hm.1 rfl (by rw [hm.2]; simp) (by rw [hm.2]; exact fun z hz => by simp at hz; omega)⟩
    rw [← hm.2]
    exact aput0 _ W' (hM W' hW) hm.1 rfl
  have HO : Hid (∀ W', Below ((w.alloc (.cells #[.slice none 0 0, .slice none 0 0] 53)).alloc (.cells (MV.cells { mv0 with t := ⟨at_ w.heap.size, 1, [⟨[], none, 0, [], none, 0⟩]⟩ }).toArray 37)).heap.size ((w.alloc (.cells #[.slice none 0 0, .slice none 0 0] 53)).alloc (.cells (MV.cells { mv0 with t := ⟨at_ w.heap.size, 1, [⟨[], none, 0, [], none, 0⟩]⟩ }).toArray 37)) W' → Own W' (w.heap.size + 1) 37 (MV.cells { mv0 with t := ⟨at_ w.heap.size, 1, [⟨[], none, 0, [], none, 0⟩]⟩ })) := fun W' hW => by
    have := (Own.new (w.alloc (.cells #[.slice none 0 0, .slice none 0 0] 53)) 37 (MV.cells { mv0 with t := ⟨at_ w.heap.size, 1, [⟨[], none, 0, [], none, 0⟩]⟩ })).later hW
    rwa [show (w.alloc (.cells #[.slice none 0 0, .slice none 0 0] 53)).heap.size = w.heap.size + 1 from by simp] at this
  have HB := Lib.hid hb
  clear hb hO hM hm
  simp only [MV.cells, mv0, lv0, LV.v, aMV, at_, List.length_nil, List.length_cons, Nat.zero_add] at HP HO HB
  go_enter Try.func4, Try.ntmps4
  go_upto_region 2 with fail
  generalize (w.alloc (.cells #[.slice none 0 0, .slice none 0 0] 53)).alloc (.cells #[.slice (some ⟨w.heap.size, 0, none⟩) 1 1, .slice none 0 0, .slice none 0 0, .slice none 0 0, .slice none 0 0, .slice none 0 0, .bool false, .int .u32 0, .slice none 0 0, .bool false, .int .u32 0, .slice none 0 0, .slice none 0 0] 37) = w1 at *
  have ho := HO.out w1 (Below.refl _ _)
  have c0 := ho.cell 0
  have c1 := ho.cell 1
  have c2 := ho.cell 2
  have c3 := ho.cell 3
  have c4 := ho.cell 4
  have c5 := ho.cell 5
  have c6 := ho.cell 6
  have c7 := ho.cell 7
  have c8 := ho.cell 8
  have c9 := ho.cell 9
  have c10 := ho.cell 10
  have c11 := ho.cell 11
  have c12 := ho.cell 12
  simp only [List.getElem?_cons_zero, List.getElem?_cons_succ] at c0 c1 c2 c3 c4 c5 c6 c7 c8 c9 c10 c11 c12
  have HP1 := Lib.hid (HP.out w1 (Below.refl _ _)).1
  clear ho
  go_wp2_with fail
  refine HP1.out.mono ?_
  intro e w2 hP
  have hI : IsBytes [0, 97, 115, 109, 1, 0, 0, 0, 1, 4, 1, 96, 0, 0] := fun z hz => by simp at hz; omega
  obtain ⟨B, d, rfl, hS, hb⟩ := hP.sl
  have hr := hS.open_.2.2.2
  have hst := hr.rd.string d
  have hcmp : ((strOfNums [0, 97, 115, 109, 1, 0, 0, 0, 1, 4, 1, 96, 0, 0]).toList == [0, 97, 115, 109, 1, 0, 0, 0, 1, 4, 1, 96, 0, 0]) = true := by decide +kernel
  have HP2 := Lib.hid (HP.out w2 hb).2
  have ho := HO.out w2 hb
  have d0 := ho.cell 0
  have d1 := ho.cell 1
  have d2 := ho.cell 2
  have d3 := ho.cell 3
  have d4 := ho.cell 4
  have d5 := ho.cell 5
  have d6 := ho.cell 6
  have d7 := ho.cell 7
  have d8 := ho.cell 8
  have d9 := ho.cell 9
  have d10 := ho.cell 10
  have d11 := ho.cell 11
  have d12 := ho.cell 12
  simp only [List.getElem?_cons_zero, List.getElem?_cons_succ] at d0 d1 d2 d3 d4 d5 d6 d7 d8 d9 d10 d11 d12
  have HB2 := Lib.hid (blT HB.out hb)
  clear ho hP hb hS hr hI HP1 c0 c1 c2 c3 c4 c5 c6 c7 c8 c9 c10 c11 c12
  simp only [List.length_cons, List.length_nil, Nat.zero_add, Nat.reduceAdd] at *
  generalize strOfNums [0, 97, 115, 109, 1, 0, 0, 0, 1, 4, 1, 96, 0, 0] = sy at *
  go_wp2_with fail
  refine HP2.out.mono ?_
  rintro e w3 ⟨rfl, hb⟩
  have HB3 := Lib.hid (blT HB2.out hb)
  clear hb
  go_wp2
  go_ret
  exact ⟨rfl, HB3.out⟩
set_option maxHeartbeats 8000000 in
theorem asmForms_core (w : World) : Calls Try.prog 3 #[] w fun e w' => e = .returned (.bool true) ∧ Below w.heap.size w w' := by
  have HG := Lib.hid (begun9_any w)
  go_enter Try.func3, Try.ntmps3
  go_wp2_with fail
  refine HG.out.mono ?_
  rintro e w1 ⟨rfl, hb1⟩
  have HB1 := Lib.hid hb1
  clear hb1 HG
  go_upto_region 5 with fail
  have HB2 := Lib.hid (bl2 w1 (.cells #[.int .i64 11, .int .u32 0, .int .u32 0, .int .u64 0, .slice none 0 0, .int .i64 0] 27))
  have hO := Own.new w1 27 [.int .i64 11, .int .u32 0, .int .u32 0, .int .u64 0, .slice none 0 0, .int .i64 0]
  have hlt : w1.heap.size < (w1.alloc (.cells #[.int .i64 11, .int .u32 0, .int .u32 0, .int .u64 0, .slice none 0 0, .int .i64 0] 27)).heap.size := by simp
  change Own (w1.alloc (.cells #[.int .i64 11, .int .u32 0, .int .u32 0, .int .u64 0, .slice none 0 0, .int .i64 0] 27)) w1.heap.size 27 _ at hO
  generalize w1.alloc (.cells #[.int .i64 11, .int .u32 0, .int .u32 0, .int .u64 0, .slice none 0 0, .int .i64 0] 27) = w2 at *
  have c0 := hO.cell 0
  have c1 := hO.cell 1
  have c2 := hO.cell 2
  have c3 := hO.cell 3
  have c4 := hO.cell 4
  have c5 := hO.cell 5
  simp only [List.getElem?_cons_zero, List.getElem?_cons_succ] at c0 c1 c2 c3 c4 c5
  clear hO
  have q1 : ¬ w1.heap.size = w2.heap.size + 1 := by omega
  have q2 : ¬ w1.heap.size = w2.heap.size + 2 := by omega
  have q3 : ¬ w1.heap.size = w2.heap.size + 3 := by omega
  have q4 : ¬ w1.heap.size = w2.heap.size + 4 := by omega
  have q5 : ¬ w1.heap.size = w2.heap.size + 5 := by omega
  have q6 : ¬ w1.heap.size = w2.heap.size + 6 := by omega
  have q7 : ¬ w1.heap.size = w2.heap.size + 7 := by omega
  have q8 : ¬ w1.heap.size = w2.heap.size + 8 := by omega
  have q9 : ¬ w1.heap.size = w2.heap.size + 9 := by omega
  have q10 : ¬ w1.heap.size = w2.heap.size + 10 := by omega
  have q11 : ¬ w1.heap.size = w2.heap.size + 11 := by omega
  have q12 : ¬ w1.heap.size = w2.heap.size + 12 := by omega
  have q13 : ¬ w1.heap.size = w2.heap.size + 13 := by omega
  have r1 : w1.heap.size < w2.heap.size + 1 := by omega
  have r2 : w1.heap.size < w2.heap.size + 2 := by omega
  have r3 : w1.heap.size < w2.heap.size + 3 := by omega
  have r4 : w1.heap.size < w2.heap.size + 4 := by omega
  have r5 : w1.heap.size < w2.heap.size + 5 := by omega
  have r6 : w1.heap.size < w2.heap.size + 6 := by omega
  have r7 : w1.heap.size < w2.heap.size + 7 := by omega
  have r8 : w1.heap.size < w2.heap.size + 8 := by omega
  have r9 : w1.heap.size < w2.heap.size + 9 := by omega
  have r10 : w1.heap.size < w2.heap.size + 10 := by omega
  have r11 : w1.heap.size < w2.heap.size + 11 := by omega
  have r12 : w1.heap.size < w2.heap.size + 12 := by omega
  have r13 : w1.heap.size < w2.heap.size + 13 := by omega
  have hcv : ∀ (W : World) (g : Nat), g = W.heap.size → (convert 44 44 (.slice (some ⟨g, 0, none⟩) 1 1)).run Try.prog (W.alloc (.cells #[.int .u8 120] 5)) = .ok (.slice (some ⟨g, 0, none⟩) 1 1) (W.alloc (.cells #[.int .u8 120] 5 (1, 2))) := fun W g hg => by subst hg; exact conv_new W _ 1 1
  go_upto_region 6 with fail
  change Code.wp _ _ _ _ (allocs w2 (axL w2.heap.size))
  have HOK := Lib.hid (ax_ok w2)
  have hrow := allocs_rd (axL w2.heap.size) w2 13 _ _ _ rfl
  have hbl := allocs_below (axL w2.heap.size) w2
  have HROW : Hid (RdE KMod (fun _ => True) (allocs w2 (axL w2.heap.size)) (.slice (at_ (w2.heap.size + 13)) 9 9) (axM w2.heap.size)) := ⟨_, _, rfl, Nat.le_refl 9, by simp [maxLen], hrow, fun m hm => by obtain ⟨k, hk⟩ := List.mem_iff_getElem?.1 hm; exact HOK.out k m hk⟩
  have HB3 := Lib.hid (blT HB1.out (blT HB2.out hbl))
  clear hrow hbl HOK c0 c1 c2 c3 c4 c5 hcv q1 r1 q2 r2 q3 r3 q4 r4 q5 r5 q6 r6 q7 r7 q8 r8 q9 r9 q10 r10 q11 r11 q12 r12 q13 r13
  generalize allocs w2 (axL w2.heap.size) = w3 at *
  generalize hgm : w2.heap.size + 1 + 1 + 1 + 1 + 1 + 1 + 1 + 1 + 1 + 1 + 1 + 1 + 1 = gM at *
  clear hgm
  generalize w2.heap.size = g2 at *
  have HS : Hid (Own (w3.alloc (.cells (axT.map fun l => Value.string (strOfNums l)).toArray 9)) w3.heap.size 9 (axT.map fun l => .string (strOfNums l))) := Own.new w3 _ _
  rw [show (axT.map fun l => Value.string (strOfNums l)).toArray = (#[.string ⟨#[]⟩, .string ⟨#[8, 1, 3]⟩, .string ⟨#[12, 1, 0]⟩, .string ⟨#[5, 4, 1, 1, 1, 2]⟩, .string ⟨#[9, 6, 1, 4, 65, 0, 11, 0]⟩, .string ⟨#[9, 8, 1, 6, 1, 65, 0, 11, 111, 0]⟩, .string ⟨#[9, 7, 1, 7, 112, 1, 210, 2, 11]⟩, .string ⟨#[11, 4, 1, 1, 1, 120]⟩, .string ⟨#[10, 8, 1, 6, 2, 1, 127, 1, 127, 11]⟩] : Array Value) from by kernel_rfl] at HS
  have HB4 := Lib.hid (bl2 w3 (.cells #[.string ⟨#[]⟩, .string ⟨#[8, 1, 3]⟩, .string ⟨#[12, 1, 0]⟩, .string ⟨#[5, 4, 1, 1, 1, 2]⟩, .string ⟨#[9, 6, 1, 4, 65, 0, 11, 0]⟩, .string ⟨#[9, 8, 1, 6, 1, 65, 0, 11, 111, 0]⟩, .string ⟨#[9, 7, 1, 7, 112, 1, 210, 2, 11]⟩, .string ⟨#[11, 4, 1, 1, 1, 120]⟩, .string ⟨#[10, 8, 1, 6, 2, 1, 127, 1, 127, 11]⟩] 9))
  go_wp2
  have HROW4 := Lib.hid (HROW.out.later HB4.out)
  have HB44 := Lib.hid (blT HB3.out HB4.out)
  generalize w3.alloc (.cells #[.string ⟨#[]⟩, .string ⟨#[8, 1, 3]⟩, .string ⟨#[12, 1, 0]⟩, .string ⟨#[5, 4, 1, 1, 1, 2]⟩, .string ⟨#[9, 6, 1, 4, 65, 0, 11, 0]⟩, .string ⟨#[9, 8, 1, 6, 1, 65, 0, 11, 111, 0]⟩, .string ⟨#[9, 7, 1, 7, 112, 1, 210, 2, 11]⟩, .string ⟨#[11, 4, 1, 1, 1, 120]⟩, .string ⟨#[10, 8, 1, 6, 2, 1, 127, 1, 127, 11]⟩] 9) = w4 at *
  clear HB4
  generalize w3.heap.size = gs at *
  go_loopw [5] (fun i wr => ∃ (k : Nat), k ≤ 9 ∧ i = .int .i64 k ∧ Hid (RdE KMod (fun _ => True) wr (.slice (at_ gM) 9 9) (axM g2) ∧ Own wr gs 9 (axT.map fun l => .string (strOfNums l)) ∧ Below w.heap.size w wr)) (fun i _ => 9 - (intOf i).toNat)
  case atStart => exact ⟨0, by omega, rfl, HROW4.out, HS.out, HB44.out⟩
  case round =>
    obtain ⟨k, hk, rfl, HX⟩ := hrel
    by_cases hlt : k < 9
    · have hlt2 : (k : Int) < 9 := by omega
      have hw1 : IntKind.i64.wrap ((k : Int) + 1) = (k : Int) + 1 := by rw [IntKind.wrap_i64]; omega
      obtain ⟨m, hm⟩ : ∃ m, (axM g2)[k]? = some m := ⟨_, List.getElem?_eq_getElem (show k < (axM g2).length from hlt)⟩
      obtain ⟨hpo, henc, hmx⟩ := ax_put g2 k m hm
      obtain ⟨bb, oo, hA, -, hbb, hok, hcs⟩ := HX.out.1.at_ hm
      injection hA with hA
      injection hA with hA1 hA2
      subst hA1
      subst hA2
      have hs0 := HX.out.2.1.cell k
      have hst : (axT.map fun l => Value.string (strOfNums l))[k]? = some (.string (strOfNums (axT.getD k []))) := by
        rw [List.getElem?_map, List.getElem?_eq_getElem (show k < axT.length from hlt), List.getD_eq_getElem?_getD, List.getElem?_eq_getElem (show k < axT.length from hlt)]; rfl
      rw [hst] at hs0
      have HP : Hid (∀ W' : World, Below wr.heap.size wr W' → Calls Try.prog 5 #[aMV m] W' (WPostR (secFront ++ axT.getD k []) W')) := fun W' hW => by
        rw [← henc]
        exact aput0 m W' (KMod.later hok hW) hpo hmx
      have hadd : (⟨#[0, 97, 115, 109, 1, 0, 0, 0]⟩ : ByteArray) ++ strOfNums (axT.getD k []) = strOfNums (secFront ++ axT.getD k []) := by
        have key : ∀ k : Fin 9, (⟨#[0, 97, 115, 109, 1, 0, 0, 0]⟩ : ByteArray) ++ strOfNums (axT.getD k.val []) = strOfNums (secFront ++ axT.getD k.val []) := by decide +kernel
        exact key ⟨k, hlt⟩
      have HX3 := Lib.hid HX.out
      obtain ⟨⟨tA, tc, tl⟩, ⟨fA, fc, fl⟩, ⟨bA, bc, bl⟩, ⟨mA, mc, ml⟩, ⟨gA, gc, gl⟩, ⟨xA, xc, xl⟩, st, sn, ⟨eA, ec, el⟩, kk, kn, ⟨cA, cc, cl⟩, ⟨dA, dc, dl⟩⟩ := m
      have z0 := hcs 0 _ rfl
      have z1 := hcs 1 _ rfl
      have z2 := hcs 2 _ rfl
      have z3 := hcs 3 _ rfl
      have z4 := hcs 4 _ rfl
      have z5 := hcs 5 _ rfl
      have z6 := hcs 6 _ rfl
      have z7 := hcs 7 _ rfl
      have z8 := hcs 8 _ rfl
      have z9 := hcs 9 _ rfl
      have z10 := hcs 10 _ rfl
      have z11 := hcs 11 _ rfl
      have z12 := hcs 12 _ rfl
      simp only [aMV, MV.cells, LV.v] at HP
      rw [Nat.add_zero] at z0
      change wr.cell? ⟨gM, 0 + k * 13, none⟩ = _ at z0
      rw [Nat.zero_add] at z0
      change wr.cell? ⟨gM, 0 + k * 13 + 1, none⟩ = _ at z1
      rw [Nat.zero_add] at z1
      change wr.cell? ⟨gM, 0 + k * 13 + 2, none⟩ = _ at z2
      rw [Nat.zero_add] at z2
      change wr.cell? ⟨gM, 0 + k * 13 + 3, none⟩ = _ at z3
      rw [Nat.zero_add] at z3
      change wr.cell? ⟨gM, 0 + k * 13 + 4, none⟩ = _ at z4
      rw [Nat.zero_add] at z4
      change wr.cell? ⟨gM, 0 + k * 13 + 5, none⟩ = _ at z5
      rw [Nat.zero_add] at z5
      change wr.cell? ⟨gM, 0 + k * 13 + 6, none⟩ = _ at z6
      rw [Nat.zero_add] at z6
      change wr.cell? ⟨gM, 0 + k * 13 + 7, none⟩ = _ at z7
      rw [Nat.zero_add] at z7
      change wr.cell? ⟨gM, 0 + k * 13 + 8, none⟩ = _ at z8
      rw [Nat.zero_add] at z8
      change wr.cell? ⟨gM, 0 + k * 13 + 9, none⟩ = _ at z9
      rw [Nat.zero_add] at z9
      change wr.cell? ⟨gM, 0 + k * 13 + 10, none⟩ = _ at z10
      rw [Nat.zero_add] at z10
      change wr.cell? ⟨gM, 0 + k * 13 + 11, none⟩ = _ at z11
      rw [Nat.zero_add] at z11
      change wr.cell? ⟨gM, 0 + k * 13 + 12, none⟩ = _ at z12
      rw [Nat.zero_add] at z12
      clear hcs hok hpo henc hmx hm hst HX
      simp only [LV.v] at z0 z1 z2 z3 z4 z5 z8 z11 z12
      generalize tl.length = nt at *
      generalize fl.length = nf at *
      generalize bl.length = nb at *
      generalize ml.length = nm at *
      generalize gl.length = ng at *
      generalize xl.length = nx at *
      generalize el.length = ne at *
      generalize cl.length = nc at *
      generalize dl.length = nd at *
      have hsz : (⟨#[0, 97, 115, 109, 1, 0, 0, 0]⟩ : ByteArray).size + (strOfNums (axT.getD k [])).size ≤ 9223372036854775807 := by
        have key : ∀ k : Fin 9, (⟨#[0, 97, 115, 109, 1, 0, 0, 0]⟩ : ByteArray).size + (strOfNums (axT.getD k.val [])).size ≤ 9223372036854775807 := by decide +kernel
        exact key ⟨k, hlt⟩
      have hsz2 : (8 + (strOfNums (axT.getD k [])).size > 9223372036854775807) = False := by have h9 : 8 + (strOfNums (axT.getD k [])).size ≤ 9223372036854775807 := hsz; simp only [gt_iff_lt, eq_iff_iff, iff_false]; omega
      have hsz3 : ((⟨#[0, 97, 115, 109, 1, 0, 0, 0]⟩ : ByteArray).size + (strOfNums (axT.getD k [])).size > 9223372036854775807) = False := by simp only [gt_iff_lt, eq_iff_iff, iff_false]; omega
      have hsz4 : ((9223372036854775807 : Nat) < 8 + (strOfNums (axT.getD k [])).size) = False := by have h9 : 8 + (strOfNums (axT.getD k [])).size ≤ 9223372036854775807 := hsz; simp only [eq_iff_iff, iff_false]; omega
      have hsz5 : ((9223372036854775807 : Nat) < (⟨#[0, 97, 115, 109, 1, 0, 0, 0]⟩ : ByteArray).size + (strOfNums (axT.getD k [])).size) = False := by simp only [eq_iff_iff, iff_false]; omega
      generalize hty : axT.getD k [] = ty at *
      have HTY := Lib.hid hty
      clear hty
      have KS : Hid (∀ W' : World, Below wr.heap.size wr W' → W'.cell? ⟨gM, k * 13, none⟩ = some (.slice tA nt tc) ∧ W'.cell? ⟨gM, k * 13 + 1, none⟩ = some (.slice fA nf fc) ∧ W'.cell? ⟨gM, k * 13 + 2, none⟩ = some (.slice bA nb bc) ∧ W'.cell? ⟨gM, k * 13 + 3, none⟩ = some (.slice mA nm mc) ∧ W'.cell? ⟨gM, k * 13 + 4, none⟩ = some (.slice gA ng gc) ∧ W'.cell? ⟨gM, k * 13 + 5, none⟩ = some (.slice xA nx xc) ∧ W'.cell? ⟨gM, k * 13 + 6, none⟩ = some (.bool st) ∧ W'.cell? ⟨gM, k * 13 + 7, none⟩ = some (.int .u32 sn) ∧ W'.cell? ⟨gM, k * 13 + 8, none⟩ = some (.slice eA ne ec) ∧ W'.cell? ⟨gM, k * 13 + 9, none⟩ = some (.bool kk) ∧ W'.cell? ⟨gM, k * 13 + 10, none⟩ = some (.int .u32 kn) ∧ W'.cell? ⟨gM, k * 13 + 11, none⟩ = some (.slice cA nc cc) ∧ W'.cell? ⟨gM, k * 13 + 12, none⟩ = some (.slice dA nd dc) ∧ W'.cell? ⟨gs, k, none⟩ = some (.string (strOfNums ty))) := fun W' hW => ⟨by rw [hW.cell (World.block_lt_of_cell? _ _ z0)]; exact z0, by rw [hW.cell (World.block_lt_of_cell? _ _ z1)]; exact z1, by rw [hW.cell (World.block_lt_of_cell? _ _ z2)]; exact z2, by rw [hW.cell (World.block_lt_of_cell? _ _ z3)]; exact z3, by rw [hW.cell (World.block_lt_of_cell? _ _ z4)]; exact z4, by rw [hW.cell (World.block_lt_of_cell? _ _ z5)]; exact z5, by rw [hW.cell (World.block_lt_of_cell? _ _ z6)]; exact z6, by rw [hW.cell (World.block_lt_of_cell? _ _ z7)]; exact z7, by rw [hW.cell (World.block_lt_of_cell? _ _ z8)]; exact z8, by rw [hW.cell (World.block_lt_of_cell? _ _ z9)]; exact z9, by rw [hW.cell (World.block_lt_of_cell? _ _ z10)]; exact z10, by rw [hW.cell (World.block_lt_of_cell? _ _ z11)]; exact z11, by rw [hW.cell (World.block_lt_of_cell? _ _ z12)]; exact z12, by rw [hW.cell (World.block_lt_of_cell? _ _ hs0)]; exact hs0⟩
      have HP1 := Lib.hid (HP.out wr.drew (bl1 _))
      clear HP
      go_upto_region 10 with fail
      go_region_with (go_at_call 5; refine HP1.out.mono ?_; intro e w5 hP; obtain ⟨B, d, rfl, hS, hb⟩ := hP.sl; have hst := (hS.open_.2.2.2).rd.string d; have HB5 : Hid (Below wr.heap.size wr w5) := blT (bl1 _) hb; have hs5 : w5.cell? ⟨gs, k, none⟩ = some (.string (strOfNums ty)) := (KS.out w5 HB5.out).2.2.2.2.2.2.2.2.2.2.2.2.2; have HX5 : Hid (RdE KMod (fun _ => True) w5 (.slice (at_ gM) 9 9) (axM g2) ∧ Own w5 gs 9 (axT.map fun l => .string (strOfNums l)) ∧ Below w.heap.size w w5) := ⟨HX3.out.1.later HB5.out, HX3.out.2.1.later HB5.out, HX3.out.2.2.trans (HB5.out.mono HX3.out.2.2.size)⟩; clear hP hS hb HP1 KS HTY HX3 HB1 HB2 HB3; generalize (secFront ++ ty).length = q5 at *)
      all_goals go_wp2
      all_goals exact ⟨⟨k + 1, by omega, by push_cast; rfl, HX5.out⟩, by simp [intOf]; omega⟩
    · obtain rfl : k = 9 := by omega
      have HBX := Lib.hid HX.out.2.2
      clear HX
      go_wp2
      go_ret
      exact ⟨rfl, HBX.out⟩
end Go.Proofs.Ytdngkbagfaeplaa

/- Proved: for every input the call cloakroom/cloakroomlaw9.AsmForms returns true, and each argument reads afterwards as it read before. Conditions: none. -/
namespace Go.Proofs.Ytdngkbagfaeplaa.asmForms
open Go.ChangeShapes Go.WideShapes Go.ChangeAt Go.RowKit
open Go.ChangeMaps (open_string shut_string)
set_option linter.unusedVariables false      -- a walk need not use every 'w<i>' (that an integer argument fits its kind)

theorem own : ownKnob Try.prog.godebug = none := by kernel_rfl

/-! ### STEP 1: THE WALK: the Go text returns true. 'Grown w w'': the world has at most new blocks (Derived/RowKit3.lean). Part the cases AHEAD of 'go_enter' where a test parts the walk; take each callee by a contract of your own. -/
theorem walk  (w : World) :
    Calls Try.prog 3 #[] w fun e w' => e = .returned (.bool true) ∧ Below w.heap.size w w' := by
  exact asmForms_core w

/-! ### THE ROW's STEP: WRITTEN OUT: LEAVE IT -/
set_option maxRecDepth 100000 in
theorem lifted (os : Os) (started : os.Started) (H : Type) (enc : TypeId × Value → H) :
    ReturnsInHanded {} Try.checked os 3 .any (Rows.asmFormsSpec.pre6 enc Try.prog Try.f3 Rows.asmFormsRow.domain false) (Rows.asmFormsSpec.post enc Try.prog Try.f3 false true false false) := by
  refine returnsInHanded_of_change (C := Try.checked) own started (by kernel_rfl) Try.func3
    (ChangeSpec.witness6 (enc := enc) (C := Try.checked) false ⟨#[], #[], []⟩ 8 (by kernel_rfl) (by kernel_rfl) (by kernel_rfl) (by kernel_rfl)) ?_
  intro W base args ds gs before hval0 hW hcnd _
  have hval : ∀ (j : Nat) t v, Try.f3.params[j]? = some t → args[j]? = some v → Value.okWide Try.prog W .any base t v := hval0
  have hW' := hW
  obtain ⟨p, q, hA0, hV, rfl, hfz, hnd⟩ := hW
  have hA : DataW.TrodAll enc Try.prog W 0 (fun _ => true) true Try.f3.params.toList args.toList ds p := hA0
  rw [Try.params3] at hA hval
  obtain ⟨rfl, rfl, rfl⟩ := trodAll_none hA
  obtain ⟨rfl, rfl⟩ := trodVars_none hV
  clear hA0 hval0
  simp only [List.append_nil] at hW'
  refine (walk  W).mono fun e W' ⟨he, bel⟩ => ?_
  subst he
  exact ⟨_, rfl, _, _, _, [], _, [], hW', trodAll_mk1 (shut_bool Try.underlying4 _), rfl, rfl, bel.frame _, fun h => by cases h⟩

theorem over : Rows.asmFormsRow.holds Try.pinned (OpenSpec.ofChange Rows.asmFormsSpec) :=
  OpenClaim.holds_of_wide 3 Try.f3 rfl rfl rfl rfl rfl rfl rfl ⟨rfl, rfl, rfl, rfl, rfl⟩ rfl rfl rfl rfl rfl (by kernel_rfl) Try.func3 (by kernel_rfl)
    (of_decide_eq_true (by kernel_rfl)) (by unfold Func.isWrapper; first | (rw [if_pos (by decide +kernel)]; kernel_rfl) | (rw [if_neg (by decide +kernel)]; exact ⟨rfl, rfl⟩))
    (fun os started H enc _ => lifted os started H enc)

/-- ████ THE STATEMENT ████ -/
theorem proved : Rows.AsmFormsSaid :=
  over
#print axioms proved
end Go.Proofs.Ytdngkbagfaeplaa.asmForms
