/- Texts joined: ModSrc1, ModSrc2, Utf8Word, Utf8Cut. -/
import Derived.Test.YtadgiekiiicmfaaGreatDoorJoin8
import Derived.Test.YtadgiekiiicmfaaGreatDoorJoin9
import Derived.Test.YtadgiekiiicmfaaGreatDoorJoin10
import Derived.Deep.QuietTactic
import Derived.BigQuiet
import Derived.Deep.RegionLaw
import Derived.Deep.RegionWith
import Derived.Deep.Cut
import Derived.Test.YtadgiekiiicmfaaGreatDoorJoin5
import Derived.Test.YtadgiekiiicmfaaGreatDoorJoin3
import Derived.Laws.BitsAllLaws
import Derived.Lib.LaidU8T
import Derived.Deep.LoopGhost
import Derived.Deep.DeepCutAuto
import Derived.Deep.CutBlock
import Derived.Handy
/- mod's source: what reader.Take comes to, and the parts that are read by it. (Written by gen_ModSrc1.py.) -/
namespace Go.Proofs.YtadgiekiiicmfaaGreatDoor
open Go.RowKit
set_option maxRecDepth 100000
set_option linter.unusedVariables false

/-- What a part's function tells: an element a, given as val a, that stands for abs a. -/
def PartPost {α β : Type} (K : El α) (val : α → Value) (abs : α → β) (p : PR β) (g : Nat) (t : TypeId) (tl : RTl) (s : St) (w : World) (e : Ending) (w' : World) : Prop :=
  ∃ a s', e = .returned (val a) ∧ K.ok (fun k => w.heap.size ≤ k) w' a ∧ RdrAt w' g t tl s' ∧ KP p s (abs a) s' ∧ Chg (fun k => k = g) w w'
theorem RdrAt.er {w : World} {g : Nat} {t : TypeId} {tl : RTl} {s : St} (h : RdrAt w g t tl s) : ∀ e, s = .error e → 0 < e ∧ e ≤ 100 := fun e he => by subst he; exact h.2
/-- What a taker tells. -/
def TkF {α β : Type} (K : El α) (val : α → Value) (abs : α → β) (p : PR β) (b : List Int) (w : World) (e : Ending) (w' : World) : Prop :=
  ∃ a n e0 s', e = .returned (.tuple #[val a, .int .i64 n, .int .i64 e0]) ∧ K.ok (fun k => w.heap.size ≤ k) w' a ∧ Below w.heap.size w w' ∧ KP p (.ok b) (abs a) s' ∧
    ((∃ m : Nat, e0 = 0 ∧ n = m ∧ m ≤ b.length ∧ s' = .ok (b.drop m)) ∨ ((e0 != 0) = true ∧ 0 < e0 ∧ e0 ≤ 100 ∧ s' = .error e0))
theorem tkF_of {α β : Type} {K : El α} {val : α → Value} {abs : α → β} {p : PR β} (hg : Gd p) {b : List Int} {w w' : World} {a : α} {n e0 : Int} (hok : K.ok (fun k => w.heap.size ≤ k) w' a) (hb : Below w.heap.size w w')
    (h : ∀ y l', p b = .ok (y, l') → e0 = 0 ∧ n = (b.length : Int) - l'.length ∧ abs a = y) (he : ∀ x, p b = .error x → e0 = x) : TkF K val abs p b w (.returned (.tuple #[val a, .int .i64 n, .int .i64 e0])) w' := by
  cases hp : p b with
  | error x =>
    obtain rfl := he x hp
    obtain ⟨h1, h2⟩ := hg.err _ _ hp
    exact ⟨a, n, e0, .error e0, rfl, hok, hb, by unfold KP; rw [bd_ok, hp]; rfl, .inr ⟨by simp; omega, h1, h2, rfl⟩⟩
  | ok r =>
    obtain ⟨h1, h2, h3⟩ := h r.1 r.2 hp
    obtain ⟨d1, d2⟩ := hg.drop (l' := r.2) (a := r.1) hp
    refine ⟨a, n, e0, .ok (b.drop (b.length - r.2.length)), rfl, hok, hb, ?_, .inl ⟨_, h1, by omega, by omega, rfl⟩⟩
    unfold KP; rw [bd_ok, hp, d1, h3]; rfl
def FV.v (f : FV) : Value := .agg #[.slice f.pA f.ps.length f.pc, .slice f.rA f.rs.length f.rc]
theorem FV.of_fn {X : Nat → Prop} {w : World} {v : Value} {f : Fn} (h : FnV X w v f) : ∃ a : FV, v = a.v ∧ a.x = f ∧ KFn.ok X w a := by
  obtain ⟨A, c, B, d, e, h1, h2, h3, h4, h5, h6⟩ := h
  exact ⟨⟨f.1, A, c, f.2, B, d⟩, e, rfl, h1, h2, h3, h4, h5, h6⟩
theorem pU32_in {l l' : List Int} {x : Int} (h : pU 32 l = .ok (x, l')) : 0 ≤ x ∧ x < 4294967296 := by
  unfold pU at h
  split at h
  · simp only [Except.ok.injEq, Prod.mk.injEq] at h
    rw [← h.1]
    exact ⟨Int.emod_nonneg _ (by decide), Int.emod_lt_of_pos _ (by decide)⟩
  · cases h
theorem lim_in {l l' : List Int} {q : Lim} (h : pLim l = .ok (q, l')) : q.In := by
  unfold pLim at h
  obtain ⟨k, l1, -, h2⟩ := seq_ok h
  obtain ⟨a, l2, h3, h4⟩ := seq_ok h2
  have ha := pU32_in h3
  split at h4
  · obtain ⟨b, l3, h5, h6⟩ := seq_ok h4
    have hb := pU32_in h5
    simp only [Except.ok.injEq, Prod.mk.injEq] at h6
    rw [← h6.1]; exact ⟨ha.1, ha.2, hb.1, hb.2⟩
  · simp only [Except.ok.injEq, Prod.mk.injEq] at h4
    rw [← h4.1]; exact ⟨ha.1, ha.2, Int.le_refl 0, by show (0 : Int) < 4294967296; omega⟩
section
variable (A : Option Addr) (b : List Int) (n c : Nat) (w : World) (h : Rd w w.heap.size A b) (hn : n = b.length) (hl : n ≤ 1000000) (hc : n ≤ c) (hcm : c ≤ maxLen)
include h hn hl hc hcm
theorem tkCode : Calls Tryz.prog 165 #[.slice A n c] w (TkF KB BV.v BV.x pCode b w) := by
  refine (ctake_any A b n c w h hn hl hc hcm).mono ?_
  rintro e w' ⟨v, is, rfl, p1, p2, p3, p4⟩
  obtain ⟨a, rfl, rfl, pa⟩ := BV.of_own p1 p4
  refine tkF_of gd_code (K := KB) (pa.mono fun k _ hk => ?_) p3 (fun y l' hp => ?_) fun x hp => by rw [hp]; rfl
  · rcases hk with hk | hk
    · exact hk.1
    · exact owns_ge p1.1 hk
  · rw [hp] at p2 ⊢
    exact ⟨rfl, rfl, p2⟩
theorem tkFn : Calls Tryz.prog 118 #[.slice A n c] w (TkF KFn FV.v FV.x pFn b w) := by
  refine (take_fn A b n c w h hn hl hc hcm).mono ?_
  rintro e w' ⟨v, rfl, p1, p2⟩
  obtain ⟨a, rfl, pa, p3⟩ := FV.of_fn p1
  refine tkF_of gd_fn (K := KFn) p3 p2 (fun y l' hp => ?_) fun x hp => by rw [hp]; rfl
  rw [hp] at pa ⊢
  exact ⟨rfl, rfl, pa⟩
theorem tkLim : Calls Tryz.prog 123 #[.slice A n c] w (TkF KLim limV id pLim b w) := by
  refine (take_lim A b n c w h hn hl hc hcm).mono ?_
  rintro e w' ⟨rfl, p2⟩
  refine tkF_of gd_lim (K := KLim) ?_ p2 (fun y l' hp => ?_) fun x hp => by rw [hp]; rfl
  · cases hp : pLim b with
    | error x => exact ⟨Int.le_refl 0, by show (0 : Int) < 4294967296; omega, Int.le_refl 0, by show (0 : Int) < 4294967296; omega⟩
    | ok r => exact lim_in (l := b) (q := r.1) (l' := r.2) hp
  · rw [hp]
    exact ⟨rfl, rfl, rfl⟩
end
set_option maxHeartbeats 2000000 in
theorem rtakeCode_any (g : Nat) (t : TypeId) (tl : RTl) (s : St) (w : World) (h : RdrAt w g t tl s) :
    Calls Tryz.prog 164 #[.pointer (some ⟨g, 0, none⟩), .func (.func 165) #[] #[]] w (PartPost KB BV.v BV.x pCode g t tl s w) := by
  have hz : pCode [] = .error 3 := by rfl
  have HH := Lib.hid h
  rcases s with e | l
  · obtain ⟨h1, he, he2⟩ := h
    obtain ⟨hc0, hc1, hc2, hf0, hf1, hf2⟩ := own_cells3 h1
    have HU := Lib.hid (fun w' : World => tkCode none [] 0 0 w' (Rd.nil _ _ _) rfl (by omega) (by omega) (by decide))
    have HZ := Lib.hid hz
    clear h1 hz
    go_enter Tryz.func164, Tryz.ntmps164
    go_wp2_with fail
    refine (HU.out _).mono ?_
    rintro e1 w1 ⟨a, n, e0, s', rfl, p1, p2, p3, p4⟩
    have hne : (e0 != 0) = true ∧ 0 < e0 ∧ e0 ≤ 100 := by
      have hs := p3.nx
      rw [nx_ok, HZ.out] at hs
      rcases p4 with ⟨m, rfl, rfl, p5, p6⟩ | ⟨p5, p6, p7, p8⟩
      · rw [p6] at hs; cases hs
      · exact ⟨p5, p6, p7⟩
    have HQ := Lib.hid (And.intro p1 (And.intro p2 (HH.out.later p2)))
    obtain ⟨hn1, hn2, hn3⟩ := hne
    clear p1 p2 p3 p4 hc0 hc1 hc2 hf0 hf1 hf2
    simp only [BV.v] at *
    obtain ⟨is, A1, c1⟩ := a
    generalize hql : is.length = ql at *
    have HQL := Lib.hid hql
    clear hql
    go_wp2_with fail
    refine (rfail_any g t tl (.error e) e0 w1 HQ.out.2.2 hn2 hn3).mono ?_
    rintro e3 w2 ⟨⟨u, rfl⟩, h2, hc⟩
    have HC := Lib.hid (And.intro h2 hc)
    clear h2 hc hn1 hn2 hn3
    go_wp2
    go_ret
    exact ⟨⟨is, A1, c1⟩, .error e, (by obtain rfl := HQL.out; rfl), HQ.out.1.chg HC.out.2 (fun k _ hk e => by have := HH.out.lt; omega), HC.out.1, rfl, (Chg.of_below HQ.out.2.1).trans HC.out.2 fun k _ e => e⟩
  · obtain ⟨A, c, r, h1, hr, hlc, hcm, hlm, -⟩ := h
    obtain ⟨hc0, hc1, hc2, hf0, hf1, hf2⟩ := own_cells3 h1
    have HU := Lib.hid (tkCode A l l.length c w hr.rd rfl hlm hlc hcm)
    clear h1 hr hlc hcm hlm hz
    generalize l.length = q at *
    go_enter Tryz.func164, Tryz.ntmps164
    go_wp2_with fail
    refine HU.out.mono ?_
    rintro e1 w1 ⟨a, n, e0, s', rfl, p1, p2, p3, p4⟩
    have HQ := Lib.hid (And.intro p1 (And.intro p2 (And.intro (HH.out.later p2) p3)))
    clear p1 p2 p3 hc0 hc1 hc2 hf0 hf1 hf2
    simp only [BV.v] at *
    obtain ⟨is, A1, c1⟩ := a
    generalize hql : is.length = ql at *
    have HQL := Lib.hid hql
    clear hql
    rcases p4 with ⟨m, rfl, rfl, p5, p6⟩ | ⟨p5, p6, p7, p8⟩
    · have HM := Lib.hid (And.intro p5 p6)
      clear p5 p6
      go_wp2_with fail
      refine (rskip_any g t tl l m w1 HQ.out.2.2.1 HM.out.1).mono ?_
      rintro e3 w2 ⟨⟨u, rfl⟩, h2, hc⟩
      have HC := Lib.hid (And.intro h2 hc)
      clear h2 hc
      go_wp2
      go_ret
      exact ⟨⟨is, A1, c1⟩, s', (by obtain rfl := HQL.out; rfl), HQ.out.1.chg HC.out.2 (fun k _ hk e => by have := HH.out.lt; omega), by rw [HM.out.2]; exact HC.out.1, HQ.out.2.2.2, (Chg.of_below HQ.out.2.1).trans HC.out.2 fun k _ e => e⟩
    · have HM := Lib.hid (And.intro p7 p8)
      clear p7 p8
      go_wp2_with fail
      refine (rfail_any g t tl (.ok l) e0 w1 HQ.out.2.2.1 p6 HM.out.1).mono ?_
      rintro e3 w2 ⟨⟨u, rfl⟩, h2, hc⟩
      have HC := Lib.hid (And.intro h2 hc)
      clear h2 hc p5 p6
      go_wp2
      go_ret
      exact ⟨⟨is, A1, c1⟩, s', (by obtain rfl := HQL.out; rfl), HQ.out.1.chg HC.out.2 (fun k _ hk e => by have := HH.out.lt; omega), by rw [HM.out.2]; exact HC.out.1, HQ.out.2.2.2, (Chg.of_below HQ.out.2.1).trans HC.out.2 fun k _ e => e⟩
set_option maxHeartbeats 2000000 in
theorem rtakeFn_any (g : Nat) (t : TypeId) (tl : RTl) (s : St) (w : World) (h : RdrAt w g t tl s) :
    Calls Tryz.prog 117 #[.pointer (some ⟨g, 0, none⟩), .func (.func 118) #[] #[]] w (PartPost KFn FV.v FV.x pFn g t tl s w) := by
  have hz : pFn [] = .error 3 := by rfl
  have HH := Lib.hid h
  have hb0 := (Below.refl w.heap.size w).alloc (Nat.le_refl _) (.cells #[.slice none 0 0, .slice none 0 0] 79)
  have HB0 := Lib.hid hb0
  rcases s with e | l
  · obtain ⟨h1, he, he2⟩ := h.later hb0
    obtain ⟨hc0, hc1, hc2, hf0, hf1, hf2⟩ := own_cells3 h1
    have HU := Lib.hid (fun w' : World => tkFn none [] 0 0 w' (Rd.nil _ _ _) rfl (by omega) (by omega) (by decide))
    have HZ := Lib.hid hz
    have HH0 := Lib.hid (HH.out.later hb0)
    clear h1 hz hb0
    go_enter Tryz.func117, Tryz.ntmps117
    go_wp2_with fail
    refine (HU.out _).mono ?_
    rintro e1 w1 ⟨a, n, e0, s', rfl, p1, p2, p3, p4⟩
    have hne : (e0 != 0) = true ∧ 0 < e0 ∧ e0 ≤ 100 := by
      have hs := p3.nx
      rw [nx_ok, HZ.out] at hs
      rcases p4 with ⟨m, rfl, rfl, p5, p6⟩ | ⟨p5, p6, p7, p8⟩
      · rw [p6] at hs; cases hs
      · exact ⟨p5, p6, p7⟩
    have HQ := Lib.hid (And.intro p1 (And.intro p2 (And.intro (HH0.out.later p2) p3)))
    obtain ⟨hn1, hn2, hn3⟩ := hne
    clear p1 p2 p3 p4 hc0 hc1 hc2 hf0 hf1 hf2
    obtain ⟨l1, A1, c1, l2, A2, c2⟩ := a
    simp only [FV.v] at *
    generalize hn1 : l1.length = n1 at *
    generalize hn2 : l2.length = n2 at *
    have HN1 := Lib.hid hn1
    have HN2 := Lib.hid hn2
    clear hn1 hn2
    have hb1 := HQ.out.2.1
    have hbA := (Below.refl w1.heap.size w1).alloc (Nat.le_refl _) (.cells #[.slice A1 n1 c1, .slice A2 n2 c2] 79)
    have hO4 := ((Own.new w 79 [.slice none 0 0, .slice none 0 0]).later hb1).later hbA
    have hO5 := Own.new w1 79 [.slice A1 n1 c1, .slice A2 n2 c2]
    have hs1 := hb1.size
    simp at hs1
    have HW := Lib.hid (And.intro hO4 (And.intro hO5 (And.intro ((HQ.out.2.2.1).later hbA) (And.intro ((KFn).later HQ.out.1 hbA) (HB0.out.trans ((hb1.trans (hbA.mono hb1.size)).mono HB0.out.size))))))
    have hg5 : w.heap.size < w1.heap.size := by omega
    clear hO4 hO5 hb1 hbA hs1
    go_upto_region 2 with fail
    have hRW := HW.out.2.2.1
    generalize w1.alloc (.cells #[.slice A1 n1 c1, .slice A2 n2 c2] 79) = w3 at *
    generalize w1.heap.size = g5 at *
    go_wp2_with fail
    refine (rfail_any g t tl (.error e) e0 w3 hRW hn2 hn3).mono ?_
    rintro e3 w2 ⟨⟨u, rfl⟩, h2, hc⟩
    have HC := Lib.hid (And.intro h2 hc)
    have hO4 := HW.out.1.chg hc (by have := HH.out.lt; omega)
    have hO5 := HW.out.2.1.chg hc (by have := HH.out.lt; omega)
    clear h2 hc
    obtain ⟨k0, k1, f0, f1⟩ := own_cells2 hO4
    obtain ⟨m0, m1, -, -⟩ := own_cells2 hO5
    have HO := Lib.hid hO4
    clear hO4 hO5
    go_wp2
    have hW := own_put2 HO.out (.slice A1 n1 c1) (.slice A2 n2 c2)
    have hC := chg2 w2 w.heap.size (.slice A1 n1 c1) (.slice A2 n2 c2)
    show bodyPost _ _ _ _ _ (put2 w2 w.heap.size (.slice A1 n1 c1) (.slice A2 n2 c2))
    generalize put2 w2 w.heap.size (.slice A1 n1 c1) (.slice A2 n2 c2) = W2 at *
    clear k0 k1 f0 f1 m0 m1
    obtain ⟨k0, k1, -, -⟩ := own_cells2 hW
    refine bodyPost_ret (by simp [results, Tryz.results117, go_sem, k0, k1]; try rfl) rfl ?_
    have hgl := HH.out.lt
    refine ⟨⟨l1, A1, c1, l2, A2, c2⟩, .error e, (by obtain rfl := HN1.out; obtain rfl := HN2.out; rfl), ?_, RdrAt.chg HC.out.1 hC (fun k hk e => by omega), rfl, ((Chg.of_below HW.out.2.2.2.2).trans HC.out.2 fun k _ e => e).trans hC fun k hk e => by omega⟩
    refine (KFn).mono ((KFn).chg ((KFn).chg HW.out.2.2.2.1 HC.out.2 fun k _ hk e => by simp at hk; omega) hC fun k _ hk e => by simp at hk; omega) fun k _ hk => by simp at hk; omega
  · obtain ⟨A, c, r, h1, hr, hlc, hcm, hlm, -⟩ := h.later hb0
    obtain ⟨hc0, hc1, hc2, hf0, hf1, hf2⟩ := own_cells3 h1
    have HU := Lib.hid (tkFn A l l.length c (w.alloc (.cells #[.slice none 0 0, .slice none 0 0] 79)) hr.rd rfl hlm hlc hcm)
    have HH0 := Lib.hid (HH.out.later hb0)
    clear h1 hr hlc hcm hlm hz hb0
    generalize l.length = q at *
    go_enter Tryz.func117, Tryz.ntmps117
    go_wp2_with fail
    refine HU.out.mono ?_
    rintro e1 w1 ⟨a, n, e0, s', rfl, p1, p2, p3, p4⟩
    have HQ := Lib.hid (And.intro p1 (And.intro p2 (And.intro (HH0.out.later p2) p3)))
    clear p1 p2 p3 hc0 hc1 hc2 hf0 hf1 hf2
    obtain ⟨l1, A1, c1, l2, A2, c2⟩ := a
    simp only [FV.v] at *
    generalize hn1 : l1.length = n1 at *
    generalize hn2 : l2.length = n2 at *
    have HN1 := Lib.hid hn1
    have HN2 := Lib.hid hn2
    clear hn1 hn2
    have hb1 := HQ.out.2.1
    have hbA := (Below.refl w1.heap.size w1).alloc (Nat.le_refl _) (.cells #[.slice A1 n1 c1, .slice A2 n2 c2] 79)
    have hO4 := ((Own.new w 79 [.slice none 0 0, .slice none 0 0]).later hb1).later hbA
    have hO5 := Own.new w1 79 [.slice A1 n1 c1, .slice A2 n2 c2]
    have hs1 := hb1.size
    simp at hs1
    have HW := Lib.hid (And.intro hO4 (And.intro hO5 (And.intro ((HQ.out.2.2.1).later hbA) (And.intro ((KFn).later HQ.out.1 hbA) (HB0.out.trans ((hb1.trans (hbA.mono hb1.size)).mono HB0.out.size))))))
    have hg5 : w.heap.size < w1.heap.size := by omega
    clear hO4 hO5 hb1 hbA hs1
    rcases p4 with ⟨m, rfl, rfl, p5, p6⟩ | ⟨p5, p6, p7, p8⟩
    · have HM := Lib.hid (And.intro p5 p6)
      clear p5 p6
      go_upto_region 2 with fail
      have hRW := HW.out.2.2.1
      generalize w1.alloc (.cells #[.slice A1 n1 c1, .slice A2 n2 c2] 79) = w3 at *
      generalize w1.heap.size = g5 at *
      go_wp2_with fail
      refine (rskip_any g t tl l m w3 hRW HM.out.1).mono ?_
      rintro e3 w2 ⟨⟨u, rfl⟩, h2, hc⟩
      have HC := Lib.hid (And.intro h2 hc)
      have hO4 := HW.out.1.chg hc (by have := HH.out.lt; omega)
      have hO5 := HW.out.2.1.chg hc (by have := HH.out.lt; omega)
      clear h2 hc
      obtain ⟨k0, k1, f0, f1⟩ := own_cells2 hO4
      obtain ⟨m0, m1, -, -⟩ := own_cells2 hO5
      have HO := Lib.hid hO4
      clear hO4 hO5
      go_wp2
      have hW := own_put2 HO.out (.slice A1 n1 c1) (.slice A2 n2 c2)
      have hC := chg2 w2 w.heap.size (.slice A1 n1 c1) (.slice A2 n2 c2)
      show bodyPost _ _ _ _ _ (put2 w2 w.heap.size (.slice A1 n1 c1) (.slice A2 n2 c2))
      generalize put2 w2 w.heap.size (.slice A1 n1 c1) (.slice A2 n2 c2) = W2 at *
      clear k0 k1 f0 f1 m0 m1
      obtain ⟨k0, k1, -, -⟩ := own_cells2 hW
      refine bodyPost_ret (by simp [results, Tryz.results117, go_sem, k0, k1]; try rfl) rfl ?_
      have hgl := HH.out.lt
      refine ⟨⟨l1, A1, c1, l2, A2, c2⟩, s', (by obtain rfl := HN1.out; obtain rfl := HN2.out; rfl), ?_, RdrAt.chg (by rw [HM.out.2]; exact HC.out.1) hC (fun k hk e => by omega), HQ.out.2.2.2, ((Chg.of_below HW.out.2.2.2.2).trans HC.out.2 fun k _ e => e).trans hC fun k hk e => by omega⟩
      refine (KFn).mono ((KFn).chg ((KFn).chg HW.out.2.2.2.1 HC.out.2 fun k _ hk e => by simp at hk; omega) hC fun k _ hk e => by simp at hk; omega) fun k _ hk => by simp at hk; omega
    · have HM := Lib.hid (And.intro p7 p8)
      clear p7 p8
      go_upto_region 2 with fail
      have hRW := HW.out.2.2.1
      generalize w1.alloc (.cells #[.slice A1 n1 c1, .slice A2 n2 c2] 79) = w3 at *
      generalize w1.heap.size = g5 at *
      go_wp2_with fail
      refine (rfail_any g t tl (.ok l) e0 w3 hRW p6 HM.out.1).mono ?_
      rintro e3 w2 ⟨⟨u, rfl⟩, h2, hc⟩
      have HC := Lib.hid (And.intro h2 hc)
      have hO4 := HW.out.1.chg hc (by have := HH.out.lt; omega)
      have hO5 := HW.out.2.1.chg hc (by have := HH.out.lt; omega)
      clear h2 hc
      obtain ⟨k0, k1, f0, f1⟩ := own_cells2 hO4
      obtain ⟨m0, m1, -, -⟩ := own_cells2 hO5
      have HO := Lib.hid hO4
      clear hO4 hO5
      go_wp2
      have hW := own_put2 HO.out (.slice A1 n1 c1) (.slice A2 n2 c2)
      have hC := chg2 w2 w.heap.size (.slice A1 n1 c1) (.slice A2 n2 c2)
      show bodyPost _ _ _ _ _ (put2 w2 w.heap.size (.slice A1 n1 c1) (.slice A2 n2 c2))
      generalize put2 w2 w.heap.size (.slice A1 n1 c1) (.slice A2 n2 c2) = W2 at *
      clear k0 k1 f0 f1 m0 m1
      obtain ⟨k0, k1, -, -⟩ := own_cells2 hW
      refine bodyPost_ret (by simp [results, Tryz.results117, go_sem, k0, k1]; try rfl) rfl ?_
      have hgl := HH.out.lt
      refine ⟨⟨l1, A1, c1, l2, A2, c2⟩, s', (by obtain rfl := HN1.out; obtain rfl := HN2.out; rfl), ?_, RdrAt.chg (by rw [HM.out.2]; exact HC.out.1) hC (fun k hk e => by omega), HQ.out.2.2.2, ((Chg.of_below HW.out.2.2.2.2).trans HC.out.2 fun k _ e => e).trans hC fun k hk e => by omega⟩
      refine (KFn).mono ((KFn).chg ((KFn).chg HW.out.2.2.2.1 HC.out.2 fun k _ hk e => by simp at hk; omega) hC fun k _ hk e => by simp at hk; omega) fun k _ hk => by simp at hk; omega
set_option maxHeartbeats 2000000 in
theorem rtakeLim_any (g : Nat) (t : TypeId) (tl : RTl) (s : St) (w : World) (h : RdrAt w g t tl s) :
    Calls Tryz.prog 122 #[.pointer (some ⟨g, 0, none⟩), .func (.func 123) #[] #[]] w (PartPost KLim limV id pLim g t tl s w) := by
  have hz : pLim [] = .error 3 := by rfl
  have HH := Lib.hid h
  have hb0 := (Below.refl w.heap.size w).alloc (Nat.le_refl _) (.cells #[.int .u32 0, .int .u32 0, .bool false] 82)
  have HB0 := Lib.hid hb0
  rcases s with e | l
  · obtain ⟨h1, he, he2⟩ := h.later hb0
    obtain ⟨hc0, hc1, hc2, hf0, hf1, hf2⟩ := own_cells3 h1
    have HU := Lib.hid (fun w' : World => tkLim none [] 0 0 w' (Rd.nil _ _ _) rfl (by omega) (by omega) (by decide))
    have HZ := Lib.hid hz
    have HH0 := Lib.hid (HH.out.later hb0)
    clear h1 hz hb0
    go_enter Tryz.func122, Tryz.ntmps122
    go_wp2_with fail
    refine (HU.out _).mono ?_
    rintro e1 w1 ⟨a, n, e0, s', rfl, p1, p2, p3, p4⟩
    have hne : (e0 != 0) = true ∧ 0 < e0 ∧ e0 ≤ 100 := by
      have hs := p3.nx
      rw [nx_ok, HZ.out] at hs
      rcases p4 with ⟨m, rfl, rfl, p5, p6⟩ | ⟨p5, p6, p7, p8⟩
      · rw [p6] at hs; cases hs
      · exact ⟨p5, p6, p7⟩
    have HQ := Lib.hid (And.intro p1 (And.intro p2 (And.intro (HH0.out.later p2) p3)))
    obtain ⟨hn1, hn2, hn3⟩ := hne
    clear p1 p2 p3 p4 hc0 hc1 hc2 hf0 hf1 hf2
    obtain ⟨x1, x2, x3⟩ := a
    simp only [limV] at *
    have hb1 := HQ.out.2.1
    have hbA := (Below.refl w1.heap.size w1).alloc (Nat.le_refl _) (.cells #[.int .u32 x1, .int .u32 x2, .bool x3] 82)
    have hO4 := ((Own.new w 82 [.int .u32 0, .int .u32 0, .bool false]).later hb1).later hbA
    have hO5 := Own.new w1 82 [.int .u32 x1, .int .u32 x2, .bool x3]
    have hs1 := hb1.size
    simp at hs1
    have HW := Lib.hid (And.intro hO4 (And.intro hO5 (And.intro ((HQ.out.2.2.1).later hbA) (And.intro ((KLim).later HQ.out.1 hbA) (HB0.out.trans ((hb1.trans (hbA.mono hb1.size)).mono HB0.out.size))))))
    have hg5 : w.heap.size < w1.heap.size := by omega
    clear hO4 hO5 hb1 hbA hs1
    go_upto_region 2 with fail
    have hRW := HW.out.2.2.1
    generalize w1.alloc (.cells #[.int .u32 x1, .int .u32 x2, .bool x3] 82) = w3 at *
    generalize w1.heap.size = g5 at *
    go_wp2_with fail
    refine (rfail_any g t tl (.error e) e0 w3 hRW hn2 hn3).mono ?_
    rintro e3 w2 ⟨⟨u, rfl⟩, h2, hc⟩
    have HC := Lib.hid (And.intro h2 hc)
    have hO4 := HW.out.1.chg hc (by have := HH.out.lt; omega)
    have hO5 := HW.out.2.1.chg hc (by have := HH.out.lt; omega)
    clear h2 hc
    obtain ⟨k0, k1, k2, f0, f1, f2⟩ := own_cells3 hO4
    obtain ⟨m0, m1, m2, -, -, -⟩ := own_cells3 hO5
    have HO := Lib.hid hO4
    clear hO4 hO5
    go_wp2
    have hW := own_put3 HO.out (.int .u32 x1) (.int .u32 x2) (.bool x3)
    have hC := chg3 w2 w.heap.size (.int .u32 x1) (.int .u32 x2) (.bool x3)
    show bodyPost _ _ _ _ _ (put3 w2 w.heap.size (.int .u32 x1) (.int .u32 x2) (.bool x3))
    generalize put3 w2 w.heap.size (.int .u32 x1) (.int .u32 x2) (.bool x3) = W2 at *
    clear k0 k1 k2 f0 f1 f2 m0 m1 m2
    obtain ⟨k0, k1, k2, -, -, -⟩ := own_cells3 hW
    refine bodyPost_ret (by simp [results, Tryz.results122, go_sem, k0, k1, k2]; try rfl) rfl ?_
    have hgl := HH.out.lt
    refine ⟨⟨x1, x2, x3⟩, .error e, rfl, ?_, RdrAt.chg HC.out.1 hC (fun k hk e => by omega), rfl, ((Chg.of_below HW.out.2.2.2.2).trans HC.out.2 fun k _ e => e).trans hC fun k hk e => by omega⟩
    refine (KLim).mono ((KLim).chg ((KLim).chg HW.out.2.2.2.1 HC.out.2 fun k _ hk e => by simp at hk; omega) hC fun k _ hk e => by simp at hk; omega) fun k _ hk => by simp at hk; omega
  · obtain ⟨A, c, r, h1, hr, hlc, hcm, hlm, -⟩ := h.later hb0
    obtain ⟨hc0, hc1, hc2, hf0, hf1, hf2⟩ := own_cells3 h1
    have HU := Lib.hid (tkLim A l l.length c (w.alloc (.cells #[.int .u32 0, .int .u32 0, .bool false] 82)) hr.rd rfl hlm hlc hcm)
    have HH0 := Lib.hid (HH.out.later hb0)
    clear h1 hr hlc hcm hlm hz hb0
    generalize l.length = q at *
    go_enter Tryz.func122, Tryz.ntmps122
    go_wp2_with fail
    refine HU.out.mono ?_
    rintro e1 w1 ⟨a, n, e0, s', rfl, p1, p2, p3, p4⟩
    have HQ := Lib.hid (And.intro p1 (And.intro p2 (And.intro (HH0.out.later p2) p3)))
    clear p1 p2 p3 hc0 hc1 hc2 hf0 hf1 hf2
    obtain ⟨x1, x2, x3⟩ := a
    simp only [limV] at *
    have hb1 := HQ.out.2.1
    have hbA := (Below.refl w1.heap.size w1).alloc (Nat.le_refl _) (.cells #[.int .u32 x1, .int .u32 x2, .bool x3] 82)
    have hO4 := ((Own.new w 82 [.int .u32 0, .int .u32 0, .bool false]).later hb1).later hbA
    have hO5 := Own.new w1 82 [.int .u32 x1, .int .u32 x2, .bool x3]
    have hs1 := hb1.size
    simp at hs1
    have HW := Lib.hid (And.intro hO4 (And.intro hO5 (And.intro ((HQ.out.2.2.1).later hbA) (And.intro ((KLim).later HQ.out.1 hbA) (HB0.out.trans ((hb1.trans (hbA.mono hb1.size)).mono HB0.out.size))))))
    have hg5 : w.heap.size < w1.heap.size := by omega
    clear hO4 hO5 hb1 hbA hs1
    rcases p4 with ⟨m, rfl, rfl, p5, p6⟩ | ⟨p5, p6, p7, p8⟩
    · have HM := Lib.hid (And.intro p5 p6)
      clear p5 p6
      go_upto_region 2 with fail
      have hRW := HW.out.2.2.1
      generalize w1.alloc (.cells #[.int .u32 x1, .int .u32 x2, .bool x3] 82) = w3 at *
      generalize w1.heap.size = g5 at *
      go_wp2_with fail
      refine (rskip_any g t tl l m w3 hRW HM.out.1).mono ?_
      rintro e3 w2 ⟨⟨u, rfl⟩, h2, hc⟩
      have HC := Lib.hid (And.intro h2 hc)
      have hO4 := HW.out.1.chg hc (by have := HH.out.lt; omega)
      have hO5 := HW.out.2.1.chg hc (by have := HH.out.lt; omega)
      clear h2 hc
      obtain ⟨k0, k1, k2, f0, f1, f2⟩ := own_cells3 hO4
      obtain ⟨m0, m1, m2, -, -, -⟩ := own_cells3 hO5
      have HO := Lib.hid hO4
      clear hO4 hO5
      go_wp2
      have hW := own_put3 HO.out (.int .u32 x1) (.int .u32 x2) (.bool x3)
      have hC := chg3 w2 w.heap.size (.int .u32 x1) (.int .u32 x2) (.bool x3)
      show bodyPost _ _ _ _ _ (put3 w2 w.heap.size (.int .u32 x1) (.int .u32 x2) (.bool x3))
      generalize put3 w2 w.heap.size (.int .u32 x1) (.int .u32 x2) (.bool x3) = W2 at *
      clear k0 k1 k2 f0 f1 f2 m0 m1 m2
      obtain ⟨k0, k1, k2, -, -, -⟩ := own_cells3 hW
      refine bodyPost_ret (by simp [results, Tryz.results122, go_sem, k0, k1, k2]; try rfl) rfl ?_
      have hgl := HH.out.lt
      refine ⟨⟨x1, x2, x3⟩, s', rfl, ?_, RdrAt.chg (by rw [HM.out.2]; exact HC.out.1) hC (fun k hk e => by omega), HQ.out.2.2.2, ((Chg.of_below HW.out.2.2.2.2).trans HC.out.2 fun k _ e => e).trans hC fun k hk e => by omega⟩
      refine (KLim).mono ((KLim).chg ((KLim).chg HW.out.2.2.2.1 HC.out.2 fun k _ hk e => by simp at hk; omega) hC fun k _ hk e => by simp at hk; omega) fun k _ hk => by simp at hk; omega
    · have HM := Lib.hid (And.intro p7 p8)
      clear p7 p8
      go_upto_region 2 with fail
      have hRW := HW.out.2.2.1
      generalize w1.alloc (.cells #[.int .u32 x1, .int .u32 x2, .bool x3] 82) = w3 at *
      generalize w1.heap.size = g5 at *
      go_wp2_with fail
      refine (rfail_any g t tl (.ok l) e0 w3 hRW p6 HM.out.1).mono ?_
      rintro e3 w2 ⟨⟨u, rfl⟩, h2, hc⟩
      have HC := Lib.hid (And.intro h2 hc)
      have hO4 := HW.out.1.chg hc (by have := HH.out.lt; omega)
      have hO5 := HW.out.2.1.chg hc (by have := HH.out.lt; omega)
      clear h2 hc
      obtain ⟨k0, k1, k2, f0, f1, f2⟩ := own_cells3 hO4
      obtain ⟨m0, m1, m2, -, -, -⟩ := own_cells3 hO5
      have HO := Lib.hid hO4
      clear hO4 hO5
      go_wp2
      have hW := own_put3 HO.out (.int .u32 x1) (.int .u32 x2) (.bool x3)
      have hC := chg3 w2 w.heap.size (.int .u32 x1) (.int .u32 x2) (.bool x3)
      show bodyPost _ _ _ _ _ (put3 w2 w.heap.size (.int .u32 x1) (.int .u32 x2) (.bool x3))
      generalize put3 w2 w.heap.size (.int .u32 x1) (.int .u32 x2) (.bool x3) = W2 at *
      clear k0 k1 k2 f0 f1 f2 m0 m1 m2
      obtain ⟨k0, k1, k2, -, -, -⟩ := own_cells3 hW
      refine bodyPost_ret (by simp [results, Tryz.results122, go_sem, k0, k1, k2]; try rfl) rfl ?_
      have hgl := HH.out.lt
      refine ⟨⟨x1, x2, x3⟩, s', rfl, ?_, RdrAt.chg (by rw [HM.out.2]; exact HC.out.1) hC (fun k hk e => by omega), HQ.out.2.2.2, ((Chg.of_below HW.out.2.2.2.2).trans HC.out.2 fun k _ e => e).trans hC fun k hk e => by omega⟩
      refine (KLim).mono ((KLim).chg ((KLim).chg HW.out.2.2.2.1 HC.out.2 fun k _ hk e => by simp at hk; omega) hC fun k _ hk e => by simp at hk; omega) fun k _ hk => by simp at hk; omega
end Go.Proofs.YtadgiekiiicmfaaGreatDoor

/- mod's source: its small parts. -/
namespace Go.Proofs.YtadgiekiiicmfaaGreatDoor
open Go.RowKit
set_option maxRecDepth 100000
set_option linter.unusedVariables false

section
variable {α β : Type} {p : PR α} {f : α → PR β} {s s1 s2 : St} {x : α} {y : β}
theorem KP.good (h : KP p s x s1) (hf : f x = fun l => .ok (y, l)) : KP (Go.Proofs.YtadgiekiiicmfaaGreatDoor.seq p f) s y s1 := by unfold KP; rw [h.seq, hf]
theorem KP.bad {e : Int} (h : KP p s x s1) (hf : f x = fun _ => .error e) (y : β) : KP (Go.Proofs.YtadgiekiiicmfaaGreatDoor.seq p f) s y (failS e s1) := by unfold KP; rw [h.seq, hf]; exact bd_fail0 s1 e y
theorem KP.then (h : KP p s x s1) (h2 : KP (f x) s1 y s2) : KP (Go.Proofs.YtadgiekiiicmfaaGreatDoor.seq p f) s y s2 := by unfold KP; rw [h.seq]; exact h2
end
theorem secP_2 (M : Mo) : secP 2 M = seq (pU 32) fun n l => if 0 < n then .error 5 else .ok (M, l) := by unfold secP; rw [if_neg (by decide), if_pos rfl]
abbrev SRC : TypeId := 141
/-- Within a part's function: the source in g, the result in g2. -/
def T8 (T : TypeId) (w : World) (g N g2 : Nat) (Q : List Value) (s : St) (wr : World) : Prop :=
  RdrAt wr g SRC (N, []) s ∧ Own wr g2 T Q ∧ g < w.heap.size ∧ g2 = w.heap.size ∧ Chg (fun k => k = g) w wr
section
variable {T : TypeId} {w : World} {g N g2 : Nat} {Q : List Value} {s s' : St} {wr w' : World}
theorem T8.new (h : RdrAt w g SRC (N, []) s) (T : TypeId) (Q : List Value) : T8 T w g N w.heap.size Q s (w.alloc (.cells Q.toArray T)) := by
  have hb := (Below.refl w.heap.size w).alloc (Nat.le_refl _) (.cells Q.toArray T)
  exact ⟨h.later hb, Own.new w T Q, h.lt, rfl, Chg.of_below hb⟩
theorem T8.step (h : T8 T w g N g2 Q s wr) (h1 : RdrAt w' g SRC (N, []) s') (hc : Chg (fun k => k = g) wr w') : T8 T w g N g2 Q s' w' := by
  obtain ⟨p1, p2, p4, p5, p7⟩ := h
  exact ⟨h1, p2.chg hc (by omega), p4, p5, p7.trans hc fun k _ e => e⟩
theorem T8.set (h : T8 T w g N g2 Q s wr) (j : Nat) (u : Value) : T8 T w g N g2 (Q.set j u) s (wr.setCell ⟨g2, j, none⟩ u) := by
  obtain ⟨p1, p2, p4, p5, p7⟩ := h
  have hc := chgSet wr g2 j u
  exact ⟨p1.chg hc (fun k hk e => by omega), p2.set j u, p4, p5, p7.trans hc fun k hk e => by omega⟩
theorem T8.far {α : Type} {K : El α} {a : α} (h : T8 T w g N g2 Q s wr) (ha : K.ok (fun k => wr.heap.size ≤ k) w' a) : K.ok (fun k => g2 < k) w' a :=
  K.mono ha fun k _ hk => by have := h.2.1.lt; omega
theorem T8.keep {α : Type} {K : El α} {a : α} (h : T8 T w g N g2 Q s wr) (ha : K.ok (fun k => g2 < k) wr a) (hc : Chg (fun k => k = g) wr w') : K.ok (fun k => g2 < k) w' a :=
  K.chg ha hc fun k _ hk e => by have := h.2.2.1; have := h.2.2.2.1; omega
theorem T8.keepSet {α : Type} {K : El α} {a : α} (j : Nat) (u : Value) (ha : K.ok (fun k => g2 < k) wr a) : K.ok (fun k => g2 < k) (wr.setCell ⟨g2, j, none⟩ u) a :=
  K.chg ha (chgSet wr g2 j u) fun k _ hk e => by omega
end
/-- A number that a part's function tells. -/
def NumP (K : IntKind) (hi : Int) (p : PR Int) (g N : Nat) (s : St) (w : World) (e : Ending) (w' : World) : Prop :=
  ∃ x s', e = .returned (.int K x) ∧ 0 ≤ x ∧ x ≤ hi ∧ RdrAt w' g SRC (N, []) s' ∧ KP p s x s' ∧ Chg (fun k => k = g) w w'
theorem RPost.np {K : IntKind} {hi : Int} {p : PR Int} {g N : Nat} {s : St} {w w' : World} {e : Ending} (h : RPost K hi p g SRC (N, []) s w e w') : NumP K hi p g N s w e w' := by
  obtain ⟨x, h1, h2, h3, h4, h5, h6⟩ := h
  exact ⟨x, _, h1, h2, h3, h4, KP.of h5, h6⟩
section
variable (g N : Nat) (s : St) (w : World) (h : RdrAt w g SRC (N, []) s)
include h
theorem mU32 : Calls Tryz.prog 68 #[.pointer (some ⟨g, 0, none⟩)] w (NumP .u32 4294967295 (pU 32) g N s w) := (rU32_any g SRC (N, []) s w h).mono fun _ _ h => RPost.np h
theorem mByte : Calls Tryz.prog 126 #[.pointer (some ⟨g, 0, none⟩)] w (NumP .u8 255 pByte g N s w) := (rbyte_any g SRC (N, []) s w h).mono fun _ _ h => RPost.np h
theorem mCount (most : Int) (hm : 0 ≤ most) (hm2 : most ≤ 100000) : Calls Tryz.prog 116 #[.pointer (some ⟨g, 0, none⟩), .int .u32 most] w (NumP .i64 most (pCount most) g N s w) := (rcount_any g SRC (N, []) s most w h hm hm2).mono fun _ _ h => RPost.np h
theorem mexpr_any : Calls Tryz.prog 127 #[.pointer (some ⟨g, 0, none⟩)] w (PartPost KB BV.v BV.x pCode g SRC (N, []) s w) := by
  have HN := Lib.hid (rtakeCode_any g SRC (N, []) s w h)
  clear h
  go_enter Tryz.func127, Tryz.ntmps127
  go_wp2_with fail
  refine HN.out.mono ?_
  rintro e w' ⟨a, s', rfl, p1, p2, p3, p4⟩
  have HP := Lib.hid (And.intro p1 (And.intro p2 (And.intro p3 p4)))
  clear p1 p2 p3 p4
  obtain ⟨is, A1, c1⟩ := a
  simp only [BV.v] at *
  generalize hq : is.length = q at *
  have HQ := Lib.hid hq
  clear hq
  go_wp2
  go_ret
  exact ⟨⟨is, A1, c1⟩, s', (by obtain rfl := HQ.out; rfl), HP.out⟩
theorem mvalt_any : Calls Tryz.prog 124 #[.pointer (some ⟨g, 0, none⟩)] w (NumP .u8 255 pVal g N s w) := by
  have HB := Lib.hid (mByte g N s w h)
  clear h
  go_enter Tryz.func124, Tryz.ntmps124
  go_wp2_with fail
  refine HB.out.mono ?_
  rintro e w1 ⟨x, s1, rfl, x0, x1, h1, h2, h3⟩
  have H1 := Lib.hid (And.intro h1 (And.intro h2 h3))
  clear h1 h2 h3 HB
  by_cases hv : valE x = 0
  · have hvb : (valE x != 0) = false := by simp [hv]
    go_wp2_with (go_at_call 163; refine (value_any 163 (by simp) x w1 x0 x1).mono ?_; rintro e w' ⟨rfl, rfl⟩; unfold valT)
    go_ret
    exact ⟨x, s1, rfl, x0, x1, H1.out.1, H1.out.2.1.good (by funext l; rw [if_pos hv]), H1.out.2.2⟩
  · have hvb : (valE x != 0) = true := by simpa using hv
    have hve := gd_valE x hv
    have HV := Lib.hid hv
    clear hv
    go_wp2_with (go_at_call 163; refine (value_any 163 (by simp) x w1 x0 x1).mono ?_; rintro e w' ⟨rfl, rfl⟩; unfold valT)
    refine (rfail_any g _ _ s1 (valE x) w1 H1.out.1 hve.1 hve.2).mono ?_
    rintro e w2 ⟨⟨u, rfl⟩, h2, hc⟩
    have HC := Lib.hid (And.intro h2 hc)
    clear h2 hc
    go_wp2
    go_ret
    exact ⟨x, _, rfl, x0, x1, HC.out.1, H1.out.2.1.bad (e := valE x) (by funext l; rw [if_neg HV.out]) x, H1.out.2.2.trans HC.out.2 fun k _ e => e⟩
theorem mreft_any : Calls Tryz.prog 121 #[.pointer (some ⟨g, 0, none⟩)] w (NumP .u8 255 pRefT g N s w) := by
  have HB := Lib.hid (mvalt_any g N s w h)
  clear h
  go_enter Tryz.func121, Tryz.ntmps121
  go_wp2_with fail
  refine HB.out.mono ?_
  rintro e w1 ⟨x, s1, rfl, x0, x1, h1, h2, h3⟩
  have H1 := Lib.hid (And.intro h1 (And.intro h2 h3))
  clear h1 h2 h3 HB
  by_cases hv : x = 112 ∨ x = 111
  · have hd : decide (x = 112 ∨ x = 111) = true := by simpa using hv
    have HV := Lib.hid hv
    clear hv
    generalize hq : decide (x = 112 ∨ x = 111) = dq at *
    go_wp2_with (go_at_call 162; refine (cref_any 162 (by simp) x w1).mono ?_; rintro e w' ⟨rfl, rfl⟩; rw [hq, hd])
    go_ret
    exact ⟨x, s1, rfl, x0, x1, H1.out.1, H1.out.2.1.good (by funext l; rw [if_pos HV.out]), H1.out.2.2⟩
  · have hd : decide (x = 112 ∨ x = 111) = false := by simpa using hv
    have HV := Lib.hid hv
    clear hv
    generalize hq : decide (x = 112 ∨ x = 111) = dq at *
    go_wp2_with (go_at_call 162; refine (cref_any 162 (by simp) x w1).mono ?_; rintro e w' ⟨rfl, rfl⟩; rw [hq, hd])
    refine (rfail_any g _ _ s1 2 w1 H1.out.1 (by omega) (by omega)).mono ?_
    rintro e w2 ⟨⟨u, rfl⟩, h2, hc⟩
    have HC := Lib.hid (And.intro h2 hc)
    clear h2 hc
    go_wp2
    go_ret
    exact ⟨x, _, rfl, x0, x1, HC.out.1, H1.out.2.1.bad (e := 2) (by funext l; rw [if_neg HV.out]) x, H1.out.2.2.trans HC.out.2 fun k _ e => e⟩
end
section
theorem mupto8_any {p : PR Int} {g N : Nat} {s0 s : St} {w0 w : World} {v most : Int} (h : RdrAt w g SRC (N, []) s) (hk : KP p s0 v s) (hc0 : Chg (fun k => k = g) w0 w) (v0 : 0 ≤ v) (hi0 : 0 ≤ most) :
    Calls Tryz.prog 125 #[.pointer (some ⟨g, 0, none⟩), .int .u8 v, .int .u8 most] w (NumP .u8 most (seq p fun k l => if most < k then .error 2 else .ok (k, l)) g N s0 w0) := by
  have HH := Lib.hid (And.intro h (And.intro hk hc0))
  clear h hk hc0
  by_cases hv : v > most
  · go_enter Tryz.func125, Tryz.ntmps125
    go_wp2_with fail
    refine (rfail_any g _ _ s 2 w HH.out.1 (by omega) (by omega)).mono ?_
    rintro e w2 ⟨⟨u, rfl⟩, h2, hc⟩
    have HC := Lib.hid (And.intro h2 hc)
    clear h2 hc
    go_wp2
    go_ret
    exact ⟨0, _, rfl, by omega, hi0, HC.out.1, HH.out.2.1.bad (e := 2) (by funext l; rw [if_pos hv]) 0, HH.out.2.2.trans HC.out.2 fun k _ e => e⟩
  · go_enter Tryz.func125, Tryz.ntmps125
    go_wp2
    go_ret
    exact ⟨v, s, rfl, v0, by omega, HH.out.1, HH.out.2.1.good (by funext l; rw [if_neg (by omega)]), HH.out.2.2⟩
theorem mupto32_any {p : PR Int} {g N : Nat} {s0 s : St} {w0 w : World} {v most : Int} (h : RdrAt w g SRC (N, []) s) (hk : KP p s0 v s) (hc0 : Chg (fun k => k = g) w0 w) (v0 : 0 ≤ v) (hi0 : 0 ≤ most) :
    Calls Tryz.prog 129 #[.pointer (some ⟨g, 0, none⟩), .int .u32 v, .int .u32 most] w (NumP .u32 most (seq p fun k l => if most < k then .error 2 else .ok (k, l)) g N s0 w0) := by
  have HH := Lib.hid (And.intro h (And.intro hk hc0))
  clear h hk hc0
  by_cases hv : v > most
  · go_enter Tryz.func129, Tryz.ntmps129
    go_wp2_with fail
    refine (rfail_any g _ _ s 2 w HH.out.1 (by omega) (by omega)).mono ?_
    rintro e w2 ⟨⟨u, rfl⟩, h2, hc⟩
    have HC := Lib.hid (And.intro h2 hc)
    clear h2 hc
    go_wp2
    go_ret
    exact ⟨0, _, rfl, by omega, hi0, HC.out.1, HH.out.2.1.bad (e := 2) (by funext l; rw [if_pos hv]) 0, HH.out.2.2.trans HC.out.2 fun k _ e => e⟩
  · go_enter Tryz.func129, Tryz.ntmps129
    go_wp2
    go_ret
    exact ⟨v, s, rfl, v0, by omega, HH.out.1, HH.out.2.1.good (by funext l; rw [if_neg (by omega)]), HH.out.2.2⟩
end
section
variable (g N : Nat) (s : St) (w : World) (h : RdrAt w g SRC (N, []) s)
include h
theorem mfun_any : Calls Tryz.prog 133 #[.pointer (some ⟨g, 0, none⟩)] w (PartPost KB BV.v BV.x pFunI g SRC (N, []) s w) := by
  have HB := Lib.hid (mU32 g N s w h)
  clear h
  go_enter Tryz.func133, Tryz.ntmps133
  go_wp2_with fail
  refine HB.out.mono ?_
  rintro e w1 ⟨x, s1, rfl, x0, x1, h1, h2, h3⟩
  have H1 := Lib.hid (And.intro h1 (And.intro h2 h3))
  clear h1 h2 h3 HB
  go_wp2
  go_ret
  have hb := (Below.refl w1.heap.size w1).alloc (Nat.le_refl _) (.cells (flat [⟨⟨210, x, 0, 0, [], 0⟩, none, 0⟩, ⟨⟨11, 0, 0, 0, [], 0⟩, none, 0⟩]).toArray 76)
  have hz := H1.out.2.2.size
  refine ⟨⟨[⟨⟨210, x, 0, 0, [], 0⟩, none, 0⟩, ⟨⟨11, 0, 0, 0, [], 0⟩, none, 0⟩], some ⟨w1.heap.size, 0, none⟩, 2⟩, s1, rfl, ⟨by simp, by simp [maxLen], ?_, fun i hi => ?_, by simp⟩, H1.out.1.later hb, H1.out.2.1.good rfl, H1.out.2.2.trans (Chg.of_below hb) fun k _ e => e⟩
  · exact (rdV_ins w1 [⟨⟨210, x, 0, 0, [], 0⟩, none, 0⟩, ⟨⟨11, 0, 0, 0, [], 0⟩, none, 0⟩]).mono fun k _ hk => by omega
  · simp only [List.mem_cons, List.not_mem_nil, or_false] at hi
    rcases hi with rfl | rfl
    · exact ⟨LabX.nil _ _ rfl, x0, by show x < 4294967296; omega, by simp, by simp, by simp, by simp, by simp, by simp, IsU32.nil, by simp⟩
    · exact ⟨LabX.nil _ _ rfl, by simp, by simp, by simp, by simp, by simp, by simp, by simp, by simp, IsU32.nil, by simp⟩
theorem mnoimp_any : Calls Tryz.prog 66 #[.pointer (some ⟨g, 0, none⟩)] w fun e w' => (∃ u, e = .returned u) ∧ ∃ s', RdrAt w' g SRC (N, []) s' ∧ (∀ M : Mo, KP (secP 2 M) s M s') ∧ Chg (fun k => k = g) w w' := by
  have HB := Lib.hid (mU32 g N s w h)
  clear h
  go_enter Tryz.func66, Tryz.ntmps66
  go_wp2_with fail
  refine HB.out.mono ?_
  rintro e w1 ⟨x, s1, rfl, x0, x1, h1, h2, h3⟩
  have H1 := Lib.hid (And.intro h1 (And.intro h2 h3))
  clear h1 h2 h3 HB
  by_cases hv : x > 0
  · go_wp2_with fail
    refine (rfail_any g _ _ s1 5 w1 H1.out.1 (by omega) (by omega)).mono ?_
    rintro e w2 ⟨⟨u, rfl⟩, h2, hc⟩
    have HC := Lib.hid (And.intro h2 hc)
    clear h2 hc
    go_wp2
    go_end0
    exact ⟨⟨_, rfl⟩, _, HC.out.1, fun M => by rw [secP_2]; exact H1.out.2.1.bad (e := 5) (by funext l; rw [if_pos (by omega)]) M, H1.out.2.2.trans HC.out.2 fun k _ e => e⟩
  · go_wp2
    go_end0
    exact ⟨⟨_, rfl⟩, s1, H1.out.1, fun M => by rw [secP_2]; exact H1.out.2.1.good (by funext l; rw [if_neg (by omega)]), H1.out.2.2⟩
end
end Go.Proofs.YtadgiekiiicmfaaGreatDoor

/- unicode/utf8.word at bytes. -/
namespace Go.Proofs.YtadgiekiiicmfaaGreatDoor
open Go.RowKit
set_option maxRecDepth 100000
set_option linter.unusedVariables false

def WPost8 (x : Int) (w : World) (e : Ending) (w' : World) : Prop := e = .returned (.int .u64 x) ∧ ∃ q, w' = w.drewN q
set_option maxHeartbeats 8000000 in
set_option maxRecDepth 100000 in
theorem word_any (A : Option Addr) (l : List Int) (n c : Nat) (w : World) {X : Nat → Prop} (h : RdX X w A l) (hn : n = l.length) (h8 : 8 ≤ n) :
    Calls Tryz.prog 184 #[.slice A n c] w (WPost8 (wdN l : Nat) w) := by
  subst hn
  obtain ⟨b, o, rfl, -, -, hc⟩ := h.2.spot (by simp; omega)
  match l, h8, h, hc with
  | x0 :: x1 :: x2 :: x3 :: x4 :: x5 :: x6 :: x7 :: t, h8, h, hc =>
  rw [wdN_eq x0 x1 x2 x3 x4 x5 x6 x7 t h.1]
  have g0 := h.1 x0 (by simp); have g1 := h.1 x1 (by simp); have g2 := h.1 x2 (by simp); have g3 := h.1 x3 (by simp)
  have g4 := h.1 x4 (by simp); have g5 := h.1 x5 (by simp); have g6 := h.1 x6 (by simp); have g7 := h.1 x7 (by simp)
  have c0 := hc 0 _ rfl; have c1 := hc 1 _ rfl; have c2 := hc 2 _ rfl; have c3 := hc 3 _ rfl
  have c4 := hc 4 _ rfl; have c5 := hc 5 _ rfl; have c6 := hc 6 _ rfl; have c7 := hc 7 _ rfl
  rw [Nat.add_zero] at c0
  obtain ⟨g00, g01⟩ := g0; obtain ⟨g10, g11⟩ := g1; obtain ⟨g20, g21⟩ := g2; obtain ⟨g30, g31⟩ := g3
  obtain ⟨g40, g41⟩ := g4; obtain ⟨g50, g51⟩ := g5; obtain ⟨g60, g61⟩ := g6; obtain ⟨g70, g71⟩ := g7
  generalize (x0 :: x1 :: x2 :: x3 :: x4 :: x5 :: x6 :: x7 :: t).length = q at *
  clear hc h
  have p0 : (0 : Int) < (q : Int) := by omega
  have p1 : (1 : Int) < (q : Int) := by omega
  have p2 : (2 : Int) < (q : Int) := by omega
  have p3 : (3 : Int) < (q : Int) := by omega
  have p4 : (4 : Int) < (q : Int) := by omega
  have p5 : (5 : Int) < (q : Int) := by omega
  have p6 : (6 : Int) < (q : Int) := by omega
  have p7 : (7 : Int) < (q : Int) := by omega
  go_enter Tryz.func184, Tryz.ntmps184
  go_wp2
  go_quiet (fail)
  go_wp2
  go_ret
  refine ⟨?_, _, rfl⟩
  simp (disch := omega) only [u64_or8, u64_or16, u64_or24, u64_or32, u64_or40, u64_or48, u64_or56]
  rfl
end Go.Proofs.YtadgiekiiicmfaaGreatDoor

/- Pieces of bytes for the walk of utf8.Valid; the tables of unicode/utf8. -/
namespace Go.Proofs.YtadgiekiiicmfaaGreatDoor
open Go.RowKit
set_option maxRecDepth 100000
set_option linter.unusedVariables false

/-- unicode/utf8's two tables, as their text lays them. -/
def Tabs (w : World) : Prop := Lib.Utf8Tabs 0 1 w
theorem Tabs.later {w w' : World} (h : Tabs w) (hb : Below w.heap.size w w') : Tabs w' := Utf8Tabs_below h hb
theorem Tabs.lt {w : World} (h : Tabs w) : 1 < w.heap.size := by
  have hc := (h.2 0 (by omega)).1
  rcases Nat.lt_or_ge 1 w.heap.size with h' | h'
  · exact h'
  · simp [World.cell?, Array.getElem?_eq_none h'] at hc
theorem Tabs.chg {S : Nat → Prop} {w w' : World} (h : Tabs w) (hc : Chg S w w') (hs : ∀ k, k ≤ 1 → ¬ S k) : Tabs w' := by
  have hlt := h.lt
  have hb : Below 2 w w' := hc.below (by omega) fun i hi => hs i (by omega)
  exact ⟨fun c hc => (hb.cell (by simp)).trans (h.1 c hc), fun i hi => ⟨(hb.cell (by simp)).trans (h.2 i hi).1, (hb.cell (by simp)).trans (h.2 i hi).2⟩⟩
theorem cutK {X : Nat → Prop} (w : World) (A : Option Addr) (t : List Int) (m c k m1 : Nat) (ki : Int) (hki : ki = k) (h : RdX X w A t) (hm : m = t.length) (hmc : m ≤ c) (h1 : m1 + k = m) :
    ∃ A' c', (∀ W, (Instr.sliceAt 22 (.slice A m c) (some (.int .i64 ki)) none none).run Tryz.prog W = .ok (.slice A' m1 c') W) ∧ m1 ≤ c' ∧ RdX X w A' (t.drop k) ∧ m1 = (t.drop k).length := by
  obtain ⟨A', c', h2, h3, h4⟩ := cutB_l A m c ki k m1 hki (by omega) (by omega) hmc
  exact ⟨A', c', h2, by omega, h4 X w t (by omega) h, by rw [List.length_drop]; omega⟩
/-- s[:h:h] of all of s -/
theorem cutMax {X : Nat → Prop} (A : Option Addr) (n c : Nat) (hnc : n ≤ c) :
    ∃ A', (∀ W, (Instr.sliceAt 22 (.slice A n c) none (some (.int .i64 (n : Nat))) (some (.int .i64 (n : Nat)))).run Tryz.prog W = .ok (.slice A' n n) W) ∧ ∀ (w : World) (t : List Int), t.length = n → RdX X w A t → RdX X w A' t := by
  have hu' : Tryz.prog.underlying 22 = some (.slice (Tryz.prog.elem 22)) := by rw [elem_of under_bytes]; exact under_bytes
  refine ⟨if n = 0 then A else A.map (·.add (0 * 1)), fun W => ?_, fun w t ht h => ?_⟩
  · rw [run_sliceAt_slice W 22 _ _ _ _ hu', run_slice_hm W 22 A n c hu' .i64 .i64 n n (by omega) (by omega) (by omega), run_sz under_bytes byte_size]
    simp [Result.andThen, sliced]
  · by_cases h0 : n = 0
    · obtain rfl : t = [] := List.eq_nil_of_length_eq_zero (by omega)
      exact RdX.nil _ _ _
    · rw [if_neg h0]
      cases A with
      | none => exact h
      | some a => simpa [addZero] using h
end Go.Proofs.YtadgiekiiicmfaaGreatDoor
