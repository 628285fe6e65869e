/- Texts joined: ModAgree, SectSec, SecL, SectSplit. -/
import Derived.Test.YtadgiekiiicmfaaGreatDoorJoin17
import Derived.Test.YtadgiekiiicmfaaGreatDoorJoin13
import Derived.Test.YtadgiekiiicmfaaGreatDoorJoin6
import Derived.Test.YtadgiekiiicmfaaGreatDoorJoin4
/- mod.agrees. -/
namespace Go.Proofs.YtadgiekiiicmfaaGreatDoor
open Go.RowKit
set_option maxRecDepth 100000
set_option linter.unusedVariables false

theorem own_cells6b {w : World} {g : Nat} {t : TypeId} {a b c d e f : Value} {tl : List Value} (h : Own w g t (a :: b :: c :: d :: e :: f :: tl)) : w.cell? ⟨g, 0, none⟩ = some a := h.cell 0
theorem nameOne_any (op a b nn t : Int) (A : Option Addr) (n c : Nat) (w : World) : Calls Tryz.prog 137 #[.agg #[.int .i64 op, .int .u32 a, .int .u32 b, .int .u64 nn, .slice A n c, .int .i64 t]] w fun e w' => e = .returned (.bool (decide (op = 64520) || decide (op = 64521))) ∧ Below w.heap.size w w' := by
  by_cases h1 : op = 64520
  · subst h1
    have HB := Lib.hid ((Below.refl w.heap.size w).alloc (Nat.le_refl _) (.cells #[.int .i64 64520, .int .u32 a, .int .u32 b, .int .u64 nn, .slice A n c, .int .i64 t] 76))
    go_enter Tryz.func137, Tryz.ntmps137
    go_wp2
    go_ret
    exact ⟨rfl, HB.out⟩
  · have e1 : (op == 64520) = false := by simp [h1]
    have hb := (Below.refl w.heap.size w).alloc (Nat.le_refl _) (.cells #[.int .i64 op, .int .u32 a, .int .u32 b, .int .u64 nn, .slice A n c, .int .i64 t] 76)
    have HB := Lib.hid hb
    have hd : decide (op = 64520) = false := by simp [h1]
    clear hb
    go_enter Tryz.func137, Tryz.ntmps137
    go_wp2
    go_ret
    refine ⟨?_, HB.out⟩
    rw [hd]
    rfl
set_option maxHeartbeats 1000000 in
theorem idxIns_any {X : Nat → Prop} (A : Option Addr) (n c : Nat) (is : List IV) (w : World) (h : RdN X w (.slice A n c) is) (hn : n = is.length) (hl : n ≤ 9223372036854775807) :
    Calls Tryz.prog 167 #[.slice A n c, .func (.func 137) #[] #[]] w fun e w' => ∃ r : Int, e = .returned (.int .i64 r) ∧ (decide (0 ≤ r)) = (is.map IV.x).any namesB ∧ Below w.heap.size w w' := by
  have HR := Lib.hid h
  have HN := Lib.hid hn
  clear h hn
  go_enter Tryz.func167, Tryz.ntmps167
  go_wp2
  go_loopw [5, 8] (fun _ i wr => ∃ (k : Nat), k ≤ n ∧ i = .int .i64 k ∧ Hid (Below w.heap.size w wr ∧ ∀ x ∈ (is.take k).map IV.x, namesB x = false)) (fun _ i _ => n - (intOf i).toNat)
  case atStart => exact ⟨0, by omega, rfl, Below.refl _ _, by simp⟩
  case round =>
    obtain ⟨k, hk, rfl, HX⟩ := hrel
    by_cases hlt : k < n
    · have hlt2 : (k : Int) < n := by omega
      have hw1 : IntKind.i64.wrap ((k : Int) + 1) = (k : Int) + 1 := by rw [IntKind.wrap_i64]; omega
      obtain ⟨i, hi⟩ : ∃ i, is[k]? = some i := ⟨_, List.getElem?_eq_getElem (by have := HN.out; omega)⟩
      obtain ⟨b, o, rfl, hXb, hb, c0, c1, c2, c3, c4, c5⟩ := (HR.out.later HX.out.1).at_ hi
      have HI := Lib.hid hi
      clear hi
      go_wp2_with fail
      refine (nameOne_any i.x.op i.x.a i.x.b i.x.n i.x.t i.A i.x.l.length i.c wr).mono ?_
      rintro e w2 ⟨rfl, hb2⟩
      have HB2 := Lib.hid (HX.out.1.trans (hb2.mono HX.out.1.size))
      clear hb2 c0 c1 c2 c3 c4 c5
      by_cases hnm : namesB i.x = true
      · have hd : (decide (i.x.op = 64520) || decide (i.x.op = 64521)) = true := hnm
        rw [hd]
        have HNM := Lib.hid hnm
        clear hd hnm
        go_wp2
        go_ret
        refine ⟨k, rfl, ?_, HB2.out⟩
        rw [decide_eq_true (by omega)]
        exact (List.any_eq_true.2 ⟨i.x, List.mem_map.2 ⟨i, List.mem_of_getElem? HI.out, rfl⟩, HNM.out⟩).symm
      · have hd : (decide (i.x.op = 64520) || decide (i.x.op = 64521)) = false := by (have h9 : namesB i.x = false := by simpa using hnm); exact h9
        rw [hd]
        have HNM := Lib.hid (show namesB i.x = false from by simpa using hnm)
        clear hd hnm
        go_wp2
        refine ⟨⟨k + 1, by omega, by push_cast; rfl, HB2.out, fun x hx => ?_⟩, by simp [intOf]; omega⟩
        rw [List.take_add_one, HI.out, List.map_append] at hx
        rcases List.mem_append.1 hx with hx | hx
        · exact HX.out.2 x hx
        · simp at hx; rw [hx]; exact HNM.out
    · obtain rfl : k = n := by omega
      have hnl : ¬ (k : Int) < k := by omega
      go_wp2
      go_ret
      refine ⟨-1, rfl, ?_, HX.out.1⟩
      rw [show decide ((0 : Int) ≤ -1) = false from rfl]
      symm
      rw [List.any_eq_false]
      intro x hx
      rw [← List.take_length (l := is), ← HN.out] at hx
      have h9 := HX.out.2 x.x (List.mem_map.2 ⟨x, hx, rfl⟩)
      simpa using h9
theorem hasIns_any {X : Nat → Prop} (A : Option Addr) (n c : Nat) (is : List IV) (w : World) (h : RdN X w (.slice A n c) is) (hn : n = is.length) (hl : n ≤ 9223372036854775807) :
    Calls Tryz.prog 136 #[.slice A n c, .func (.func 137) #[] #[]] w fun e w' => e = .returned (.bool ((is.map IV.x).any namesB)) ∧ Below w.heap.size w w' := by
  have HN := Lib.hid (idxIns_any A n c is w h hn hl)
  clear h hn
  go_enter Tryz.func136, Tryz.ntmps136
  go_wp2_with fail
  refine HN.out.mono ?_
  rintro e w1 ⟨r, rfl, h1, h2⟩
  have H1 := Lib.hid (And.intro h1 h2)
  clear h1 h2
  go_wp2
  go_ret
  refine ⟨?_, H1.out.2⟩
  rw [← H1.out.1]
  rfl
theorem names_any {X : Nat → Prop} (A B : Option Addr) (q c n k : Nat) (is : List IV) (w : World) (h : RdN X w (.slice B n k) is) (hn : n = is.length) (hl : n ≤ 9223372036854775807) :
    Calls Tryz.prog 84 #[.agg #[.slice A q c, .slice B n k]] w fun e w' => e = .returned (.bool ((is.map IV.x).any namesB)) ∧ Below w.heap.size w w' := by
  have hb := (Below.refl w.heap.size w).alloc (Nat.le_refl _) (.cells #[.slice A q c, .slice B n k] 73)
  have HN := Lib.hid (hasIns_any B n k is _ (h.later hb) hn hl)
  have HB := Lib.hid hb
  clear h hn hb
  go_enter Tryz.func84, Tryz.ntmps84
  go_wp2_with fail
  refine HN.out.mono ?_
  rintro e w1 ⟨rfl, h2⟩
  have H1 := Lib.hid (HB.out.trans (h2.mono HB.out.size))
  clear h2
  generalize hbb : (is.map IV.x).any namesB = bb at *
  have HBB := Lib.hid hbb
  clear hbb
  go_wp2
  go_ret
  exact ⟨by rw [HBB.out]; rfl, H1.out⟩
set_option maxHeartbeats 1000000 in
theorem idxCode_any {X : Nat → Prop} (A : Option Addr) (n c : Nat) (cs : List CV) (w : World) (h : RdE KCd X w (.slice A n c) cs) (hn : n = cs.length) (hl : n ≤ 9223372036854775807) :
    Calls Tryz.prog 135 #[.slice A n c, .func (.func 84) #[] #[]] w fun e w' => ∃ r : Int, e = .returned (.int .i64 r) ∧ (decide (0 ≤ r)) = (cs.map CV.x).any (fun c => c.2.any namesB) ∧ Below w.heap.size w w' := by
  have HR := Lib.hid h
  have HN := Lib.hid hn
  clear h hn
  go_enter Tryz.func135, Tryz.ntmps135
  go_wp2
  go_loopw [5, 8] (fun _ i wr => ∃ (k : Nat), k ≤ n ∧ i = .int .i64 k ∧ Hid (Below w.heap.size w wr ∧ ∀ x ∈ (cs.take k).map CV.x, x.2.any namesB = false)) (fun _ i _ => n - (intOf i).toNat)
  case atStart => exact ⟨0, by omega, rfl, Below.refl _ _, by simp⟩
  case round =>
    obtain ⟨k, hk, rfl, HX⟩ := hrel
    by_cases hlt : k < n
    · have hlt2 : (k : Int) < n := by omega
      have hw1 : IntKind.i64.wrap ((k : Int) + 1) = (k : Int) + 1 := by rw [IntKind.wrap_i64]; omega
      obtain ⟨i, hi⟩ : ∃ i, cs[k]? = some i := ⟨_, List.getElem?_eq_getElem (by have := HN.out; omega)⟩
      obtain ⟨b, o, rfl, hXb, hb, hok, hcs⟩ := (HR.out.later HX.out.1).at_ hi
      have c0 := hcs 0 _ rfl
      have c1 := hcs 1 _ rfl
      rw [Nat.add_zero] at c0
      change wr.cell? ⟨b, o + k * 2, none⟩ = _ at c0
      change wr.cell? ⟨b, o + k * 2 + 1, none⟩ = some (.slice i.b.A i.b.is.length i.b.c) at c1
      have HI := Lib.hid hi
      have HNN := Lib.hid (names_any i.lA i.b.A i.ls.length i.lc i.b.is.length i.b.c i.b.is wr hok.2.2.2.2.rd rfl (by have := hok.2.2.2.2.2.2.2.2; omega))
      clear hi hcs hok
      go_wp2_with fail
      refine HNN.out.mono ?_
      rintro e w2 ⟨rfl, hb2⟩
      have HB2 := Lib.hid (HX.out.1.trans (hb2.mono HX.out.1.size))
      clear hb2 c0 c1 HNN
      rcases hnm : (i.b.is.map IV.x).any namesB with _ | _
      · have HNM := Lib.hid hnm
        clear hnm
        go_wp2
        refine ⟨⟨k + 1, by omega, by push_cast; rfl, HB2.out, fun x hx => ?_⟩, by simp [intOf]; omega⟩
        rw [List.take_add_one, HI.out, List.map_append] at hx
        rcases List.mem_append.1 hx with hx | hx
        · exact HX.out.2 x hx
        · simp at hx; rw [hx]; exact HNM.out
      · have HNM := Lib.hid hnm
        clear hnm
        go_wp2
        go_ret
        refine ⟨k, rfl, ?_, HB2.out⟩
        rw [decide_eq_true (by omega)]
        exact (List.any_eq_true.2 ⟨i.x, List.mem_map.2 ⟨i, List.mem_of_getElem? HI.out, rfl⟩, HNM.out⟩).symm
    · obtain rfl : k = n := by omega
      have hnl : ¬ (k : Int) < k := by omega
      go_wp2
      go_ret
      refine ⟨-1, rfl, ?_, HX.out.1⟩
      rw [show decide ((0 : Int) ≤ -1) = false from rfl]
      symm
      rw [List.any_eq_false]
      intro x hx
      rw [← List.take_length (l := cs), ← HN.out] at hx
      have h9 := HX.out.2 x.x (List.mem_map.2 ⟨x, hx, rfl⟩)
      simpa using h9
theorem hasCode_any {X : Nat → Prop} (A : Option Addr) (n c : Nat) (cs : List CV) (w : World) (h : RdE KCd X w (.slice A n c) cs) (hn : n = cs.length) (hl : n ≤ 9223372036854775807) :
    Calls Tryz.prog 83 #[.slice A n c, .func (.func 84) #[] #[]] w fun e w' => e = .returned (.bool ((cs.map CV.x).any (fun c => c.2.any namesB))) ∧ Below w.heap.size w w' := by
  have HN := Lib.hid (idxCode_any A n c cs w h hn hl)
  clear h hn
  go_enter Tryz.func83, Tryz.ntmps83
  go_wp2_with fail
  refine HN.out.mono ?_
  rintro e w1 ⟨r, rfl, h1, h2⟩
  have H1 := Lib.hid (And.intro h1 h2)
  clear h1 h2
  go_wp2
  go_ret
  refine ⟨?_, H1.out.2⟩
  rw [← H1.out.1]
  rfl
def MV.v (m : MV) : Value := .agg m.cells.toArray
theorem own_cellsM {w : World} {g : Nat} {t : TypeId} {m : MV} (h : Own w g t m.cells) : w.cell? ⟨g, 1, none⟩ = some m.f.v ∧ w.cell? ⟨g, 9, none⟩ = some (.bool m.k) ∧ w.cell? ⟨g, 10, none⟩ = some (.int .u32 m.kn) ∧ w.cell? ⟨g, 11, none⟩ = some m.c.v ∧ w.cell? ⟨g, 12, none⟩ = some m.d.v := ⟨h.cell 1, h.cell 9, h.cell 10, h.cell 11, h.cell 12⟩
set_option maxHeartbeats 2000000 in
theorem agrees_any {X : Nat → Prop} (m : MV) (w : World) (h : MV.ok X w m) :
    Calls Tryz.prog 20 #[m.v] w fun e w' => e = .returned (.bool (agreesS m.mo)) ∧ Below w.heap.size w w' := by
  have hl1 : m.c.l.length ≤ 9223372036854775807 := by obtain ⟨_, _, _, h1, h2⟩ := h.c.form; unfold maxLen at h2; omega
  have hl2 : m.d.l.length ≤ 9223372036854775807 := by obtain ⟨_, _, _, h1, h2⟩ := h.d.form; unfold maxLen at h2; omega
  have hl3 : m.f.l.length ≤ 9223372036854775807 := by obtain ⟨_, _, _, h1, h2⟩ := h.f.form; unfold maxLen at h2; omega
  have hb := (Below.refl w.heap.size w).alloc (Nat.le_refl _) (.cells m.cells.toArray MODT)
  have HN := Lib.hid (hasCode_any m.c.A m.c.l.length m.c.c m.c.l _ (h.c.later hb) rfl hl1)
  have HB := Lib.hid hb
  have ho := Own.new w MODT m.cells
  obtain ⟨c1, c9, c10, c11, c12⟩ := own_cellsM ho
  have HO := Lib.hid h
  clear h hb ho
  obtain ⟨⟨tA, tc, tl⟩, ⟨fA, fc, fl⟩, ⟨bA, bc, bl⟩, ⟨mA, mc, ml⟩, ⟨gA, gc, gl⟩, ⟨xA, xc, xl⟩, st, sn, ⟨eA, ec, el⟩, kk, kn, ⟨cA, cc, cl⟩, ⟨dA, dc, dl⟩⟩ := m
  simp only [MV.v, MV.cells, LV.v] at *
  have HK : Hid (agreesS (MV.mo ⟨⟨tA, tc, tl⟩, ⟨fA, fc, fl⟩, ⟨bA, bc, bl⟩, ⟨mA, mc, ml⟩, ⟨gA, gc, gl⟩, ⟨xA, xc, xl⟩, st, sn, ⟨eA, ec, el⟩, kk, kn, ⟨cA, cc, cl⟩, ⟨dA, dc, dl⟩⟩) = (decide (cl.length = fl.length) && (if kk then decide (kn = (dl.length : Int)) else !((cl.map CV.x).any fun c => c.2.any namesB)))) := by
    unfold Hid agreesS MV.mo
    simp only [List.length_map]
  rw [HK.out]
  clear HK
  go_enter Tryz.func20, Tryz.ntmps20
  go_upto_region 1 with fail
  generalize w.alloc (.cells _ MODT) = W at *
  have hkn := HO.out.kn
  have hkn0 : 0 ≤ kn := hkn.1
  have hkn1 : kn < 4294967296 := hkn.2
  clear HO hkn
  generalize hq1 : cl.length = q1 at *
  generalize hq2 : fl.length = q2 at *
  generalize hq3 : dl.length = q3 at *
  have HQ := Lib.hid (And.intro hq1 (And.intro hq2 hq3))
  clear hq1 hq2 hq3
  by_cases hlen : q1 = q2
  · subst hlen
    have hne : ((q1 : Int) != (q1 : Int)) = false := by simp
    rcases kk with _ | _
    · go_wp2_with fail
      refine HN.out.mono ?_
      rintro e w1 ⟨rfl, h2⟩
      have H1 := Lib.hid (HB.out.trans (h2.mono HB.out.size))
      clear h2
      generalize hbb : (cl.map CV.x).any (fun c => c.2.any namesB) = bb at *
      have HBB := Lib.hid hbb
      clear hbb
      go_wp2
      go_ret
      refine ⟨?_, H1.out⟩
      obtain ⟨z1, z2, z3⟩ := HQ.out
      have hb2 := HBB.out
      rw [List.any_map] at hb2
      rw [z1, z2, hb2]
      cases bb <;> simp
    · have hw1 : IntKind.u64.wrap kn = kn := by rw [IntKind.wrap_u64]; omega
      have hw2 : IntKind.u64.wrap (q3 : Int) = q3 := by rw [IntKind.wrap_u64]; omega
      go_wp2
      go_ret
      refine ⟨?_, HB.out⟩
      obtain ⟨z1, z2, z3⟩ := HQ.out
      rw [z1, z2, z3]
      simp
      try rfl
  · have hne : ((q1 : Int) != (q2 : Int)) = true := by simp; omega
    go_wp2
    all_goals
      go_ret
      refine ⟨?_, HB.out⟩
      obtain ⟨z1, z2, z3⟩ := HQ.out
      rw [z1, z2]
      simp [hlen]
end Go.Proofs.YtadgiekiiicmfaaGreatDoor

/- sect: one section. -/
namespace Go.Proofs.YtadgiekiiicmfaaGreatDoor
open Go.RowKit
set_option maxRecDepth 100000
set_option linter.unusedVariables false

def SecPost (k : Nat) (g tot : Nat) (s : St) (w : World) (e : Ending) (w' : World) : Prop :=
  ∃ id y v k', e = .returned (.agg #[.int .u8 id, v]) ∧ 0 ≤ id ∧ id ≤ 255 ∧ k' ≤ 12 ∧ OwnB w' w.heap.size v y ∧ IsBytes y ∧ y.length ≤ 1000000 ∧ SrcAt w' g tot k' (nx (pSec k) s) ∧ (∀ r l', bd s (pSec k) = .ok (r, l') → r = ((id, y), k')) ∧ Chg (fun i => i = g) w w'
theorem sec_math {s : St} {k k' : Nat} {id : Int} {y : List Int} (h1 : ∀ a l', bd s (pId k) = .ok (a, l') → a = (id, k')) (h2 : ∀ a l', bd (nx (pId k) s) pSized = .ok (a, l') → y = a) :
    nx (pSec k) s = (if id = 0 ∧ nameOk y = false then failS 2 (nx pSized (nx (pId k) s)) else nx pSized (nx (pId k) s)) ∧ (∀ r l', bd s (pSec k) = .ok (r, l') → r = ((id, y), k')) := by
  cases s with
  | error e => exact ⟨by simp [failS], fun r l' h => by cases h⟩
  | ok l =>
    simp only [nx_ok, bd_ok] at h1 h2 ⊢
    unfold pSec seq
    cases hp : pId k l with
    | error e => exact ⟨by simp [failS], fun r l' h => by simp at h⟩
    | ok a =>
      have e1 := h1 a.1 a.2 (by rw [hp])
      rw [hp] at h2
      simp only [bd_ok, e1] at h2 ⊢
      cases hq : pSized a.2 with
      | error e => exact ⟨by simp [nx_ok, hq, failS], fun r l' h => by simp at h⟩
      | ok b =>
        have e2 := h2 b.1 b.2 (by rw [hq])
        rw [nx_ok, hq]
        simp only [bd_ok, ← e2]
        by_cases hc : id = 0 ∧ nameOk y = false
        · simp [hc, failS]
        · simp only [hc, if_false, bd_ok]
          exact ⟨by trivial, fun r l' h => by injection h with h; injection h with h; exact h.symm⟩

set_option maxHeartbeats 4000000 in
theorem ssec_any (g tot k : Nat) (s : St) (w : World) (hk : k ≤ 12) (h : SrcAt w g tot k s) (hT : Tabs w) (hg : 1 < g) :
    Calls Tryz.prog 62 #[.pointer (some ⟨g, 0, none⟩)] w (SecPost k g tot s w) := by
  have hgl := RdrAt.lt h
  have HH := Lib.hid (And.intro h hT)
  have hb0 : Below w.heap.size w (w.alloc (.cells #[.int .u8 0, .slice none 0 0] 61)) := (Below.refl _ _).alloc (Nat.le_refl _) _
  have HO := Lib.hid (Own.new w 61 [.int .u8 0, .slice none 0 0])
  have HI := Lib.hid (sid_any g tot k s _ hk (RdrAt.later h hb0))
  have HB0 := Lib.hid hb0
  have HSZ : Hid (w.heap.size < (w.alloc (.cells #[.int .u8 0, .slice none 0 0] 61)).heap.size) := by unfold Hid; simp
  clear h hT hb0
  go_enter Tryz.func62, Tryz.ntmps62
  go_upto_region 1 with fail
  simp only [List.toArray] at HO
  generalize hw0 : w.alloc (.cells #[.int .u8 0, .slice none 0 0] 61) = w0 at *
  clear hw0
  obtain ⟨gx, hgx⟩ : ∃ gx, w.heap.size = gx := ⟨_, rfl⟩
  rw [hgx] at HO HSZ hgl ⊢
  have HGX := Lib.hid hgx
  clear hgx
  have hf00 := HO.out.frozen 0
  have hf01 := HO.out.frozen 1
  go_wp2_with fail
  refine HI.out.mono ?_
  rintro e w1 ⟨id, k', rfl, i0, i1, i2, i3, i4, i5⟩
  have HO1 := Lib.hid (HO.out.chg i5 (by omega))
  have hf10 := HO1.out.frozen 0
  have hc10 : w1.cell? ⟨gx, 0, none⟩ = some (.int .u8 0) := HO1.out.cell 0
  have hf11 := HO1.out.frozen 1
  have HO2 := Lib.hid (HO1.out.set 0 (.int .u8 id))
  have HG2 : Hid (SrcAt (w1.setCell ⟨gx, 0, none⟩ (.int .u8 id)) g tot k' (nx (pId k) s)) := RdrAt.chg i3 (Chg.setCell _ _ _) fun i hi e => by simp at e; omega
  have HI5 := Lib.hid (And.intro i4 ((i5.mono (S' := fun i => i = g ∨ i = gx) fun i _ e => .inl e).trans (Chg.setCell w1 ⟨gx, 0, none⟩ (.int .u8 id)) fun i _ e => .inr e))
  clear i3 i4 i5 HI hf00 hf01
  go_upto_region 2 with fail
  generalize hw2 : w1.setCell ⟨gx, 0, none⟩ (.int .u8 id) = w2 at *
  clear hw2
  have HS := Lib.hid (rsized_any g _ _ _ _ HG2.out)
  go_wp2_with fail
  refine HS.out.mono ?_
  rintro e w3 ⟨v, y, rfl, p1, p2, p3, p4, p5, p6⟩
  have hsz2 : gx < w2.heap.size := Nat.lt_of_lt_of_le HSZ.out HI5.out.2.size
  have HO3 := Lib.hid (HO2.out.chg p5 (by omega))
  simp only [List.set] at HO3
  have hf30 := HO3.out.frozen 0
  have hc31 : w3.cell? ⟨gx, 1, none⟩ = some (.slice none 0 0) := HO3.out.cell 1
  have hf31 := HO3.out.frozen 1
  have hblk : ∀ i, v.ownBlock = some i → gx < i := fun i hi => by have := owns_ge p1 hi; omega
  have HO4 := Lib.hid (HO3.out.set 1 v)
  have hch4 : Chg (fun i => i = gx) w3 (w3.setCell ⟨gx, 1, none⟩ v) := chgSet _ _ _ _
  have HG4 : Hid (SrcAt (w3.setCell ⟨gx, 1, none⟩ v) g tot k' (nx pSized (nx (pId k) s))) := RdrAt.chg p3 hch4 fun i hi e => by omega
  have HV4 : Hid (OwnB (w3.setCell ⟨gx, 1, none⟩ v) w2.heap.size v y) := OwnB.chg p1 hch4 fun i hi e => by have := hblk i hi; omega
  have HC4 : Hid (Chg (fun i => i = g ∨ i = gx) w0 (w3.setCell ⟨gx, 1, none⟩ v)) := (HI5.out.2.trans p5 fun i _ e => .inl e).trans hch4 fun i _ e => .inr e
  have HM := Lib.hid (sec_math HI5.out.1 p4)
  have HB := Lib.hid hblk
  have HY := Lib.hid (And.intro p2 p6)
  obtain ⟨A1, c1, rfl, q1, q2, -⟩ := p1.rdX p2
  have HQ := Lib.hid (And.intro q1 q2)
  clear p1 p2 p3 p4 p5 p6 q1 q2 hblk hch4 HS hf10 hf11
  go_upto_region 3 with fail
  generalize hw4 : w3.setCell ⟨gx, 1, none⟩ (.slice A1 y.length c1) = w4 at *
  clear hw4
  simp only [List.set] at HO4
  have hc40 : w4.cell? ⟨gx, 0, none⟩ = some (.int .u8 id) := HO4.out.cell 0
  have hc41 : w4.cell? ⟨gx, 1, none⟩ = some (.slice A1 y.length c1) := HO4.out.cell 1
  have hf40 := HO4.out.frozen 0
  have hf41 := HO4.out.frozen 1
  have fin : ∀ (w5 : World) (st : St), Own w5 gx 61 [.int .u8 id, .slice A1 y.length c1] → SrcAt w5 g tot k' st → Chg (fun i => i = g ∨ i = gx) w4 w5 → nx (pSec k) s = st →
      SecPost k g tot s w (.returned (.agg #[.int .u8 id, .slice A1 y.length c1])) w5 := fun w5 st o1 o2 o3 o4 => by
    refine ⟨id, y, _, k', rfl, i0, i1, i2, ?_, HY.out.1, HY.out.2, by rw [o4]; exact o2, HM.out.2, ?_⟩
    · exact owns_base (OwnB.chg HV4.out o3 fun i hi e => by have := HB.out i hi; omega) (by have := HGX.out; omega)
    · exact ((Chg.of_below (S := fun i => i = g ∨ i = gx) HB0.out).trans (HC4.out.trans o3 fun i _ e => e) fun i _ e => e).mono fun i hi e => by have := HGX.out; omega
  by_cases hid : id = 0
  · subst hid
    have hrd4 : RdX (· < w4.heap.size) w4 A1 y := by
      obtain ⟨A2, c2, e2, -, -, q3⟩ := HV4.out.rdX HY.out.1
      injection e2 with e3 _ _
      subst e3
      exact q3.rd.rx
    have hT4 : Tabs w4 := (HH.out.2.later HB0.out).chg HC4.out fun i hi e => by have := HGX.out; omega
    have HBG := Lib.hid (sbegins_any A1 y y.length c1 w4 hrd4 rfl HY.out.2 HQ.out.1 HQ.out.2 hT4)
    clear hrd4 hT4
    generalize hyl : y.length = yl at *
    clear hyl
    go_wp2_with fail
    refine HBG.out.mono ?_
    rintro e w5 ⟨rfl, hb5⟩
    have HO5 := Lib.hid (HO4.out.later hb5)
    have HG5 := Lib.hid (RdrAt.later HG4.out hb5)
    have HC5 : Hid (Chg (fun i => i = g ∨ i = gx) w4 w5) := Chg.of_below hb5
    have hc50 : w5.cell? ⟨gx, 0, none⟩ = some (.int .u8 0) := HO5.out.cell 0
    have hc51 : w5.cell? ⟨gx, 1, none⟩ = some (.slice A1 yl c1) := HO5.out.cell 1
    have hf50 := HO5.out.frozen 0
    have hf51 := HO5.out.frozen 1
    clear hb5 hc40 hc41 hf40 hf41
    cases hn : nameOk y with
    | true =>
      have HN := Lib.hid hn
      clear hn
      go_wp2
      have O6 := (HO5.out.set 0 (.int .u8 0)).set 1 (.slice A1 yl c1)
      simp only [List.set] at O6
      have K6 : Chg (fun i => i = gx) w5 ((w5.setCell ⟨gx, 0, none⟩ (.int .u8 0)).setCell ⟨gx, 1, none⟩ (.slice A1 yl c1)) := (chgSet _ _ _ _).trans (chgSet _ _ _ _) fun i _ e => e
      have G6 : SrcAt ((w5.setCell ⟨gx, 0, none⟩ (.int .u8 0)).setCell ⟨gx, 1, none⟩ (.slice A1 yl c1)) g tot k' _ := RdrAt.chg HG5.out K6 fun i hi e => by omega
      have C6 := HC5.out.trans K6 fun i _ e => .inr e
      generalize (w5.setCell ⟨gx, 0, none⟩ (.int .u8 0)).setCell ⟨gx, 1, none⟩ (.slice A1 yl c1) = w6 at *
      have d0 : w6.cell? ⟨gx, 0, none⟩ = some (.int .u8 0) := O6.cell 0
      have d1 : w6.cell? ⟨gx, 1, none⟩ = some (.slice A1 yl c1) := O6.cell 1
      refine bodyPost_ret (by simp [results, Tryz.results62, go_sem, d0, d1]; try rfl) rfl ?_
      refine fin w6 _ O6 G6 C6 ?_
      rw [HM.out.1, HN.out]; simp
    | false =>
      have HN := Lib.hid hn
      clear hn
      have HF := Lib.hid (rfail_any g _ _ _ 2 w5 HG5.out (by omega) (by omega))
      go_wp2_with fail
      refine HF.out.mono ?_
      rintro e w7 ⟨⟨u, rfl⟩, q2, q3⟩
      have HO7 := Lib.hid (HO5.out.chg q3 (by omega))
      have HG7 := Lib.hid q2
      have HC7 := Lib.hid (HC5.out.trans q3 fun i _ e => .inl e)
      have hc70 : w7.cell? ⟨gx, 0, none⟩ = some (.int .u8 0) := HO7.out.cell 0
      have hc71 : w7.cell? ⟨gx, 1, none⟩ = some (.slice A1 yl c1) := HO7.out.cell 1
      have hf70 := HO7.out.frozen 0
      have hf71 := HO7.out.frozen 1
      clear q2 q3 hc50 hc51 hf50 hf51
      go_wp2
      have O6 := (HO7.out.set 0 (.int .u8 0)).set 1 (.slice A1 yl c1)
      simp only [List.set] at O6
      have K6 : Chg (fun i => i = gx) w7 ((w7.setCell ⟨gx, 0, none⟩ (.int .u8 0)).setCell ⟨gx, 1, none⟩ (.slice A1 yl c1)) := (chgSet _ _ _ _).trans (chgSet _ _ _ _) fun i _ e => e
      have G6 : SrcAt ((w7.setCell ⟨gx, 0, none⟩ (.int .u8 0)).setCell ⟨gx, 1, none⟩ (.slice A1 yl c1)) g tot k' _ := RdrAt.chg HG7.out K6 fun i hi e => by omega
      have C6 := HC7.out.trans K6 fun i _ e => .inr e
      generalize (w7.setCell ⟨gx, 0, none⟩ (.int .u8 0)).setCell ⟨gx, 1, none⟩ (.slice A1 yl c1) = w6 at *
      have d0 : w6.cell? ⟨gx, 0, none⟩ = some (.int .u8 0) := O6.cell 0
      have d1 : w6.cell? ⟨gx, 1, none⟩ = some (.slice A1 yl c1) := O6.cell 1
      refine bodyPost_ret (by simp [results, Tryz.results62, go_sem, d0, d1]; try rfl) rfl ?_
      refine fin w6 _ O6 G6 C6 ?_
      rw [HM.out.1, HN.out]; simp
  · have hid0 : (id == 0) = false := by simpa using hid
    have HO5 := HO4
    have HG5 := HG4
    have HC5 : Hid (Chg (fun i => i = g ∨ i = gx) w4 w4) := Chg.refl _ _
    generalize hyl : y.length = yl at *
    clear hyl
    go_wp2
    have O6 := (HO5.out.set 0 (.int .u8 id)).set 1 (.slice A1 yl c1)
    simp only [List.set] at O6
    have K6 : Chg (fun i => i = gx) w4 ((w4.setCell ⟨gx, 0, none⟩ (.int .u8 id)).setCell ⟨gx, 1, none⟩ (.slice A1 yl c1)) := (chgSet _ _ _ _).trans (chgSet _ _ _ _) fun i _ e => e
    have G6 : SrcAt ((w4.setCell ⟨gx, 0, none⟩ (.int .u8 id)).setCell ⟨gx, 1, none⟩ (.slice A1 yl c1)) g tot k' _ := RdrAt.chg HG5.out K6 fun i hi e => by omega
    have C6 := HC5.out.trans K6 fun i _ e => .inr e
    generalize (w4.setCell ⟨gx, 0, none⟩ (.int .u8 id)).setCell ⟨gx, 1, none⟩ (.slice A1 yl c1) = w6 at *
    have d0 : w6.cell? ⟨gx, 0, none⟩ = some (.int .u8 id) := O6.cell 0
    have d1 : w6.cell? ⟨gx, 1, none⟩ = some (.slice A1 yl c1) := O6.cell 1
    refine bodyPost_ret (by simp [results, Tryz.results62, go_sem, d0, d1]; try rfl) rfl ?_
    refine fin w6 _ O6 G6 C6 ?_
    rw [HM.out.1]; simp [hid]
end Go.Proofs.YtadgiekiiicmfaaGreatDoor

/- Lists of sections in memory. No function of the program. -/
namespace Go.Proofs.YtadgiekiiicmfaaGreatDoor
open Go.RowKit
set_option maxRecDepth 100000
set_option linter.unusedVariables false

/-- A section, and where its bytes lie. -/
structure SV where
  id : Int
  y : List Int
  A : Option Addr
  c : Nat
def SV.cells (i : SV) : List Value := [.int .u8 i.id, .slice i.A i.y.length i.c]
def SV.sec (i : SV) : Sec := (i.id, i.y)
def flatS : List SV → List Value
  | [] => []
  | i :: is => i.cells ++ flatS is
theorem flatS_app (a b : List SV) : flatS (a ++ b) = flatS a ++ flatS b := by
  induction a with
  | nil => rfl
  | cons i a ih => simp [flatS, ih]
theorem flatS_len (a : List SV) : (flatS a).length = a.length * 2 := by
  induction a with
  | nil => rfl
  | cons i a ih => simp [flatS, ih, SV.cells]; omega
theorem flatS_get (a : List SV) : ∀ (j : Nat) (i : SV), a[j]? = some i → ∀ k, k < 2 → (flatS a)[j * 2 + k]? = (i.cells)[k]? := by
  induction a with
  | nil => intro j i h; simp at h
  | cons y a ih =>
    intro j i h k hk
    have hl : y.cells.length = 2 := rfl
    cases j with
    | zero =>
      simp at h; subst h
      rw [flatS, List.getElem?_append_left (by omega)]
      congr 1; omega
    | succ j =>
      rw [flatS, List.getElem?_append_right (by omega), hl, show (j + 1) * 2 + k - 2 = j * 2 + k from by omega]
      exact ih j i (by simpa using h) k hk
theorem flatS_one (a : List SV) : ∀ u ∈ flatS a, u.oneCell' = true := by
  induction a with
  | nil => intro u hu; simp [flatS] at hu
  | cons i a ih =>
    intro u hu
    rw [flatS, List.mem_append] at hu
    rcases hu with h | h
    · simp [SV.cells] at h
      rcases h with rfl | rfl <;> rfl
    · exact ih u h
/-- A section's bytes, in blocks of X. -/
def SecX (X : Nat → Prop) (w : World) (i : SV) : Prop := 0 ≤ i.id ∧ i.id ≤ 255 ∧ RdX X w i.A i.y ∧ i.y.length ≤ i.c ∧ i.c ≤ maxLen ∧ i.y.length ≤ 1000000
/-- Sections (elements of the type e) in a row of the call's own; their bytes in blocks of X, which has not the row's. -/
def OwnS (e : TypeId) (X : Nat → Prop) (w : World) (base : Nat) (v : Value) (is : List SV) : Prop :=
  w.ownsRow base e 2 v is.length (flatS is) ∧ (∀ i ∈ is, SecX X w i) ∧ ∀ k, v.ownBlock = some k → ¬ X k
/-- Sections that are read, in blocks of X. -/
def RdS (X : Nat → Prop) (w : World) (v : Value) (is : List SV) : Prop :=
  ∃ A c, v = .slice A is.length c ∧ is.length ≤ c ∧ c ≤ maxLen ∧ RdV X w A (flatS is) ∧ ∀ i ∈ is, SecX X w i
section
variable {X Y S : Nat → Prop} {w w' : World} {base : Nat} {v : Value} {is : List SV} {e : TypeId} {i : SV}
theorem SecX.chg (h : SecX X w i) (hc : Chg S w w') (hs : ∀ k, k < w.heap.size → X k → ¬ S k) : SecX X w' i := ⟨h.1, h.2.1, h.2.2.1.chg hc hs, h.2.2.2⟩
theorem SecX.later (h : SecX X w i) (hb : Below w.heap.size w w') : SecX X w' i := h.chg (S := fun _ => False) (Chg.of_below hb) fun _ _ _ => id
theorem SecX.mono (h : SecX X w i) (hx : ∀ k, k < w.heap.size → X k → Y k) : SecX Y w i := ⟨h.1, h.2.1, h.2.2.1.mono hx, h.2.2.2⟩
theorem OwnS.nil (e : TypeId) (X : Nat → Prop) (w : World) (base : Nat) : OwnS e X w base (.slice none 0 0) [] := ⟨World.ownsRow_nil w base _ _, fun i hi => by simp at hi, fun k hk => by simp [Value.ownBlock] at hk⟩
theorem OwnS.chg (h : OwnS e X w base v is) (hc : Chg S w w') (hs : ∀ k, k < w.heap.size → X k → ¬ S k) (hv : ∀ k, v.ownBlock = some k → ¬ S k) : OwnS e X w' base v is :=
  ⟨owns_chg h.1 hc hv, fun i hi => (h.2.1 i hi).chg hc hs, h.2.2⟩
theorem OwnS.later (h : OwnS e X w base v is) (hb : Below w.heap.size w w') : OwnS e X w' base v is := h.chg (S := fun _ => False) (Chg.of_below hb) (fun _ _ _ => id) fun _ _ => id
theorem OwnS.mono (h : OwnS e X w base v is) (hx : ∀ k, k < w.heap.size → X k → Y k) (hv : ∀ k, v.ownBlock = some k → ¬ Y k) : OwnS e Y w base v is := ⟨h.1, fun i hi => (h.2.1 i hi).mono hx, hv⟩
theorem OwnS.rd (h : OwnS e X w base v is) : RdS (fun k => X k ∨ v.ownBlock = some k) w v is := by
  obtain ⟨A, c, hv, hn, hm, hr⟩ := RdV.of_own h.1
  exact ⟨A, c, hv, hn, hm, hr.mono fun k _ e => .inr e, fun i hi => (h.2.1 i hi).mono fun k _ e => .inl e⟩
theorem RdS.mono (h : RdS X w v is) (hx : ∀ k, k < w.heap.size → X k → Y k) : RdS Y w v is := by
  obtain ⟨A, c, h1, h2, h3, h4, h5⟩ := h
  exact ⟨A, c, h1, h2, h3, h4.mono hx, fun i hi => (h5 i hi).mono hx⟩
theorem RdS.chg (h : RdS X w v is) (hc : Chg S w w') (hs : ∀ k, k < w.heap.size → X k → ¬ S k) : RdS X w' v is := by
  obtain ⟨A, c, h1, h2, h3, h4, h5⟩ := h
  exact ⟨A, c, h1, h2, h3, h4.chg hc hs, fun i hi => (h5 i hi).chg hc hs⟩
theorem RdS.later (h : RdS X w v is) (hb : Below w.heap.size w w') : RdS X w' v is := h.chg (S := fun _ => False) (Chg.of_below hb) fun _ _ _ => id
theorem RdS.nil (X : Nat → Prop) (w : World) : RdS X w (.slice none 0 0) [] := ⟨none, 0, rfl, Nat.le_refl _, Nat.zero_le _, RdV.nil _ _ _, fun i hi => by simp at hi⟩
/-- One element, where the walk wants it. -/
theorem RdS.at_ {A : Option Addr} {c n : Nat} (h : RdS X w (.slice A n c) is) {j : Nat} {i : SV} (hj : is[j]? = some i) : ∃ b o, A = some ⟨b, o, none⟩ ∧ X b ∧ b < w.heap.size ∧ w.cell? ⟨b, o + j * 2, none⟩ = some (.int .u8 i.id) ∧ w.cell? ⟨b, o + j * 2 + 1, none⟩ = some (.slice i.A i.y.length i.c) ∧ SecX X w i := by
  obtain ⟨A', c', h1, h2, h3, h4, h5⟩ := h
  injection h1 with e1 e2 e3
  subst e1
  have hlt : j < is.length := (List.getElem?_eq_some_iff.1 hj).1
  obtain ⟨b, o, rfl, hX, hb, hc⟩ := h4.spot (by rw [flatS_len]; omega)
  have g := fun k hk => flatS_get is j i hj k hk
  refine ⟨b, o, rfl, hX, hb, ?_, ?_, h5 i (List.mem_of_getElem? hj)⟩
  · exact hc (j * 2) _ (by have := g 0 (by omega); rw [Nat.add_zero] at this; rw [this]; rfl)
  · rw [Nat.add_assoc]; exact hc _ _ (by rw [g 1 (by omega)]; rfl)
end
/-- The block that was just built for some sections. -/
theorem rdV_sec (w : World) (e : TypeId) (is : List SV) : RdV (fun k => k = w.heap.size) (w.alloc (.cells (flatS is).toArray e)) (some ⟨w.heap.size, 0, none⟩) (flatS is) := fun j u hu => by
  refine ⟨_, rfl, rfl, ?_⟩
  have h := (Own.new w e (flatS is)).cell j
  rw [addPlain, Nat.zero_add, h, hu]
/-- append(s, x...), of sections. -/
theorem wpList_appS {X Y : Nat → Prop} {t e : TypeId} (hu : Tryz.prog.underlying t = some (.slice e)) (hinf : (Tryz.prog.info? e).map (fun i => (i.zero, i.size, i.bytes)) = some (some (.agg #[.int .u8 0, .slice none 0 0]), 2, 32))
    {ops : Array Oper} {rest : List Oper} {o : Oper} {a : Act} {Q : Exit → Act → World → Prop} {w : World} (hgd : o.guard = none) (s x : Operand)
    (ho : o.op = .call { callee := .builtin .append, args := #[s, x], argTypes := #[t, t] }) (base : Nat) (v : Value) (is : List SV) (hs : a.eval s = v) (hown : OwnS e X w base v is)
    (A : Option Addr) (m c : Nat) (js : List SV) (hx : a.eval x = .slice A m c) (hm : m = js.length) (hr : RdV Y w A (flatS js)) (hj : ∀ i ∈ js, SecX X w i) (hlen : is.length + m ≤ 1000000000) (hbase : base ≤ w.heap.size)
    (h : ∀ v' w', OwnS e (fun k => X k ∧ k < w.heap.size) w' base v' (is ++ js) → Grew v w v' w' → wpList Tryz.prog ops Q rest (a.put o.dst v') w') : wpList Tryz.prog ops Q (o :: rest) a w := by
  subst hm
  refine wpList_appG hu hinf rfl (by omega) hgd s x ho base v is.length _ hs hown.1 A js.length c (flatS js) hx (flatS_len js) hr (flatS_one js) (by simp only [maxLen]; omega) (by omega) hbase fun v' w' h1 h2 h3 => ?_
  have hg := Grew.of_grown h2 h3
  refine h v' w' ⟨by rw [List.length_append, flatS_app]; exact h1, fun i hi => ?_, fun k hk => ?_⟩ hg
  · have : SecX X w i := by
      rcases List.mem_append.1 hi with h | h
      · exact hown.2.1 i h
      · exact hj i h
    exact (this.mono (Y := fun k => X k ∧ k < w.heap.size) fun k hk hx => ⟨hx, hk⟩).chg hg.1 fun k _ hk e => hown.2.2 k e hk.1
  · rintro ⟨k1, k2⟩
    rcases hg.2 k hk with e | e
    · exact hown.2.2 k e k1
    · omega
/-- append(s, x): one section more, out of the block that was just built for it. -/
theorem wpList_appS1 {X : Nat → Prop} {t e : TypeId} (hu : Tryz.prog.underlying t = some (.slice e)) (hinf : (Tryz.prog.info? e).map (fun i => (i.zero, i.size, i.bytes)) = some (some (.agg #[.int .u8 0, .slice none 0 0]), 2, 32))
    {ops : Array Oper} {rest : List Oper} {o : Oper} {a : Act} {Q : Exit → Act → World → Prop} {w : World} (hgd : o.guard = none) (s x : Operand)
    (ho : o.op = .call { callee := .builtin .append, args := #[s, x], argTypes := #[t, t] }) (base : Nat) (v : Value) (is : List SV) (hs : a.eval s = v) (hown : OwnS e X w base v is)
    (i : SV) (hi : SecX X w i) (hx : a.eval x = .slice (some ⟨w.heap.size, 0, none⟩) 1 1) (hlen : is.length + 1 ≤ 1000000000) (hbase : base ≤ w.heap.size)
    (h : ∀ v' w', OwnS e (fun k => X k ∧ k < w.heap.size) w' base v' (is ++ [i]) → Grew v w v' w' → wpList Tryz.prog ops Q rest (a.put o.dst v') w') :
    wpList Tryz.prog ops Q (o :: rest) a (w.alloc (.cells #[.int .u8 i.id, .slice i.A i.y.length i.c] e)) := by
  have hb : Below w.heap.size w (w.alloc (.cells #[.int .u8 i.id, .slice i.A i.y.length i.c] e)) := (Below.refl _ _).alloc (Nat.le_refl _) _
  have hX : ∀ k, k < w.heap.size → X k → (X k ∧ k < w.heap.size) := fun k hk hx => ⟨hx, hk⟩
  have hown2 : OwnS e (fun k => X k ∧ k < w.heap.size) w base v is := hown.mono hX fun k hk e => hown.2.2 k hk e.1
  refine wpList_appS hu hinf hgd s x ho base v is hs (hown2.later hb) _ 1 1 [i] hx rfl (rdV_sec w e [i]) (fun j hj => ?_) hlen (by simp; omega) fun v' w' h1 h2 => h v' w' (h1.mono (fun k _ hk => hk.1) fun k hk e => ?_) (h2.before hb fun k hk => owns_lt hown.1 hk)
  · simp only [List.mem_singleton] at hj; subst hj; exact (hi.mono hX).later hb
  · exact h1.2.2 k hk ⟨e, by simp; omega⟩
theorem under_secs : Tryz.prog.underlying 58 = some (.slice 61) := Tryz.underlying58
theorem sec_info : (Tryz.prog.info? 61).map (fun i => (i.zero, i.size, i.bytes)) = some (some (.agg #[.int .u8 0, .slice none 0 0]), 2, 32) := by kernel_rfl
theorem under_rsecs : Tryz.prog.underlying 50 = some (.slice 54) := Tryz.underlying50
theorem rsec_info : (Tryz.prog.info? 54).map (fun i => (i.zero, i.size, i.bytes)) = some (some (.agg #[.int .u8 0, .slice none 0 0]), 2, 32) := by kernel_rfl
end Go.Proofs.YtadgiekiiicmfaaGreatDoor

/- sect.Split: which sections bytes are. -/
namespace Go.Proofs.YtadgiekiiicmfaaGreatDoor
open Go.RowKit
set_option maxRecDepth 100000
set_option linter.unusedVariables false

def SpPost (e : TypeId) (b : List Int) (w : World) (en : Ending) (w' : World) : Prop :=
  ∃ v is, en = .returned (.tuple #[v, .int .i64 (spE (split b))]) ∧ OwnS e (fun k => w.heap.size ≤ k ∧ v.ownBlock ≠ some k) w' w.heap.size v is ∧ is.map SV.sec = spL (split b) ∧ Below w.heap.size w w' ∧ is.length ≤ 1000000
theorem goSecs_more {k k' : Nat} {acc : List Sec} {s : St} {x : Sec} (hk : k ≤ 12) (hl : 0 < lenS s) (h : ∀ r l', bd s (pSec k) = .ok (r, l') → r = (x, k')) : goSecs k acc s = goSecs k' (acc ++ [x]) (nx (pSec k) s) ∧ lenS (nx (pSec k) s) < lenS s := by
  cases s with
  | error e => simp [lenS] at hl
  | ok l =>
    refine ⟨goSecs_step hk acc (by rintro rfl; simp [lenS] at hl) fun r l' hr => h r l' (by rw [bd_ok]; exact hr), ?_⟩
    rw [nx_ok]
    cases hp : pSec k l with
    | error e => exact hl
    | ok r => exact (pSec_lt (q := r.1) (l' := r.2) hk (by rw [hp])).1
theorem RdrAt.err7 {w : World} {g : Nat} {t : TypeId} {tl : RTl} {s : St} (h : RdrAt w g t tl s) : ∀ e, s = .error e → 0 < e := fun e he => by subst he; exact h.2.1
theorem goSecs_end {k : Nat} {acc : List Sec} {s : St} (hl : lenS s = 0) (hp : ∀ e, s = .error e → 0 < e) : spE (goSecs k acc s) = endS s ∧ spL (goSecs k acc s) = if endS s = 0 then acc else [] := by
  cases s with
  | error e => exact ⟨rfl, by rw [if_neg (by have := hp e rfl; show ¬ e = 0; omega)]; rfl⟩
  | ok l =>
    obtain rfl : l = [] := List.eq_nil_of_length_eq_zero hl
    exact ⟨rfl, rfl⟩

set_option maxHeartbeats 4000000 in
theorem ssplit_any (A : Option Addr) (b : List Int) (n c : Nat) (w : World) (h : Rd w w.heap.size A b) (hn : n = b.length) (hl : n ≤ 1000000) (hc : n ≤ c) (hcm : c ≤ maxLen) (hT : Tabs w) :
    Calls Tryz.prog 18 #[.slice A n c] w (SpPost 61 b w) := by
  have HR := Lib.hid h
  have HN := Lib.hid hn
  have hT1 := hT.lt
  have HT := Lib.hid hT
  clear h hn hT
  go_enter Tryz.func18, Tryz.ntmps18
  go_wp2_with fail
  refine (snew_any A n c _).mono ?_
  rintro e w1 ⟨rfl, hb1⟩
  go_upto_region 2 with fail
  have HA : Hid (SrcAt (w1.alloc (.cells #[.slice A n c, .int .i64 0, .int .i64 0, .string { data := #[1, 2, 3, 4, 5, 6, 7, 8, 9, 12, 10, 11] }] 135)) w1.heap.size n 0 (.ok b) ∧ Below w.heap.size w (w1.alloc (.cells #[.slice A n c, .int .i64 0, .int .i64 0, .string { data := #[1, 2, 3, 4, 5, 6, 7, 8, 9, 12, 10, 11] }] 135))) := by
    have hs := hb1.size
    have hR1 := (HR.out.rx.later hb1).mono (Y := (· < w1.heap.size)) fun k _ hk => by have : k < w.heap.size := hk; omega
    have hA := (Below.refl w1.heap.size w1).alloc (Nat.le_refl _) (.cells #[.slice A n c, .int .i64 0, .int .i64 0, .string { data := #[1, 2, 3, 4, 5, 6, 7, 8, 9, 12, 10, 11] }] 135)
    refine ⟨⟨A, c, 0, ?_, hR1.later hA, by rw [← HN.out]; exact hc, hcm, by rw [← HN.out]; exact hl, by have := HN.out; simp only []; omega, by have := HN.out; simp only []; omega, by simp only []; omega⟩, hb1.trans (hA.mono (by omega))⟩
    rw [← HN.out]
    have := Own.new w1 135 [.slice A n c, .int .i64 0, .int .i64 0, .string (mayS 0)]
    rw [show mayS 0 = { data := #[1, 2, 3, 4, 5, 6, 7, 8, 9, 12, 10, 11] } from by decide +kernel] at this
    exact this
  have hwg := hb1.size
  clear hb1 hc hcm
  generalize w1.alloc (.cells #[.slice A n c, .int .i64 0, .int .i64 0, .string { data := #[1, 2, 3, 4, 5, 6, 7, 8, 9, 12, 10, 11] }] 135) = W1 at *
  generalize w1.heap.size = g at *
  have HF := Lib.hid (sfront_any g n 0 b W1 HA.out.1)
  go_wp2_with fail
  refine HF.out.mono ?_
  rintro e w2 ⟨⟨u, rfl⟩, p1, p2⟩
  have HS2 : Hid (SrcAt w2 g n 0 (pFront b) ∧ Below w.heap.size w w2) := ⟨p1, HA.out.2.trans (p2.below HA.out.2.size fun i hi e => by omega)⟩
  clear p1 p2
  have hfl : lenS (pFront b) ≤ n := by
    rw [HN.out]; unfold pFront
    split
    · simp [lenS]
    · split <;> simp [lenS]
  go_upto_region 4 with fail
  go_loopg [5] (n + 1) (fun gk v wx => ∃ (is : List SV) (s : St) (k : Nat), lenS s < gk ∧ k ≤ 12 ∧ Hid (SrcAt wx g n k s ∧ OwnS 61 (fun i => g < i ∧ v.ownBlock ≠ some i) wx (g + 1) v is ∧ split b = goSecs k (is.map SV.sec) s ∧ Below w.heap.size w wx ∧ is.length + lenS s ≤ n))
  case atStart => exact ⟨[], _, 0, by omega, by omega, HS2.out.1, OwnS.nil _ _ _ _, split_eq b, HS2.out.2, by simpa using hfl⟩
  case round =>
    obtain ⟨is, s, k, hgk, hk, HX⟩ := hrel
    have HL := Lib.hid (rleft_any g _ _ s wr HX.out.1)
    have hgw := RdrAt.lt HX.out.1
    obtain ⟨A1, k1, rfl, hk1, hk2, -⟩ := RdV.of_own HX.out.2.1.1
    clear hk1 hk2
    by_cases h0 : 0 < lenS s
    · obtain ⟨g', rfl⟩ : ∃ g', gk = g' + 1 := ⟨gk - 1, by omega⟩
      have h0z : (0 : Int) < (lenS s : Int) := by omega
      have HC := Lib.hid (ssec_any g n k s wr hk HX.out.1 (HT.out.later HX.out.2.2.2.1) (by omega))
      have hil : is.length + 1 ≤ 1000000000 := by have := HX.out.2.2.2.2; omega
      generalize hq : is.length = q at *
      have HQ := Lib.hid hq
      clear hq
      go_wp2_with (go_at_call 61; refine HL.out.mono ?_; rintro e w' ⟨rfl, rfl⟩)
      refine HC.out.mono ?_
      rintro e w3 ⟨id, y, v, k', rfl, i0, i1, i2, i3, i4, i5, i6, i7, i8⟩
      obtain ⟨A2, c2, rfl, q1, q2, q3⟩ := i3.rdX i4
      have HM := Lib.hid (goSecs_more (acc := is.map SV.sec) hk h0 i7)
      have H3 : Hid (OwnS 61 (fun i => g < i ∧ (Value.slice A1 q k1).ownBlock ≠ some i) w3 (g + 1) (.slice A1 q k1) is ∧ SecX (fun i => g < i ∧ (Value.slice A1 q k1).ownBlock ≠ some i) w3 ⟨id, y, A2, c2⟩) := by
        obtain ⟨x1, x2, x3, x4, x5⟩ := HX.out
        refine ⟨x2.chg i8 (fun i _ hi e => by have := hi.1; omega) (fun i hi e => by have := owns_ge x2.1 hi; omega), i0, i1, ?_, q1, q2, i5⟩
        exact q3.mono fun i _ hi => ⟨by have := owns_ge i3 hi; omega, fun e => by have := owns_ge i3 hi; have := owns_lt x2.1 e; omega⟩
      have H4 : Hid (SrcAt w3 g n k' (nx (pSec k) s) ∧ Below w.heap.size w w3 ∧ g < w3.heap.size) := ⟨i6, HX.out.2.2.2.1.trans (i8.below HX.out.2.2.2.1.size fun i hi e => by omega), RdrAt.lt i6⟩
      have hg3 := H4.out.2.2
      clear i0 i1 i3 i4 i5 i6 i7 i8 q1 q2 q3 HL HC
      go_wp2_with (at_builtin; refine wpList_appS1 under_secs sec_info rfl (.tmp 14) (.tmp 16) rfl (g + 1) (.slice A1 q k1) is rfl H3.out.1 ⟨id, y, A2, c2⟩ H3.out.2 rfl (by rw [HQ.out]; exact hil) (by omega) ?_; intro v1 w4 hv1 hw1; have HV := Lib.hid (And.intro hv1 hw1); clear hv1 hw1)
      go_roundg g'
      case measure => omega
      case rel =>
        obtain ⟨x1, x2, x3, x4, x5⟩ := HX.out
        have y1 := HV.out.1
        have y2 := HV.out.2
        refine ⟨is ++ [⟨id, y, A2, c2⟩], nx (pSec k) s, k', by have := HM.out.2; omega, i2, RdrAt.chg H4.out.1 y2.1 fun i hi e => by have := owns_ge H3.out.1.1 e; omega, y1.mono (fun i _ hi => ⟨hi.1.1, fun e => y1.2.2 i e hi⟩) (fun i hi e => e.2 hi), ?_, H4.out.2.1.trans (y2.1.below H4.out.2.1.size fun i hi e => by have := owns_ge H3.out.1.1 e; omega), ?_⟩
        · rw [x3, HM.out.1, List.map_append]; rfl
        · rw [List.length_append, HQ.out]; have := HM.out.2; simp only [List.length_cons, List.length_nil]; omega
    · have h0z : ¬ ((0 : Int) < (lenS s : Int)) := by omega
      have HE := Lib.hid (rend_any g _ _ s wr HX.out.1)
      have hend := goSecs_end (k := k) (acc := is.map SV.sec) (s := s) (by omega) (RdrAt.err7 HX.out.1)
      rw [← HX.out.2.2.1] at hend
      generalize hq : is.length = q at *
      have HQ := Lib.hid hq
      clear hq
      go_wp2_with (go_at_call 61; refine HL.out.mono ?_; rintro e w' ⟨rfl, rfl⟩)
      refine HE.out.mono ?_
      rintro e w5 ⟨rfl, hc5⟩
      have H5 : Hid (OwnS 61 (fun i => g < i ∧ (Value.slice A1 q k1).ownBlock ≠ some i) w5 (g + 1) (.slice A1 q k1) is ∧ Below w.heap.size w w5) := by
        obtain ⟨x1, x2, x3, x4, x5⟩ := HX.out
        exact ⟨x2.chg hc5 (fun i _ hi e => by have := hi.1; omega) (fun i hi e => by have := owns_ge x2.1 hi; omega), x4.trans (hc5.below x4.size fun i hi e => by omega)⟩
      have HN5 : Hid (q ≤ n) := by have := HX.out.2.2.2.2; unfold Hid; omega
      have HEND := Lib.hid hend
      clear hend hc5 HE HL
      by_cases he : endS s = 0
      · have hez : (endS s != 0) = false := by simp [he]
        have HZ := Lib.hid he
        clear he
        generalize endS s = es at *
        go_wp2
        go_ret2
        obtain ⟨y1, y2⟩ := HEND.out
        have hO := H5.out.1
        refine ⟨_, is, by rw [y1, HZ.out]; rfl, ⟨owns_base hO.1 (by omega), fun i hi => (hO.2.1 i hi).mono fun j _ hj => ⟨by have := hj.1; omega, hj.2⟩, fun j hj e => e.2 hj⟩, ?_, H5.out.2, ?_⟩
        · rw [y2, if_pos HZ.out]
        · rw [HQ.out]; have := HN5.out; omega
      · have hez : (endS s != 0) = true := by simpa using he
        have HZ := Lib.hid he
        clear he
        generalize endS s = es at *
        go_wp2
        go_ret2
        obtain ⟨y1, y2⟩ := HEND.out
        exact ⟨_, [], by rw [y1]; rfl, OwnS.nil _ _ _ _, by rw [y2, if_neg HZ.out]; rfl, H5.out.2, by simp⟩
end Go.Proofs.YtadgiekiiicmfaaGreatDoor
