/- Texts joined: ModTake, Concat, LebPut0, LebPut, Puts, Puts2, Put3, ReplyTake, Sames, TypesSame. -/
import Derived.Test.YtadgiekiiicmfaaGreatDoorJoin18
import Derived.Test.YtadgiekiiicmfaaGreatDoorJoin2
import Derived.Test.YtadgiekiiicmfaaGreatDoorJoin3
import Derived.Test.YtadgiekiiicmfaaGreatDoorJoin4
import Derived.Test.YtadgiekiiicmfaaGreatDoorJoin8
import Derived.Deep.RegionHeld3
import Derived.Deep.RegionWith
import Derived.Deep.QuietTactic
import Derived.BigQuiet
import Derived.Deep.Cut
/- mod.Take: which module bytes are. (Written by gen_ModTake.py.) -/
namespace Go.Proofs.YtadgiekiiicmfaaGreatDoor
open Go.RowKit
set_option maxRecDepth 100000
set_option linter.unusedVariables false

def mtE (r : Except Int Mo) : Int := match r with
  | .ok _ => 0
  | .error e => e
def mtM (r : Except Int Mo) : Mo := match r with
  | .ok M => M
  | .error _ => mo0
def MtPost (b : List Int) (w : World) (e : Ending) (w' : World) : Prop :=
  ∃ m : MV, e = .returned (.tuple #[m.v, .int .i64 (mtE (modP b))]) ∧ m.mo = mtM (modP b) ∧ MV.ok (fun k => w.heap.size ≤ k) w' m ∧ Below w.heap.size w w'
def putM (w : World) (g : Nat) (m : MV) : World := (((((((((((((w.setCell ⟨g, 0, none⟩ (m.t.v)).setCell ⟨g, 1, none⟩ (m.f.v)).setCell ⟨g, 2, none⟩ (m.b.v)).setCell ⟨g, 3, none⟩ (m.m.v)).setCell ⟨g, 4, none⟩ (m.g.v)).setCell ⟨g, 5, none⟩ (m.x.v)).setCell ⟨g, 6, none⟩ (.bool m.s)).setCell ⟨g, 7, none⟩ (.int .u32 m.sn)).setCell ⟨g, 8, none⟩ (m.e.v)).setCell ⟨g, 9, none⟩ (.bool m.k)).setCell ⟨g, 10, none⟩ (.int .u32 m.kn)).setCell ⟨g, 11, none⟩ (m.c.v)).setCell ⟨g, 12, none⟩ (m.d.v))
theorem chgM (w : World) (g : Nat) (m : MV) : Chg (fun k => k = g) w (putM w g m) := by
  unfold putM
  exact (((((((((((((chgSet w g 0 _).trans (chgSet _ g 1 _) fun _ _ e => e).trans (chgSet _ g 2 _) fun _ _ e => e).trans (chgSet _ g 3 _) fun _ _ e => e).trans (chgSet _ g 4 _) fun _ _ e => e).trans (chgSet _ g 5 _) fun _ _ e => e).trans (chgSet _ g 6 _) fun _ _ e => e).trans (chgSet _ g 7 _) fun _ _ e => e).trans (chgSet _ g 8 _) fun _ _ e => e).trans (chgSet _ g 9 _) fun _ _ e => e).trans (chgSet _ g 10 _) fun _ _ e => e).trans (chgSet _ g 11 _) fun _ _ e => e).trans (chgSet _ g 12 _) fun _ _ e => e)
theorem own_putM {w : World} {g : Nat} {t : TypeId} {m0 : MV} (h : Own w g t m0.cells) (m : MV) : Own (putM w g m) g t m.cells := by
  unfold putM
  exact (((((((((((((h.set 0 _).set 1 _).set 2 _).set 3 _).set 4 _).set 5 _).set 6 _).set 7 _).set 8 _).set 9 _).set 10 _).set 11 _).set 12 _)
theorem own_cells13 {w : World} {g : Nat} {t : TypeId} {m : MV} (h : Own w g t m.cells) : w.cell? ⟨g, 0, none⟩ = some (m.t.v) ∧ w.cell? ⟨g, 1, none⟩ = some (m.f.v) ∧ w.cell? ⟨g, 2, none⟩ = some (m.b.v) ∧ w.cell? ⟨g, 3, none⟩ = some (m.m.v) ∧ w.cell? ⟨g, 4, none⟩ = some (m.g.v) ∧ w.cell? ⟨g, 5, none⟩ = some (m.x.v) ∧ w.cell? ⟨g, 6, none⟩ = some (.bool m.s) ∧ w.cell? ⟨g, 7, none⟩ = some (.int .u32 m.sn) ∧ w.cell? ⟨g, 8, none⟩ = some (m.e.v) ∧ w.cell? ⟨g, 9, none⟩ = some (.bool m.k) ∧ w.cell? ⟨g, 10, none⟩ = some (.int .u32 m.kn) ∧ w.cell? ⟨g, 11, none⟩ = some (m.c.v) ∧ w.cell? ⟨g, 12, none⟩ = some (m.d.v) := ⟨h.cell 0, h.cell 1, h.cell 2, h.cell 3, h.cell 4, h.cell 5, h.cell 6, h.cell 7, h.cell 8, h.cell 9, h.cell 10, h.cell 11, h.cell 12⟩
theorem own_frozen13 {w : World} {g : Nat} {t : TypeId} {m : MV} (h : Own w g t m.cells) : w.frozen? ⟨g, 0, none⟩ = false ∧ w.frozen? ⟨g, 1, none⟩ = false ∧ w.frozen? ⟨g, 2, none⟩ = false ∧ w.frozen? ⟨g, 3, none⟩ = false ∧ w.frozen? ⟨g, 4, none⟩ = false ∧ w.frozen? ⟨g, 5, none⟩ = false ∧ w.frozen? ⟨g, 6, none⟩ = false ∧ w.frozen? ⟨g, 7, none⟩ = false ∧ w.frozen? ⟨g, 8, none⟩ = false ∧ w.frozen? ⟨g, 9, none⟩ = false ∧ w.frozen? ⟨g, 10, none⟩ = false ∧ w.frozen? ⟨g, 11, none⟩ = false ∧ w.frozen? ⟨g, 12, none⟩ = false := ⟨h.frozen 0, h.frozen 1, h.frozen 2, h.frozen 3, h.frozen 4, h.frozen 5, h.frozen 6, h.frozen 7, h.frozen 8, h.frozen 9, h.frozen 10, h.frozen 11, h.frozen 12⟩
theorem modP_ok {b : List Int} (h : ¬ 4096 < b.length) {xs : List Sec} (hs : split b = .ok xs) : modP b = bd (foldM xs mo0) fun M => if agreesS M then .ok M else .error 2 := by unfold modP; rw [if_neg h, hs]; rfl
theorem modP_err {b : List Int} (h : ¬ 4096 < b.length) {e : Int} (hs : split b = .error e) : modP b = .error e := by unfold modP; rw [if_neg h, hs]; rfl
theorem gd_id (k : Nat) : Gd (pId k) := gd_byte.seq fun id => by
  split
  · exact Gd.pure _
  · split
    · exact Gd.fail 2 (by omega) (by omega)
    · exact Gd.pure _
theorem gd_sec (k : Nat) : Gd (pSec k) := (gd_id k).seq fun q => gd_sized.seq fun b => Gd.test' _ 2 (by omega) (by omega)
theorem secs_err : ∀ (n k : Nat) (acc : List Sec) (l : List Int) (x : Int), pSecs n k acc l = .error x → 0 < x ∧ x ≤ 100
  | 0, k, acc, l, x, h => by cases h
  | n + 1, k, acc, l, x, h => by
    unfold pSecs at h
    split at h
    · cases h
    · cases hs : pSec k l with
      | error y => rw [hs] at h; injection h with h; subst h; exact (gd_sec k).err _ _ hs
      | ok r => rw [hs] at h; exact secs_err n _ _ _ _ h
theorem split_err {b : List Int} {x : Int} (h : split b = .error x) : 0 < x ∧ x ≤ 100 := by
  unfold split at h
  have hf : ∀ y, pFront b = .error y → 0 < y ∧ y ≤ 100 := fun y hy => by
    unfold pFront at hy
    split at hy
    · injection hy with hy; omega
    · split at hy
      · cases hy
      · injection hy with hy; omega
  cases hp : pFront b with
  | error y => rw [hp] at h; injection h with h; subst h; exact hf _ hp
  | ok l =>
    rw [hp] at h
    simp only [bd_ok] at h
    cases hq : pSecs l.length 0 [] l with
    | error y => rw [hq] at h; injection h with h; subst h; exact secs_err _ _ _ _ _ hq
    | ok r => rw [hq] at h; cases h
set_option maxHeartbeats 8000000 in
theorem mtake_any (A : Option Addr) (b : List Int) (n c : Nat) (w : World) (h : Rd w w.heap.size A b) (hn : n = b.length) (hl : n ≤ 1000000) (hc : n ≤ c) (hcm : c ≤ maxLen) (hT : Tabs w) :
    Calls Tryz.prog 9 #[.slice A n c] w (MtPost b w) := by
  have HR := Lib.hid h
  have HN := Lib.hid hn
  have HTb := Lib.hid hT
  have hgt := hT.lt
  have hb0 := (Below.refl w.heap.size w).alloc (Nat.le_refl _) (.cells mv0.cells.toArray MODT)
  have ho0 := Own.new w MODT mv0.cells
  have HB0 : Hid (Below w.heap.size w (w.alloc (.cells mv0.cells.toArray MODT)) ∧ Own (w.alloc (.cells mv0.cells.toArray MODT)) w.heap.size MODT mv0.cells) := ⟨hb0, ho0⟩
  clear h hn hT hb0 ho0
  by_cases hlen : n > 4096
  · have hlen2 : (n : Int) > 4096 := by omega
    have HP : Hid (modP b = .error 4) := by unfold Hid modP; rw [if_pos (by have := HN.out; omega)]
    go_enter Tryz.func9, Tryz.ntmps9
    go_wp2
    refine bodyPost_ret (by simp [results, Tryz.results9, go_sem]; try rfl) rfl ?_
    unfold MtPost
    rw [HP.out]
    exact ⟨mv0, rfl, rfl, MV.ok0 _ _, HB0.out.1⟩
  · have hlen2 : ¬ (n : Int) > 4096 := by omega
    have HNL : Hid (¬ 4096 < b.length) := by unfold Hid; have := HN.out; omega
    have HSP := Lib.hid (ssplit_any A b n c _ (HR.out.later HB0.out.1) HN.out hl hc hcm (HTb.out.later HB0.out.1))
    obtain ⟨p0, p1, p2, p3, p4, p5, p6, p7, p8, p9, p10, p11, p12⟩ := own_cells13 HB0.out.2
    go_enter Tryz.func9, Tryz.ntmps9
    go_wp2_with fail
    refine HSP.out.mono ?_
    rintro e w1 ⟨v, is, rfl, q1, q2, q3, q4⟩
    have HB1 := Lib.hid (HB0.out.1.trans (q3.mono HB0.out.1.size))
    have HO1 := Lib.hid (HB0.out.2.later q3)
    have hs1 := q3.size
    clear p0 p1 p2 p3 p4 p5 p6 p7 p8 p9 p10 p11 p12 HSP
    rcases hsp : split b with x | xs
    · have hx := split_err hsp
      have hxne : (x != 0) = true := by simp; omega
      have HP := Lib.hid (modP_err HNL.out hsp)
      clear hsp hx
      simp only [spE]
      obtain ⟨p0, p1, p2, p3, p4, p5, p6, p7, p8, p9, p10, p11, p12⟩ := own_cells13 HO1.out
      obtain ⟨f0, f1, f2, f3, f4, f5, f6, f7, f8, f9, f10, f11, f12⟩ := own_frozen13 HO1.out
      obtain ⟨Av, kv, hv, -, -, -⟩ := RdV.of_own q1.1
      subst hv
      clear q1 q2 q3
      go_wp2
      have hW := own_putM HO1.out mv0
      have hC := chgM w1 w.heap.size mv0
      show bodyPost _ _ _ _ _ (putM w1 w.heap.size mv0)
      generalize putM w1 w.heap.size mv0 = W at *
      clear p0 p1 p2 p3 p4 p5 p6 p7 p8 p9 p10 p11 p12 f0 f1 f2 f3 f4 f5 f6 f7 f8 f9 f10 f11 f12
      obtain ⟨m0, m1, m2, m3, m4, m5, m6, m7, m8, m9, m10, m11, m12⟩ := own_cells13 hW
      refine bodyPost_ret (by simp [results, Tryz.results9, go_sem, m0, m1, m2, m3, m4, m5, m6, m7, m8, m9, m10, m11, m12]; try rfl) rfl ?_
      unfold MtPost
      rw [HP.out]
      exact ⟨mv0, rfl, rfl, MV.ok0 _ _, HB1.out.trans (hC.below HB1.out.size fun i hi e => by omega)⟩
    · have HP := Lib.hid (modP_ok HNL.out hsp)
      rw [hsp] at q2
      simp only [spL] at q2
      have HQ2 := Lib.hid q2
      simp only [spE]
      have hRS : RdS (fun k => k < w1.heap.size) w1 v is := q1.rd.mono fun k hk _ => hk
      have hb2 := (Below.refl w1.heap.size w1).alloc (Nat.le_refl _) (.cells mv0.cells.toArray MODT)
      have HX0 : Hid (MdAt (w1.alloc (.cells #[.slice none 0 0, .slice none 0 0, .slice none 0 0, .slice none 0 0, .slice none 0 0, .slice none 0 0, .bool false, .int .u32 0, .slice none 0 0, .bool false, .int .u32 0, .slice none 0 0, .slice none 0 0] MODT)) w1.heap.size mv0 ∧ RdS (fun k => k < w1.heap.size) (w1.alloc (.cells #[.slice none 0 0, .slice none 0 0, .slice none 0 0, .slice none 0 0, .slice none 0 0, .slice none 0 0, .bool false, .int .u32 0, .slice none 0 0, .bool false, .int .u32 0, .slice none 0 0, .slice none 0 0] MODT)) v is ∧ Own (w1.alloc (.cells #[.slice none 0 0, .slice none 0 0, .slice none 0 0, .slice none 0 0, .slice none 0 0, .slice none 0 0, .bool false, .int .u32 0, .slice none 0 0, .bool false, .int .u32 0, .slice none 0 0, .slice none 0 0] MODT)) w.heap.size MODT mv0.cells ∧ Below w.heap.size w (w1.alloc (.cells #[.slice none 0 0, .slice none 0 0, .slice none 0 0, .slice none 0 0, .slice none 0 0, .slice none 0 0, .bool false, .int .u32 0, .slice none 0 0, .bool false, .int .u32 0, .slice none 0 0, .slice none 0 0] MODT)) ∧ foldM (is.map SV.sec) mo0 = foldM ((is.drop 0).map SV.sec) mv0.mo ∧ Tabs (w1.alloc (.cells #[.slice none 0 0, .slice none 0 0, .slice none 0 0, .slice none 0 0, .slice none 0 0, .slice none 0 0, .bool false, .int .u32 0, .slice none 0 0, .bool false, .int .u32 0, .slice none 0 0, .slice none 0 0] MODT))) :=
        ⟨⟨Own.new w1 MODT mv0.cells, MV.ok0 _ _⟩, hRS.later hb2, HO1.out.later hb2, HB1.out.trans (hb2.mono HB1.out.size), rfl, (HTb.out.later (HB1.out.trans (hb2.mono HB1.out.size)))⟩
      have hgm : w.heap.size < w1.heap.size := HO1.out.lt
      obtain ⟨Av, kv, hv, -, -, -⟩ := RdV.of_own q1.1
      subst hv
      clear q1 q2 q3 hsp hRS hb2
      generalize hq : is.length = q at *
      have HQ := Lib.hid hq
      clear hq
      go_upto_region 7 with fail
      generalize w1.alloc (.cells #[.slice none 0 0, .slice none 0 0, .slice none 0 0, .slice none 0 0, .slice none 0 0, .slice none 0 0, .bool false, .int .u32 0, .slice none 0 0, .bool false, .int .u32 0, .slice none 0 0, .slice none 0 0] 36) = w2 at *
      generalize w1.heap.size = gm at *
      go_upto_region 8 with fail
      go_loopw [8, 9, 25] (fun _ _ i wr => ∃ (m : MV) (k : Nat), k ≤ q ∧ i = .int .i64 k ∧ Hid (MdAt wr gm m ∧ RdS (fun k => k < gm) wr (.slice Av q kv) is ∧ Own wr w.heap.size MODT mv0.cells ∧ Below w.heap.size w wr ∧ foldM (is.map SV.sec) mo0 = foldM ((is.drop k).map SV.sec) m.mo ∧ Tabs wr)) (fun _ _ i _ => q - (intOf i).toNat)
      case atStart => exact ⟨mv0, 0, by omega, rfl, HX0.out⟩
      case round =>
        clear HX0
        obtain ⟨m, k, hk, rfl, HX⟩ := hrel
        by_cases hlt : k < q
        · have hlt2 : (k : Int) < q := by omega
          have hw1 : IntKind.i64.wrap ((k : Int) + 1) = (k : Int) + 1 := by rw [IntKind.wrap_i64]; omega
          obtain ⟨i, hi⟩ : ∃ i, is[k]? = some i := ⟨_, List.getElem?_eq_getElem (by have := HQ.out; omega)⟩
          obtain ⟨b1, o1, rfl, hXb, hb1, c0, c1, hsx⟩ := HX.out.2.1.at_ hi
          have HI := Lib.hid hi
          have hbx := (Below.refl wr.heap.size wr).alloc (Nat.le_refl _) (.cells #[.int .u8 i.id, .slice i.A i.y.length i.c] 61)
          have HO8 := Lib.hid (Own.new wr 61 [.int .u8 i.id, .slice i.A i.y.length i.c])
          obtain ⟨d0, d1, -, -⟩ := own_cells2 HO8.out
          have HMX := Lib.hid (tsec_any gm m i.id i.A i.y i.y.length i.c _ ⟨HX.out.1.1.later hbx, HX.out.1.2.chg (S := fun _ => False) (Chg.of_below hbx) fun _ _ _ h => h⟩ hsx.1 hsx.2.1 (hsx.2.2.1.rd.later hbx) rfl hsx.2.2.2.2.2 hsx.2.2.2.1 hsx.2.2.2.2.1 (HX.out.2.2.2.2.2.later hbx) (by omega))
          have HBX := Lib.hid hbx
          clear hi hsx hbx
          go_wp2_with fail
          refine HMX.out.mono ?_
          rintro e w9 ⟨er, m', rfl, e0, e1, p1, p2, p3⟩
          have hlt9 := HX.out.2.2.1.lt
          have HX9 : Hid (MdAt w9 gm m' ∧ RdS (fun k => k < gm) w9 (.slice (some ⟨b1, o1, none⟩) q kv) is ∧ Own w9 w.heap.size MODT mv0.cells ∧ Below w.heap.size w w9 ∧ Tabs w9) := by
            have hb9 : Below w.heap.size w w9 := (HX.out.2.2.2.1.trans (HBX.out.mono HX.out.2.2.2.1.size)).trans (p3.below (Nat.le_trans HX.out.2.2.2.1.size HBX.out.size) fun i hi e => by omega)
            exact ⟨p1, (HX.out.2.1.later HBX.out).chg p3 (fun k _ hk e => by omega), (HX.out.2.2.1.later HBX.out).chg p3 (by omega), hb9, HTb.out.later hb9⟩
          have hfold : foldM (is.map SV.sec) mo0 = bd (if er = 0 then .ok m'.mo else .error er) (foldM ((is.drop (k + 1)).map SV.sec)) := by
            rw [HX.out.2.2.2.2.1, List.drop_eq_getElem_cons (by have := HQ.out; omega : k < is.length)]
            have hii : is[k]'(by have := HQ.out; omega) = i := by
              have := HI.out
              rw [List.getElem?_eq_getElem (by have := HQ.out; omega)] at this
              exact Option.some.inj this
            rw [hii, List.map_cons, foldM, show (SV.sec i).1 = i.id from rfl, show (SV.sec i).2 = i.y from rfl, p2]
          have HFO := Lib.hid hfold
          clear p1 p2 p3 hfold HMX c0 c1 d0 d1 HO8 HBX
          by_cases he : er = 0
          · subst he
            go_wp2
            refine ⟨⟨m', k + 1, by omega, by push_cast; rfl, HX9.out.1, HX9.out.2.1, HX9.out.2.2.1, HX9.out.2.2.2.1, ?_, HX9.out.2.2.2.2⟩, by simp [intOf]; omega⟩
            rw [HFO.out]; simp only [if_true, bd_ok]
          · have hne : (er != 0) = true := by simp; omega
            have HP : Hid (modP b = .error er) := by
              unfold Hid
              rw [HP.out, ← HQ2.out, HFO.out, if_neg he]; rfl
            have HO9 := Lib.hid HX9.out.2.2.1
            have HB9 := Lib.hid HX9.out.2.2.2.1
            clear he HFO
            obtain ⟨p0, p1, p2, p3, p4, p5, p6, p7, p8, p9, p10, p11, p12⟩ := own_cells13 HO9.out
            obtain ⟨f0, f1, f2, f3, f4, f5, f6, f7, f8, f9, f10, f11, f12⟩ := own_frozen13 HO9.out
            go_wp2
            have hW := own_putM HO9.out mv0
            have hC := chgM w9 w.heap.size mv0
            show bodyPost _ _ _ _ _ (putM w9 w.heap.size mv0)
            generalize putM w9 w.heap.size mv0 = W at *
            clear p0 p1 p2 p3 p4 p5 p6 p7 p8 p9 p10 p11 p12 f0 f1 f2 f3 f4 f5 f6 f7 f8 f9 f10 f11 f12
            obtain ⟨m0, m1, m2, m3, m4, m5, m6, m7, m8, m9, m10, m11, m12⟩ := own_cells13 hW
            refine bodyPost_ret (by simp [results, Tryz.results9, go_sem, m0, m1, m2, m3, m4, m5, m6, m7, m8, m9, m10, m11, m12]; try rfl) rfl ?_
            unfold MtPost
            rw [HP.out]
            exact ⟨mv0, rfl, rfl, MV.ok0 _ _, HB9.out.trans (hC.below HB9.out.size fun i hi e => by omega)⟩
        · obtain rfl : k = q := by omega
          have hnl : ¬ (k : Int) < k := by omega
          have hfin : modP b = if agreesS m.mo then .ok m.mo else .error 2 := by
            rw [HP.out, ← HQ2.out, HX.out.2.2.2.2.1, List.drop_eq_nil_of_le (by have := HQ.out; omega)]; rfl
          have HFI := Lib.hid hfin
          have HA := Lib.hid (agrees_any m wr HX.out.1.2)
          have HMD := Lib.hid HX.out.1
          have HO8 := Lib.hid HX.out.2.2.1
          have HB8 := Lib.hid HX.out.2.2.2.1
          clear hfin HX
          obtain ⟨⟨tA, tc, tl⟩, ⟨fA, fc, fl⟩, ⟨bA, bc, bl⟩, ⟨mA, mc, ml⟩, ⟨gA, gc, gl⟩, ⟨xA, xc, xl⟩, st, sn, ⟨eA, ec, el⟩, kk, kn, ⟨cA, cc, cl⟩, ⟨dA, dc, dl⟩⟩ := m
          obtain ⟨p0, p1, p2, p3, p4, p5, p6, p7, p8, p9, p10, p11, p12⟩ := own_cells13 HMD.out.1
          simp only [LV.v] at p0 p1 p2 p3 p4 p5 p6 p7 p8 p9 p10 p11 p12
          simp only [MV.v, MV.cells, LV.v] at HA
          rcases hag : agreesS (MV.mo ⟨⟨tA, tc, tl⟩, ⟨fA, fc, fl⟩, ⟨bA, bc, bl⟩, ⟨mA, mc, ml⟩, ⟨gA, gc, gl⟩, ⟨xA, xc, xl⟩, st, sn, ⟨eA, ec, el⟩, kk, kn, ⟨cA, cc, cl⟩, ⟨dA, dc, dl⟩⟩) with _ | _
          · rw [hag] at HA
            have HP : Hid (modP b = .error 2) := by unfold Hid; rw [HFI.out, hag]; rfl
            clear hag
            go_wp2_with fail
            refine HA.out.mono ?_
            rintro e w9 ⟨rfl, hb9⟩
            have HB9 := Lib.hid (HB8.out.trans (hb9.mono HB8.out.size))
            have HO9 : Hid (Own w9 w.heap.size MODT mv0.cells) := HO8.out.later hb9
            clear hb9 HA p0 p1 p2 p3 p4 p5 p6 p7 p8 p9 p10 p11 p12
            obtain ⟨p0, p1, p2, p3, p4, p5, p6, p7, p8, p9, p10, p11, p12⟩ := own_cells13 HO9.out
            obtain ⟨f0, f1, f2, f3, f4, f5, f6, f7, f8, f9, f10, f11, f12⟩ := own_frozen13 HO9.out
            go_wp2
            have hW := own_putM HO9.out mv0
            have hC := chgM w9 w.heap.size mv0
            show bodyPost _ _ _ _ _ (putM w9 w.heap.size mv0)
            generalize putM w9 w.heap.size mv0 = W at *
            clear p0 p1 p2 p3 p4 p5 p6 p7 p8 p9 p10 p11 p12 f0 f1 f2 f3 f4 f5 f6 f7 f8 f9 f10 f11 f12
            obtain ⟨m0, m1, m2, m3, m4, m5, m6, m7, m8, m9, m10, m11, m12⟩ := own_cells13 hW
            refine bodyPost_ret (by simp [results, Tryz.results9, go_sem, m0, m1, m2, m3, m4, m5, m6, m7, m8, m9, m10, m11, m12]; try rfl) rfl ?_
            unfold MtPost
            rw [HP.out]
            exact ⟨mv0, rfl, rfl, MV.ok0 _ _, HB9.out.trans (hC.below HB9.out.size fun i hi e => by omega)⟩
          · rw [hag] at HA
            have HAG := Lib.hid hag
            clear hag
            go_wp2_with fail
            refine HA.out.mono ?_
            rintro e w9 ⟨rfl, hb9⟩
            have HB9 := Lib.hid (HB8.out.trans (hb9.mono HB8.out.size))
            have HO9 : Hid (Own w9 w.heap.size MODT mv0.cells) := HO8.out.later hb9
            have HM9 := Lib.hid (HMD.out.1.later hb9)
            have HK9 := Lib.hid (HMD.out.2.chg (S := fun _ => False) (Chg.of_below hb9) fun _ _ _ h => h)
            clear hb9 HA p0 p1 p2 p3 p4 p5 p6 p7 p8 p9 p10 p11 p12
            obtain ⟨p0, p1, p2, p3, p4, p5, p6, p7, p8, p9, p10, p11, p12⟩ := own_cells13 HO9.out
            obtain ⟨f0, f1, f2, f3, f4, f5, f6, f7, f8, f9, f10, f11, f12⟩ := own_frozen13 HO9.out
            obtain ⟨r0, r1, r2, r3, r4, r5, r6, r7, r8, r9, r10, r11, r12⟩ := own_cells13 HM9.out
            simp only [LV.v] at r0 r1 r2 r3 r4 r5 r6 r7 r8 r9 r10 r11 r12
            go_wp2
            have hW := own_putM HO9.out ⟨⟨tA, tc, tl⟩, ⟨fA, fc, fl⟩, ⟨bA, bc, bl⟩, ⟨mA, mc, ml⟩, ⟨gA, gc, gl⟩, ⟨xA, xc, xl⟩, st, sn, ⟨eA, ec, el⟩, kk, kn, ⟨cA, cc, cl⟩, ⟨dA, dc, dl⟩⟩
            have hC := chgM w9 w.heap.size ⟨⟨tA, tc, tl⟩, ⟨fA, fc, fl⟩, ⟨bA, bc, bl⟩, ⟨mA, mc, ml⟩, ⟨gA, gc, gl⟩, ⟨xA, xc, xl⟩, st, sn, ⟨eA, ec, el⟩, kk, kn, ⟨cA, cc, cl⟩, ⟨dA, dc, dl⟩⟩
            show bodyPost _ _ _ _ _ (putM w9 w.heap.size ⟨⟨tA, tc, tl⟩, ⟨fA, fc, fl⟩, ⟨bA, bc, bl⟩, ⟨mA, mc, ml⟩, ⟨gA, gc, gl⟩, ⟨xA, xc, xl⟩, st, sn, ⟨eA, ec, el⟩, kk, kn, ⟨cA, cc, cl⟩, ⟨dA, dc, dl⟩⟩)
            generalize putM w9 w.heap.size ⟨⟨tA, tc, tl⟩, ⟨fA, fc, fl⟩, ⟨bA, bc, bl⟩, ⟨mA, mc, ml⟩, ⟨gA, gc, gl⟩, ⟨xA, xc, xl⟩, st, sn, ⟨eA, ec, el⟩, kk, kn, ⟨cA, cc, cl⟩, ⟨dA, dc, dl⟩⟩ = W at *
            clear p0 p1 p2 p3 p4 p5 p6 p7 p8 p9 p10 p11 p12 f0 f1 f2 f3 f4 f5 f6 f7 f8 f9 f10 f11 f12 r0 r1 r2 r3 r4 r5 r6 r7 r8 r9 r10 r11 r12
            obtain ⟨m0, m1, m2, m3, m4, m5, m6, m7, m8, m9, m10, m11, m12⟩ := own_cells13 hW
            simp only [LV.v] at m0 m1 m2 m3 m4 m5 m6 m7 m8 m9 m10 m11 m12
            refine bodyPost_ret (by simp [results, Tryz.results9, go_sem, m0, m1, m2, m3, m4, m5, m6, m7, m8, m9, m10, m11, m12]; try rfl) rfl ?_
            unfold MtPost
            rw [HFI.out, HAG.out]
            exact ⟨⟨⟨tA, tc, tl⟩, ⟨fA, fc, fl⟩, ⟨bA, bc, bl⟩, ⟨mA, mc, ml⟩, ⟨gA, gc, gl⟩, ⟨xA, xc, xl⟩, st, sn, ⟨eA, ec, el⟩, kk, kn, ⟨cA, cc, cl⟩, ⟨dA, dc, dl⟩⟩, rfl, rfl, (HK9.out.chg hC fun k _ hk e => by omega).mono fun k _ hk => by omega, HB9.out.trans (hC.below HB9.out.size fun i hi e => by omega)⟩
end Go.Proofs.YtadgiekiiicmfaaGreatDoor

/- slices.Grow and slices.Concat at bytes, of two slices. -/
namespace Go.Proofs.YtadgiekiiicmfaaGreatDoor
open Go.RowKit
set_option maxRecDepth 100000
set_option linter.unusedVariables false

theorem zeroCells_size (z : Value) (n : Nat) (hz : z.cells = #[z]) : (Builtin.zeroCells z.cells n).size = n := by
  simp [Builtin.zeroCells, hz]

end Go.Proofs.YtadgiekiiicmfaaGreatDoor

/- leb.put: two slices laid one behind the other. -/
namespace Go.Proofs.YtadgiekiiicmfaaGreatDoor
open Go.RowKit
set_option maxRecDepth 100000
set_option linter.unusedVariables false

end Go.Proofs.YtadgiekiiicmfaaGreatDoor

/- What leb's writers come to. -/
namespace Go.Proofs.YtadgiekiiicmfaaGreatDoor
open Go.RowKit
set_option maxRecDepth 100000
set_option linter.unusedVariables false

theorem bytesU_is (n : Nat) (v : Int) (h0 : 0 ≤ v) (h : v < 128 ^ (n + 1)) : IsBytes (bytesOf (dgU n v)) := by
  induction n generalizing v with
  | zero => rw [bytesU_last 0 v (by simpa using h)]; exact IsBytes.one h0 (by simp at h; omega)
  | succ n ih =>
    by_cases hv : v < 128
    · rw [bytesU_last _ v hv]; exact IsBytes.one h0 (by omega)
    · rw [bytesU_more n v (by omega)]
      have := ih (v / 128) (by omega) (by rw [Int.pow_succ] at h; omega)
      intro z hz
      rcases List.mem_cons.1 hz with rfl | hz
      · omega
      · exact this z hz
theorem bytesS_is (n : Nat) (v : Int) : IsBytes (bytesOf (dgS n v)) := by
  induction n generalizing v with
  | zero => simp only [dgS, bytesOf]; exact IsBytes.one (by omega) (by omega)
  | succ n ih =>
    by_cases hv : -64 ≤ v ∧ v ≤ 63
    · rw [bytesS_last _ v hv]; exact IsBytes.one (by omega) (by omega)
    · rw [bytesS_more n v hv]
      intro z hz
      rcases List.mem_cons.1 hz with rfl | hz
      · omega
      · exact ih (v / 128) z hz

theorem andp127 (c : Int) : Go.bits .and .u8 (c % 256) 127 = c % 128 := by
  rw [u8_and _ 127 (by omega) (by omega) (by omega) (by omega), show (127 : Int).toNat = 127 from rfl, nat_mask7]
  omega

end Go.Proofs.YtadgiekiiicmfaaGreatDoor

/- req's writers: what their calls come to. -/
namespace Go.Proofs.YtadgiekiiicmfaaGreatDoor
open Go.RowKit
set_option maxRecDepth 100000
set_option linter.unusedVariables false

/-- Something was appended to v. -/
def GPost (base : Nat) (v : Value) (l : List Int) (w : World) (e : Ending) (w' : World) : Prop := ∃ v', e = .returned v' ∧ OwnB w' base v' l ∧ Grew v w v' w'

theorem shr_byte (x : Int) (k : Nat) (hk : k < 8) : x / 2 ^ (8 * (7 - k)) % 256 = (be8 x).getD k 0 := (be8_get x k hk).symm
theorem be8_take (x : Int) (k : Nat) (hk : k < 8) : (be8 x).take (k + 1) = (be8 x).take k ++ [(be8 x).getD k 0] := by
  rw [List.take_add_one, List.getD_eq_getElem?_getD, List.getElem?_eq_getElem (by rw [be8_len]; exact hk)]
  rfl
/-- The bytes of some numbers. -/
def encs : List Int → List Int
  | [] => []
  | x :: t => encU x ++ encs t
theorem encs_app (a b : List Int) : encs (a ++ b) = encs a ++ encs b := by
  induction a with
  | nil => rfl
  | cons x t ih => simp [encs, ih]
theorem encU_len (v : Int) : 0 < (encU v).length ∧ (encU v).length ≤ 10 := by
  unfold encU; rw [bytesOf_length]; exact ⟨List.length_pos_iff.2 (dgU_ne _ _), dgU_len 9 v⟩
theorem encU_is (v : Int) (h0 : 0 ≤ v) (h1 : v < 18446744073709551616) : IsBytes (encU v) := bytesU_is 9 v h0 (by simp; omega)
theorem encs_is (l : List Int) (h : IsU64 l) : IsBytes (encs l) := by
  induction l with
  | nil => exact IsBytes.nil
  | cons x t ih => exact (encU_is x (h x (by simp)).1 (h x (by simp)).2).app (ih fun z hz => h z (by simp [hz]))
theorem encs_len (l : List Int) : (encs l).length ≤ 10 * l.length := by
  induction l with
  | nil => simp [encs]
  | cons x t ih => have := (encU_len x).2; simp [encs]; omega
theorem Grew.rdU {X : Nat → Prop} {v v' : Value} {w w' : World} {A : Option Addr} {l : List Int} (h : Grew v w v' w') (hr : RdU X w A l) (hx : ∀ k, k < w.heap.size → X k → v.ownBlock ≠ some k) : RdU X w' A l := hr.chg h.1 fun k hk hX e => hx k hk hX e
theorem Grew.rdX {X : Nat → Prop} {v v' : Value} {w w' : World} {A : Option Addr} {l : List Int} (h : Grew v w v' w') (hr : RdX X w A l) (hx : ∀ k, k < w.heap.size → X k → v.ownBlock ≠ some k) : RdX X w' A l := hr.chg h.1 fun k hk hX e => hx k hk hX e

end Go.Proofs.YtadgiekiiicmfaaGreatDoor

/- req.Put and req.PutReply. -/
namespace Go.Proofs.YtadgiekiiicmfaaGreatDoor
open Go.RowKit
set_option maxRecDepth 100000
set_option linter.unusedVariables false

end Go.Proofs.YtadgiekiiicmfaaGreatDoor

/- req.Put: which bytes a request has. -/
namespace Go.Proofs.YtadgiekiiicmfaaGreatDoor
open Go.RowKit
set_option maxRecDepth 100000
set_option linter.unusedVariables false

def putRest (q : Req) : List Int :=
  if q.kind = 1 then q.body
  else if q.kind = 2 then encU q.handle ++ encU q.name.length ++ q.name
  else if q.kind = 3 then encU q.name.length ++ q.name
  else if q.kind = 4 then encU q.handle ++ encU q.name.length ++ q.name ++ encU q.args.length ++ encs q.args ++ encU q.ticks
  else if q.kind = 5 then encU q.handle
  else be8 q.other
def putReq (q : Req) : List Int := q.kind :: be8 q.token ++ putRest q
theorem ownB_lit1 (w : World) (z : Int) : OwnB (w.alloc (.cells #[.int .u8 z] 5)) w.heap.size (.slice (some ⟨w.heap.size, 0, none⟩) 1 1) [z] :=
  ⟨by simp, .inr ⟨w.heap.size, 1, #[.int .u8 z], rfl, Nat.le_refl _, heap_alloc_new w _, by simp, by simp [maxLen], by simp, by simp⟩⟩
def PutPost (l : List Int) (w : World) (e : Ending) (w' : World) : Prop := ∃ v, e = .returned v ∧ OwnB w' w.heap.size v l ∧ Below w.heap.size w w'
section
variable {w : World} {Q : List Value} {q : Req} {A B : Option Addr} {v v' : Value} {l l' : List Int} {wr w' : World}
end

end Go.Proofs.YtadgiekiiicmfaaGreatDoor

/- req.TakeReply: which reply bytes are. -/
namespace Go.Proofs.YtadgiekiiicmfaaGreatDoor
open Go.RowKit
set_option maxRecDepth 100000
set_option linter.unusedVariables false

structure Rep where
  token : Int
  err : Int
  handle : Int
  values : List Int
deriving DecidableEq
def zrep : Rep := ⟨0, 0, 0, []⟩
def pRply : PR Rep := seq pWord fun tok => seq pByte fun e => seq (pU 64) fun h => seq (pList 8) fun xs l => .ok (⟨tok, e, h, xs⟩, l)
def repEnd (r : Rep × List Int) : Except Int Rep := if 17 < r.1.err then .error 2 else done r
def takeRep (b : List Int) : Except Int Rep := bd (bd (.ok b) pRply) repEnd
def repOf (x : Except Int Rep) : Rep := match x with
  | .error _ => zrep
  | .ok q => q
def Rep.Ok (q : Rep) : Prop := (0 ≤ q.token ∧ q.token < 18446744073709551616) ∧ (-9223372036854775808 ≤ q.err ∧ q.err < 9223372036854775808) ∧ (0 ≤ q.handle ∧ q.handle < 18446744073709551616)
/-- A reply, as a value. -/
def RepV (X : Nat → Prop) (w : World) (v : Value) (q : Rep) : Prop :=
  ∃ B d, v = .agg #[.int .u64 q.token, .int .i64 q.err, .int .u64 q.handle, .slice B q.values.length d] ∧ RdU X w B q.values ∧ q.values.length ≤ d ∧ d ≤ maxLen ∧ q.Ok
def RTakePost (b : List Int) (w : World) (e : Ending) (w' : World) : Prop :=
  ∃ v, e = .returned (.tuple #[v, .int .i64 (codeOf (takeRep b))]) ∧ RepV (fun k => w.heap.size ≤ k) w' v (repOf (takeRep b)) ∧ Below w.heap.size w w'
theorem zrep_v (X : Nat → Prop) (w : World) : RepV X w (.agg #[.int .u64 0, .int .i64 0, .int .u64 0, .slice none 0 0]) zrep :=
  ⟨none, 0, rfl, RdU.nil _ _ _, Nat.le_refl _, Nat.zero_le _, ⟨by decide, by decide⟩, ⟨by decide, by decide⟩, ⟨by decide, by decide⟩⟩
theorem rfin_cases (s : St) (hs : ∀ e, s = .error e → 0 < e) (rq : Rep) (s5 : St) (h5 : s5 = if 17 < rq.err then failS 2 s else s) :
    (endS s5 = 0 ∧ codeOf (bd s fun l => repEnd (rq, l)) = 0 ∧ repOf (bd s fun l => repEnd (rq, l)) = rq) ∨ (endS s5 ≠ 0 ∧ codeOf (bd s fun l => repEnd (rq, l)) = endS s5 ∧ repOf (bd s fun l => repEnd (rq, l)) = zrep) := by
  subst h5
  rcases s with e | (_ | ⟨x, l⟩)
  · have := hs e rfl
    right
    split
    · exact ⟨by simp only [failS, endS]; omega, rfl, rfl⟩
    · exact ⟨by simp only [endS]; omega, rfl, rfl⟩
  · by_cases h : 17 < rq.err
    · right; simp [h, failS, endS, repEnd, codeOf, repOf]
    · left; simp [h, endS, repEnd, codeOf, repOf, done]
  · right
    by_cases h : 17 < rq.err
    · simp [h, failS, endS, repEnd, codeOf, repOf]
    · simp [h, endS, repEnd, codeOf, repOf, done]
theorem own_cells4r {w : World} {g : Nat} {t : TypeId} {a0 a1 a2 a3 : Value} (h : Own w g t [a0, a1, a2, a3]) :
    w.cell? ⟨g, 0, none⟩ = some a0 ∧ w.cell? ⟨g, 1, none⟩ = some a1 ∧ w.cell? ⟨g, 2, none⟩ = some a2 ∧ w.cell? ⟨g, 3, none⟩ = some a3 ∧ w.frozen? ⟨g, 0, none⟩ = false ∧ w.frozen? ⟨g, 1, none⟩ = false ∧ w.frozen? ⟨g, 2, none⟩ = false ∧ w.frozen? ⟨g, 3, none⟩ = false :=
  ⟨h.cell 0, h.cell 1, h.cell 2, h.cell 3, h.frozen 0, h.frozen 1, h.frozen 2, h.frozen 3⟩
def put4 (w : World) (g : Nat) (a : Array Value) : World := (((w.setCell ⟨g, 0, none⟩ (a.getD 0 undef)).setCell ⟨g, 1, none⟩ (a.getD 1 undef)).setCell ⟨g, 2, none⟩ (a.getD 2 undef)).setCell ⟨g, 3, none⟩ (a.getD 3 undef)
theorem chg4 (w : World) (g : Nat) (a : Array Value) : Chg (fun k => k = g) w (put4 w g a) :=
  (((chgSet w g 0 _).trans (chgSet _ g 1 _) fun _ _ e => e).trans (chgSet _ g 2 _) fun _ _ e => e).trans (chgSet _ g 3 _) fun _ _ e => e
theorem own_put4 {w : World} {g : Nat} {t : TypeId} {b0 b1 b2 b3 : Value} (h : Own w g t [b0, b1, b2, b3]) (a0 a1 a2 a3 : Value) : Own (put4 w g #[a0, a1, a2, a3]) g t [a0, a1, a2, a3] :=
  (((h.set 0 a0).set 1 a1).set 2 a2).set 3 a3

end Go.Proofs.YtadgiekiiicmfaaGreatDoor

/- Two numbers' lists, requests, replies: are they the same? -/
namespace Go.Proofs.YtadgiekiiicmfaaGreatDoor
open Go.RowKit
set_option maxRecDepth 100000
set_option linter.unusedVariables false

theorem getD_ne {a b : List Int} {k : Nat} (hk : k < a.length) (h : a.getD k 0 ≠ b.getD k 0) : a ≠ b := fun e => h (by rw [e])
theorem take_eq_step {a b : List Int} {k : Nat} (hl : a.length = b.length) (hk : k < a.length) (h : a.take k = b.take k) (he : a.getD k 0 = b.getD k 0) : a.take (k + 1) = b.take (k + 1) := by
  rw [List.take_add_one, List.take_add_one, h]
  rw [List.getD_eq_getElem?_getD, List.getD_eq_getElem?_getD, List.getElem?_eq_getElem hk, List.getElem?_eq_getElem (by omega)] at he
  simp only [Option.getD_some] at he
  rw [List.getElem?_eq_getElem hk, List.getElem?_eq_getElem (show k < b.length by omega), he]

theorem equalBytes_any {X Y : Nat → Prop} (A B : Option Addr) (a b : List Int) (n m c d : Nat) (w : World) (ha : RdX X w A a) (hb : RdX Y w B b) (hn : n = a.length) (hm : m = b.length) :
    Calls Tryz.prog 108 #[.slice A n c, .slice B m d] w fun e w' => e = .returned (.bool (decide (a = b))) ∧ w = w' := by
  have h1 := ha.rd.string c
  have h2 := hb.rd.string d
  rw [← hn] at h1
  rw [← hm] at h2
  have he := strOfNums_eq ha.1 hb.1
  have HE := Lib.hid he
  clear ha hb hn hm he
  go_enter Tryz.func108, Tryz.ntmps108
  go_wp2
  go_ret
  exact ⟨by rw [← HE.out]; rfl, rfl⟩

/-- Two requests, boxed. -/
def Bx (w : World) (P Q : List Value) (T : TypeId) : World := (w.alloc (.cells P.toArray T)).alloc (.cells Q.toArray T)
theorem Bx.below (w : World) (P Q : List Value) (T : TypeId) : Below w.heap.size w (Bx w P Q T) := ((Below.refl _ _).alloc (Nat.le_refl _) _).alloc (by simp) _
theorem Bx.own1 (w : World) (P Q : List Value) (T : TypeId) : Own (Bx w P Q T) w.heap.size T P := (Own.new w T P).later ((Below.refl _ _).alloc (Nat.le_refl _) _)
theorem Bx.own2 (w : World) (P Q : List Value) (T : TypeId) : Own (Bx w P Q T) (w.heap.size + 1) T Q := by
  have := Own.new (w.alloc (.cells P.toArray T)) T Q
  rwa [show (w.alloc (.cells P.toArray T)).heap.size = w.heap.size + 1 from by simp] at this

end Go.Proofs.YtadgiekiiicmfaaGreatDoor

/- types.Same, types.Ref, and the document's: which types are one. -/
namespace Go.Proofs.YtadgiekiiicmfaaGreatDoor
open Go.RowKit
set_option maxRecDepth 100000
set_option linter.unusedVariables false

theorem fn_eq (f g : Fn) : decide (f = g) = (decide (f.1 = g.1) && decide (f.2 = g.2)) := by
  obtain ⟨a, b⟩ := f
  obtain ⟨c, d⟩ := g
  simp only [Prod.mk.injEq]
  by_cases h1 : a = c <;> by_cases h2 : b = d <;> simp [h1, h2]
set_option maxHeartbeats 1000000 in
theorem sameFn_any {X Y : Nat → Prop} (v u : Value) (f g : Fn) (w : World) (hf : FnV X w v f) (hg : FnV Y w u g) :
    Calls Tryz.prog 46 #[v, u] w fun e w' => e = .returned (.bool (decide (f = g))) ∧ Below w.heap.size w w' := by
  obtain ⟨A, c, B, d, rfl, hA, -, -, hB, -, -⟩ := hf
  obtain ⟨A', c', B', d', rfl, hA', -, -, hB', -, -⟩ := hg
  rw [fn_eq]
  obtain ⟨f1, f2⟩ := f
  obtain ⟨g1, g2⟩ := g
  simp only at *
  have hbel := Bx.below w [.slice A f1.length c, .slice B f2.length d] [.slice A' g1.length c', .slice B' g2.length d'] 79
  have ho1 := Bx.own1 w [.slice A f1.length c, .slice B f2.length d] [.slice A' g1.length c', .slice B' g2.length d'] 79
  have ho2 := Bx.own2 w [.slice A f1.length c, .slice B f2.length d] [.slice A' g1.length c', .slice B' g2.length d'] 79
  go_enter Tryz.func46, Tryz.ntmps46
  go_upto_region 1 with fail
  change Code.wp _ _ _ _ (Bx w [.slice A f1.length c, .slice B f2.length d] [.slice A' g1.length c', .slice B' g2.length d'] 79)
  generalize Bx w [.slice A f1.length c, .slice B f2.length d] [.slice A' g1.length c', .slice B' g2.length d'] 79 = W at *
  have E1 := Lib.hid (equalBytes_any A A' f1 g1 f1.length g1.length c c' W (hA.later hbel) (hA'.later hbel) rfl rfl)
  have E2 := Lib.hid (equalBytes_any B B' f2 g2 f2.length g2.length d d' W (hB.later hbel) (hB'.later hbel) rfl rfl)
  obtain ⟨k0, k1, -, -⟩ := own_cells2 ho1
  obtain ⟨j0, j1, -, -⟩ := own_cells2 ho2
  have HB := Lib.hid hbel
  clear hA hB hA' hB' hbel ho1 ho2
  generalize f1.length = a1 at *
  generalize f2.length = a2 at *
  generalize g1.length = b1 at *
  generalize g2.length = b2 at *
  generalize hr1 : decide (f1 = g1) = r1 at E1
  generalize hr2 : decide (f2 = g2) = r2 at E2
  have HR := Lib.hid (And.intro hr1 hr2)
  clear hr1 hr2
  go_wp2_with fail
  refine E1.out.mono ?_
  rintro e w' ⟨rfl, rfl⟩
  cases r1 with
  | true =>
    go_wp2_with fail
    refine E2.out.mono ?_
    rintro e w' ⟨rfl, rfl⟩
    go_wp2
    go_ret
    refine ⟨?_, HB.out⟩
    show Ending.returned (.bool r2) = _
    have h1 := HR.out.1
    rw [← HR.out.2]
    simp only [decide_eq_true_eq] at h1
    simp [h1]
  | false =>
    go_wp2
    go_ret
    refine ⟨?_, HB.out⟩
    show Ending.returned (.bool false) = _
    have h1 := HR.out.1
    simp only [decide_eq_false_iff_not] at h1
    simp [h1]
set_option maxHeartbeats 1000000 in
theorem sameFnD_any {X Y : Nat → Prop} (v u : Value) (f g : Fn) (w : World) (hf : FnV X w v f) (hg : FnV Y w u g) :
    Calls Tryz.prog 23 #[v, u] w fun e w' => e = .returned (.bool (decide (f = g))) ∧ Below w.heap.size w w' := by
  obtain ⟨A, c, B, d, rfl, hA, -, -, hB, -, -⟩ := hf
  obtain ⟨A', c', B', d', rfl, hA', -, -, hB', -, -⟩ := hg
  rw [fn_eq]
  obtain ⟨f1, f2⟩ := f
  obtain ⟨g1, g2⟩ := g
  simp only at *
  have q1 := strOfNums_eq hA.1 hA'.1
  have q2 := strOfNums_eq hB.1 hB'.1
  have hbel := Bx.below w [.slice A f1.length c, .slice B f2.length d] [.slice A' g1.length c', .slice B' g2.length d'] 79
  have ho1 := Bx.own1 w [.slice A f1.length c, .slice B f2.length d] [.slice A' g1.length c', .slice B' g2.length d'] 79
  have ho2 := Bx.own2 w [.slice A f1.length c, .slice B f2.length d] [.slice A' g1.length c', .slice B' g2.length d'] 79
  go_enter Tryz.func23, Tryz.ntmps23
  go_upto_region 1 with fail
  change Code.wp _ _ _ _ (Bx w [.slice A f1.length c, .slice B f2.length d] [.slice A' g1.length c', .slice B' g2.length d'] 79)
  generalize Bx w [.slice A f1.length c, .slice B f2.length d] [.slice A' g1.length c', .slice B' g2.length d'] 79 = W at *
  have s1 := (hA.later hbel).rd.string c
  have s2 := (hA'.later hbel).rd.string c'
  have s3 := (hB.later hbel).rd.string d
  have s4 := (hB'.later hbel).rd.string d'
  obtain ⟨k0, k1, -, -⟩ := own_cells2 ho1
  obtain ⟨j0, j1, -, -⟩ := own_cells2 ho2
  have HB := Lib.hid hbel
  clear hA hB hA' hB' hbel ho1 ho2
  generalize f1.length = a1 at *
  generalize f2.length = a2 at *
  generalize g1.length = b1 at *
  generalize g2.length = b2 at *
  generalize hr1 : decide (f1 = g1) = r1 at q1
  generalize hr2 : decide (f2 = g2) = r2 at q2
  have HR := Lib.hid (And.intro hr1 hr2)
  clear hr1 hr2
  generalize strOfNums f1 = t1 at *
  generalize strOfNums f2 = t2 at *
  generalize strOfNums g1 = t3 at *
  generalize strOfNums g2 = t4 at *
  cases r1 with
  | true =>
    go_wp2
    go_ret
    refine ⟨?_, HB.out⟩
    show Ending.returned (.bool r2) = _
    have h1 := HR.out.1
    rw [← HR.out.2]
    simp only [decide_eq_true_eq] at h1
    simp [h1]
  | false =>
    go_wp2
    go_ret
    refine ⟨?_, HB.out⟩
    show Ending.returned (.bool false) = _
    have h1 := HR.out.1
    simp only [decide_eq_false_iff_not] at h1
    simp [h1]

def isRef (x : Int) : Bool := decide (x = 112 ∨ x = 111)
theorem ref_any (F : Nat) (hF : F = 162 ∨ F = 140) (x : Int) (w : World) :
    Calls Tryz.prog F #[.int .u8 x] w fun e w' => e = .returned (.bool (isRef x)) ∧ w = w' := by
  have key : x = 112 ∨ x = 111 ∨ ((x == 112) = false ∧ (x == 111) = false ∧ isRef x = false) := by
    by_cases a1 : x = 112
    · exact .inl a1
    by_cases a2 : x = 111
    · exact .inr (.inl a2)
    exact .inr (.inr ⟨by simpa using a1, by simpa using a2, by simp [isRef, a1, a2]⟩)
  rcases hF with rfl | rfl
  · rcases key with rfl | rfl | ⟨e1, e2, hv⟩
    all_goals (go_enter Tryz.func162, Tryz.ntmps162; go_wp2; go_ret)
    · exact ⟨rfl, rfl⟩
    · exact ⟨rfl, rfl⟩
    · rw [hv]; exact ⟨rfl, rfl⟩
  · rcases key with rfl | rfl | ⟨e1, e2, hv⟩
    all_goals (go_enter Tryz.func140, Tryz.ntmps140; go_wp2; go_ret)
    · exact ⟨rfl, rfl⟩
    · exact ⟨rfl, rfl⟩
    · rw [hv]; exact ⟨rfl, rfl⟩
end Go.Proofs.YtadgiekiiicmfaaGreatDoor
