/- Texts joined: SectSrc2, ModSrc3, ModSrc4. -/
import Derived.Test.YtadgiekiiicmfaaGreatDoorJoin12
import Derived.Test.YtadgiekiiicmfaaGreatDoorJoin11
/- sect: the reader of sections: IDs, the front, names. -/
namespace Go.Proofs.YtadgiekiiicmfaaGreatDoor
open Go.RowKit
set_option maxRecDepth 100000
set_option linter.unusedVariables false

theorem own_cells4 {w : World} {g : Nat} {t : TypeId} {a b c d : Value} {tl : List Value} (h : Own w g t (a :: b :: c :: d :: tl)) : w.cell? ⟨g, 3, none⟩ = some d ∧ w.frozen? ⟨g, 3, none⟩ = false := ⟨h.cell 3, h.frozen 3⟩
/-- The source of sections in block g: tot bytes in all, k places used. -/
abbrev SrcAt (w : World) (g : Nat) (tot k : Nat) (s : St) : Prop := RdrAt w g 135 (tot, [.string (mayS k)]) s
theorem SrcAt.may {w : World} {g tot k : Nat} {s : St} (h : SrcAt w g tot k s) : w.cell? ⟨g, 3, none⟩ = some (.string (mayS k)) ∧ w.frozen? ⟨g, 3, none⟩ = false := by
  cases s with
  | ok l => obtain ⟨A, c, r, h1, _⟩ := h; exact own_cells4 h1
  | error e => exact own_cells4 h.1
theorem SrcAt.set {w : World} {g tot k : Nat} {s : St} (h : SrcAt w g tot k s) (k' : Nat) : SrcAt (w.setCell ⟨g, 3, none⟩ (.string (mayS k'))) g tot k' s := by
  cases s with
  | ok l =>
    obtain ⟨A, c, r, h1, h2, h3⟩ := h
    exact ⟨A, c, r, h1.set 3 _, h2.chg (Chg.setCell _ _ _) (fun i _ hi e => by simp at e; omega), h3⟩
  | error e => exact ⟨h.1.set 3 _, h.2⟩
/-- The places used behind an ID that was read; where none was, what was. -/
def IdPost (k : Nat) (g tot : Nat) (s : St) (w : World) (e : Ending) (w' : World) : Prop :=
  ∃ x k', e = .returned (.int .u8 x) ∧ 0 ≤ x ∧ x ≤ 255 ∧ k' ≤ 12 ∧ SrcAt w' g tot k' (nx (pId k) s) ∧ (∀ a l', bd s (pId k) = .ok (a, l') → a = (x, k')) ∧ Chg (fun i => i = g) w w'
theorem nx_fail {s : St} {e : Int} {α : Type} : nx (fun _ => .error e : PR α) s = failS e s := by cases s <;> rfl
theorem bd_fail {s : St} {e : Int} {α β : Type} {r : β} {p : PR α} (f : α → PR β) (hf : ∀ a l, bd s p = .ok (a, l) → f a l = .error e) (rr : β × List Int) : bd s (seq p f) ≠ .ok rr := fun h => by
  obtain ⟨a, l1, h1, h2, _⟩ := bd_seq h
  rw [hf a l1 h1] at h2; cases h2

set_option maxHeartbeats 2000000 in
theorem sid_any (g tot k : Nat) (s : St) (w : World) (hk : k ≤ 12) (h : SrcAt w g tot k s) :
    Calls Tryz.prog 113 #[.pointer (some ⟨g, 0, none⟩)] w (IdPost k g tot s w) := by
  have HB := Lib.hid (rbyte_any g _ _ s w h)
  clear h
  go_enter Tryz.func113, Tryz.ntmps113
  go_wp2_with fail
  refine HB.out.mono ?_
  rintro e w1 ⟨x, rfl, h0, h1, h2, h3, h4⟩
  have hN : nx (pId k) s = nx (fun l => if x = 0 then .ok (((0 : Int), k), l) else match placeIn k x with
      | none => .error 2
      | some k' => .ok ((x, k'), l) : PR (Int × Nat)) (nx pByte s) := nx_seq' (x := x) h3
  have hB : ∀ a l', bd s (pId k) = .ok (a, l') → (if x = 0 then .ok (((0 : Int), k), l') else match placeIn k x with
      | none => .error 2
      | some k' => .ok ((x, k'), l') : Except Int ((Int × Nat) × List Int)) = .ok (a, l') := fun a l' h => by
    obtain ⟨b, l1, q1, q2, q3⟩ := bd_seq h
    have := h3 b l1 q1
    subst this
    by_cases hx : x = 0
    · simp only [hx, if_true] at q2 ⊢
      injection q2 with q2; injection q2 with q2 q4; subst q4; rw [q2]
    · simp only [hx, if_false] at q2 ⊢
      cases hp : placeIn k x with
      | none => rw [hp] at q2; cases q2
      | some k' =>
        rw [hp] at q2
        injection q2 with q2; injection q2 with q2 q4; subst q4; rw [← q2]
  have HM := SrcAt.may h2
  obtain ⟨hm1, hm2⟩ := HM
  have HH := Lib.hid (And.intro h2 (And.intro hN (And.intro hB h4)))
  clear h2 h3 hN hB h4 HB
  by_cases hx : x = 0
  · subst hx
    clear hm1 hm2
    go_wp2
    go_ret
    obtain ⟨h2, hN, hB, h4⟩ := HH.out
    refine ⟨0, k, rfl, by omega, by omega, hk, ?_, fun a l' h => ?_, h4⟩
    · rw [hN]
      cases hs : nx pByte s with
      | error e => rw [hs] at h2; exact h2
      | ok l => rw [hs] at h2; exact h2
    · have := hB a l' h
      simp only [if_true] at this
      injection this with this; injection this with this; exact this.symm
  · have hx0 : (x == 0) = false := by simpa using hx
    cases hp : placeIn k x with
    | none =>
      have hi : idxS k x = -1 := by simp [idxS, hp]
      have HI := Lib.hid (sIdx_any k x w1 hk h0 h1)
      rw [hi] at HI
      generalize hms : mayS k = ms at HI hm1
      clear hms
      have HF := Lib.hid (rfail_any g _ _ _ 2 w1 HH.out.1 (by omega) (by omega))
      have HP := Lib.hid hp
      clear hi hp
      go_wp2_with fail
      refine HI.out.mono ?_
      rintro e w2 ⟨rfl, rfl⟩
      go_wp2_with fail
      refine HF.out.mono ?_
      rintro e w2 ⟨⟨u, rfl⟩, q2, q3⟩
      have HQ := Lib.hid (And.intro q2 q3)
      clear q2 q3
      go_wp2
      go_ret
      obtain ⟨h2, hN, hB, h4⟩ := HH.out
      refine ⟨0, k, rfl, by omega, by omega, hk, ?_, fun a l' h => ?_, h4.trans HQ.out.2 fun i _ e => e⟩
      · rw [hN, show (nx (fun l => if x = 0 then .ok (((0 : Int), k), l) else match placeIn k x with | none => .error 2 | some k' => .ok ((x, k'), l) : PR (Int × Nat)) (nx pByte s)) = failS 2 (nx pByte s) from by
          rw [HP.out]; simp only [hx, if_false]; cases nx pByte s <;> rfl]
        exact HQ.out.1
      · have := hB a l' h
        rw [HP.out] at this
        simp only [hx, if_false] at this
        cases this
    | some k' =>
      obtain ⟨hk1, hk2, -⟩ := placeIn_le hk hp
      obtain ⟨p, rfl⟩ : ∃ p, k' = k + p + 1 := ⟨k' - k - 1, by omega⟩
      have hi : idxS k x = (p : Int) := by simp only [idxS, hp]; omega
      have HI := Lib.hid (sIdx_any k x w1 hk h0 h1)
      rw [hi] at HI
      have hpn : ¬ ((p : Int) < 0) := by omega
      have hcut := may_cut ⟨k, by omega⟩ ⟨p + 1, by omega⟩ (by simp only; omega)
      have hsz := may_size ⟨k, by omega⟩
      simp only at hcut hsz
      generalize hms : mayS k = ms at HI hm1 hcut hsz
      clear hms
      have hle : ((p : Int) + 1) ≤ ((ms.size : Nat) : Int) := by omega
      have hwr : IntKind.i64.wrap ((p : Int) + 1) = (p : Int) + 1 := by rw [IntKind.wrap_i64]; omega
      have hnat : ((p : Int) + 1).toNat = p + 1 := by omega
      have HP := Lib.hid hp
      have HCUT := Lib.hid hcut
      clear hi hp hcut
      go_wp2_with fail
      refine HI.out.mono ?_
      rintro e w2 ⟨rfl, rfl⟩
      go_wp2
      go_ret
      obtain ⟨h2, hN, hB, h4⟩ := HH.out
      have h6 : nx (pId k) s = nx pByte s := by
        rw [hN, HP.out]; simp only [hx, if_false]; cases nx pByte s <;> rfl
      refine ⟨x, k + p + 1, rfl, h0, h1, hk2, ?_, fun a l' h => ?_, h4.trans (chgSet _ _ _ _) fun i _ e => e⟩
      · rw [h6]
        rw [← hsz, HCUT.out]
        exact SrcAt.set h2 _
      · have := hB a l' h
        rw [HP.out] at this
        simp only [hx, if_false] at this
        injection this with this; injection this with this; exact this.symm
def failed7 (s : St) : Bool := match s with
  | .error _ => true
  | .ok _ => false
theorem rfailed7_any (g : Nat) (t : TypeId) (tl : RTl) (s : St) (w : World) (h : RdrAt w g t tl s) :
    Calls Tryz.prog 155 #[.pointer (some ⟨g, 0, none⟩)] w fun e w' => e = .returned (.bool (failed7 s)) ∧ w = w' := by
  cases s with
  | ok l =>
    obtain ⟨A, c, r, h1, -⟩ := h
    obtain ⟨hc0, hc1, hc2, hf0, hf1, hf2⟩ := own_cells3 h1
    clear h1
    generalize l.length = q at *
    go_enter Tryz.func155, Tryz.ntmps155
    go_wp2
    go_ret
    exact ⟨rfl, rfl⟩
  | error e =>
    obtain ⟨h1, he, -⟩ := h
    obtain ⟨hc0, hc1, hc2, hf0, hf1, hf2⟩ := own_cells3 h1
    clear h1
    have hne : (e != 0) = true := by simp; omega
    go_enter Tryz.func155, Tryz.ntmps155
    go_wp2
    go_ret
    exact ⟨rfl, rfl⟩
theorem snew_any (A : Option Addr) (n c : Nat) (w : World) : Calls Tryz.prog 59 #[.slice A n c] w fun e w' => e = .returned (.agg #[.slice A n c, .int .i64 0, .int .i64 0]) ∧ Below w.heap.size w w' := by
  go_enter Tryz.func59, Tryz.ntmps59
  go_wp2
  go_returns
  exact ⟨rfl, (Below.refl _ _).alloc (Nat.le_refl _) _⟩
theorem sutf_any {X : Nat → Prop} (A : Option Addr) (l : List Int) (n c : Nat) (w : World) (h : RdX X w A l) (hn : n = l.length) (hc : n ≤ c) (hT : Tabs w) :
    Calls Tryz.prog 156 #[.slice A n c] w fun e w' => e = .returned (.bool (vd l)) ∧ Below w.heap.size w w' := by
  have HV := Lib.hid (valid_any A l n c w h hn hc hT)
  clear h hn hc hT
  go_enter Tryz.func156, Tryz.ntmps156
  go_wp2_with fail
  refine HV.out.mono ?_
  rintro e w1 ⟨rfl, hb⟩
  have HB := Lib.hid hb
  clear hb
  go_wp2
  go_ret
  exact ⟨rfl, HB.out⟩
set_option maxHeartbeats 2000000 in
theorem sbegins_any {X : Nat → Prop} (A : Option Addr) (l : List Int) (n c : Nat) (w : World) (h : RdX X w A l) (hn : n = l.length) (hl : n ≤ 1000000) (hc : n ≤ c) (hcm : c ≤ maxLen) (hT : Tabs w) :
    Calls Tryz.prog 115 #[.slice A n c] w fun e w' => e = .returned (.bool (nameOk l)) ∧ Below w.heap.size w w' := by
  subst hn
  have HH := Lib.hid (And.intro h (And.intro hl (And.intro hc (And.intro hcm hT))))
  have HN := Lib.hid (snew_any A l.length c w)
  clear h hl hc hcm hT
  have HQ : Hid (∃ q, l.length = q) := ⟨_, rfl⟩
  go_enter Tryz.func115, Tryz.ntmps115
  go_wp2_with fail
  refine HN.out.mono ?_
  rintro e w1 ⟨rfl, hb1⟩
  obtain ⟨h, hl, hc, hcm, hT⟩ := HH.out
  have hr1 := (h.later hb1).rd.rx
  have HO : Hid (RdrAt (w1.alloc (.cells #[.slice A l.length c, .int .i64 0, .int .i64 0] 132)) w1.heap.size 132 (l.length, []) (.ok l)) := by
    refine ⟨A, c, 0, Own.new w1 _ [_, _, _], ?_, hc, hcm, hl, by simp, Nat.le_refl _, hl⟩
    exact hr1.later ((Below.refl _ _).alloc (Nat.le_refl _) _)
  have HB1 := Lib.hid hb1
  clear h hl hc hcm hT hr1 hb1
  have HB2 : Hid (Below w.heap.size w (w1.alloc (.cells #[.slice A l.length c, .int .i64 0, .int .i64 0] 132))) := HB1.out.alloc HB1.out.size _
  have HG := Lib.hid (HB1.out.size)
  have HS := Lib.hid (rsized_any w1.heap.size _ _ _ _ HO.out)
  go_upto_region 2 with fail
  generalize w1.alloc (.cells #[.slice A l.length c, .int .i64 0, .int .i64 0] 132) = w2 at *
  generalize w1.heap.size = g at *
  go_wp2_with fail
  refine HS.out.mono ?_
  rintro e w3 ⟨v, y, rfl, p1, p2, p3, p4, p5, p6⟩
  have HF := Lib.hid (rfailed7_any g _ _ _ w3 p3)
  have HB3 : Hid (Below w.heap.size w w3) := HB2.out.trans (p5.below (HB2.out.size) (fun i hi e => by have := HG.out; omega))
  have HT3 := Lib.hid (HH.out.2.2.2.2.later HB3.out)
  obtain ⟨A1, c1, rfl, q1, q2, q3⟩ := p1.rdX p2
  have HU := Lib.hid (sutf_any A1 y y.length c1 w3 q3 rfl q1 HT3.out)
  have HP := Lib.hid p4
  clear p1 p2 p3 p4 p5 p6 q1 q2 q3
  generalize hyl : y.length = yl at *
  clear hyl
  have key : nameOk l = (!(failed7 (nx pSized (.ok l))) && vd y) := by
    unfold nameOk
    have := HP.out
    rw [nx_ok]
    rw [bd_ok] at this
    cases hp : pSized l with
    | error e => rfl
    | ok r => rw [this r.1 r.2 (by rw [hp])]; rfl
  have HK := Lib.hid key
  clear key
  cases hf : failed7 (nx pSized (.ok l)) with
  | true =>
    rw [hf] at HF HK
    go_wp2_with fail
    refine HF.out.mono ?_
    rintro e w4 ⟨rfl, rfl⟩
    go_wp2
    go_ret
    exact ⟨by rw [HK.out]; rfl, HB3.out⟩
  | false =>
    rw [hf] at HF HK
    go_wp2_with fail
    refine HF.out.mono ?_
    rintro e w4 ⟨rfl, rfl⟩
    go_wp2_with fail
    refine HU.out.mono ?_
    rintro e w4 ⟨rfl, hb4⟩
    have HB4 := Lib.hid (HB3.out.trans (hb4.mono HB3.out.size))
    clear hb4
    go_wp2
    go_ret
    exact ⟨by rw [HK.out]; rfl, HB4.out⟩
set_option maxHeartbeats 2000000 in
theorem sfront_any (g tot k : Nat) (l : List Int) (w : World) (h : SrcAt w g tot k (.ok l)) :
    Calls Tryz.prog 60 #[.pointer (some ⟨g, 0, none⟩)] w fun e w' => (∃ u, e = .returned u) ∧ SrcAt w' g tot k (pFront l) ∧ Chg (fun i => i = g) w w' := by
  have HB := Lib.hid (rbytes_any g _ _ _ 8 w h (by omega))
  clear h
  go_enter Tryz.func60, Tryz.ntmps60
  go_wp2_with fail
  refine HB.out.mono ?_
  rintro e w1 ⟨v, y, rfl, p1, p2, p3, p4, p5, p6⟩
  have HF := Lib.hid (rfail_any g _ _ _ 2 w1 p3 (by omega) (by omega))
  obtain ⟨A1, c1, rfl, q1, q2, q3⟩ := p1.rdX p2
  have hs := Rd.string (q3.rd) c1
  have hst : ((strOfNums y).toList == [0, 97, 115, 109, 1, 0, 0, 0]) = decide (y = secFront) := by
    rw [← strOfNums_eq p2 (by decide), show (strOfNums secFront).toList = [0, 97, 115, 109, 1, 0, 0, 0] from by decide +kernel]
  have hfail : ∀ S, S = nx (pBytes 8) (.ok l) → pFront l = if y = secFront then S else failS 2 S := by
    rintro S rfl
    rw [bd_ok] at p4
    rw [nx_ok]
    by_cases h8 : l.length < 8
    · have hp : pBytes 8 l = .error 3 := by unfold pBytes; rw [if_neg (by omega)]
      rw [hp]
      unfold pFront
      rw [if_pos h8]
      simp [failS]
    · have hp : pBytes 8 l = .ok (l.take 8, l.drop 8) := by unfold pBytes; rw [if_pos (by omega)]
      have hy := p4 _ _ hp
      rw [hp]
      unfold pFront
      rw [if_neg h8, hy]
      simp [failS]
  have HP := Lib.hid (And.intro p3 (And.intro hfail p5))
  clear p1 p2 p3 p4 p5 p6 q1 q2 q3 hfail
  generalize y.length = yl at *
  generalize strOfNums y = sy at *
  by_cases hy : y = secFront
  · rw [decide_eq_true hy] at hst
    have HY := Lib.hid hy
    clear hy
    go_wp2
    go_end0
    obtain ⟨p3, hfail, p5⟩ := HP.out
    refine ⟨⟨_, rfl⟩, ?_, p5⟩
    rw [hfail _ rfl, if_pos HY.out]
    exact p3
  · rw [decide_eq_false hy] at hst
    have HY := Lib.hid hy
    clear hy
    go_wp2_with fail
    refine HF.out.mono ?_
    rintro e w2 ⟨⟨u, rfl⟩, q2, q3⟩
    have HQ := Lib.hid (And.intro q2 q3)
    clear q2 q3
    go_wp2
    go_end0
    obtain ⟨p3, hfail, p5⟩ := HP.out
    refine ⟨⟨_, rfl⟩, ?_, p5.trans HQ.out.2 fun i _ e => e⟩
    rw [hfail _ rfl, if_neg HY.out]
    exact HQ.out.1
end Go.Proofs.YtadgiekiiicmfaaGreatDoor

/- mod's source: its parts that are structs. (Written by gen_ModSrc3.py.) -/
namespace Go.Proofs.YtadgiekiiicmfaaGreatDoor
open Go.RowKit
set_option maxRecDepth 100000
set_option linter.unusedVariables false

theorem own_cellsV5 {w : World} {g : Nat} {t : TypeId} {a b c d e : Value} {tl : List Value} (h : Own w g t (a :: b :: c :: d :: e :: tl)) : w.cell? ⟨g, 0, none⟩ = some a ∧ w.cell? ⟨g, 1, none⟩ = some b ∧ w.cell? ⟨g, 2, none⟩ = some c ∧ w.cell? ⟨g, 3, none⟩ = some d ∧ w.cell? ⟨g, 4, none⟩ = some e ∧ w.frozen? ⟨g, 0, none⟩ = false ∧ w.frozen? ⟨g, 1, none⟩ = false ∧ w.frozen? ⟨g, 2, none⟩ = false ∧ w.frozen? ⟨g, 3, none⟩ = false ∧ w.frozen? ⟨g, 4, none⟩ = false :=
  ⟨h.cell 0, h.cell 1, h.cell 2, h.cell 3, h.cell 4, h.frozen 0, h.frozen 1, h.frozen 2, h.frozen 3, h.frozen 4⟩
theorem own_cells4b {w : World} {g : Nat} {t : TypeId} {a b c d : Value} {tl : List Value} (h : Own w g t (a :: b :: c :: d :: tl)) : w.cell? ⟨g, 0, none⟩ = some a ∧ w.cell? ⟨g, 1, none⟩ = some b ∧ w.cell? ⟨g, 2, none⟩ = some c ∧ w.cell? ⟨g, 3, none⟩ = some d ∧ w.frozen? ⟨g, 0, none⟩ = false ∧ w.frozen? ⟨g, 1, none⟩ = false ∧ w.frozen? ⟨g, 2, none⟩ = false ∧ w.frozen? ⟨g, 3, none⟩ = false :=
  ⟨h.cell 0, h.cell 1, h.cell 2, h.cell 3, h.frozen 0, h.frozen 1, h.frozen 2, h.frozen 3⟩
section
variable (g N : Nat) (s : St) (w : World) (h : RdrAt w g SRC (N, []) s)
include h
set_option maxHeartbeats 1000000 in
theorem mlim_any : Calls Tryz.prog 72 #[.pointer (some ⟨g, 0, none⟩)] w (PartPost KLim limV id pLim g SRC (N, []) s w) := by
  have HT0 := Lib.hid (T8.new h 82 [.int .u32 0, .int .u32 0, .bool false])
  obtain ⟨k0, k1, k2, f0, f1, f2⟩ := own_cells3 HT0.out.2.1
  have HN := Lib.hid (rtakeLim_any g SRC (N, []) s _ HT0.out.1)
  clear h
  go_enter Tryz.func72, Tryz.ntmps72
  go_wp2_with fail
  refine HN.out.mono ?_
  rintro e w1 ⟨⟨x1, x2, x3⟩, s', rfl, p1, p2, p3, p4⟩
  have hT := HT0.out.step p2 p4
  have HP := Lib.hid (And.intro (HT0.out.far p1) p3)
  clear p1 p2 p3 p4 k0 k1 k2 f0 f1 f2
  obtain ⟨k0, k1, k2, f0, f1, f2⟩ := own_cells3 hT.2.1
  have HT := Lib.hid hT
  clear hT
  simp only [limV]
  go_wp2
  have hW := (((HT.out.set 0 (.int .u32 x1)).set 1 (.int .u32 x2)).set 2 (.bool x3))
  simp only [List.set] at hW
  have hK := (T8.keepSet 2 (.bool x3) ((T8.keepSet 1 (.int .u32 x2) ((T8.keepSet 0 (.int .u32 x1) (HP.out.1))))))
  generalize (((w1.setCell ⟨w.heap.size, 0, none⟩ (.int .u32 x1)).setCell ⟨w.heap.size, 1, none⟩ (.int .u32 x2)).setCell ⟨w.heap.size, 2, none⟩ (.bool x3)) = W at *
  obtain ⟨m0, m1, m2, -, -, -⟩ := own_cells3 hW.2.1
  refine bodyPost_ret (by simp [results, Tryz.results72, go_sem, m0, m1, m2]; try rfl) rfl ?_
  exact ⟨⟨x1, x2, x3⟩, _, rfl, KLim.mono hK fun k _ hk => by omega, hW.1, HP.out.2, hW.2.2.2.2⟩
set_option maxHeartbeats 1000000 in
theorem mfn_any : Calls Tryz.prog 65 #[.pointer (some ⟨g, 0, none⟩)] w (PartPost KFn FV.v FV.x pFn g SRC (N, []) s w) := by
  have HT0 := Lib.hid (T8.new h 79 [.slice none 0 0, .slice none 0 0])
  obtain ⟨k0, k1, f0, f1⟩ := own_cells2 HT0.out.2.1
  have HN := Lib.hid (rtakeFn_any g SRC (N, []) s _ HT0.out.1)
  clear h
  go_enter Tryz.func65, Tryz.ntmps65
  go_wp2_with fail
  refine HN.out.mono ?_
  rintro e w1 ⟨⟨l1, A1, c1, l2, A2, c2⟩, s', rfl, p1, p2, p3, p4⟩
  have hT := HT0.out.step p2 p4
  have HP := Lib.hid (And.intro (HT0.out.far p1) p3)
  clear p1 p2 p3 p4 k0 k1 f0 f1
  obtain ⟨k0, k1, f0, f1⟩ := own_cells2 hT.2.1
  have HT := Lib.hid hT
  clear hT
  simp only [FV.v]
  generalize hn1 : l1.length = n1 at *
  generalize hn2 : l2.length = n2 at *
  have HN1 := Lib.hid hn1
  have HN2 := Lib.hid hn2
  clear hn1 hn2
  go_wp2
  have hW := ((HT.out.set 0 (.slice A1 n1 c1)).set 1 (.slice A2 n2 c2))
  simp only [List.set] at hW
  have hK := (T8.keepSet 1 (.slice A2 n2 c2) ((T8.keepSet 0 (.slice A1 n1 c1) (HP.out.1))))
  generalize ((w1.setCell ⟨w.heap.size, 0, none⟩ (.slice A1 n1 c1)).setCell ⟨w.heap.size, 1, none⟩ (.slice A2 n2 c2)) = W at *
  obtain ⟨m0, m1, -, -⟩ := own_cells2 hW.2.1
  refine bodyPost_ret (by simp [results, Tryz.results65, go_sem, m0, m1]; try rfl) rfl ?_
  exact ⟨⟨l1, A1, c1, l2, A2, c2⟩, _, (by obtain rfl := HN1.out; obtain rfl := HN2.out; rfl), KFn.mono hK fun k _ hk => by omega, hW.1, HP.out.2, hW.2.2.2.2⟩
def tabV (x : TabS) : Value := .agg #[.int .u8 x.1, .int .u32 x.2.min, .int .u32 x.2.max, .bool x.2.has]
set_option maxHeartbeats 1000000 in
theorem mtab_any : Calls Tryz.prog 70 #[.pointer (some ⟨g, 0, none⟩)] w (PartPost KTab tabV id pTab g SRC (N, []) s w) := by
  have HT0 := Lib.hid (T8.new h 84 [.int .u8 0, .int .u32 0, .int .u32 0, .bool false])
  obtain ⟨k0, k1, k2, k3, f0, f1, f2, f3⟩ := own_cells4b HT0.out.2.1
  have HN := Lib.hid (mreft_any g N s _ HT0.out.1)
  clear h
  go_enter Tryz.func70, Tryz.ntmps70
  go_wp2_with fail
  refine HN.out.mono ?_
  rintro e w1 ⟨x, s1, rfl, x0, x1, h1, h2, h3⟩
  have hT := HT0.out.step h1 h3
  have H1 := Lib.hid h2
  clear h1 h2 h3 k0 k1 k2 k3 f0 f1 f2 f3 HT0 HN
  obtain ⟨k0, k1, k2, k3, f0, f1, f2, f3⟩ := own_cells4b hT.2.1
  have hT2 := hT.set 0 (.int .u8 x)
  simp only [List.set] at hT2
  have HT1 := Lib.hid hT2
  clear hT hT2
  have HN := Lib.hid (mlim_any g N s1 _ HT1.out.1)
  go_upto_region 2 with fail
  generalize w1.setCell ⟨w.heap.size, 0, none⟩ (.int .u8 x) = w2 at *
  clear k0 k1 k2 k3 f0 f1 f2 f3
  obtain ⟨k0, k1, k2, k3, f0, f1, f2, f3⟩ := own_cells4b HT1.out.2.1
  go_wp2_with fail
  refine HN.out.mono ?_
  rintro e w3 ⟨⟨y1, y2, y3⟩, s2, rfl, p1, p2, p3, p4⟩
  have hT := HT1.out.step p2 p4
  have HP := Lib.hid (And.intro p1 p3)
  clear p1 p2 p3 p4 k0 k1 k2 k3 f0 f1 f2 f3 HN HT1
  obtain ⟨k0, k1, k2, k3, f0, f1, f2, f3⟩ := own_cells4b hT.2.1
  have HT := Lib.hid hT
  clear hT
  simp only [limV]
  go_wp2
  have hW := (((((((HT.out.set 1 (.int .u32 y1)).set 2 (.int .u32 y2)).set 3 (.bool y3)).set 0 (.int .u8 x)).set 1 (.int .u32 y1)).set 2 (.int .u32 y2)).set 3 (.bool y3))
  simp only [List.set] at hW
  generalize (((((((w3.setCell ⟨w.heap.size, 1, none⟩ (.int .u32 y1)).setCell ⟨w.heap.size, 2, none⟩ (.int .u32 y2)).setCell ⟨w.heap.size, 3, none⟩ (.bool y3)).setCell ⟨w.heap.size, 0, none⟩ (.int .u8 x)).setCell ⟨w.heap.size, 1, none⟩ (.int .u32 y1)).setCell ⟨w.heap.size, 2, none⟩ (.int .u32 y2)).setCell ⟨w.heap.size, 3, none⟩ (.bool y3)) = W at *
  obtain ⟨m0, m1, m2, m3, -, -, -, -⟩ := own_cells4b hW.2.1
  refine bodyPost_ret (by simp [results, Tryz.results70, go_sem, m0, m1, m2, m3]; try rfl) rfl ?_
  exact ⟨(x, ⟨y1, y2, y3⟩), _, rfl, ⟨x0, x1, HP.out.1⟩, hW.1, H1.out.then (HP.out.2.good rfl), hW.2.2.2.2⟩
def GV.v (x : GV) : Value := .agg #[.int .u8 x.ty, .bool x.mu, x.b.v]
set_option maxHeartbeats 2000000 in
theorem mglob_any : Calls Tryz.prog 74 #[.pointer (some ⟨g, 0, none⟩)] w (PartPost KGl GV.v GV.x pGlob g SRC (N, []) s w) := by
  have HT := Lib.hid (T8.new h 86 [.int .u8 0, .bool false, .slice none 0 0])
  obtain ⟨k0, k1, k2, f0, f1, f2⟩ := own_cells3 HT.out.2.1
  have HG := Lib.hid h.lt
  clear h
  go_enter Tryz.func74, Tryz.ntmps74
  have HN := Lib.hid (mvalt_any g N s _ HT.out.1)
  go_wp2_with fail
  refine HN.out.mono ?_
  rintro e w1 ⟨x, s1, rfl, x0, x1, h1, h2, h3⟩
  have hT := HT.out.step h1 h3
  have H1 := Lib.hid h2
  clear h1 h2 h3 HN k0 k1 k2 f0 f1 f2
  obtain ⟨k0, k1, k2, f0, f1, f2⟩ := own_cells3 hT.2.1
  have HT := Lib.hid hT
  clear hT
  have hT2 := (HT.out.set 0 (.int .u8 x))
  simp only [List.set] at hT2
  have HT := Lib.hid hT2
  clear hT2
  go_upto_region 2 with fail
  generalize (w1.setCell ⟨w.heap.size, 0, none⟩ (.int .u8 x)) = v1 at *
  clear k0 k1 k2 f0 f1 f2
  obtain ⟨k0, k1, k2, f0, f1, f2⟩ := own_cells3 HT.out.2.1
  have HN := Lib.hid (mByte g N s1 _ HT.out.1)
  go_wp2_with fail
  refine HN.out.mono ?_
  rintro e w2a ⟨ya, s2a, rfl, ya0, ya1, h1, h2, h3⟩
  have HM := Lib.hid (mupto8_any (most := 1) h1 h2 h3 ya0 (by omega))
  clear h1 h2 h3 HN ya0 ya1
  go_wp2_with fail
  refine HM.out.mono ?_
  rintro e w2 ⟨y, s2, rfl, y0, y1, h1, h2, h3⟩
  have hT := HT.out.step h1 h3
  have H2 := Lib.hid h2
  clear h1 h2 h3 HM k0 k1 k2 f0 f1 f2
  obtain ⟨k0, k1, k2, f0, f1, f2⟩ := own_cells3 hT.2.1
  have HT := Lib.hid hT
  clear hT
  have hyb : (y == 1) = decide (y = 1) := rfl
  have hT2 := (HT.out.set 1 (.bool (decide (y = 1))))
  simp only [List.set] at hT2
  have HT := Lib.hid hT2
  clear hT2
  go_upto_region 3 with fail
  generalize (w2.setCell ⟨w.heap.size, 1, none⟩ (.bool (decide (y = 1)))) = v2 at *
  clear k0 k1 k2 f0 f1 f2
  obtain ⟨k0, k1, k2, f0, f1, f2⟩ := own_cells3 HT.out.2.1
  have HN := Lib.hid (mexpr_any g N s2 _ HT.out.1)
  go_wp2_with fail
  refine HN.out.mono ?_
  rintro e w3 ⟨bb, s3, rfl, p1, h1, h2, h3⟩
  have hT := HT.out.step h1 h3
  have HB := Lib.hid (HT.out.far p1)
  clear p1
  have H3 := Lib.hid h2
  clear h1 h2 h3 HN k0 k1 k2 f0 f1 f2
  obtain ⟨k0, k1, k2, f0, f1, f2⟩ := own_cells3 hT.2.1
  have HT := Lib.hid hT
  clear hT
  obtain ⟨isb, Ab, cb⟩ := bb
  simp only [BV.v] at *
  generalize hqb : isb.length = qb at *
  have HQb := Lib.hid hqb
  clear hqb
  go_wp2
  have hW := ((((HT.out.set 2 (.slice Ab qb cb)).set 0 (.int .u8 x)).set 1 (.bool (decide (y = 1)))).set 2 (.slice Ab qb cb))
  simp only [List.set] at hW
  have hb := (T8.keepSet 2 (.slice Ab qb cb) ((T8.keepSet 1 (.bool (decide (y = 1))) ((T8.keepSet 0 (.int .u8 x) ((T8.keepSet 2 (.slice Ab qb cb) (HB.out))))))))
  generalize ((((w3.setCell ⟨w.heap.size, 2, none⟩ (.slice Ab qb cb)).setCell ⟨w.heap.size, 0, none⟩ (.int .u8 x)).setCell ⟨w.heap.size, 1, none⟩ (.bool (decide (y = 1)))).setCell ⟨w.heap.size, 2, none⟩ (.slice Ab qb cb)) = W at *
  obtain ⟨m0, m1, m2, -, -, -⟩ := own_cells3 hW.2.1
  refine bodyPost_ret (by simp [results, Tryz.results74, go_sem, m0, m1, m2]; try rfl) rfl ?_
  exact ⟨⟨x, decide (y = 1), ⟨isb, Ab, cb⟩⟩, _, (by obtain rfl := HQb.out; rfl), ⟨x0, x1, BV.ok.mono hb fun k _ hk => by omega⟩, hW.1, H1.out.then (H2.out.then (H3.out.good rfl)), hW.2.2.2.2⟩
end
/-- A name that was read. -/
def NmPost (p : PR (List Int)) (g N : Nat) (s : St) (w : World) (e : Ending) (w' : World) : Prop :=
  ∃ y s', e = .returned (.string (strOfNums y)) ∧ IsBytes y ∧ y.length ≤ 1000000 ∧ RdrAt w' g SRC (N, []) s' ∧ KP p s y s' ∧ Chg (fun k => k = g) w w'
set_option maxHeartbeats 2000000 in
theorem mname_any (g N : Nat) (s : St) (w : World) (h : RdrAt w g SRC (N, []) s) (hT : Tabs w) (hg : 1 < g) : Calls Tryz.prog 128 #[.pointer (some ⟨g, 0, none⟩)] w (NmPost pUName g N s w) := by
  have HD : Hid (RdrAt w.drew g SRC (N, []) s ∧ Tabs w ∧ ∀ S w', Chg S w.drew w' → Chg S w w') := ⟨h.later ((Below.refl _ _).drew), hT, fun S w' h => h.undrew⟩
  have HC := Lib.hid (mCount g N s w.drew HD.out.1 32 (by omega) (by omega))
  clear h hT
  go_enter Tryz.func128, Tryz.ntmps128
  go_upto_region 1 with fail
  go_cut [3] from 4 (fun s3 wx => ∃ (y : List Int) (A : Option Addr) (q c : Nat) (s2 : St) (n : Int) (s1 : St), s3 = .slice A q c ∧ y.length = q ∧ q ≤ c ∧ Hid (RdX (fun k => k ≠ g) wx A y ∧ RdrAt wx g SRC (N, []) s2 ∧ KP (pCount 32) s n s1 ∧ KP (pBytes n.toNat) s1 y s2 ∧ Chg (fun k => k = g) w wx ∧ q ≤ 1000000))
  case first =>
    go_region_with (first
      | (go_at_call 116; refine HC.out.mono ?_; rintro e w1 ⟨x, s1, rfl, h0, h1, h2, h3, h4⟩; obtain ⟨n, rfl⟩ : ∃ n : Nat, x = n := ⟨x.toNat, by omega⟩; have H2 := Lib.hid (And.intro h2 (And.intro h3 h4)); clear h2 h3 h4)
      | (go_at_call 111; refine (rbytes_any g SRC (N, []) _ n w1 H2.out.1 (by omega)).mono ?_; rintro e w2 ⟨v, y, rfl, ho, hI, h2, h3, h4, h5⟩; obtain ⟨A, c, rfl, hc1, -, hr⟩ := ho.rdX hI; have H3 := Lib.hid (And.intro h2 (And.intro h3 (And.intro h4 (And.intro ho (And.intro hI (And.intro hr (And.intro h5 hc1))))))); clear h2 h3 h4 ho hr h5 hI hc1; generalize hq : y.length = q at *; have HQ := Lib.hid hq; clear hq))
    all_goals
      go_wp2_with fail
      go_meet
      refine ⟨y, A, q, c, _, (n : Int), s1, rfl, HQ.out, H3.out.2.2.2.2.2.2.2, H3.out.2.2.2.2.2.1.mono fun k hk e => ?_, H3.out.1, H2.out.2.1, by rw [Int.toNat_natCast]; exact KP.of H3.out.2.1, HD.out.2.2 _ _ (H2.out.2.2.trans H3.out.2.2.1 fun k _ e => e), H3.out.2.2.2.2.2.2.1⟩
      have := owns_ge H3.out.2.2.2.1 e
      have := H2.out.1.lt
      rintro rfl
      omega
  case rest =>
    obtain ⟨y, A, q, c, s2, n, s1, rfl, hq, hqc, HX⟩ := hcut
    clear HC
    have HU := Lib.hid (sutf_any A y q c wc HX.out.1 hq.symm hqc (HD.out.2.1.chg HX.out.2.2.2.2.1 fun k hk e => by omega))
    have hstr := fun w' (hb : Chg (fun k => k = g) wc w') => (HX.out.1.chg hb fun k _ hk e => hk e).rd.string c
    have HS := Lib.hid hstr
    have HQ := Lib.hid hq
    clear hq hstr
    go_wp2_with fail
    refine HU.out.mono ?_
    rintro e w3 ⟨rfl, hb⟩
    have HB := Lib.hid (And.intro hb (HX.out.2.1.later hb))
    have HS3 := Lib.hid (HS.out w3 (Chg.of_below hb))
    clear hb HU
    by_cases hv : vd y = true
    · rw [hv]
      have HV := Lib.hid hv
      clear hv
      have hs3 := HS3.out
      rw [HQ.out] at hs3
      go_wp2
      go_ret
      exact ⟨y, s2, rfl, HX.out.1.1, by rw [HQ.out]; exact HX.out.2.2.2.2.2, HB.out.2, HX.out.2.2.1.then (HX.out.2.2.2.1.good (by funext l; rw [if_pos HV.out])), HX.out.2.2.2.2.1.trans (Chg.of_below HB.out.1) fun k _ e => e⟩
    · have hvf : vd y = false := by simpa using hv
      have HV := Lib.hid hvf
      rw [hvf]
      clear hv hvf
      go_wp2_with fail
      refine (rfail_any g _ _ s2 2 w3 HB.out.2 (by omega) (by omega)).mono ?_
      rintro e w4 ⟨⟨u, rfl⟩, h2, hc⟩
      have HC := Lib.hid (And.intro h2 hc)
      have hs4 := HS.out w4 ((Chg.of_below HB.out.1).trans hc fun k _ e => e)
      rw [HQ.out] at hs4
      clear h2 hc
      go_wp2
      go_ret
      exact ⟨y, _, rfl, HX.out.1.1, by rw [HQ.out]; exact HX.out.2.2.2.2.2, HC.out.1, HX.out.2.2.1.then (HX.out.2.2.2.1.bad (e := 2) (by funext l; rw [if_neg (by rw [HV.out]; decide)]) y), (HX.out.2.2.2.2.1.trans (Chg.of_below HB.out.1) fun k _ e => e).trans HC.out.2 fun k _ e => e⟩
def expV (x : ExpS) : Value := .agg #[.string (strOfNums x.1), .int .u8 x.2.1, .int .u32 x.2.2]
section
variable (g N : Nat) (s : St) (w : World) (h : RdrAt w g SRC (N, []) s)
include h
section
variable (hTb : Tabs w) (hg : 1 < g)
include hTb hg
set_option maxHeartbeats 2000000 in
theorem mexp_any : Calls Tryz.prog 76 #[.pointer (some ⟨g, 0, none⟩)] w (PartPost KEx expV id pExp g SRC (N, []) s w) := by
  have HT := Lib.hid (T8.new h 88 [.string ⟨#[]⟩, .int .u8 0, .int .u32 0])
  obtain ⟨k0, k1, k2, f0, f1, f2⟩ := own_cells3 HT.out.2.1
  have HG := Lib.hid h.lt
  clear h
  have HTb := Lib.hid (hTb.chg HT.out.2.2.2.2 fun k hk e => by omega)
  clear hTb
  go_enter Tryz.func76, Tryz.ntmps76
  have HN := Lib.hid (mname_any g N s _ HT.out.1 HTb.out hg)
  go_wp2_with fail
  refine HN.out.mono ?_
  rintro e w1 ⟨y, s1, rfl, hy1, hy2, h1, h2, h3⟩
  have hT := HT.out.step h1 h3
  have H1 := Lib.hid h2
  clear h1 h2 h3 HN k0 k1 k2 f0 f1 f2
  obtain ⟨k0, k1, k2, f0, f1, f2⟩ := own_cells3 hT.2.1
  have HT := Lib.hid hT
  clear hT
  have HY := Lib.hid (And.intro hy1 hy2)
  clear hy1 hy2
  have hT2 := (HT.out.set 0 (.string (strOfNums y)))
  simp only [List.set] at hT2
  have HT := Lib.hid hT2
  clear hT2
  go_upto_region 2 with fail
  generalize (w1.setCell ⟨w.heap.size, 0, none⟩ (.string (strOfNums y))) = v1 at *
  clear k0 k1 k2 f0 f1 f2
  obtain ⟨k0, k1, k2, f0, f1, f2⟩ := own_cells3 HT.out.2.1
  have HN := Lib.hid (mByte g N s1 _ HT.out.1)
  go_wp2_with fail
  refine HN.out.mono ?_
  rintro e w2a ⟨za, s2a, rfl, za0, za1, h1, h2, h3⟩
  have HM := Lib.hid (mupto8_any (most := 3) h1 h2 h3 za0 (by omega))
  clear h1 h2 h3 HN za0 za1
  go_wp2_with fail
  refine HM.out.mono ?_
  rintro e w2 ⟨z, s2, rfl, z0, z1, h1, h2, h3⟩
  have hT := HT.out.step h1 h3
  have H2 := Lib.hid h2
  clear h1 h2 h3 HM k0 k1 k2 f0 f1 f2
  obtain ⟨k0, k1, k2, f0, f1, f2⟩ := own_cells3 hT.2.1
  have HT := Lib.hid hT
  clear hT
  have hT2 := (HT.out.set 1 (.int .u8 z))
  simp only [List.set] at hT2
  have HT := Lib.hid hT2
  clear hT2
  go_upto_region 3 with fail
  generalize (w2.setCell ⟨w.heap.size, 1, none⟩ (.int .u8 z)) = v2 at *
  clear k0 k1 k2 f0 f1 f2
  obtain ⟨k0, k1, k2, f0, f1, f2⟩ := own_cells3 HT.out.2.1
  have HN := Lib.hid (mU32 g N s2 _ HT.out.1)
  go_wp2_with fail
  refine HN.out.mono ?_
  rintro e w3 ⟨n, s3, rfl, n0, n1, h1, h2, h3⟩
  have hT := HT.out.step h1 h3
  have H3 := Lib.hid h2
  clear h1 h2 h3 HN k0 k1 k2 f0 f1 f2
  obtain ⟨k0, k1, k2, f0, f1, f2⟩ := own_cells3 hT.2.1
  have HT := Lib.hid hT
  clear hT
  go_wp2
  have hW := ((((HT.out.set 2 (.int .u32 n)).set 0 (.string (strOfNums y))).set 1 (.int .u8 z)).set 2 (.int .u32 n))
  simp only [List.set] at hW
  generalize ((((w3.setCell ⟨w.heap.size, 2, none⟩ (.int .u32 n)).setCell ⟨w.heap.size, 0, none⟩ (.string (strOfNums y))).setCell ⟨w.heap.size, 1, none⟩ (.int .u8 z)).setCell ⟨w.heap.size, 2, none⟩ (.int .u32 n)) = W at *
  obtain ⟨m0, m1, m2, -, -, -⟩ := own_cells3 hW.2.1
  refine bodyPost_ret (by simp [results, Tryz.results76, go_sem, m0, m1, m2]; try rfl) rfl ?_
  exact ⟨(y, z, n), _, rfl, ⟨HY.out.1, HY.out.2, z0, by show z ≤ 255; omega, n0, by show n < 4294967296; omega⟩, hW.1, H1.out.then (H2.out.then (H3.out.good rfl)), hW.2.2.2.2⟩
end
end
section
variable (g N : Nat) (s : St) (w : World) (h : RdrAt w g SRC (N, []) s)
include h
def DV.v (x : DV) : Value := .agg #[.int .u8 x.mode, x.off.v, .slice x.yA x.ys.length x.yc]
set_option maxHeartbeats 2000000 in
theorem mdata_any : Calls Tryz.prog 82 #[.pointer (some ⟨g, 0, none⟩)] w (PartPost KDt DV.v DV.x pData g SRC (N, []) s w) := by
  have HT := Lib.hid (T8.new h 106 [.int .u8 0, .slice none 0 0, .slice none 0 0])
  obtain ⟨k0, k1, k2, f0, f1, f2⟩ := own_cells3 HT.out.2.1
  have HG := Lib.hid h.lt
  clear h
  go_enter Tryz.func82, Tryz.ntmps82
  have HN := Lib.hid (mU32 g N s _ HT.out.1)
  go_wp2_with fail
  refine HN.out.mono ?_
  rintro e w1a ⟨za, s1a, rfl, za0, za1, h1, h2, h3⟩
  have HM := Lib.hid (mupto32_any (most := 2) h1 h2 h3 za0 (by omega))
  clear h1 h2 h3 HN za0 za1
  go_wp2_with fail
  refine HM.out.mono ?_
  rintro e w1 ⟨z, s1, rfl, z0, z1, h1, h2, h3⟩
  have hT := HT.out.step h1 h3
  have H1 := Lib.hid h2
  clear h1 h2 h3 HM k0 k1 k2 f0 f1 f2
  obtain ⟨k0, k1, k2, f0, f1, f2⟩ := own_cells3 hT.2.1
  have HT := Lib.hid hT
  clear hT
  have hk : z = 0 ∨ z = 1 ∨ z = 2 := by omega
  rcases hk with rfl | rfl | rfl
  · have HN := Lib.hid (mexpr_any g N s1 _ HT.out.1)
    go_wp2_with fail
    refine HN.out.mono ?_
    rintro e w2 ⟨bb, s2, rfl, p1, h1, h2, h3⟩
    have hT := HT.out.step h1 h3
    have HB := Lib.hid (HT.out.far p1)
    clear p1
    have H2 := Lib.hid h2
    clear h1 h2 h3 HN k0 k1 k2 f0 f1 f2
    obtain ⟨k0, k1, k2, f0, f1, f2⟩ := own_cells3 hT.2.1
    have HT := Lib.hid hT
    clear hT
    obtain ⟨isb, Ab, cb⟩ := bb
    simp only [BV.v] at *
    generalize hqb : isb.length = qb at *
    have HQb := Lib.hid hqb
    clear hqb
    have hT2 := (HT.out.set 1 (.slice Ab qb cb))
    simp only [List.set] at hT2
    have HB := Lib.hid (T8.keepSet 1 (.slice Ab qb cb) HB.out)
    have HT := Lib.hid hT2
    clear hT2
    go_upto_region 9 with fail
    generalize (w2.setCell ⟨w.heap.size, 1, none⟩ (.slice Ab qb cb)) = v2 at *
    clear k0 k1 k2 f0 f1 f2
    obtain ⟨k0, k1, k2, f0, f1, f2⟩ := own_cells3 HT.out.2.1
    have HN := Lib.hid (rsized_any g SRC (N, []) _ _ HT.out.1)
    go_wp2_with fail
    refine HN.out.mono ?_
    rintro e w3 ⟨v, y, rfl, ho, hI, h1, h2, h3, hl⟩
    have hT := HT.out.step h1 h3
    obtain ⟨Ay, cy, rfl, hy1, hy2, hy3⟩ := ho.rdX hI
    have HB := Lib.hid (HT.out.keep HB.out h3)
    have HY : Hid (RdX (fun k => w.heap.size < k) w3 Ay y ∧ y.length ≤ cy ∧ cy ≤ maxLen ∧ y.length ≤ 1000000) := ⟨hy3.mono fun k _ hk => by have := owns_ge ho hk; have := HT.out.2.1.lt; omega, hy1, hy2, hl⟩
    have H9 := Lib.hid (KP.of h2)
    clear h1 h2 h3 HN ho hI hl hy1 hy2 hy3 k0 k1 k2 f0 f1 f2
    obtain ⟨k0, k1, k2, f0, f1, f2⟩ := own_cells3 hT.2.1
    have HT := Lib.hid hT
    clear hT
    generalize hqy : y.length = qy at *
    have HQY := Lib.hid hqy
    clear hqy
    go_wp2
    have hy := ((((HY.out.1).chg (chgSet _ w.heap.size 2 (.slice Ay qy cy)) fun k _ hk e => by omega).chg (chgSet _ w.heap.size 0 (.int .u8 0)) fun k _ hk e => by omega).chg (chgSet _ w.heap.size 1 (.slice Ab qb cb)) fun k _ hk e => by omega).chg (chgSet _ w.heap.size 2 (.slice Ay qy cy)) fun k _ hk e => by omega
    have hW := ((((HT.out.set 2 (.slice Ay qy cy)).set 0 (.int .u8 0)).set 1 (.slice Ab qb cb)).set 2 (.slice Ay qy cy))
    simp only [List.set] at hW
    have hb := (T8.keepSet 2 (.slice Ay qy cy) ((T8.keepSet 1 (.slice Ab qb cb) ((T8.keepSet 0 (.int .u8 0) ((T8.keepSet 2 (.slice Ay qy cy) (HB.out))))))))
    generalize ((((w3.setCell ⟨w.heap.size, 2, none⟩ (.slice Ay qy cy)).setCell ⟨w.heap.size, 0, none⟩ (.int .u8 0)).setCell ⟨w.heap.size, 1, none⟩ (.slice Ab qb cb)).setCell ⟨w.heap.size, 2, none⟩ (.slice Ay qy cy)) = W at *
    obtain ⟨m0, m1, m2, -, -, -⟩ := own_cells3 hW.2.1
    refine bodyPost_ret (by simp [results, Tryz.results82, go_sem, m0, m1, m2]; try rfl) rfl ?_
    exact ⟨⟨0, ⟨isb, Ab, cb⟩, y, Ay, cy⟩, _, (by obtain rfl := HQb.out; obtain rfl := HQY.out; rfl), ⟨by simp, BV.ok.mono hb fun k _ hk => by omega, hy.mono fun k _ hk => by omega, by rw [HQY.out]; exact HY.out.2.1, HY.out.2.2.1, by rw [HQY.out]; exact HY.out.2.2.2⟩, hW.1, H1.out.then (KP.then (KP.pure (0 : Int) _) (H2.out.then (H9.out.good rfl))), hW.2.2.2.2⟩
  · have hT2 := (HT.out.set 0 (.int .u8 1))
    simp only [List.set] at hT2
    have HT := Lib.hid hT2
    clear hT2
    go_upto_region 9 with fail
    generalize (w1.setCell ⟨w.heap.size, 0, none⟩ (.int .u8 1)) = v1 at *
    clear k0 k1 k2 f0 f1 f2
    obtain ⟨k0, k1, k2, f0, f1, f2⟩ := own_cells3 HT.out.2.1
    have HN := Lib.hid (rsized_any g SRC (N, []) _ _ HT.out.1)
    go_wp2_with fail
    refine HN.out.mono ?_
    rintro e w2 ⟨v, y, rfl, ho, hI, h1, h2, h3, hl⟩
    have hT := HT.out.step h1 h3
    obtain ⟨Ay, cy, rfl, hy1, hy2, hy3⟩ := ho.rdX hI
    have HY : Hid (RdX (fun k => w.heap.size < k) w2 Ay y ∧ y.length ≤ cy ∧ cy ≤ maxLen ∧ y.length ≤ 1000000) := ⟨hy3.mono fun k _ hk => by have := owns_ge ho hk; have := HT.out.2.1.lt; omega, hy1, hy2, hl⟩
    have H9 := Lib.hid (KP.of h2)
    clear h1 h2 h3 HN ho hI hl hy1 hy2 hy3 k0 k1 k2 f0 f1 f2
    obtain ⟨k0, k1, k2, f0, f1, f2⟩ := own_cells3 hT.2.1
    have HT := Lib.hid hT
    clear hT
    generalize hqy : y.length = qy at *
    have HQY := Lib.hid hqy
    clear hqy
    go_wp2
    have hy := ((((HY.out.1).chg (chgSet _ w.heap.size 2 (.slice Ay qy cy)) fun k _ hk e => by omega).chg (chgSet _ w.heap.size 0 (.int .u8 1)) fun k _ hk e => by omega).chg (chgSet _ w.heap.size 1 (.slice none 0 0)) fun k _ hk e => by omega).chg (chgSet _ w.heap.size 2 (.slice Ay qy cy)) fun k _ hk e => by omega
    have hW := ((((HT.out.set 2 (.slice Ay qy cy)).set 0 (.int .u8 1)).set 1 (.slice none 0 0)).set 2 (.slice Ay qy cy))
    simp only [List.set] at hW
    generalize ((((w2.setCell ⟨w.heap.size, 2, none⟩ (.slice Ay qy cy)).setCell ⟨w.heap.size, 0, none⟩ (.int .u8 1)).setCell ⟨w.heap.size, 1, none⟩ (.slice none 0 0)).setCell ⟨w.heap.size, 2, none⟩ (.slice Ay qy cy)) = W at *
    obtain ⟨m0, m1, m2, -, -, -⟩ := own_cells3 hW.2.1
    refine bodyPost_ret (by simp [results, Tryz.results82, go_sem, m0, m1, m2]; try rfl) rfl ?_
    exact ⟨⟨1, bv0, y, Ay, cy⟩, _, (by obtain rfl := HQY.out; rfl), ⟨by simp, BV.ok0 _ _, hy.mono fun k _ hk => by omega, by rw [HQY.out]; exact HY.out.2.1, HY.out.2.2.1, by rw [HQY.out]; exact HY.out.2.2.2⟩, hW.1, H1.out.then (KP.then (KP.pure (0 : Int) _) (KP.then (KP.pure [] _) (H9.out.good rfl))), hW.2.2.2.2⟩
  · have HN := Lib.hid (mU32 g N s1 _ HT.out.1)
    go_wp2_with fail
    refine HN.out.mono ?_
    rintro e w2a ⟨ra, s2a, rfl, ra0, ra1, h1, h2, h3⟩
    have HM := Lib.hid (mupto32_any (most := 0) h1 h2 h3 ra0 (by omega))
    clear h1 h2 h3 HN ra0 ra1
    go_wp2_with fail
    refine HM.out.mono ?_
    rintro e w2 ⟨r, s2, rfl, r0, r1, h1, h2, h3⟩
    have hT := HT.out.step h1 h3
    have H2 := Lib.hid h2
    clear h1 h2 h3 HM k0 k1 k2 f0 f1 f2
    obtain ⟨k0, k1, k2, f0, f1, f2⟩ := own_cells3 hT.2.1
    have HT := Lib.hid hT
    clear hT
    have HN := Lib.hid (mexpr_any g N s2 _ HT.out.1)
    go_wp2_with fail
    refine HN.out.mono ?_
    rintro e w3 ⟨bb, s3, rfl, p1, h1, h2, h3⟩
    have hT := HT.out.step h1 h3
    have HB := Lib.hid (HT.out.far p1)
    clear p1
    have H3 := Lib.hid h2
    clear h1 h2 h3 HN k0 k1 k2 f0 f1 f2
    obtain ⟨k0, k1, k2, f0, f1, f2⟩ := own_cells3 hT.2.1
    have HT := Lib.hid hT
    clear hT
    obtain ⟨isb, Ab, cb⟩ := bb
    simp only [BV.v] at *
    generalize hqb : isb.length = qb at *
    have HQb := Lib.hid hqb
    clear hqb
    have hT2 := (HT.out.set 1 (.slice Ab qb cb))
    simp only [List.set] at hT2
    have HB := Lib.hid (T8.keepSet 1 (.slice Ab qb cb) HB.out)
    have HT := Lib.hid hT2
    clear hT2
    go_upto_region 9 with fail
    generalize (w3.setCell ⟨w.heap.size, 1, none⟩ (.slice Ab qb cb)) = v3 at *
    clear k0 k1 k2 f0 f1 f2
    obtain ⟨k0, k1, k2, f0, f1, f2⟩ := own_cells3 HT.out.2.1
    have HN := Lib.hid (rsized_any g SRC (N, []) _ _ HT.out.1)
    go_wp2_with fail
    refine HN.out.mono ?_
    rintro e w4 ⟨v, y, rfl, ho, hI, h1, h2, h3, hl⟩
    have hT := HT.out.step h1 h3
    obtain ⟨Ay, cy, rfl, hy1, hy2, hy3⟩ := ho.rdX hI
    have HB := Lib.hid (HT.out.keep HB.out h3)
    have HY : Hid (RdX (fun k => w.heap.size < k) w4 Ay y ∧ y.length ≤ cy ∧ cy ≤ maxLen ∧ y.length ≤ 1000000) := ⟨hy3.mono fun k _ hk => by have := owns_ge ho hk; have := HT.out.2.1.lt; omega, hy1, hy2, hl⟩
    have H9 := Lib.hid (KP.of h2)
    clear h1 h2 h3 HN ho hI hl hy1 hy2 hy3 k0 k1 k2 f0 f1 f2
    obtain ⟨k0, k1, k2, f0, f1, f2⟩ := own_cells3 hT.2.1
    have HT := Lib.hid hT
    clear hT
    generalize hqy : y.length = qy at *
    have HQY := Lib.hid hqy
    clear hqy
    go_wp2
    have hy := ((((HY.out.1).chg (chgSet _ w.heap.size 2 (.slice Ay qy cy)) fun k _ hk e => by omega).chg (chgSet _ w.heap.size 0 (.int .u8 0)) fun k _ hk e => by omega).chg (chgSet _ w.heap.size 1 (.slice Ab qb cb)) fun k _ hk e => by omega).chg (chgSet _ w.heap.size 2 (.slice Ay qy cy)) fun k _ hk e => by omega
    have hW := ((((HT.out.set 2 (.slice Ay qy cy)).set 0 (.int .u8 0)).set 1 (.slice Ab qb cb)).set 2 (.slice Ay qy cy))
    simp only [List.set] at hW
    have hb := (T8.keepSet 2 (.slice Ay qy cy) ((T8.keepSet 1 (.slice Ab qb cb) ((T8.keepSet 0 (.int .u8 0) ((T8.keepSet 2 (.slice Ay qy cy) (HB.out))))))))
    generalize ((((w4.setCell ⟨w.heap.size, 2, none⟩ (.slice Ay qy cy)).setCell ⟨w.heap.size, 0, none⟩ (.int .u8 0)).setCell ⟨w.heap.size, 1, none⟩ (.slice Ab qb cb)).setCell ⟨w.heap.size, 2, none⟩ (.slice Ay qy cy)) = W at *
    obtain ⟨m0, m1, m2, -, -, -⟩ := own_cells3 hW.2.1
    refine bodyPost_ret (by simp [results, Tryz.results82, go_sem, m0, m1, m2]; try rfl) rfl ?_
    exact ⟨⟨0, ⟨isb, Ab, cb⟩, y, Ay, cy⟩, _, (by obtain rfl := HQb.out; obtain rfl := HQY.out; rfl), ⟨by simp, BV.ok.mono hb fun k _ hk => by omega, hy.mono fun k _ hk => by omega, by rw [HQY.out]; exact HY.out.2.1, HY.out.2.2.1, by rw [HQY.out]; exact HY.out.2.2.2⟩, hW.1, H1.out.then (H2.out.then (H3.out.then (H9.out.good rfl))), hW.2.2.2.2⟩
end
end Go.Proofs.YtadgiekiiicmfaaGreatDoor

/- mod's source: an element's mode and type. (Written by gen_ModSrc4.py.) -/
namespace Go.Proofs.YtadgiekiiicmfaaGreatDoor
open Go.RowKit
set_option maxRecDepth 100000
set_option linter.unusedVariables false

theorem mmode_any (k : Int) (w : World) (h0 : 0 ≤ k) (h1 : k ≤ 7) : Calls Tryz.prog 130 #[.int .u32 k] w fun e w' => e = .returned (.int .u8 (modeOf k)) ∧ w = w' := by
  have hk : k = 0 ∨ k = 1 ∨ k = 2 ∨ k = 3 ∨ k = 4 ∨ k = 5 ∨ k = 6 ∨ k = 7 := by omega
  rcases hk with rfl | rfl | rfl | rfl | rfl | rfl | rfl | rfl
  all_goals
    go_enter Tryz.func130, Tryz.ntmps130
    go_wp2
    go_ret
    exact ⟨rfl, rfl⟩
theorem melt_any (g N : Nat) (s : St) (w : World) (h : RdrAt w g SRC (N, []) s) (k : Int) (h0 : 0 ≤ k) (h1 : k ≤ 7) : Calls Tryz.prog 131 #[.pointer (some ⟨g, 0, none⟩), .int .u32 k] w (NumP .u8 255 (pElT k) g N s w) := by
  have hk : (k = 0 ∨ k = 4) ∨ (k = 1 ∨ k = 2 ∨ k = 3) ∨ k = 5 ∨ k = 6 ∨ k = 7 := by omega
  have HH := Lib.hid h
  rcases hk with hk | hk | hk
  · have hp : pElT k = fun l => .ok (112, l) := by unfold pElT; rw [if_pos (by omega)]
    rw [hp]
    rcases hk with rfl | rfl
    all_goals
      go_enter Tryz.func131, Tryz.ntmps131
      go_wp2
      go_ret
      exact ⟨112, s, rfl, by omega, by omega, HH.out, KP.pure _ _, Chg.refl _ _⟩
  · have hp : pElT k = seq (pMost 0) fun _ l => .ok (112, l) := by unfold pElT; rw [if_neg (by omega), if_neg (by omega)]
    rw [hp]
    have HB := Lib.hid (mByte g N s w h)
    clear h hp
    rcases hk with rfl | rfl | rfl
    all_goals
      go_enter Tryz.func131, Tryz.ntmps131
      go_wp2_with fail
      refine HB.out.mono ?_
      rintro e w1 ⟨x, s1, rfl, x0, x1, h1, h2, h3⟩
      have HM := Lib.hid (mupto8_any (most := 0) h1 h2 h3 x0 (by omega))
      clear h1 h2 h3
      go_wp2_with fail
      refine HM.out.mono ?_
      rintro e w2 ⟨y, s2, rfl, y0, y1, h1, h2, h3⟩
      have HQ := Lib.hid (And.intro h1 (And.intro h2 h3))
      clear h1 h2 h3
      go_wp2
      go_ret
      exact ⟨112, s2, rfl, by omega, by omega, HQ.out.1, KP.good HQ.out.2.1 rfl, HQ.out.2.2⟩
  · have hp : pElT k = pRefT := by unfold pElT; rw [if_neg (by omega), if_pos (by omega)]
    rw [hp]
    have HB := Lib.hid (mreft_any g N s w h)
    clear h hp
    rcases hk with rfl | rfl | rfl
    all_goals
      go_enter Tryz.func131, Tryz.ntmps131
      go_wp2_with fail
      refine HB.out.mono ?_
      rintro e w1 ⟨x, s1, rfl, x0, x1, h1, h2, h3⟩
      have HQ := Lib.hid (And.intro h1 (And.intro h2 h3))
      clear h1 h2 h3
      go_wp2
      go_ret
      exact ⟨x, s1, rfl, x0, x1, HQ.out⟩
end Go.Proofs.YtadgiekiiicmfaaGreatDoor
