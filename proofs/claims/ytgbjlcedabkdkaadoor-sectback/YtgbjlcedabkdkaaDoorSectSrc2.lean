/- sect: the reader of sections: IDs, the front, names. -/
import Derived.Test.YtgbjlcedabkdkaaDoorSectSrc
import Derived.Test.YtgbjlcedabkdkaaDoorUtf8Valid
namespace Go.Proofs.YtgbjlcedabkdkaaDoor
open Go.RowKit
set_option maxRecDepth 100000
set_option linter.unusedVariables false

theorem own_cells4 {w : World} {g : Nat} {t : TypeId} {a b c d : Value} {tl : List Value} (h : Own w g t (a :: b :: c :: d :: tl)) : w.cell? ⟨g, 3, none⟩ = some d ∧ w.frozen? ⟨g, 3, none⟩ = false := ⟨h.cell 3, h.frozen 3⟩
/-- The source of sections in block g: tot bytes in all, k places used. -/
abbrev SrcAt (w : World) (g : Nat) (tot k : Nat) (s : St) : Prop := RdrAt w g 48 (tot, [.string (mayS k)]) s
theorem SrcAt.may {w : World} {g tot k : Nat} {s : St} (h : SrcAt w g tot k s) : w.cell? ⟨g, 3, none⟩ = some (.string (mayS k)) ∧ w.frozen? ⟨g, 3, none⟩ = false := by
  cases s with
  | ok l => obtain ⟨A, c, r, h1, _⟩ := h; exact own_cells4 h1
  | error e => exact own_cells4 h.1
theorem SrcAt.set {w : World} {g tot k : Nat} {s : St} (h : SrcAt w g tot k s) (k' : Nat) : SrcAt (w.setCell ⟨g, 3, none⟩ (.string (mayS k'))) g tot k' s := by
  cases s with
  | ok l =>
    obtain ⟨A, c, r, h1, h2, h3⟩ := h
    exact ⟨A, c, r, h1.set 3 _, h2.chg (Chg.setCell _ _ _) (fun i _ hi e => by simp at e; omega), h3⟩
  | error e => exact ⟨h.1.set 3 _, h.2⟩
/-- The places used behind an ID that was read; where none was, what was. -/
def IdPost (k : Nat) (g tot : Nat) (s : St) (w : World) (e : Ending) (w' : World) : Prop :=
  ∃ x k', e = .returned (.int .u8 x) ∧ 0 ≤ x ∧ x ≤ 255 ∧ k' ≤ 12 ∧ SrcAt w' g tot k' (nx (pId k) s) ∧ (∀ a l', bd s (pId k) = .ok (a, l') → a = (x, k')) ∧ Chg (fun i => i = g) w w'
theorem nx_fail {s : St} {e : Int} {α : Type} : nx (fun _ => .error e : PR α) s = failS e s := by cases s <;> rfl
theorem bd_fail {s : St} {e : Int} {α β : Type} {r : β} {p : PR α} (f : α → PR β) (hf : ∀ a l, bd s p = .ok (a, l) → f a l = .error e) (rr : β × List Int) : bd s (seq p f) ≠ .ok rr := fun h => by
  obtain ⟨a, l1, h1, h2, _⟩ := bd_seq h
  rw [hf a l1 h1] at h2; cases h2

set_option maxHeartbeats 2000000 in
theorem sid_any (g tot k : Nat) (s : St) (w : World) (hk : k ≤ 12) (h : SrcAt w g tot k s) :
    Calls Tryd.prog 28 #[.pointer (some ⟨g, 0, none⟩)] w (IdPost k g tot s w) := by
  have HB := Lib.hid (rbyte_any g _ _ s w h)
  clear h
  go_enter Tryd.func28, Tryd.ntmps28
  go_wp2_with fail
  refine HB.out.mono ?_
  rintro e w1 ⟨x, rfl, h0, h1, h2, h3, h4⟩
  have hN : nx (pId k) s = nx (fun l => if x = 0 then .ok (((0 : Int), k), l) else match placeIn k x with
      | none => .error 2
      | some k' => .ok ((x, k'), l) : PR (Int × Nat)) (nx pByte s) := nx_seq' (x := x) h3
  have hB : ∀ a l', bd s (pId k) = .ok (a, l') → (if x = 0 then .ok (((0 : Int), k), l') else match placeIn k x with
      | none => .error 2
      | some k' => .ok ((x, k'), l') : Except Int ((Int × Nat) × List Int)) = .ok (a, l') := fun a l' h => by
    obtain ⟨b, l1, q1, q2, q3⟩ := bd_seq h
    have := h3 b l1 q1
    subst this
    by_cases hx : x = 0
    · simp only [hx, if_true] at q2 ⊢
      injection q2 with q2; injection q2 with q2 q4; subst q4; rw [q2]
    · simp only [hx, if_false] at q2 ⊢
      cases hp : placeIn k x with
      | none => rw [hp] at q2; cases q2
      | some k' =>
        rw [hp] at q2
        injection q2 with q2; injection q2 with q2 q4; subst q4; rw [← q2]
  have HM := SrcAt.may h2
  obtain ⟨hm1, hm2⟩ := HM
  have HH := Lib.hid (And.intro h2 (And.intro hN (And.intro hB h4)))
  clear h2 h3 hN hB h4 HB
  by_cases hx : x = 0
  · subst hx
    clear hm1 hm2
    go_wp2
    go_ret
    obtain ⟨h2, hN, hB, h4⟩ := HH.out
    refine ⟨0, k, rfl, by omega, by omega, hk, ?_, fun a l' h => ?_, h4⟩
    · rw [hN]
      cases hs : nx pByte s with
      | error e => rw [hs] at h2; exact h2
      | ok l => rw [hs] at h2; exact h2
    · have := hB a l' h
      simp only [if_true] at this
      injection this with this; injection this with this; exact this.symm
  · have hx0 : (x == 0) = false := by simpa using hx
    cases hp : placeIn k x with
    | none =>
      have hi : idxS k x = -1 := by simp [idxS, hp]
      have HI := Lib.hid (sIdx_any k x w1 hk h0 h1)
      rw [hi] at HI
      generalize hms : mayS k = ms at HI hm1
      clear hms
      have HF := Lib.hid (rfail_any g _ _ _ 2 w1 HH.out.1 (by omega) (by omega))
      have HP := Lib.hid hp
      clear hi hp
      go_wp2_with fail
      refine HI.out.mono ?_
      rintro e w2 ⟨rfl, rfl⟩
      go_wp2_with fail
      refine HF.out.mono ?_
      rintro e w2 ⟨⟨u, rfl⟩, q2, q3⟩
      have HQ := Lib.hid (And.intro q2 q3)
      clear q2 q3
      go_wp2
      go_ret
      obtain ⟨h2, hN, hB, h4⟩ := HH.out
      refine ⟨0, k, rfl, by omega, by omega, hk, ?_, fun a l' h => ?_, h4.trans HQ.out.2 fun i _ e => e⟩
      · rw [hN, show (nx (fun l => if x = 0 then .ok (((0 : Int), k), l) else match placeIn k x with | none => .error 2 | some k' => .ok ((x, k'), l) : PR (Int × Nat)) (nx pByte s)) = failS 2 (nx pByte s) from by
          rw [HP.out]; simp only [hx, if_false]; cases nx pByte s <;> rfl]
        exact HQ.out.1
      · have := hB a l' h
        rw [HP.out] at this
        simp only [hx, if_false] at this
        cases this
    | some k' =>
      obtain ⟨hk1, hk2, -⟩ := placeIn_le hk hp
      obtain ⟨p, rfl⟩ : ∃ p, k' = k + p + 1 := ⟨k' - k - 1, by omega⟩
      have hi : idxS k x = (p : Int) := by simp only [idxS, hp]; omega
      have HI := Lib.hid (sIdx_any k x w1 hk h0 h1)
      rw [hi] at HI
      have hpn : ¬ ((p : Int) < 0) := by omega
      have hcut := may_cut ⟨k, by omega⟩ ⟨p + 1, by omega⟩ (by simp only; omega)
      have hsz := may_size ⟨k, by omega⟩
      simp only at hcut hsz
      generalize hms : mayS k = ms at HI hm1 hcut hsz
      clear hms
      have hle : ((p : Int) + 1) ≤ ((ms.size : Nat) : Int) := by omega
      have hwr : IntKind.i64.wrap ((p : Int) + 1) = (p : Int) + 1 := by rw [IntKind.wrap_i64]; omega
      have hnat : ((p : Int) + 1).toNat = p + 1 := by omega
      have HP := Lib.hid hp
      have HCUT := Lib.hid hcut
      clear hi hp hcut
      go_wp2_with fail
      refine HI.out.mono ?_
      rintro e w2 ⟨rfl, rfl⟩
      go_wp2
      go_ret
      obtain ⟨h2, hN, hB, h4⟩ := HH.out
      have h6 : nx (pId k) s = nx pByte s := by
        rw [hN, HP.out]; simp only [hx, if_false]; cases nx pByte s <;> rfl
      refine ⟨x, k + p + 1, rfl, h0, h1, hk2, ?_, fun a l' h => ?_, h4.trans (chgSet _ _ _ _) fun i _ e => e⟩
      · rw [h6]
        rw [← hsz, HCUT.out]
        exact SrcAt.set h2 _
      · have := hB a l' h
        rw [HP.out] at this
        simp only [hx, if_false] at this
        injection this with this; injection this with this; exact this.symm
def failed7 (s : St) : Bool := match s with
  | .error _ => true
  | .ok _ => false
theorem rfailed7_any (g : Nat) (t : TypeId) (tl : RTl) (s : St) (w : World) (h : RdrAt w g t tl s) :
    Calls Tryd.prog 39 #[.pointer (some ⟨g, 0, none⟩)] w fun e w' => e = .returned (.bool (failed7 s)) ∧ w = w' := by
  cases s with
  | ok l =>
    obtain ⟨A, c, r, h1, -⟩ := h
    obtain ⟨hc0, hc1, hc2, hf0, hf1, hf2⟩ := own_cells3 h1
    clear h1
    generalize l.length = q at *
    go_enter Tryd.func39, Tryd.ntmps39
    go_wp2
    go_ret
    exact ⟨rfl, rfl⟩
  | error e =>
    obtain ⟨h1, he, -⟩ := h
    obtain ⟨hc0, hc1, hc2, hf0, hf1, hf2⟩ := own_cells3 h1
    clear h1
    have hne : (e != 0) = true := by simp; omega
    go_enter Tryd.func39, Tryd.ntmps39
    go_wp2
    go_ret
    exact ⟨rfl, rfl⟩
theorem snew_any (A : Option Addr) (n c : Nat) (w : World) : Calls Tryd.prog 14 #[.slice A n c] w fun e w' => e = .returned (.agg #[.slice A n c, .int .i64 0, .int .i64 0]) ∧ Below w.heap.size w w' := by
  go_enter Tryd.func14, Tryd.ntmps14
  go_wp2
  go_returns
  exact ⟨rfl, (Below.refl _ _).alloc (Nat.le_refl _) _⟩
theorem sutf_any {X : Nat → Prop} (A : Option Addr) (l : List Int) (n c : Nat) (w : World) (h : RdX X w A l) (hn : n = l.length) (hc : n ≤ c) (hT : Tabs w) :
    Calls Tryd.prog 11 #[.slice A n c] w fun e w' => e = .returned (.bool (vd l)) ∧ Below w.heap.size w w' := by
  have HV := Lib.hid (valid_any A l n c w h hn hc hT)
  clear h hn hc hT
  go_enter Tryd.func11, Tryd.ntmps11
  go_wp2_with fail
  refine HV.out.mono ?_
  rintro e w1 ⟨rfl, hb⟩
  have HB := Lib.hid hb
  clear hb
  go_wp2
  go_ret
  exact ⟨rfl, HB.out⟩
set_option maxHeartbeats 2000000 in
theorem sbegins_any {X : Nat → Prop} (A : Option Addr) (l : List Int) (n c : Nat) (w : World) (h : RdX X w A l) (hn : n = l.length) (hl : n ≤ 1000000) (hc : n ≤ c) (hcm : c ≤ maxLen) (hT : Tabs w) :
    Calls Tryd.prog 30 #[.slice A n c] w fun e w' => e = .returned (.bool (nameOk l)) ∧ Below w.heap.size w w' := by
  subst hn
  have HH := Lib.hid (And.intro h (And.intro hl (And.intro hc (And.intro hcm hT))))
  have HN := Lib.hid (snew_any A l.length c w)
  clear h hl hc hcm hT
  have HQ : Hid (∃ q, l.length = q) := ⟨_, rfl⟩
  go_enter Tryd.func30, Tryd.ntmps30
  go_wp2_with fail
  refine HN.out.mono ?_
  rintro e w1 ⟨rfl, hb1⟩
  obtain ⟨h, hl, hc, hcm, hT⟩ := HH.out
  have hr1 := (h.later hb1).rd.rx
  have HO : Hid (RdrAt (w1.alloc (.cells #[.slice A l.length c, .int .i64 0, .int .i64 0] 45)) w1.heap.size 45 (l.length, []) (.ok l)) := by
    refine ⟨A, c, 0, Own.new w1 _ [_, _, _], ?_, hc, hcm, hl, by simp, Nat.le_refl _, hl⟩
    exact hr1.later ((Below.refl _ _).alloc (Nat.le_refl _) _)
  have HB1 := Lib.hid hb1
  clear h hl hc hcm hT hr1 hb1
  have HB2 : Hid (Below w.heap.size w (w1.alloc (.cells #[.slice A l.length c, .int .i64 0, .int .i64 0] 45))) := HB1.out.alloc HB1.out.size _
  have HG := Lib.hid (HB1.out.size)
  have HS := Lib.hid (rsized_any w1.heap.size _ _ _ _ HO.out)
  go_upto_region 2 with fail
  generalize w1.alloc (.cells #[.slice A l.length c, .int .i64 0, .int .i64 0] 45) = w2 at *
  generalize w1.heap.size = g at *
  go_wp2_with fail
  refine HS.out.mono ?_
  rintro e w3 ⟨v, y, rfl, p1, p2, p3, p4, p5, p6⟩
  have HF := Lib.hid (rfailed7_any g _ _ _ w3 p3)
  have HB3 : Hid (Below w.heap.size w w3) := HB2.out.trans (p5.below (HB2.out.size) (fun i hi e => by have := HG.out; omega))
  have HT3 := Lib.hid (HH.out.2.2.2.2.later HB3.out)
  obtain ⟨A1, c1, rfl, q1, q2, q3⟩ := p1.rdX p2
  have HU := Lib.hid (sutf_any A1 y y.length c1 w3 q3 rfl q1 HT3.out)
  have HP := Lib.hid p4
  clear p1 p2 p3 p4 p5 p6 q1 q2 q3
  generalize hyl : y.length = yl at *
  clear hyl
  have key : nameOk l = (!(failed7 (nx pSized (.ok l))) && vd y) := by
    unfold nameOk
    have := HP.out
    rw [nx_ok]
    rw [bd_ok] at this
    cases hp : pSized l with
    | error e => rfl
    | ok r => rw [this r.1 r.2 (by rw [hp])]; rfl
  have HK := Lib.hid key
  clear key
  cases hf : failed7 (nx pSized (.ok l)) with
  | true =>
    rw [hf] at HF HK
    go_wp2_with fail
    refine HF.out.mono ?_
    rintro e w4 ⟨rfl, rfl⟩
    go_wp2
    go_ret
    exact ⟨by rw [HK.out]; rfl, HB3.out⟩
  | false =>
    rw [hf] at HF HK
    go_wp2_with fail
    refine HF.out.mono ?_
    rintro e w4 ⟨rfl, rfl⟩
    go_wp2_with fail
    refine HU.out.mono ?_
    rintro e w4 ⟨rfl, hb4⟩
    have HB4 := Lib.hid (HB3.out.trans (hb4.mono HB3.out.size))
    clear hb4
    go_wp2
    go_ret
    exact ⟨by rw [HK.out]; rfl, HB4.out⟩
set_option maxHeartbeats 2000000 in
theorem sfront_any (g tot k : Nat) (l : List Int) (w : World) (h : SrcAt w g tot k (.ok l)) :
    Calls Tryd.prog 15 #[.pointer (some ⟨g, 0, none⟩)] w fun e w' => (∃ u, e = .returned u) ∧ SrcAt w' g tot k (pFront l) ∧ Chg (fun i => i = g) w w' := by
  have HB := Lib.hid (rbytes_any g _ _ _ 8 w h (by omega))
  clear h
  go_enter Tryd.func15, Tryd.ntmps15
  go_wp2_with fail
  refine HB.out.mono ?_
  rintro e w1 ⟨v, y, rfl, p1, p2, p3, p4, p5, p6⟩
  have HF := Lib.hid (rfail_any g _ _ _ 2 w1 p3 (by omega) (by omega))
  obtain ⟨A1, c1, rfl, q1, q2, q3⟩ := p1.rdX p2
  have hs := Rd.string (q3.rd) c1
  have hst : ((strOfNums y).toList == [0, 97, 115, 109, 1, 0, 0, 0]) = decide (y = secFront) := by
    rw [← strOfNums_eq p2 (by decide), show (strOfNums secFront).toList = [0, 97, 115, 109, 1, 0, 0, 0] from by decide +kernel]
  have hfail : ∀ S, S = nx (pBytes 8) (.ok l) → pFront l = if y = secFront then S else failS 2 S := by
    rintro S rfl
    rw [bd_ok] at p4
    rw [nx_ok]
    by_cases h8 : l.length < 8
    · have hp : pBytes 8 l = .error 3 := by unfold pBytes; rw [if_neg (by omega)]
      rw [hp]
      unfold pFront
      rw [if_pos h8]
      simp [failS]
    · have hp : pBytes 8 l = .ok (l.take 8, l.drop 8) := by unfold pBytes; rw [if_pos (by omega)]
      have hy := p4 _ _ hp
      rw [hp]
      unfold pFront
      rw [if_neg h8, hy]
      simp [failS]
  have HP := Lib.hid (And.intro p3 (And.intro hfail p5))
  clear p1 p2 p3 p4 p5 p6 q1 q2 q3 hfail
  generalize y.length = yl at *
  generalize strOfNums y = sy at *
  by_cases hy : y = secFront
  · rw [decide_eq_true hy] at hst
    have HY := Lib.hid hy
    clear hy
    go_wp2
    go_end0
    obtain ⟨p3, hfail, p5⟩ := HP.out
    refine ⟨⟨_, rfl⟩, ?_, p5⟩
    rw [hfail _ rfl, if_pos HY.out]
    exact p3
  · rw [decide_eq_false hy] at hst
    have HY := Lib.hid hy
    clear hy
    go_wp2_with fail
    refine HF.out.mono ?_
    rintro e w2 ⟨⟨u, rfl⟩, q2, q3⟩
    have HQ := Lib.hid (And.intro q2 q3)
    clear q2 q3
    go_wp2
    go_end0
    obtain ⟨p3, hfail, p5⟩ := HP.out
    refine ⟨⟨_, rfl⟩, ?_, p5.trans HQ.out.2 fun i _ e => e⟩
    rw [hfail _ rfl, if_neg HY.out]
    exact HQ.out.1
end Go.Proofs.YtgbjlcedabkdkaaDoor
