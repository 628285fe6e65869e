/- Texts joined: RefBody, RefTakeB, RefSame, Made. -/
import Derived.Test.YtdbbcbffmbcjiaaJoin15
import Derived.Test.YtdbbcbffmbcjiaaJoin8
import Derived.Test.YtdbbcbffmbcjiaaJoin10
import Derived.Deep.RegionWith
import Derived.Test.YtdbbcbffmbcjiaaJoin1
/- The document's Body: which body bytes are. -/
namespace Go.Proofs.Ytdbbcbffmbcjiaa
open Go.RowKit
set_option maxRecDepth 100000
set_option linter.unusedVariables false

theorem body_in {sk : St} {k : Nat} {o : List Int} {acc : List Ins} {x : Ins} {l2 : List Int} (hx : ∀ a l', bd sk pIn = .ok (a, l') → x = a) (h : nx pIn sk = .ok l2) :
    bd sk (pBody (k + 1) o acc) = bd (nestP x.op o) fun r => if r.2 then .ok (acc ++ [x], l2) else pBody k r.1 (acc ++ [x]) l2 := by
  cases sk with
  | error e => cases h
  | ok l =>
    simp only [bd_ok, nx_ok, pBody, pSt, seq] at hx h ⊢
    cases hp : pIn l with
    | error e => rw [hp] at h; cases h
    | ok r =>
      have := hx r.1 r.2 (by rw [hp])
      subst this
      rw [hp] at h
      simp only [bd_ok] at h ⊢
      injection h with h
      subst h
      cases nestP r.1.op o with
      | error e => rfl
      | ok z => simp only [bd_ok]; cases z.2 <;> rfl
theorem body_no {sk : St} {k : Nat} {o : List Int} {acc : List Ins} {e : Int} (h : nx pIn sk = .error e) : bd sk (pBody (k + 1) o acc) = .error e := by
  cases sk with
  | error e' => cases h; rfl
  | ok l =>
    simp only [bd_ok, nx_ok, pBody, pSt, seq] at h ⊢
    cases hp : pIn l with
    | error e' => rw [hp] at h; cases h; rfl
    | ok r => rw [hp] at h; cases h

def RBPost (g : Nat) (s : St) (w : World) (e : Ending) (w' : World) : Prop :=
  ∃ v is s', e = .returned v ∧ RfAt5 w' g s' ∧ OwnN (fun k => w.heap.size ≤ k ∧ v.ownBlock ≠ some k) w' w.heap.size v is ∧ bd s (pBody 600 [] []) = bd s' (fun l => .ok (is.map IV.x, l)) ∧ Chg (fun k => k = g) w w' ∧ is.length ≤ 600
set_option maxHeartbeats 8000000 in
theorem rbody_any (g : Nat) (s : St) (w : World) (h : RfAt5 w g s) :
    Calls Try.prog 22 #[.pointer (some ⟨g, 0, none⟩)] w (RBPost g s w) := by
  have HH := Lib.hid h
  have hgw := h.lt
  clear h
  go_enter Try.func22, Try.ntmps22
  go_wp2_with fail
  go_loopw [3, 4] (fun v ov wr => ∃ (is : List IV) (sk : St) (o : List Int), Hid (RfAt5 wr g sk ∧ OwnN (fun k => w.heap.size ≤ k ∧ ov.ownBlock ≠ some k ∧ v.ownBlock ≠ some k) wr w.heap.size v is ∧ OwnI wr w.heap.size ov o ∧ bd s (pBody 600 [] []) = bd sk (pBody (600 - is.length) o (is.map IV.x)) ∧ (∀ l, sk = .ok l → o.length ≤ 32) ∧ Chg (fun k => k = g) w wr ∧ is.length ≤ 600)) (fun v _ _ => 601 - lenV v)
  case atStart => exact ⟨[], s, [], HH.out, OwnN.nil _ _ _, OwnI.nil _ _, rfl, fun _ _ => by simp, Chg.refl _ _, by simp⟩
  case round =>
    obtain ⟨is, sk, o, HX⟩ := hrel
    obtain ⟨A1, k1, rfl, -, -, -⟩ := RdV.of_own HX.out.2.1.1
    obtain ⟨A2, k2, rfl, -, -, -⟩ := HX.out.2.2.1.rdI
    have hwr := HX.out.2.2.2.2.2.1.size
    cases sk with
    | error x =>
      have hE := HX.out.1.own1
      have hx := HX.out.1.err x rfl
      have hxe : (x == 0) = false := by simp; omega
      clear hx
      generalize hq : is.length = q at *
      have HQ := Lib.hid hq
      clear hq
      generalize o.length = qo at *
      go_wp2_with fail
      go_ret
      obtain ⟨x1, x2, x3, x4, x5, x6, x7⟩ := HX.out
      exact ⟨_, is, .error x, rfl, x1, x2.mono (fun k _ hk => ⟨hk.1, hk.2.2⟩) (fun k hk e => e.2 hk), x4, x6, by rw [HQ.out]; exact x7⟩
    | ok lk =>
      have hE := HX.out.1.own0
      by_cases hfull : is.length = 600
      · have HF0 := Lib.hid (ffail5_any g _ 4 wr HX.out.1 (by omega) (by omega))
        generalize hq : is.length = q at *
        have HQ := Lib.hid hq
        clear hq
        subst hfull
        generalize o.length = qo at *
        go_wp2_with fail
        refine HF0.out.mono ?_
        simp only [failS]
        rintro e w2 ⟨⟨u, rfl⟩, h2, hc⟩
        have HC := Lib.hid (And.intro h2 hc)
        clear h2 hc HF0
        go_wp2
        go_ret
        obtain ⟨x1, x2, x3, x4, x5, x6, x7⟩ := HX.out
        exact ⟨_, is, .error 4, rfl, HC.out.1, (x2.chg HC.out.2 (fun k _ hk e => by have := hk.1; omega) fun k hk e => by have := owns_ge x2.1 hk; omega).mono (fun k _ hk => ⟨hk.1, hk.2.2⟩) (fun k hk e => e.2 hk), by rw [x4]; rfl, x6.trans HC.out.2 fun k _ e => e, by rw [HQ.out]; exact Nat.le_refl _⟩
      · have hfu : ¬ (600 : Int) ≤ is.length := by have := HX.out.2.2.2.2.2.2; omega
        have HFU : Hid (is.length < 600) := by unfold Hid; have := HX.out.2.2.2.2.2.2; omega
        clear hfull
        generalize hq : is.length = q at *
        have HQ := Lib.hid hq
        clear hq
        generalize hqo : o.length = qo at *
        have HQO := Lib.hid hqo
        clear hqo
        go_wp2_with fail
        refine (rin_any g _ wr HX.out.1).mono ?_
        rintro e w2 ⟨x, Ax, cx, rfl, h2, hL, hok, hv, hc⟩
        unfold insV
        have HN := Lib.hid (And.intro hv hok)
        have hs2 := hc.size
        -- the instruction in a block of its own
        have HB : Hid (RfAt5 (w2.alloc (.cells #[.int .i64 x.op, .int .u32 x.a, .int .u32 x.b, .int .u64 x.n, .slice Ax x.l.length cx, .int .i64 x.t] 43)) g (nx pIn (.ok lk)) ∧ OwnN (fun k => w.heap.size ≤ k ∧ (Value.slice A2 qo k2).ownBlock ≠ some k ∧ (Value.slice A1 q k1).ownBlock ≠ some k) (w2.alloc (.cells #[.int .i64 x.op, .int .u32 x.a, .int .u32 x.b, .int .u64 x.n, .slice Ax x.l.length cx, .int .i64 x.t] 43)) w.heap.size (.slice A1 q k1) is ∧ OwnI (w2.alloc (.cells #[.int .i64 x.op, .int .u32 x.a, .int .u32 x.b, .int .u64 x.n, .slice Ax x.l.length cx, .int .i64 x.t] 43)) w.heap.size (.slice A2 qo k2) o ∧ Chg (fun k => k = g) w (w2.alloc (.cells #[.int .i64 x.op, .int .u32 x.a, .int .u32 x.b, .int .u64 x.n, .slice Ax x.l.length cx, .int .i64 x.t] 43)) ∧ Own (w2.alloc (.cells #[.int .i64 x.op, .int .u32 x.a, .int .u32 x.b, .int .u64 x.n, .slice Ax x.l.length cx, .int .i64 x.t] 43)) w2.heap.size 43 (insC x Ax cx) ∧ LabX (fun k => w.heap.size ≤ k ∧ (Value.slice A2 qo k2).ownBlock ≠ some k ∧ (Value.slice A1 q k1).ownBlock ≠ some k) (w2.alloc (.cells #[.int .i64 x.op, .int .u32 x.a, .int .u32 x.b, .int .u64 x.n, .slice Ax x.l.length cx, .int .i64 x.t] 43)) x Ax cx ∧ (∀ k, (Value.slice A2 qo k2).ownBlock = some k → k < w2.heap.size) ∧ (∀ k, (Value.slice A1 q k1).ownBlock = some k → k < w2.heap.size)) := by
          obtain ⟨x1, x2, x3, x4, x5, x6, x7⟩ := HX.out
          have hb := (Below.refl w2.heap.size w2).alloc (Nat.le_refl _) (.cells #[.int .i64 x.op, .int .u32 x.a, .int .u32 x.b, .int .u64 x.n, .slice Ax x.l.length cx, .int .i64 x.t] 43)
          refine ⟨h2.later hb, (x2.chg hc (fun k _ hk e => by have := hk.1; omega) (fun k hk e => by have := owns_ge x2.1 hk; omega)).later hb, (x3.chg hc fun k hk e => by have := owns_ge x3 hk; omega).later hb, (x6.trans hc fun k _ e => e).trans (Chg.alloc (S := fun k => k = g) w2 _) fun k _ e => e, Own.new w2 _ _, (hL.mono fun k _ hk => ⟨by omega, fun e => by have := owns_lt x3 e; omega, fun e => by have := owns_lt x2.1 e; omega⟩).later hb, fun k hk => by have := owns_lt x3 hk; omega, fun k hk => by have := owns_lt x2.1 hk; omega⟩
        obtain ⟨ee, hee, hes⟩ := HB.out.1.cellE
        obtain ⟨c0, c1, c2, c3, c4, c5, f0, f1, f2, f3, f4, f5⟩ := own_cells6 HB.out.2.2.2.2.1
        clear h2 hL hok hv hc hE
        go_upto_region 8 with fail
        generalize w2.alloc (.cells #[.int .i64 x.op, .int .u32 x.a, .int .u32 x.b, .int .u64 x.n, .slice Ax x.l.length cx, .int .i64 x.t] 43) = W at *
        generalize w2.heap.size = gi at *
        rcases hes with ⟨rfl, l2, hl2⟩ | ⟨hne, hs⟩
        · have HL2 := Lib.hid hl2
          clear hl2
          have hgiW := HB.out.2.2.2.2.1.lt
          go_upto_region 11 with (at_builtin; refine wpList_appN1 rfl (.tmp 29) (.tmp 31) rfl w.heap.size (.slice A1 q k1) is rfl HB.out.2.1 ⟨x, Ax, cx⟩ HB.out.2.2.2.2.2.1 HN.out.2 rfl (by have := HQ.out; have := HFU.out; omega) (by omega) ?_; intro v1 w3 hv1 hw1; have HV := Lib.hid (And.intro hv1 hw1); clear hv1 hw1)
          obtain ⟨A9, k9, hv9, -, -, -⟩ := RdV.of_own HV.out.1.1
          have hq9 : (is ++ [(⟨x, Ax, cx⟩ : IV)]).length = q + 1 := by have := HQ.out; simp; omega
          rw [hq9] at hv9
          clear hq9
          have H3 : Hid (RfAt5 w3 g (.ok l2) ∧ OwnN (fun k => w.heap.size ≤ k ∧ (Value.slice A2 qo k2).ownBlock ≠ some k ∧ v1.ownBlock ≠ some k) w3 w.heap.size v1 (is ++ [⟨x, Ax, cx⟩]) ∧ OwnI w3 w.heap.size (.slice A2 qo k2) o ∧ Chg (fun k => k = g) w w3 ∧ Own w3 gi 43 (insC x Ax cx) ∧ (∀ k, (Value.slice A2 qo k2).ownBlock = some k → v1.ownBlock ≠ some k) ∧ gi < w3.heap.size) := by
            obtain ⟨y1, y2, y3, y4, y5, y6, y7, y8⟩ := HB.out
            obtain ⟨hv1, hw1⟩ := HV.out
            rw [HL2.out] at y1
            have hge := fun k hk => owns_ge (g := k) y2.1 hk
            have hne := fun k hk => owns_ne2 (g := k) y3 y2.1 (by decide) hk
            refine ⟨y1.chg hw1.1 (fun k hk e => by have := hge k e; omega), hv1.mono (fun k _ hk => ⟨hk.1.1, hk.1.2.1, fun e => hv1.2.2 k e hk⟩) (fun k hk e => e.2.2 hk), y3.chg hw1.1 (fun k hk e => hne k hk e), y4.trans hw1.1 (fun k hk e => by have := hge k e; omega), y5.chg hw1.1 (fun e => by have := y8 gi e; omega), fun k hk e => ?_, Nat.lt_of_lt_of_le hgiW hw1.1.size⟩
            rcases hw1.2 k e with h | h
            · exact hne k hk h
            · have := owns_lt y3 hk; omega
          have HR : Hid (bd s (pBody 600 [] []) = bd (nestP x.op o) fun r => if r.2 then .ok (is.map IV.x ++ [x], l2) else pBody (600 - (q + 1)) r.1 (is.map IV.x ++ [x]) l2) := by
            obtain ⟨x1, x2, x3, x4, x5, x6, x7⟩ := HX.out
            unfold Hid
            rw [x4, show 600 - q = 600 - (q + 1) + 1 from by have := HFU.out; omega, body_in HN.out.1 HL2.out]
          have hgw3 := H3.out.2.2.2.1.size
          have HMP : Hid ((is ++ [(⟨x, Ax, cx⟩ : IV)]).map IV.x = is.map IV.x ++ [x]) := by simp [Hid]
          have HO5 := Lib.hid (HX.out.2.2.2.2.1 _ rfl)
          have HXX := Lib.hid HX.out.2.2.2.2.2.2
          clear c0 c1 c2 c3 c4 c5 f0 f1 f2 f3 f4 f5 hee HB HV HX
          obtain ⟨c0, -, -, -, -, -, -, -, -, -, -, -⟩ := own_cells6 H3.out.2.2.2.2.1
          have hoc : ∀ op, x.op = op → True := fun _ _ => trivial
          generalize hop : x.op = op at *
          subst hv9
          by_cases h24 : op = 2 ∨ op = 3 ∨ op = 4
          · have HKEY : Hid (∀ W1 v2, OwnI W1 w.heap.size v2 (o ++ [op]) → Grew (Value.slice A2 qo k2) w3 v2 W1 → ∃ A4 k4, v2 = .slice A4 (qo + 1) k4 ∧ RfAt5 W1 g (.ok l2) ∧ OwnN (fun k => w.heap.size ≤ k ∧ v2.ownBlock ≠ some k ∧ (Value.slice A9 (q + 1) k9).ownBlock ≠ some k) W1 w.heap.size (Value.slice A9 (q + 1) k9) (is ++ [(⟨x, Ax, cx⟩ : IV)]) ∧ Chg (fun k => k = g) w W1 ∧ OwnI W1 w.heap.size v2 (o ++ [op])) := by
              intro W1 v2 h1 hg
              obtain ⟨y1, y2, y3, y4, y5, y6, y7⟩ := H3.out
              obtain ⟨A4, k4, e4, -, -, -⟩ := h1.rdI
              have hge := fun k hk => owns_ge (g := k) y3 hk
              have hm := y2.mono (Y := fun k => w.heap.size ≤ k ∧ (Value.slice A2 qo k2).ownBlock ≠ some k ∧ v2.ownBlock ≠ some k ∧ (Value.slice A9 (q + 1) k9).ownBlock ≠ some k) (fun k hk hx => ⟨hx.1, hx.2.1, fun e => by
                rcases hg.2 k e with h | h
                · exact hx.2.1 h
                · omega, hx.2.2⟩) fun k hk e => e.2.2.2 hk
              refine ⟨A4, k4, by rw [e4]; have := HQO.out; simp [this], y1.chg hg.1 (fun k hk e => by have := hge k e; omega), (hm.chg hg.1 (fun k _ hk e => hk.2.1 e) fun k hk e => y6 k e hk).mono (fun k _ hk => ⟨hk.1, hk.2.2.1, hk.2.2.2⟩) fun k hk e => e.2.2 hk, y4.trans hg.1 fun k hk e => by have := hge k e; omega, h1⟩
            have HOW := Lib.hid H3.out.2.2.1
            have HP1 : Hid (¬ 32 < qo + 1 → nestP op o = .ok (o ++ [op], false)) := fun hh => by unfold nestP; rw [if_pos h24, HQO.out, if_neg hh]
            have HP2 : Hid (32 < qo + 1 → nestP op o = .error 4) := fun hh => by unfold nestP; rw [if_pos h24, HQO.out, if_pos hh]
            have hbw : w.heap.size ≤ w3.heap.size := hgw3
            have hr1 : (2 : Int) ≤ op := by omega
            have hr2 : op ≤ 4 := by omega
            have HL9 : Hid ((is ++ [(⟨x, Ax, cx⟩ : IV)]).length = q + 1) := by unfold Hid; have := HQ.out; simp; omega
            clear h24
            by_cases hb : 32 < qo + 1
            · have hb' : (32 : Int) < (qo : Int) + 1 := by omega
              have HP := Lib.hid (HP2.out hb)
              clear hb HP1 HP2
              go_wp2_with (at_builtin; refine wpList_appI1 rfl (.tmp 42) (.tmp 45) rfl w.heap.size (Value.slice A2 qo k2) o rfl HOW.out op rfl (by have := HQO.out; have := HO5.out; omega) (by omega) ?_; intro v2 w4 hv2 hw2; have HV := Lib.hid (HKEY.out w4 v2 hv2 hw2); clear hv2 hw2; obtain ⟨A4, k4, rfl, -⟩ := HV.out)
              obtain ⟨A8, k8, -, z1, z2, z3, z4⟩ := HV.out
              have HZ := Lib.hid (And.intro z1 (And.intro z2 (And.intro z3 z4)))
              clear z1 z2 z3 z4 HV
              refine (ffail5_any g _ 4 _ HZ.out.1 (by omega) (by omega)).mono ?_
              simp only [failS]
              rintro e w5 ⟨⟨u5, rfl⟩, h2, hc⟩
              have HC := Lib.hid (And.intro h2 hc)
              clear h2 hc
              go_wp2
              obtain ⟨z1, z2, z3, z4⟩ := HZ.out
              refine ⟨⟨(is ++ [(⟨x, Ax, cx⟩ : IV)]), .error 4, o ++ [op], HC.out.1, z2.chg HC.out.2 (fun k _ hk e => by have := hk.1; omega) (fun k hk e => by have := owns_ge z2.1 hk; omega), z4.chg HC.out.2 (fun k hk e => by have := owns_ge z4 hk; omega), ?_, (fun l h => by cases h), z3.trans HC.out.2 fun k _ e => e, ?_⟩, ?_⟩
              · rw [HR.out, HP.out]; rfl
              · have := HL9.out; have := HFU.out; omega
              · have := HFU.out; simp [lenV]; omega
            · have hb' : ¬ (32 : Int) < (qo : Int) + 1 := by omega
              have HP := Lib.hid (HP1.out hb)
              have HB9 := Lib.hid hb
              clear hb HP1 HP2
              go_wp2_with (at_builtin; refine wpList_appI1 rfl (.tmp 42) (.tmp 45) rfl w.heap.size (Value.slice A2 qo k2) o rfl HOW.out op rfl (by have := HQO.out; have := HO5.out; omega) (by omega) ?_; intro v2 w4 hv2 hw2; have HV := Lib.hid (HKEY.out w4 v2 hv2 hw2); clear hv2 hw2; obtain ⟨A4, k4, rfl, -⟩ := HV.out)
              obtain ⟨A8, k8, -, z1, z2, z3, z4⟩ := HV.out
              refine ⟨⟨(is ++ [(⟨x, Ax, cx⟩ : IV)]), .ok l2, o ++ [op], z1, z2, z4, ?_, (fun l h => ?_), z3, ?_⟩, ?_⟩
              · rw [HR.out, HP.out, HMP.out, HL9.out]; rfl
              · have := HB9.out; have := HQO.out; simp; omega
              · have := HL9.out; have := HFU.out; omega
              · have := HFU.out; simp [lenV]; omega
          by_cases h5 : op = 5
          · subst h5
            have HL9 : Hid ((is ++ [(⟨x, Ax, cx⟩ : IV)]).length = q + 1) := by unfold Hid; have := HQ.out; simp; omega
            have HF := Lib.hid (ffail5_any g _ 2 w3 H3.out.1 (by omega) (by omega))
            have HBAD : Hid (nestP 5 o = .error 2 → ∀ W5, RfAt5 W5 g (.error 2) → Chg (fun k => k = g) w3 W5 → RBPost g s w (.returned (.slice A9 (q + 1) k9)) W5) := by
              intro hP W5 h2 hc
              obtain ⟨y1, y2, y3, y4, y5, y6, y7⟩ := H3.out
              refine ⟨_, (is ++ [(⟨x, Ax, cx⟩ : IV)]), .error 2, rfl, h2, (y2.chg hc (fun k _ hk e => by have := hk.1; omega) (fun k hk e => by have := owns_ge y2.1 hk; omega)).mono (fun k _ hk => ⟨hk.1, hk.2.2⟩) (fun k hk e => e.2 hk), ?_, y4.trans hc fun k _ e => e, ?_⟩
              · rw [HR.out, hP]; rfl
              · have := HL9.out; have := HFU.out; omega
            rcases last_of o with ho | ⟨p, z, ho⟩
            · have HP : Hid (nestP 5 o = .error 2) := by unfold Hid; rw [ho]; rfl
              have hqz : qo = 0 := by have := HQO.out; rw [ho] at this; simpa using this.symm
              subst hqz
              clear ho
              go_wp2_with fail
              refine HF.out.mono ?_
              simp only [failS]
              rintro e w5 ⟨⟨u5, rfl⟩, h2, hc⟩
              have HC := Lib.hid (And.intro h2 hc)
              clear h2 hc
              go_wp2
              go_ret
              exact HBAD.out HP.out _ HC.out.1 HC.out.2
            · have hlo : qo = p.length + 1 := by have := HQO.out; rw [ho] at this; simpa using this.symm
              obtain ⟨b4, k4, hov, hgb, hbw, hk4, hkm4, hcell⟩ := H3.out.2.2.1.spot (by have := HQO.out; omega)
              obtain ⟨cz, fz⟩ := hcell p.length (by have := HQO.out; omega)
              have hgz : o.getD p.length 0 = z := by rw [ho]; exact last_get p z
              rw [hgz] at cz
              injection hov with ha1 ha2 ha3
              have HO := Lib.hid ho
              have HHB := Lib.hid (And.intro hgb hbw)
              have HQP : Hid (o.length = p.length + 1) := by unfold Hid; have := HQO.out; omega
              subst ha1 ha3
              clear hcell hgz ho hk4 hkm4 ha2
              have hsub : ((qo : Nat) : Int) - 1 = p.length := by omega
              have hidx : wrap64 (((qo : Nat) : Int) - 1) = p.length := by have := HO5.out; unfold wrap64; omega
              have hqn : ((qo : Int) == 0) = false := by simp; omega
              have hqlt : p.length < qo := by omega
              have hp32 : p.length ≤ 32 := by have := HO5.out; omega
              generalize hpl : p.length = pl at *
              have HPL := Lib.hid hpl
              clear hpl
              by_cases hz : z = 4
              · subst hz
                have HP : Hid (nestP 5 o = .ok (p ++ [5], false)) := by unfold Hid; rw [HO.out]; unfold nestP; simp
                subst hlo
                go_wp2
                obtain ⟨y1, y2, y3, y4, y5, y6, y7⟩ := H3.out
                have hc := chgSet w3 b4 pl (.int .i64 5)
                have hst : OwnI w3 w.heap.size (.slice (some ⟨b4, 0, none⟩) o.length k2) o := by rw [HQP.out]; exact y3
                have h5s := hst.store pl 5
                rw [show o.set pl 5 = p ++ [5] from by rw [HO.out, ← HPL.out]; exact set_last p 4 5, HQP.out] at h5s
                refine ⟨⟨(is ++ [(⟨x, Ax, cx⟩ : IV)]), .ok l2, p ++ [5], y1.chg hc (fun k hk e => by have := HHB.out.1; omega), y2.chg hc (fun k _ hk e => hk.2.1 (by subst e; rfl)) (fun k hk e => y6 k (by subst e; rfl) hk), h5s, ?_, (fun l h => by have := HPL.out; have := HO5.out; simp; omega), y4.trans hc fun k hk e => by have := HHB.out.1; omega, ?_⟩, ?_⟩
                · rw [HR.out, HP.out, HMP.out, HL9.out]; rfl
                · have := HL9.out; have := HFU.out; omega
                · have := HFU.out; simp [lenV]; omega
              · have HP : Hid (nestP 5 o = .error 2) := by unfold Hid; rw [HO.out]; unfold nestP; simp [hz]
                have hne : (z != 4) = true := by simpa using hz
                clear hz
                subst hlo
                go_wp2_with fail
                refine HF.out.mono ?_
                simp only [failS]
                rintro e w5 ⟨⟨u5, rfl⟩, h2, hc⟩
                have HC := Lib.hid (And.intro h2 hc)
                clear h2 hc
                go_wp2
                go_ret
                exact HBAD.out HP.out _ HC.out.1 HC.out.2
          by_cases h11 : op = 11
          · subst h11
            have HL9 : Hid ((is ++ [(⟨x, Ax, cx⟩ : IV)]).length = q + 1) := by unfold Hid; have := HQ.out; simp; omega
            rcases last_of o with ho | ⟨p, z, ho⟩
            · have HP : Hid (nestP 11 o = .ok ([], true)) := by unfold Hid; rw [ho]; rfl
              have hqz : qo = 0 := by have := HQO.out; rw [ho] at this; simpa using this.symm
              subst hqz
              clear ho
              go_wp2
              go_ret
              obtain ⟨y1, y2, y3, y4, y5, y6, y7⟩ := H3.out
              refine ⟨_, (is ++ [(⟨x, Ax, cx⟩ : IV)]), .ok l2, rfl, y1, y2.mono (fun k _ hk => ⟨hk.1, hk.2.2⟩) (fun k hk e => e.2 hk), ?_, y4, ?_⟩
              · rw [HR.out, HP.out, HMP.out]; rfl
              · have := HL9.out; have := HFU.out; omega
            · have hlo : qo = p.length + 1 := by have := HQO.out; rw [ho] at this; simpa using this.symm
              obtain ⟨b4, k4, hov, hgb, hbw, hk4, hkm4, hcell⟩ := H3.out.2.2.1.spot (by have := HQO.out; omega)
              injection hov with ha1 ha2 ha3
              have HP : Hid (nestP 11 o = .ok (p, false)) := by unfold Hid; rw [ho]; unfold nestP; simp
              have HQP : Hid (o.length = p.length + 1) := by unfold Hid; have := HQO.out; omega
              have HO := Lib.hid ho
              subst ha1 ha3
              have hcut := cutI_h b4 (p.length + 1) k2 p.length p.length rfl (by omega) (by omega)
              have hidx : wrap64 (((p.length + 1 : Nat) : Int) - 1) = p.length := by have := HO5.out; unfold wrap64; omega
              have hqn : (((p.length + 1 : Nat) : Int) == 0) = false := by simp; omega
              have hp32 : p.length ≤ 32 := by have := HO5.out; omega
              subst hlo
              clear hcell ho hk4 hkm4 ha2
              generalize hpl : p.length = pl at *
              have HPL := Lib.hid hpl
              clear hpl
              go_wp2
              obtain ⟨y1, y2, y3, y4, y5, y6, y7⟩ := H3.out
              have hpop : OwnI w3 w.heap.size (.slice (some ⟨b4, 0, none⟩) pl k2) p := by
                have h0 : OwnI w3 w.heap.size (.slice (some ⟨b4, 0, none⟩) (p ++ [z]).length k2) (p ++ [z]) := by
                  have := y3
                  rw [HO.out] at this
                  rw [List.length_append, HPL.out]; exact this
                have := h0.pop
                rwa [HPL.out] at this
              refine ⟨⟨(is ++ [(⟨x, Ax, cx⟩ : IV)]), .ok l2, p, y1, y2, hpop, ?_, (fun l h => by have := HPL.out; omega), y4, ?_⟩, ?_⟩
              · rw [HR.out, HP.out, HMP.out, HL9.out]; rfl
              · have := HL9.out; have := HFU.out; omega
              · have := HFU.out; simp [lenV]; omega
          have e5 : (op == 5) = false := by simpa using h5
          have e11 : (op == 11) = false := by simpa using h11
          have HP : Hid (nestP op o = .ok (o, false)) := by unfold Hid nestP; rw [if_neg h24, if_neg h5, if_neg h11]
          have HH9 : Hid (RfAt5 w3 g (.ok l2) ∧ OwnN (fun k => w.heap.size ≤ k ∧ (Value.slice A2 qo k2).ownBlock ≠ some k ∧ (Value.slice A9 (q + 1) k9).ownBlock ≠ some k) w3 w.heap.size (.slice A9 (q + 1) k9) (is ++ [⟨x, Ax, cx⟩]) ∧ OwnI w3 w.heap.size (.slice A2 qo k2) o ∧ bd s (pBody 600 [] []) = bd (.ok l2) (pBody (600 - (is ++ [(⟨x, Ax, cx⟩ : IV)]).length) o ((is ++ [(⟨x, Ax, cx⟩ : IV)]).map IV.x)) ∧ (∀ l, (.ok l2 : St) = .ok l → o.length ≤ 32) ∧ Chg (fun k => k = g) w w3 ∧ (is ++ [(⟨x, Ax, cx⟩ : IV)]).length ≤ 600) := by
            obtain ⟨y1, y2, y3, y4, y5, y6, y7⟩ := H3.out
            refine ⟨y1, y2, y3, ?_, fun _ _ => by rw [HQO.out]; exact HO5.out, y4, by have := HQ.out; have := HFU.out; simp; omega⟩
            rw [HR.out, HP.out, HMP.out, List.length_append, HQ.out]; rfl
          have hrange : ¬ (2 : Int) ≤ op ∨ ¬ op ≤ 4 := by omega
          clear h24 h5 h11
          rcases hrange with hr | hr
          all_goals
            go_wp2
            refine ⟨⟨_, _, _, HH9.out⟩, ?_⟩
            have := HFU.out
            simp [lenV]
            omega
        · have hnb : (ee != 0) = true := by simpa using hne
          have HS := Lib.hid hs
          clear hne hs
          go_wp2_with fail
          go_ret
          obtain ⟨x1, x2, x3, x4, x5, x6, x7⟩ := HX.out
          obtain ⟨y1, y2, y3, y4, y5, y6⟩ := HB.out
          refine ⟨_, is, .error ee, rfl, by rw [← HS.out]; exact y1, y2.mono (fun k _ hk => ⟨hk.1, hk.2.2⟩) (fun k hk e => e.2 hk), ?_, y4, by rw [HQ.out]; exact x7⟩
          rw [x4, show 600 - q = 600 - (q + 1) + 1 from by have := HFU.out; omega, body_no HS.out]
          rfl
end Go.Proofs.Ytdbbcbffmbcjiaa

/- The document's Body: which body bytes are, and how many of them. -/
namespace Go.Proofs.Ytdbbcbffmbcjiaa
open Go.RowKit
set_option maxRecDepth 100000
set_option linter.unusedVariables false

theorem code_ok {b : List Int} {s' : St} {is : List IV} (h : bd (.ok b) (pBody 600 [] []) = bd s' (fun l => .ok (is.map IV.x, l))) : pCode b = bd s' (fun l => .ok (is.map IV.x, l)) := h
set_option maxHeartbeats 4000000 in
theorem rtake_any (A : Option Addr) (b : List Int) (n c : Nat) (w : World) (h : Rd w w.heap.size A b) (hn : n = b.length) (hl : n ≤ 1000000) (hc : n ≤ c) (hcm : c ≤ maxLen) :
    Calls Try.prog 10 #[.slice A n c] w (TkPost b w) := by
  have HR : Hid (RfAt5 (w.alloc (.cells #[.slice A n c, .int .i64 0] 58)) w.heap.size (.ok b)) := by
    have hb := (Below.refl w.heap.size w).alloc (Nat.le_refl _) (.cells #[.slice A n c, .int .i64 0] 58)
    refine ⟨A, c, ?_, ?_, by omega, hcm, by omega⟩
    · rw [← hn]; exact Own.new w _ _
    · exact h.rx.later hb
  have HN := Lib.hid hn
  clear h hn hcm hc
  go_enter Try.func10, Try.ntmps10
  go_wp2_with fail
  refine (rbody_any w.heap.size _ _ HR.out).mono ?_
  rintro e w1 ⟨v, is, s', rfl, h1, h2, h3, h4, h5⟩
  obtain ⟨A1, k1, rfl, -, -, -⟩ := RdV.of_own h2.1
  have hw1 := h4.size
  simp at hw1
  have HB : Hid (Below w.heap.size w w1) := by
    have hb := (Below.refl w.heap.size w).alloc (Nat.le_refl _) (.cells #[.slice A n c, .int .i64 0] 58)
    exact hb.trans (h4.below (by simp) fun i hi e => by omega)
  have H5 := Lib.hid (code_ok h3)
  have H2 := Lib.hid (And.intro h2 h5)
  have H1 := Lib.hid h1
  clear h2 h3 h4 h5 HR
  generalize hg : w.heap.size = g at *
  have HG := Lib.hid hg
  clear hg
  cases s' with
  | error x =>
    obtain ⟨Ar, nr, cr, hO, hx, hx2, hnr⟩ := h1
    obtain ⟨c0, c1, f0, f1⟩ := own_cells2 hO
    have hxe : (x != 0) = true := by simp; omega
    clear hO
    generalize is.length = q at *
    go_wp2
    go_region
    go_wp2
    go_ret3
    refine ⟨_, [], by rw [H5.out]; rfl, OwnN.nil _ _ _, by rw [H5.out]; rfl, ?_, by simp⟩
    rw [HG.out]
    exact HB.out.drew
  | ok l2 =>
    obtain ⟨Ar, cr, hO, hr, hlc, hcm, hlm⟩ := h1
    obtain ⟨c0, c1, f0, f1⟩ := own_cells2 hO
    clear hO hr hlc hcm
    generalize hq : is.length = q at *
    have HQ := Lib.hid hq
    clear hq
    generalize hql : l2.length = ql at *
    have HQL := Lib.hid hql
    clear hql
    have hw : wrap64 ((n : Int) - ql) = (n : Int) - ql := by unfold wrap64; omega
    go_wp2
    go_region
    go_wp2
    go_ret3
    have hO := H2.out.1
    refine ⟨_, is, by rw [H5.out, HN.out, ← HQL.out]; rfl, ?_, by rw [H5.out]; rfl, ?_, by rw [HQ.out]; exact H2.out.2⟩
    · have hb : Below w1.heap.size w1 w1.drew := (Below.refl _ _).drew
      have := hO.later hb
      refine ⟨owns_base this.1 (by simp), fun i hi => ⟨(this.2.1 i hi).1.mono fun k _ hk => ⟨Nat.le_trans (by simp) hk.1, hk.2⟩, (this.2.1 i hi).2⟩, fun k hk e => e.2 hk⟩
    · rw [HG.out]
      exact HB.out.drew
end Go.Proofs.Ytdbbcbffmbcjiaa

/- The document's SameInstr, SameBody. (Written by gen_RefSame.py.) -/
namespace Go.Proofs.Ytdbbcbffmbcjiaa
open Go.RowKit
set_option maxRecDepth 100000
set_option linter.unusedVariables false

set_option maxHeartbeats 4000000 in
theorem rsameIns_any {X Y : Nat → Prop} (x y : Ins) (A B : Option Addr) (c d : Nat) (w : World) (hx : LabX X w x A c) (hy : LabX Y w y B d) (ox : InsOk x) (oy : InsOk y) :
    Calls Try.prog 23 #[insV x A c, insV y B d] w fun e w' => e = .returned (.bool (decide (x = y))) ∧ Below w.heap.size w w' := by
  obtain ⟨xo, xa, xb, xn, xl, xt⟩ := x
  obtain ⟨yo, ya, yb, yn, yl, yt⟩ := y
  have HX := Lib.hid (And.intro (hx.rdQ ox.l) ox.m)
  have HY := Lib.hid (And.intro (hy.rdQ oy.l) oy.m)
  have HB := Lib.hid (below_two w (.cells #[.int .i64 xo, .int .u32 xa, .int .u32 xb, .int .u64 xn, .slice A xl.length c, .int .i64 xt] 43) (.cells #[.int .i64 yo, .int .u32 ya, .int .u32 yb, .int .u64 yn, .slice B yl.length d, .int .i64 yt] 43))
  clear hx hy ox oy
  have hd := ins_diff ⟨xo, xa, xb, xn, xl, xt⟩ ⟨yo, ya, yb, yn, yl, yt⟩
  simp only [] at hd
  unfold insV
  simp only []
  have HEQ : Hid (∀ P : Prop, ¬ P → ((⟨xo, xa, xb, xn, xl, xt⟩ : Ins) = ⟨yo, ya, yb, yn, yl, yt⟩ → P) → decide ((⟨xo, xa, xb, xn, xl, xt⟩ : Ins) = ⟨yo, ya, yb, yn, yl, yt⟩) = false) := fun P hn h => by simp only [decide_eq_false_iff_not]; exact fun e => hn (h e)
  rcases hd with h1 | ⟨h1, h2⟩ | ⟨h1, h2, h3⟩ | ⟨h1, h2, h3, h4⟩ | ⟨h1, h2, h3, h4⟩
  · have e2 : (xo != yo) = true := by simpa using h1
    have HD := Lib.hid (HEQ.out _ h1 (fun e => congrArg Ins.op e))
    clear h1 HX HY
    generalize xl.length = lx at *
    generalize yl.length = ly at *
    go_enter Try.func23, Try.ntmps23
    go_wp2
    go_ret
    exact ⟨by rw [HD.out]; rfl, HB.out⟩
  · have e2 : (xa != ya) = true := by simpa using h2
    have HD := Lib.hid (HEQ.out _ h2 (fun e => congrArg Ins.a e))
    subst h1
    clear h2 HX HY
    generalize xl.length = lx at *
    generalize yl.length = ly at *
    go_enter Try.func23, Try.ntmps23
    go_wp2
    go_ret
    exact ⟨by rw [HD.out]; rfl, HB.out⟩
  · have e2 : (xb != yb) = true := by simpa using h3
    have HD := Lib.hid (HEQ.out _ h3 (fun e => congrArg Ins.b e))
    subst h1 h2
    clear h3 HX HY
    generalize xl.length = lx at *
    generalize yl.length = ly at *
    go_enter Try.func23, Try.ntmps23
    go_wp2
    go_ret
    exact ⟨by rw [HD.out]; rfl, HB.out⟩
  · have e2 : (xn != yn) = true := by simpa using h4
    have HD := Lib.hid (HEQ.out _ h4 (fun e => congrArg Ins.n e))
    subst h1 h2 h3
    clear h4 HX HY
    generalize xl.length = lx at *
    generalize yl.length = ly at *
    go_enter Try.func23, Try.ntmps23
    go_wp2
    go_ret
    exact ⟨by rw [HD.out]; rfl, HB.out⟩
  · subst h1 h2 h3 h4
    have e1 : (xo != xo) = false := by simp
    have e2 : (xa != xa) = false := by simp
    have e3 : (xb != xb) = false := by simp
    have e4 : (xn != xn) = false := by simp
    by_cases ht : xt = yt
    · subst ht
      have e5 : (xt != xt) = false := by simp
      have hxm := HX.out.2
      have hym := HY.out.2
      simp only [] at hxm hym
      generalize hlx : xl.length = n at *
      have HN := Lib.hid hlx
      generalize hly : yl.length = m at *
      have HM := Lib.hid hly
      clear hlx hly
      have HW : Hid (∀ W, (w.alloc (.cells #[.int .i64 xo, .int .u32 xa, .int .u32 xb, .int .u64 xn, .slice A n c, .int .i64 xt] 43)).alloc (.cells #[.int .i64 xo, .int .u32 xa, .int .u32 xb, .int .u64 xn, .slice B m d, .int .i64 xt] 43) = W → W.cell? ⟨w.heap.size, 4, none⟩ = some (.slice A n c) ∧ W.cell? ⟨w.heap.size + 1, 4, none⟩ = some (.slice B m d) ∧ RdQ X W A xl ∧ RdQ Y W B yl ∧ Below w.heap.size w W) := by
        rintro W rfl
        have o1 := (Own.new w 43 [.int .i64 xo, .int .u32 xa, .int .u32 xb, .int .u64 xn, .slice A n c, .int .i64 xt]).later ((Below.refl _ _).alloc (Nat.le_refl _) (.cells #[.int .i64 xo, .int .u32 xa, .int .u32 xb, .int .u64 xn, .slice B m d, .int .i64 xt] 43))
        have o2 := Own.new (w.alloc (.cells #[.int .i64 xo, .int .u32 xa, .int .u32 xb, .int .u64 xn, .slice A n c, .int .i64 xt] 43)) 43 [.int .i64 xo, .int .u32 xa, .int .u32 xb, .int .u64 xn, .slice B m d, .int .i64 xt]
        refine ⟨o1.cell 4, ?_, HX.out.1.later HB.out, HY.out.1.later HB.out, HB.out⟩
        have := o2.cell 4
        rwa [show (w.alloc (.cells #[.int .i64 xo, .int .u32 xa, .int .u32 xb, .int .u64 xn, .slice A n c, .int .i64 xt] 43)).heap.size = w.heap.size + 1 from by simp] at this
      by_cases hl : n = m
      · subst hl
        clear HB HX HY
        go_enter Try.func23, Try.ntmps23
        go_upto_region 3 with fail
        have H5 := Lib.hid (HW.out _ rfl)
        generalize (w.alloc (.cells #[.int .i64 xo, .int .u32 xa, .int .u32 xb, .int .u64 xn, .slice A n c, .int .i64 xt] 43)).alloc (.cells #[.int .i64 xo, .int .u32 xa, .int .u32 xb, .int .u64 xn, .slice B n d, .int .i64 xt] 43) = W at *
        generalize hgg : w.heap.size = g at *
        have HG := Lib.hid hgg
        clear hgg
        obtain ⟨q1, q2, -, -, -⟩ := H5.out
        go_wp2
        go_loopw [5] (fun i wr => ∃ (k j : Nat), k ≤ n ∧ i = .int .i64 k ∧ Hid (xl.take k = yl.take k) ∧ wr = W.drewN j) (fun i _ => n - (intOf i).toNat)
        case atStart => exact ⟨0, 0, by omega, rfl, rfl, rfl⟩
        case round =>
          obtain ⟨k, j, hk, rfl, HZ, rfl⟩ := hrel
          by_cases hlt : k < n
          · have hlt2 : (k : Int) < n := by omega
            have hka : k < xl.length := by rw [HN.out]; exact hlt
            have hkb : k < yl.length := by rw [HM.out]; exact hlt
            obtain ⟨ba, oa, rfl, hca, x0, x1⟩ := H5.out.2.2.1.at_ hka
            obtain ⟨bb, ob, rfl, hcb, y0, y1⟩ := H5.out.2.2.2.1.at_ hkb
            have HS := Lib.hid (fun he => take_eq_step6 (by rw [HN.out, HM.out]) hka HZ.out he)
            have HNN := Lib.hid (fun (h : xl.getD k 0 ≠ yl.getD k 0) => getD_ne6 hka h)
            generalize xl.getD k 0 = x at *
            generalize yl.getD k 0 = y at *
            clear hka hkb
            by_cases hxy : x = y
            · subst hxy
              have HS2 := Lib.hid (HS.out rfl)
              have hne : (x != x) = false := by simp
              clear HS HNN
              go_wp2
              go_quiet (fail)
              go_wp2
              refine ⟨⟨k + 1, j + nq, by omega, by go_num, HS2, rfl⟩, ?_⟩
              simp [intOf]; omega
            · have hne : (x != y) = true := by simpa using hxy
              have HN2 := Lib.hid (HNN.out hxy)
              clear HS HNN hxy
              go_wp2
              go_quiet (fail)
              go_wp2
              go_ret
              have hdd : decide ((⟨xo, xa, xb, xn, xl, xt⟩ : Ins) = ⟨xo, xa, xb, xn, yl, xt⟩) = false := by simp [HN2.out]
              exact ⟨by rw [hdd]; rfl, by rw [HG.out]; simpa using below_dn H5.out.2.2.2.2 (j + nq)⟩
          · obtain rfl : k = n := by omega
            go_wp2
            go_ret
            have := HZ.out
            rw [List.take_of_length_le (by rw [HN.out]; omega), List.take_of_length_le (by rw [HM.out]; omega)] at this
            exact ⟨by simp [this], by rw [HG.out]; exact below_dn H5.out.2.2.2.2 j⟩
      · have hnm : ((n : Int) != m) = true := by simp; omega
        have HD := Lib.hid (HEQ.out (xl = yl) (fun e => by have := HN.out; have := HM.out; rw [e] at *; omega) (fun e => congrArg Ins.l e))
        clear hl HX HY HW HN HM
        go_enter Try.func23, Try.ntmps23
        go_wp2
        go_ret
        exact ⟨by rw [HD.out]; rfl, HB.out⟩
    · have e5 : (xt != yt) = true := by simpa using ht
      have HD := Lib.hid (HEQ.out _ ht (fun e => congrArg Ins.t e))
      clear ht HX HY
      generalize xl.length = lx at *
      generalize yl.length = ly at *
      go_enter Try.func23, Try.ntmps23
      go_wp2
      go_ret
      exact ⟨by rw [HD.out]; rfl, HB.out⟩
set_option maxHeartbeats 4000000 in
theorem rsame_any {X Y : Nat → Prop} (v u : Value) (is js : List IV) (w : World) (ha : RdN X w v is) (hb : RdN Y w u js) :
    Calls Try.prog 11 #[v, u] w fun e w' => e = .returned (.bool (decide (bodyX is = bodyX js))) ∧ Below w.heap.size w w' := by
  obtain ⟨A, c, rfl, hac, hcm, -⟩ := id ha
  obtain ⟨B, d, rfl, hbd, hdm, -⟩ := id hb
  have HA := Lib.hid ha
  have HB := Lib.hid hb
  clear ha hb
  have hnl : is.length ≤ maxLen := Nat.le_trans hac hcm
  have hml : js.length ≤ maxLen := Nat.le_trans hbd hdm
  unfold maxLen at hnl hml
  clear hac hcm hbd hdm
  generalize hq : is.length = n at *
  have HQ := Lib.hid hq
  generalize hm : js.length = m at *
  have HM := Lib.hid hm
  clear hq hm
  by_cases hl : n = m
  · subst hl
    go_enter Try.func11, Try.ntmps11
    go_wp2
    go_loopw [5] (fun i wr => ∃ (k : Nat), k ≤ n ∧ i = .int .i64 k ∧ Hid ((bodyX is).take k = (bodyX js).take k ∧ Below w.heap.size w wr)) (fun i _ => n - (intOf i).toNat)
    case atStart => exact ⟨0, by omega, rfl, by simp, Below.refl _ _⟩
    case round =>
      obtain ⟨k, hk, rfl, HX⟩ := hrel
      by_cases hlt : k < n
      · have hlt2 : (k : Int) < n := by omega
        obtain ⟨i, hi, hi2, him⟩ := bodyX_get (is := is) (k := k) (by rw [HQ.out]; exact hlt)
        obtain ⟨j, hj, hj2, hjm⟩ := bodyX_get (is := js) (k := k) (by rw [HM.out]; exact hlt)
        have hra := HA.out.later HX.out.2
        have hrb := HB.out.later HX.out.2
        obtain ⟨ba, oa, rfl, -, hba, a0, a1, a2, a3, a4, a5⟩ := hra.at_ hi
        obtain ⟨bb, ob, rfl, -, hbb, b0, b1, b2, b3, b4, b5⟩ := hrb.at_ hj
        have HI : Hid (∀ W, Below wr.heap.size wr W → Calls Try.prog 23 #[.agg #[.int .i64 i.x.op, .int .u32 i.x.a, .int .u32 i.x.b, .int .u64 i.x.n, .slice i.A i.x.l.length i.c, .int .i64 i.x.t], .agg #[.int .i64 j.x.op, .int .u32 j.x.a, .int .u32 j.x.b, .int .u64 j.x.n, .slice j.A j.x.l.length j.c, .int .i64 j.x.t]] W fun e w' => e = .returned (.bool (decide (i.x = j.x))) ∧ Below W.heap.size W w') := by
          intro W hb
          obtain ⟨_, _, _, _, _, _, p5⟩ := hra
          obtain ⟨_, _, _, _, _, _, q5⟩ := hrb
          exact rsameIns_any i.x j.x i.A j.A i.c j.c W ((p5 i him).1.later hb) ((q5 j hjm).1.later hb) (p5 i him).2 (q5 j hjm).2
        have HS := Lib.hid (And.intro hi2 hj2)
        have hwb := HX.out.2.size
        have HWB := Lib.hid hwb
        clear hra hrb hi hj hi2 hj2 him hjm hwb
        by_cases hxy : i.x = j.x
        · have HS2 := Lib.hid (body_eq_step HX.out.1 HS.out.1 HS.out.2 hxy)
          have hde : decide (i.x = j.x) = true := by simpa using hxy
          rw [hde] at HI
          clear hxy hde
          go_wp2
          go_region_with (go_at_call 23; refine (HI.out _ (Below.refl _ _).drew).mono ?_; rintro e w2 ⟨rfl, hb2⟩; have HB2 : Hid (Below w.heap.size w w2) := HX.out.2.trans ((((Below.refl wr.heap.size wr).drew).trans hb2).mono HWB.out); clear hb2)
          all_goals
            go_wp2
            refine ⟨⟨k + 1, by omega, by go_num, HS2.out, HB2.out⟩, ?_⟩
            simp [intOf]; omega
        · have HN2 := Lib.hid (body_ne HS.out.1 HS.out.2 hxy)
          have hde : decide (i.x = j.x) = false := by simpa using hxy
          rw [hde] at HI
          clear hxy hde
          go_wp2
          go_region_with (go_at_call 23; refine (HI.out _ (Below.refl _ _).drew).mono ?_; rintro e w2 ⟨rfl, hb2⟩; have HB2 : Hid (Below w.heap.size w w2) := HX.out.2.trans ((((Below.refl wr.heap.size wr).drew).trans hb2).mono HWB.out); clear hb2)
          all_goals
            go_wp2
            go_ret
            exact ⟨by simp [HN2.out], HB2.out⟩
      · obtain rfl : k = n := by omega
        go_wp2
        go_ret
        refine ⟨?_, HX.out.2⟩
        have := HX.out.1
        rw [List.take_of_length_le (by rw [bodyX_len, HQ.out]; omega), List.take_of_length_le (by rw [bodyX_len, HM.out]; omega)] at this
        simp [this]
  · have hne : ((n : Int) != m) = true := by simp; omega
    have HNE : Hid (bodyX is ≠ bodyX js) := fun e => by
      have h1 := bodyX_len is
      have h2 := bodyX_len js
      have := HQ.out; have := HM.out
      rw [e] at h1; omega
    clear hl
    go_enter Try.func11, Try.ntmps11
    go_wp2
    go_ret
    exact ⟨by simp [HNE.out], Below.refl _ _⟩
end Go.Proofs.Ytdbbcbffmbcjiaa

/- Rows that are made of one value. -/
namespace Go.Proofs.Ytdbbcbffmbcjiaa
open Go.RowKit
set_option maxRecDepth 100000
set_option linter.unusedVariables false

theorem made_one (v : Value) (n : Nat) : madeCells #[v] n = Array.replicate n v := by
  apply Array.ext
  · simp [madeCells]
  · intro i h1 h2
    simp [madeCells, Nat.mod_one]

end Go.Proofs.Ytdbbcbffmbcjiaa
