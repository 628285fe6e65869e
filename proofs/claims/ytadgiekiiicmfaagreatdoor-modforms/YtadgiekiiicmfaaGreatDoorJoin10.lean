/- Texts joined: CodeTake, TypesTake2, TypesTake3. -/
import Derived.Test.YtadgiekiiicmfaaGreatDoorJoin9
import Derived.Test.YtadgiekiiicmfaaGreatDoorJoin8
/- code.Take: which body bytes are. (Written by gen_CodeTake.py.) -/
namespace Go.Proofs.YtadgiekiiicmfaaGreatDoor
open Go.RowKit
set_option maxRecDepth 100000
set_option linter.unusedVariables false

def tkL (r : Except Int (List Ins × List Int)) : List Ins := match r with
  | .ok q => q.1
  | .error _ => []
def tkN (b : List Int) (r : Except Int (List Ins × List Int)) : Int := match r with
  | .ok q => (b.length : Int) - q.2.length
  | .error _ => 0
def tkE (r : Except Int (List Ins × List Int)) : Int := match r with
  | .ok _ => 0
  | .error e => e
def TkPost (b : List Int) (w : World) (e : Ending) (w' : World) : Prop :=
  ∃ v is, e = .returned (.tuple #[v, .int .i64 (tkN b (pCode b)), .int .i64 (tkE (pCode b))]) ∧ OwnN (fun k => w.heap.size ≤ k ∧ v.ownBlock ≠ some k) w' w.heap.size v is ∧ is.map IV.x = tkL (pCode b) ∧ Below w.heap.size w w' ∧ is.length ≤ 600
theorem RdrAt.err6 {w : World} {g : Nat} {t : TypeId} {tl : RTl} {s : St} (h : RdrAt w g t tl s) : ∀ e, s = .error e → 0 < e := fun e he => by subst he; exact h.2.1
theorem cnew_any (A : Option Addr) (n c : Nat) (w : World) : Calls Tryz.prog 59 #[.slice A n c] w fun e w' => e = .returned (.agg #[.slice A n c, .int .i64 0, .int .i64 0]) ∧ Below w.heap.size w w' := by
  go_enter Tryz.func59, Tryz.ntmps59
  go_wp2
  go_returns
  exact ⟨rfl, (Below.refl _ _).alloc (Nat.le_refl _) _⟩
def lenV : Value → Nat
  | .slice _ n _ => n
  | _ => 0
theorem nest_len {op : Int} {o : List Int} {r : List Int × Bool} (h : nestP op o = .ok r) (ho : o.length ≤ 32) : r.1.length ≤ 32 := by
  unfold nestP at h
  split at h
  · split at h
    · cases h
    · injection h with h; subst h; simp; omega
  · split at h
    · split at h
      · rename_i h1
        injection h with h; subst h
        have : o ≠ [] := by rintro rfl; simp at h1
        have : 0 < o.length := List.length_pos_iff.2 this
        simp; omega
      · cases h
    · split at h
      · split at h
        · injection h with h; subst h; simp
        · injection h with h; subst h; simp; omega
      · injection h with h; subst h; exact ho
theorem body_step {s : St} {k : Nat} {o : List Int} {acc : List Ins} {x : Ins} {o' : List Int} {over' : Bool} (h : ∀ r l', bd s (pSt o) = .ok (r, l') → r = (x, o', over')) :
    bd s (pBody (k + 1) o acc) = if over' then bd (nx (pSt o) s) (fun l => .ok (acc ++ [x], l)) else bd (nx (pSt o) s) (pBody k o' (acc ++ [x])) := by
  cases s with
  | error e => cases over' <;> rfl
  | ok l =>
    simp only [bd_ok, nx_ok, pBody, seq] at h ⊢
    cases hp : pSt o l with
    | error e => cases over' <;> rfl
    | ok r =>
      have := h r.1 r.2 (by rw [hp])
      simp only [bd_ok, this]
      cases over' <;> rfl
theorem step_len {s : St} {o : List Int} {x : Ins} {o' : List Int} {over' : Bool} (h : ∀ r l', bd s (pSt o) = .ok (r, l') → r = (x, o', over')) (ho : o.length ≤ 32) : ∀ l, nx (pSt o) s = .ok l → o'.length ≤ 32 := by
  intro l hl
  cases s with
  | error e => cases hl
  | ok b =>
    simp only [bd_ok, nx_ok] at h hl
    cases hp : pSt o b with
    | error e => rw [hp] at hl; cases hl
    | ok r =>
      have e := h r.1 r.2 (by rw [hp])
      simp only [pSt, seq] at hp
      cases hq : pIn b with
      | error e => rw [hq] at hp; cases hp
      | ok q =>
        rw [hq] at hp
        simp only [bd_ok] at hp
        cases hz : nestP q.1.op o with
        | error e => rw [hz] at hp; cases hp
        | ok z =>
          rw [hz] at hp
          simp only [bd_ok] at hp
          injection hp with hp
          have h1 := congrArg (fun t => t.1.2.1) hp
          simp only [e] at h1
          rw [← h1]
          exact nest_len hz ho

set_option maxHeartbeats 4000000 in
theorem ctake_any (A : Option Addr) (b : List Int) (n c : Nat) (w : World) (h : Rd w w.heap.size A b) (hn : n = b.length) (hl : n ≤ 1000000) (hc : n ≤ c) (hcm : c ≤ maxLen) :
    Calls Tryz.prog 165 #[.slice A n c] w (TkPost b w) := by
  have HR := Lib.hid h
  have HN := Lib.hid hn
  clear h hn
  go_enter Tryz.func165, Tryz.ntmps165
  go_wp2_with fail
  refine (cnew_any A n c _).mono ?_
  rintro e w1 ⟨rfl, hb1⟩
  have HT0 : Hid (NsAt (w1.alloc (.cells #[.slice A n c, .int .i64 0, .int .i64 0, .slice none 0 0, .bool false] 224)) w1.heap.size n (.ok b) (.slice none 0 0) [] false ∧ Below w.heap.size w (w1.alloc (.cells #[.slice A n c, .int .i64 0, .int .i64 0, .slice none 0 0, .bool false] 224))) := by
    have hs := hb1.size
    have hR1 := (HR.out.rx.later hb1).mono (Y := (· < w1.heap.size)) fun k _ hk => by have : k < w.heap.size := hk; omega
    have hA := (Below.refl w1.heap.size w1).alloc (Nat.le_refl _) (.cells #[.slice A n c, .int .i64 0, .int .i64 0, .slice none 0 0, .bool false] 224)
    refine ⟨⟨⟨A, c, 0, ?_, ?_, by rw [← HN.out]; exact hc, hcm, by rw [← HN.out]; exact hl, by have := HN.out; simp only []; omega, by have := HN.out; simp only []; omega, by simp only []; omega⟩, OwnI.nil _ _, by simp⟩, hb1.trans (hA.mono (by omega))⟩
    · rw [← HN.out]
      exact Own.new w1 224 [.slice A n c, .int .i64 0, .int .i64 0, .slice none 0 0, .bool false]
    · exact hR1.later hA
  have hwg := hb1.size
  clear hb1 hc hcm
  go_wp2_with fail
  generalize w1.alloc (.cells #[.slice A n c, .int .i64 0, .int .i64 0, .slice none 0 0, .bool false] 224) = W1 at *
  generalize w1.heap.size = g at *
  go_loopw [2] (fun v wr => ∃ (is : List IV) (sk : St) (ov : Value) (o : List Int) (over : Bool), Hid (NsAt wr g n sk ov o over ∧ OwnN (fun k => g < k ∧ ov.ownBlock ≠ some k ∧ v.ownBlock ≠ some k) wr (g + 1) v is ∧ pCode b = (if over then bd sk (fun l => .ok (is.map IV.x, l)) else bd sk (pBody (600 - is.length) o (is.map IV.x))) ∧ (∀ l, sk = .ok l → o.length ≤ 32) ∧ Below w.heap.size w wr ∧ is.length ≤ 600)) (fun v _ => 600 - lenV v)
  case atStart => exact ⟨[], _, _, _, _, HT0.out.1, OwnN.nil _ _ _, rfl, fun _ _ => by simp, HT0.out.2, by simp⟩
  case round =>
    obtain ⟨is, sk, ov, o, over, HX⟩ := hrel
    obtain ⟨Ar, nr, cr, rr, er, ho⟩ := HX.out.1.1.own
    obtain ⟨-, c4, -, f4⟩ := own_cells5 ho
    obtain ⟨A1, k1, rfl, hk1, hk2, -⟩ := RdV.of_own HX.out.2.1.1
    have hlen := HX.out.2.2.2.2.2
    have HFA := Lib.hid (rfailed_any g _ _ sk wr HX.out.1.1)
    clear ho hk1 hk2
    cases over with
    | true =>
      have HF : Hid (NsAt wr g n sk ov o true ∧ OwnN (fun k => g < k ∧ ov.ownBlock ≠ some k ∧ (Value.slice A1 is.length k1).ownBlock ≠ some k) wr (g + 1) (.slice A1 is.length k1) is ∧ pCode b = bd sk (fun l => .ok (is.map IV.x, l)) ∧ Below w.heap.size w wr ∧ is.length ≤ 600) := ⟨HX.out.1, HX.out.2.1, HX.out.2.2.1, HX.out.2.2.2.2.1, HX.out.2.2.2.2.2⟩
      clear HX HFA
      generalize hq : is.length = q at *
      have HQ := Lib.hid hq
      clear hq
      go_wp2_with fail
      refine (rstop_any g _ _ _ _ HF.out.1.1).mono ?_
      rintro e W2 ⟨rfl, hb2⟩
      have HB2 := Lib.hid hb2
      clear hb2
      rcases hsk : sk with x | l
      · have hx := HF.out.1.1.err6 x hsk
        have HS := Lib.hid hsk
        simp only [readS, errS]
        have hxne : (x != 0) = true := by simp; omega
        clear hx hsk
        go_wp2
        go_ret3
        have hE := HF.out.2.2.1
        rw [HS.out] at hE
        exact ⟨_, [], by rw [hE]; rfl, OwnN.nil _ _ _, by rw [hE]; rfl, HF.out.2.2.2.1.trans (HB2.out.mono HF.out.2.2.2.1.size), by simp⟩
      · have HS := Lib.hid hsk
        simp only [readS, errS]
        clear hsk
        go_wp2
        go_ret3
        have hE := HF.out.2.2.1
        rw [HS.out] at hE
        have hO := HF.out.2.1.later HB2.out
        refine ⟨_, is, by rw [hE, HN.out]; rfl, ⟨owns_base hO.1 (by omega), fun i hi => ⟨(hO.2.1 i hi).1.mono fun k _ hk => ⟨by have := hk.1; omega, hk.2.2⟩, (hO.2.1 i hi).2⟩, fun k hk e => e.2 hk⟩, by rw [hE]; rfl, HF.out.2.2.2.1.trans (HB2.out.mono HF.out.2.2.2.1.size), by rw [HQ.out]; exact HF.out.2.2.2.2⟩
    | false =>
      cases sk with
      | error x =>
        have HF : Hid (NsAt wr g n (.error x) ov o false ∧ OwnN (fun k => g < k ∧ ov.ownBlock ≠ some k ∧ (Value.slice A1 is.length k1).ownBlock ≠ some k) wr (g + 1) (.slice A1 is.length k1) is ∧ pCode b = bd (.error x) (fun l => .ok (is.map IV.x, l)) ∧ Below w.heap.size w wr ∧ is.length ≤ 600) := ⟨HX.out.1, HX.out.2.1, HX.out.2.2.1, HX.out.2.2.2.2.1, HX.out.2.2.2.2.2⟩
        clear HX
        generalize is.length = q at *
        go_wp2_with (go_at_call 155; refine HFA.out.mono ?_; simp only [failedS]; rintro e w' ⟨rfl, rfl⟩)
        refine (rstop_any g _ _ _ _ HF.out.1.1).mono ?_
        simp only [readS, errS]
        rintro e W2 ⟨rfl, hb2⟩
        have HB2 := Lib.hid hb2
        have hx := HF.out.1.1.err6 x rfl
        have hxne : (x != 0) = true := by simp; try omega
        clear hx hb2
        go_wp2
        go_ret3
        have hE := HF.out.2.2.1
        exact ⟨_, [], by rw [hE]; rfl, OwnN.nil _ _ _, by rw [hE]; rfl, HF.out.2.2.2.1.trans (HB2.out.mono HF.out.2.2.2.1.size), by simp⟩
      | ok lk =>
        by_cases hfull : is.length = 600
        · have HF0 := Lib.hid (rfail_any g _ _ _ 4 wr HX.out.1.1 (by omega) (by omega))
          generalize hq : is.length = q at *
          have HQ := Lib.hid hq
          clear hq
          subst hfull
          go_wp2_with (go_at_call 155; refine HFA.out.mono ?_; simp only [failedS]; rintro e w' ⟨rfl, rfl⟩)
          refine HF0.out.mono ?_
          simp only [failS]
          rintro e w2 ⟨⟨u, rfl⟩, h2, hc⟩
          have HF : Hid (NsAt w2 g n (.error 4) ov o false ∧ True ∧ pCode b = bd (.error 4) (fun l => .ok (is.map IV.x, l)) ∧ Below w.heap.size w w2 ∧ True) := by
            obtain ⟨x1, x2, x3, x4, x5, x6⟩ := HX.out
            refine ⟨⟨h2, x1.2.1.far hc, x1.2.2⟩, trivial, ?_, x5.trans (hc.below x5.size fun i hi e => by omega), trivial⟩
            rw [x3]
            rfl
          clear h2 hc HX HF0 HFA
          go_wp2_with fail
          refine (rstop_any g _ _ _ _ HF.out.1.1).mono ?_
          simp only [readS, errS]
          rintro e W2 ⟨rfl, hb2⟩
          have HB2 := Lib.hid hb2
          have hx := HF.out.1.1.err6 4 rfl
          have hxne : (4 != 0) = true := by simp; try omega
          clear hx hb2
          go_wp2
          go_ret3
          have hE := HF.out.2.2.1
          exact ⟨_, [], by rw [hE]; rfl, OwnN.nil _ _ _, by rw [hE]; rfl, HF.out.2.2.2.1.trans (HB2.out.mono HF.out.2.2.2.1.size), by simp⟩
        · have hfu : ((is.length : Int) == 600) = false := by simp; omega
          have HFU : Hid (is.length < 600) := by unfold Hid; omega
          clear hfull
          have HI := Lib.hid (cinstr_any g n _ ov o wr HX.out.1 (by have := HX.out.2.2.2.1 _ rfl; omega))
          have hgw := HX.out.1.1.lt
          have HLQ : Hid (∃ q, is.length = q) := ⟨_, rfl⟩
          generalize hq : is.length = q at *
          have HQ := Lib.hid hq
          clear hq
          go_wp2_with (go_at_call 155; refine HFA.out.mono ?_; simp only [failedS]; rintro e w' ⟨rfl, rfl⟩)
          refine HI.out.mono ?_
          rintro e w2 ⟨x, Ax, cx, ov', o', over', rfl, p1, p2, p3, p4, p5, p6⟩
          unfold insV
          have H3 : Hid (OwnN (fun k => g < k ∧ ov'.ownBlock ≠ some k ∧ (Value.slice A1 q k1).ownBlock ≠ some k) w2 (g + 1) (.slice A1 q k1) is ∧ LabX (fun k => g < k ∧ ov'.ownBlock ≠ some k ∧ (Value.slice A1 q k1).ownBlock ≠ some k) w2 x Ax cx) := by
            obtain ⟨x1, x2, x3, x4, x5, x6⟩ := HX.out
            refine ⟨?_, p1.mono fun k _ hk => ⟨by have := hk.1; omega, hk.2, fun e => by have := owns_lt x2.1 e; have := hk.1; omega⟩⟩
            have hm := x2.mono (Y := fun k => g < k ∧ ov.ownBlock ≠ some k ∧ ov'.ownBlock ≠ some k ∧ (Value.slice A1 q k1).ownBlock ≠ some k) (fun k hk hx => ⟨hx.1, hx.2.1, fun e => by
              rcases p6 k e with h | h
              · exact hx.2.1 h
              · omega, hx.2.2⟩) fun k hk e => e.2.2.2 hk
            refine (hm.chg p5 (fun k _ hk => by
              rintro (e | e)
              · have := hk.1; omega
              · exact hk.2.1 e) fun k hk => ?_).mono (fun k _ hk => ⟨hk.1, hk.2.2.1, hk.2.2.2⟩) fun k hk e => e.2.2 hk
            rintro (e | e)
            · have := owns_ge x2.1 hk; omega
            · exact owns_ne2 x2.1 x1.2.1 (by decide) hk e
          have H4 : Hid (NsAt w2 g n (nx (pSt o) (.ok lk)) ov' o' over' ∧ InsOk x ∧ pCode b = (if over' then bd (nx (pSt o) (.ok lk)) (fun l => .ok (is.map IV.x ++ [x], l)) else bd (nx (pSt o) (.ok lk)) (pBody (600 - (q + 1)) o' (is.map IV.x ++ [x]))) ∧ (∀ l, nx (pSt o) (.ok lk) = .ok l → o'.length ≤ 32) ∧ Below w.heap.size w w2 ∧ g < w2.heap.size) := by
            obtain ⟨x1, x2, x3, x4, x5, x6⟩ := HX.out
            refine ⟨p3, p2, ?_, step_len p4 (x4 _ rfl), x5.trans (p5.below x5.size fun i hi e => ?_), p3.1.lt⟩
            · rw [x3, ← body_step p4, show 600 - q = 600 - (q + 1) + 1 from by have := HFU.out; omega]
              rfl
            · rcases e with e | e
              · omega
              · have := owns_ge x1.2.1 e; omega
          have hlt2 := H4.out.2.2.2.2.2
          clear p1 p2 p3 p4 p5 p6 HX HFA HI HLQ
          go_wp2_with (at_builtin; refine wpList_appN1 rfl (.tmp 22) (.tmp 24) rfl (g + 1) (.slice A1 q k1) is rfl H3.out.1 ⟨x, Ax, cx⟩ H3.out.2 H4.out.2.1 rfl (by have := HQ.out; omega) (by omega) ?_; intro v1 w3 hv1 hw1; have HV := Lib.hid (And.intro hv1 hw1); clear hv1 hw1)
          obtain ⟨hv1, hw1⟩ := HV.out
          obtain ⟨y1, y2, y3, y4, y5, y6⟩ := H4.out
          obtain ⟨A9, k9, e9, -, -, -⟩ := RdV.of_own hv1.1
          have hvb := fun k hk => owns_ge (g := k) H3.out.1.1 hk
          have hvn := fun k hk => owns_ne2 (g := k) H3.out.1.1 y1.2.1 (by decide) hk
          refine ⟨⟨is ++ [⟨x, Ax, cx⟩], nx (pSt o) (.ok lk), ov', o', over', ⟨y1.1.chg hw1.1 (fun k hk e => by have := hvb k e; omega), y1.2.1.chg hw1.1 (fun k hk e => hvn k e hk), y1.2.2⟩, hv1.mono (fun k _ hk => ⟨hk.1.1, hk.1.2.1, fun e => hv1.2.2 k e hk⟩) (fun k hk e => e.2.2 hk), ?_, y4, y5.trans (hw1.below y5.size fun k hk => by have := hvb k hk; omega), ?_⟩, ?_⟩
          · have := HQ.out
            rw [y3, List.map_append, List.length_append, this]
            rfl
          · have := HQ.out; have := HFU.out; simp; omega
          · have := HQ.out; have := HFU.out
            rw [e9]
            simp [lenV]
            omega
end Go.Proofs.YtadgiekiiicmfaaGreatDoor

/- types.TakeFunc: which type of functions bytes are. -/
namespace Go.Proofs.YtadgiekiiicmfaaGreatDoor
open Go.RowKit
set_option maxRecDepth 100000
set_option linter.unusedVariables false

theorem NoByte.slices (A B : Option Addr) (n m c d : Nat) : NoByte [.slice A n c, .slice B m d] := fun u hu x e => by subst e; simp at hu
theorem end_cases {α : Type} (s : St) (hs : ∀ e, s = .error e → 0 < e) (b : List Int) (a : α) :
    (∃ l, s = .ok l) ∧ errS s = 0 ∧ codeOf (bd s fun l => .ok (a, l)) = 0 ∧ readS b.length s = readOf b (bd s fun l => .ok (a, l)) ∨ (∃ e, s = .error e) ∧ errS s ≠ 0 ∧ codeOf (bd s fun l => .ok (a, l)) = errS s ∧ readOf b (bd s fun l => .ok (a, l)) = 0 := by
  cases s with
  | error e => have := hs e rfl; exact .inr ⟨⟨e, rfl⟩, by simp only [errS]; omega, rfl, rfl⟩
  | ok l => exact .inl ⟨⟨l, rfl⟩, rfl, rfl, rfl⟩
def put2 (w : World) (g : Nat) (a b : Value) : World := (w.setCell ⟨g, 0, none⟩ a).setCell ⟨g, 1, none⟩ b
theorem chg2 (w : World) (g : Nat) (a b : Value) : Chg (fun k => k = g) w (put2 w g a b) := (chgSet w g 0 _).trans (chgSet _ g 1 _) fun _ _ e => e
theorem own_put2 {w : World} {g : Nat} {t : TypeId} {b0 b1 : Value} (h : Own w g t [b0, b1]) (a0 a1 : Value) : Own (put2 w g a0 a1) g t [a0, a1] := (h.set 0 a0).set 1 a1

set_option maxHeartbeats 2000000 in
theorem take_fn (A : Option Addr) (b : List Int) (n c : Nat) (w : World) (h : Rd w w.heap.size A b) (hn : n = b.length) (hl : n ≤ 1000000) (hc : n ≤ c) (hcm : c ≤ maxLen) :
    Calls Tryz.prog 118 #[.slice A n c] w (FnPost b w) := by
  have HR := Lib.hid h
  have HN := Lib.hid hn
  clear h hn
  go_enter Tryz.func118, Tryz.ntmps118
  go_wp2_with fail
  refine (rnew_any A n c _).mono ?_
  rintro e w1 ⟨rfl, hb1⟩
  have HT0 : Hid (T2 79 w w.heap.size w1.heap.size n [.slice none 0 0, .slice none 0 0] (.ok b) (w1.alloc (.cells #[.slice A n c, .int .i64 0, .int .i64 0] 205))) := by
    have hs := hb1.size
    simp at hs
    have hw1 : Below w.heap.size w w1 := ((Below.refl _ _).alloc (Nat.le_refl _) _).trans (hb1.mono (by simp))
    have hR1 := (HR.out.rx.later hw1).mono (Y := (· < w1.heap.size)) fun k _ hk => by have : k < w.heap.size := hk; omega
    have hA := (Below.refl w1.heap.size w1).alloc (Nat.le_refl _) (.cells #[.slice A n c, .int .i64 0, .int .i64 0] 205)
    refine ⟨⟨A, c, 0, ?_, ?_, by rw [← HN.out]; exact hc, hcm, by rw [← HN.out]; exact hl, by have := HN.out; simp only []; omega, by have := HN.out; simp only []; omega, by simp only []; omega⟩, ?_, by omega, Nat.le_refl _, hw1.trans (hA.mono (by omega))⟩
    · rw [← HN.out]
      exact Own.new w1 205 [.slice A n c, .int .i64 0, .int .i64 0]
    · exact hR1.later hA
    · exact ((Own.new w 79 [.slice none 0 0, .slice none 0 0]).later hb1).later hA
  have HA1 : Hid (RdX (fun k => k ≠ w1.heap.size) ((w1.alloc (.cells #[.slice A n c, .int .i64 0, .int .i64 0] 205)).alloc (.cells #[.int .u8 96] 5)) (some ⟨w1.heap.size + 1, 0, none⟩) [96] ∧ Below (w1.alloc (.cells #[.slice A n c, .int .i64 0, .int .i64 0] 205)).heap.size (w1.alloc (.cells #[.slice A n c, .int .i64 0, .int .i64 0] 205)) ((w1.alloc (.cells #[.slice A n c, .int .i64 0, .int .i64 0] 205)).alloc (.cells #[.int .u8 96] 5))) := by
    refine ⟨?_, (Below.refl _ _).alloc (Nat.le_refl _) _⟩
    have := rdX_lit (w1.alloc (.cells #[.slice A n c, .int .i64 0, .int .i64 0] 205)) [96] (IsBytes.one (by omega) (by omega))
    rw [show (w1.alloc (.cells #[.slice A n c, .int .i64 0, .int .i64 0] 205)).heap.size = w1.heap.size + 1 from by simp] at this
    exact this.mono fun k _ hk => by omega
  clear hb1
  go_wp2_with fail
  have HT1 := Lib.hid (HT0.out.below HA1.out.2)
  have HA := Lib.hid HA1.out.1
  clear HA1 HT0
  generalize (w1.alloc (.cells #[.slice A n c, .int .i64 0, .int .i64 0] 205)).alloc (.cells #[.int .u8 96] 5) = W at *
  generalize w1.heap.size = g4 at *
  generalize hg2 : w.heap.size = g2 at HT1 ⊢
  have HG2 := Lib.hid hg2
  clear hg2
  refine (among_any g4 _ (n, []) (.ok b) [96] (some ⟨g4 + 1, 0, none⟩) 1 1 W HT1.out.1 HA.out rfl (by omega)).mono ?_
  rintro e w2 ⟨x, rfl, x0, x1, h2, h3, h4⟩
  have HT := Lib.hid (HT1.out.step h2 h4)
  have HV0 := Lib.hid h3
  clear h2 h3 h4 HT1 HA
  go_wp2_with fail
  refine (svalues_any g4 _ (n, []) _ _ HT.out.1).mono ?_
  rintro e w3 ⟨v1, ps, rfl, ho, hI1, h2, h3, h4, hp1⟩
  have hT := HT.out.step h2 h4
  obtain ⟨A1, c1, rfl, hd1, hd2, hr⟩ := ho.rdX hI1
  have hX := HT.out.far ho hr
  obtain ⟨k0, k1, f0, f1⟩ := own_cells2 hT.2.1
  have hT2 := hT.set (NoByte.slices _ _ _ _ _ _) 0 (.slice A1 ps.length c1)
  have HP1 := Lib.hid (And.intro (hX.chg (chgSet w3 g2 0 (.slice A1 ps.length c1)) fun k _ hk e => by have := hT.2.2.1; omega) (And.intro hd1 (And.intro hd2 hI1)))
  have HT := Lib.hid hT2
  have HV1 := Lib.hid h3
  clear h2 h3 h4 ho hr hX hT hT2 hd1 hd2 hI1
  generalize hl1 : ps.length = l1 at *
  have HL1 := Lib.hid hl1
  clear hl1
  go_wp2_with fail
  refine (svalues_any g4 _ (n, []) _ _ HT.out.1).mono ?_
  rintro e w4 ⟨v2, rs, rfl, ho, hI2, h2, h3, h4, hp2⟩
  have hT := HT.out.step h2 h4
  obtain ⟨A2, c2, rfl, hd1, hd2, hr⟩ := ho.rdX hI2
  have hX := HT.out.far ho hr
  clear k0 k1 f0 f1
  obtain ⟨k0, k1, f0, f1⟩ := own_cells2 hT.2.1
  have hT2 := hT.set (NoByte.slices _ _ _ _ _ _) 1 (.slice A2 rs.length c2)
  have HP2 := Lib.hid (And.intro (hX.chg (chgSet w4 g2 1 (.slice A2 rs.length c2)) fun k _ hk e => by have := hT.2.2.1; omega) (And.intro hd1 (And.intro hd2 hI2)))
  have HP1 := Lib.hid (And.intro ((HP1.out.1.chg h4 fun k _ hk e => by omega).chg (chgSet w4 g2 1 (.slice A2 rs.length c2)) fun k _ hk e => by have := hT.2.2.1; omega) HP1.out.2)
  have HT := Lib.hid hT2
  have HV2 := Lib.hid h3
  clear h2 h3 h4 ho hr hX hT hT2 hd1 hd2 hI2
  generalize hl2 : rs.length = l2 at *
  have HL2 := Lib.hid hl2
  clear hl2
  go_wp2_with fail
  refine (rstop_any g4 _ (n, []) _ _ HT.out.1).mono ?_
  rintro e w5 ⟨rfl, hb5⟩
  have hT := HT.out.below hb5
  have HP1 := Lib.hid (And.intro (HP1.out.1.later hb5) HP1.out.2)
  have HP2 := Lib.hid (And.intro (HP2.out.1.later hb5) HP2.out.2)
  clear k0 k1 f0 f1
  obtain ⟨k0, k1, f0, f1⟩ := own_cells2 hT.2.1
  have HO := Lib.hid hT.2.1
  have HB := Lib.hid (And.intro hT.2.2.1 (And.intro hT.2.2.2.1 hT.2.2.2.2))
  have HK : Hid (pFn b = bd (nx pVals (nx pVals (nx (pAmong [96]) (.ok b)))) fun l => .ok ((ps, rs), l)) := by
    unfold Hid
    rw [← bd_ok b pFn]
    unfold pFn
    rw [(nx_seq (pAmong [96]) _ (.ok b) _ HV0.out).2, (nx_seq pVals _ _ ps HV1.out).2, (nx_seq pVals _ _ rs HV2.out).2]
  have HF := Lib.hid (end_cases _ HT.out.1.err b ((ps, rs) : Fn))
  have HE : Hid ((∃ l, nx pVals (nx pVals (nx (pAmong [96]) (.ok b))) = .ok l) → fnOf (pFn b) = (ps, rs)) := by
    rintro ⟨l, e⟩; rw [HK.out, e]; rfl
  have HE2 : Hid ((∃ e, nx pVals (nx pVals (nx (pAmong [96]) (.ok b))) = .error e) → fnOf (pFn b) = ([], [])) := by
    rintro ⟨l, e⟩; rw [HK.out, e]; rfl
  rw [← HK.out, ← HN.out] at HF
  clear HK hT hb5 HT HV0 HV1 HV2
  generalize nx pVals (nx pVals (nx (pAmong [96]) (.ok b))) = sE at *
  rcases HF.out with ⟨h1, h2, h3, h4⟩ | ⟨h1, h2, h3, h4⟩
  · have HZ := Lib.hid (And.intro (HE.out h1) (And.intro h3 h4))
    rw [h2]
    clear h1 h3 h4 HF HE HE2 h2
    generalize readS (n, ([] : List Value)).1 sE = rd at *
    go_wp2
    have hW := own_put2 HO.out (.slice A1 l1 c1) (.slice A2 l2 c2)
    have hC := chg2 w5 g2 (.slice A1 l1 c1) (.slice A2 l2 c2)
    show bodyPost _ _ _ _ _ (put2 w5 g2 (.slice A1 l1 c1) (.slice A2 l2 c2))
    generalize put2 w5 g2 (.slice A1 l1 c1) (.slice A2 l2 c2) = W2 at *
    clear k0 k1 f0 f1
    obtain ⟨k0, k1, -, -⟩ := own_cells2 hW
    refine bodyPost_ret (by simp [results, Tryz.results118, go_sem, k0, k1]; try rfl) rfl ?_
    obtain ⟨z1, z2, z3⟩ := HZ.out
    have hBB := HB.out
    refine ⟨_, by rw [← z3, z2], ?_, hBB.2.2.trans (hC.below hBB.2.2.size fun i hi e => by omega)⟩
    rw [z1]
    refine ⟨A1, c1, A2, c2, by simp only []; rw [HL1.out, HL2.out], ?_, by simp only []; rw [HL1.out]; exact HP1.out.2.1, HP1.out.2.2.1, ?_, by simp only []; rw [HL2.out]; exact HP2.out.2.1, HP2.out.2.2.1⟩
    · exact (HP1.out.1.chg hC fun k _ hk e => by omega).mono fun k _ hk => by have := HG2.out; omega
    · exact (HP2.out.1.chg hC fun k _ hk e => by omega).mono fun k _ hk => by have := HG2.out; omega
  · have HZ := Lib.hid (And.intro (HE2.out h1) (And.intro h3 h4))
    have hne : (errS sE != 0) = true := by simpa using h2
    clear h1 h3 h4 HF HE HE2 h2
    generalize errS sE = ee at *
    generalize readS (n, ([] : List Value)).1 sE = rd at *
    go_wp2
    have hW := own_put2 HO.out (.slice none 0 0) (.slice none 0 0)
    have hC := chg2 w5 g2 (.slice none 0 0) (.slice none 0 0)
    show bodyPost _ _ _ _ _ (put2 w5 g2 (.slice none 0 0) (.slice none 0 0))
    generalize put2 w5 g2 (.slice none 0 0) (.slice none 0 0) = W2 at *
    clear k0 k1 f0 f1
    obtain ⟨k0, k1, -, -⟩ := own_cells2 hW
    refine bodyPost_ret (by simp [results, Tryz.results118, go_sem, k0, k1]; try rfl) rfl ?_
    obtain ⟨z1, z2, z3⟩ := HZ.out
    have hBB := HB.out
    refine ⟨_, by rw [z2, z3], by rw [z1]; exact zfn_v _ _, hBB.2.2.trans (hC.below hBB.2.2.size fun i hi e => by omega)⟩
end Go.Proofs.YtadgiekiiicmfaaGreatDoor

/- types.TakeLimits: which limits bytes are. -/
namespace Go.Proofs.YtadgiekiiicmfaaGreatDoor
open Go.RowKit
set_option maxRecDepth 100000
set_option linter.unusedVariables false

theorem NoByte.lim (a b : Int) (h : Bool) : NoByte [.int .u32 a, .int .u32 b, .bool h] := fun u hu x e => by subst e; simp at hu
def put3 (w : World) (g : Nat) (a b c : Value) : World := ((w.setCell ⟨g, 0, none⟩ a).setCell ⟨g, 1, none⟩ b).setCell ⟨g, 2, none⟩ c
theorem chg3 (w : World) (g : Nat) (a b c : Value) : Chg (fun k => k = g) w (put3 w g a b c) := ((chgSet w g 0 _).trans (chgSet _ g 1 _) fun _ _ e => e).trans (chgSet _ g 2 _) fun _ _ e => e
theorem own_put3 {w : World} {g : Nat} {t : TypeId} {b0 b1 b2 : Value} (h : Own w g t [b0, b1, b2]) (a0 a1 a2 : Value) : Own (put3 w g a0 a1 a2) g t [a0, a1, a2] := ((h.set 0 a0).set 1 a1).set 2 a2

set_option maxHeartbeats 2000000 in
theorem take_lim (A : Option Addr) (b : List Int) (n c : Nat) (w : World) (h : Rd w w.heap.size A b) (hn : n = b.length) (hl : n ≤ 1000000) (hc : n ≤ c) (hcm : c ≤ maxLen) :
    Calls Tryz.prog 123 #[.slice A n c] w (LimPost b w) := by
  have HR := Lib.hid h
  have HN := Lib.hid hn
  clear h hn
  go_enter Tryz.func123, Tryz.ntmps123
  go_wp2_with fail
  refine (rnew_any A n c _).mono ?_
  rintro e w1 ⟨rfl, hb1⟩
  have HT0 : Hid (T2 82 w w.heap.size w1.heap.size n [.int .u32 0, .int .u32 0, .bool false] (.ok b) (w1.alloc (.cells #[.slice A n c, .int .i64 0, .int .i64 0] 205))) := by
    have hs := hb1.size
    simp at hs
    have hw1 : Below w.heap.size w w1 := ((Below.refl _ _).alloc (Nat.le_refl _) _).trans (hb1.mono (by simp))
    have hR1 := (HR.out.rx.later hw1).mono (Y := (· < w1.heap.size)) fun k _ hk => by have : k < w.heap.size := hk; omega
    have hA := (Below.refl w1.heap.size w1).alloc (Nat.le_refl _) (.cells #[.slice A n c, .int .i64 0, .int .i64 0] 205)
    refine ⟨⟨A, c, 0, ?_, ?_, by rw [← HN.out]; exact hc, hcm, by rw [← HN.out]; exact hl, by have := HN.out; simp only []; omega, by have := HN.out; simp only []; omega, by simp only []; omega⟩, ?_, by omega, Nat.le_refl _, hw1.trans (hA.mono (by omega))⟩
    · rw [← HN.out]
      exact Own.new w1 205 [.slice A n c, .int .i64 0, .int .i64 0]
    · exact hR1.later hA
    · exact ((Own.new w 82 [.int .u32 0, .int .u32 0, .bool false]).later hb1).later hA
  have HA1 : Hid (RdX (fun k => k ≠ w1.heap.size) ((w1.alloc (.cells #[.slice A n c, .int .i64 0, .int .i64 0] 205)).alloc (.cells #[.int .u8 0, .int .u8 1] 5)) (some ⟨w1.heap.size + 1, 0, none⟩) [0, 1] ∧ Below (w1.alloc (.cells #[.slice A n c, .int .i64 0, .int .i64 0] 205)).heap.size (w1.alloc (.cells #[.slice A n c, .int .i64 0, .int .i64 0] 205)) ((w1.alloc (.cells #[.slice A n c, .int .i64 0, .int .i64 0] 205)).alloc (.cells #[.int .u8 0, .int .u8 1] 5))) := by
    refine ⟨?_, (Below.refl _ _).alloc (Nat.le_refl _) _⟩
    have := rdX_lit (w1.alloc (.cells #[.slice A n c, .int .i64 0, .int .i64 0] 205)) [0, 1] (IsBytes.app (IsBytes.one (z := 0) (by omega) (by omega)) (IsBytes.one (z := 1) (by omega) (by omega)))
    rw [show (w1.alloc (.cells #[.slice A n c, .int .i64 0, .int .i64 0] 205)).heap.size = w1.heap.size + 1 from by simp] at this
    exact this.mono fun k _ hk => by omega
  clear hb1
  go_wp2_with fail
  have HT1 := Lib.hid (HT0.out.below HA1.out.2)
  have HA := Lib.hid HA1.out.1
  clear HA1 HT0
  generalize (w1.alloc (.cells #[.slice A n c, .int .i64 0, .int .i64 0] 205)).alloc (.cells #[.int .u8 0, .int .u8 1] 5) = W at *
  generalize w1.heap.size = g4 at *
  generalize hg2 : w.heap.size = g2 at HT1 ⊢
  have HG2 := Lib.hid hg2
  clear hg2
  refine (among_any g4 _ (n, []) (.ok b) [0, 1] (some ⟨g4 + 1, 0, none⟩) 2 2 W HT1.out.1 HA.out rfl (by omega)).mono ?_
  rintro e w2 ⟨x, rfl, x0, x1, h2, h3, h4⟩
  have hT := HT1.out.step h2 h4
  obtain ⟨k0, k1, k2, f0, f1, f2⟩ := own_cells3 hT.2.1
  have HTh := Lib.hid (fun u => hT.set (NoByte.lim _ _ _) 2 (.bool u))
  have HV0 := Lib.hid h3
  clear h2 h3 h4 HT1 HA hT
  by_cases hx1 : x = 1
  · subst hx1
    have HT := Lib.hid (HTh.out true)
    clear HTh
    go_wp2_with fail
    refine (rU32_any g4 _ (n, []) _ _ HT.out.1).mono ?_
    rintro e w3 ⟨a, rfl, a0, a1, h2, h3, h4⟩
    have hT := HT.out.step h2 h4
    clear k0 k1 k2 f0 f1 f2
    obtain ⟨k0, k1, k2, f0, f1, f2⟩ := own_cells3 hT.2.1
    have HT := Lib.hid (hT.set (NoByte.lim _ _ _) 0 (.int .u32 a))
    have HV1 := Lib.hid h3
    clear h2 h3 h4 hT
    go_wp2_with fail
    refine (rU32_any g4 _ (n, []) _ _ HT.out.1).mono ?_
    rintro e w4 ⟨m, rfl, m0, m1, h2, h3, h4⟩
    have hT := HT.out.step h2 h4
    clear k0 k1 k2 f0 f1 f2
    obtain ⟨k0, k1, k2, f0, f1, f2⟩ := own_cells3 hT.2.1
    have HT := Lib.hid (hT.set (NoByte.lim _ _ _) 1 (.int .u32 m))
    have HV2 := Lib.hid h3
    clear h2 h3 h4 hT
    go_wp2_with fail
    refine (rstop_any g4 _ (n, []) _ _ HT.out.1).mono ?_
    rintro e w5 ⟨rfl, hb5⟩
    have hT := HT.out.below hb5
    clear k0 k1 k2 f0 f1 f2
    obtain ⟨k0, k1, k2, f0, f1, f2⟩ := own_cells3 hT.2.1
    have HO := Lib.hid hT.2.1
    have HB := Lib.hid (And.intro hT.2.2.1 (And.intro hT.2.2.2.1 hT.2.2.2.2))
    have HK : Hid (pLim b = bd (nx (pU 32) (nx (pU 32) (nx (pAmong [0, 1]) (.ok b)))) fun l => .ok ((⟨a, m, true⟩ : Lim), l)) := by
      unfold Hid
      rw [← bd_ok b pLim]
      unfold pLim
      rw [(nx_seq (pAmong [0, 1]) _ (.ok b) _ HV0.out).2, (nx_seq (pU 32) _ _ a HV1.out).2, if_pos rfl, (nx_seq (pU 32) _ _ m HV2.out).2]
    have HF := Lib.hid (end_cases _ HT.out.1.err b (⟨a, m, true⟩ : Lim))
    have HE : Hid ((∃ l, nx (pU 32) (nx (pU 32) (nx (pAmong [0, 1]) (.ok b))) = .ok l) → limOf (pLim b) = (⟨a, m, true⟩ : Lim)) := by
      rintro ⟨l, e⟩; rw [HK.out, e]; rfl
    have HE2 : Hid ((∃ e, nx (pU 32) (nx (pU 32) (nx (pAmong [0, 1]) (.ok b))) = .error e) → limOf (pLim b) = ⟨0, 0, false⟩) := by
      rintro ⟨l, e⟩; rw [HK.out, e]; rfl
    rw [← HK.out, ← HN.out] at HF
    clear HK hT hb5 HT HV0 HV1 HV2
    generalize nx (pU 32) (nx (pU 32) (nx (pAmong [0, 1]) (.ok b))) = sE at *
    rcases HF.out with ⟨h1, h2, h3, h4⟩ | ⟨h1, h2, h3, h4⟩
    · have HZ := Lib.hid (And.intro (HE.out h1) (And.intro h3 h4))
      rw [h2]
      clear h1 h3 h4 HF HE HE2 h2
      generalize readS (n, ([] : List Value)).1 sE = rd at *
      go_wp2
      have hW := own_put3 HO.out (.int .u32 a) (.int .u32 m) (.bool true)
      have hC := chg3 w5 g2 (.int .u32 a) (.int .u32 m) (.bool true)
      show bodyPost _ _ _ _ _ (put3 w5 g2 (.int .u32 a) (.int .u32 m) (.bool true))
      generalize put3 w5 g2 (.int .u32 a) (.int .u32 m) (.bool true) = W2 at *
      clear k0 k1 k2 f0 f1 f2
      obtain ⟨k0, k1, k2, -, -, -⟩ := own_cells3 hW
      refine bodyPost_ret (by simp [results, Tryz.results123, go_sem, k0, k1, k2]; try rfl) rfl ?_
      obtain ⟨z1, z2, z3⟩ := HZ.out
      have hBB := HB.out
      exact ⟨by rw [z1, ← z3, z2]; rfl, hBB.2.2.trans (hC.below hBB.2.2.size fun i hi e => by omega)⟩
    · have HZ := Lib.hid (And.intro (HE2.out h1) (And.intro h3 h4))
      have hne : (errS sE != 0) = true := by simpa using h2
      clear h1 h3 h4 HF HE HE2 h2
      generalize errS sE = ee at *
      generalize readS (n, ([] : List Value)).1 sE = rd at *
      go_wp2
      have hW := own_put3 HO.out (.int .u32 0) (.int .u32 0) (.bool false)
      have hC := chg3 w5 g2 (.int .u32 0) (.int .u32 0) (.bool false)
      show bodyPost _ _ _ _ _ (put3 w5 g2 (.int .u32 0) (.int .u32 0) (.bool false))
      generalize put3 w5 g2 (.int .u32 0) (.int .u32 0) (.bool false) = W2 at *
      clear k0 k1 k2 f0 f1 f2
      obtain ⟨k0, k1, k2, -, -, -⟩ := own_cells3 hW
      refine bodyPost_ret (by simp [results, Tryz.results123, go_sem, k0, k1, k2]; try rfl) rfl ?_
      obtain ⟨z1, z2, z3⟩ := HZ.out
      have hBB := HB.out
      exact ⟨by rw [z1, z2, z3]; rfl, hBB.2.2.trans (hC.below hBB.2.2.size fun i hi e => by omega)⟩
  · have hx2 : (x == 1) = false := by simpa using hx1
    have HT := Lib.hid (HTh.out false)
    clear HTh
    go_wp2_with fail
    refine (rU32_any g4 _ (n, []) _ _ HT.out.1).mono ?_
    rintro e w3 ⟨a, rfl, a0, a1, h2, h3, h4⟩
    have hT := HT.out.step h2 h4
    clear k0 k1 k2 f0 f1 f2
    obtain ⟨k0, k1, k2, f0, f1, f2⟩ := own_cells3 hT.2.1
    have HT := Lib.hid (hT.set (NoByte.lim _ _ _) 0 (.int .u32 a))
    have HV1 := Lib.hid h3
    clear h2 h3 h4 hT
    go_wp2_with fail
    refine (rstop_any g4 _ (n, []) _ _ HT.out.1).mono ?_
    rintro e w5 ⟨rfl, hb5⟩
    have hT := HT.out.below hb5
    clear k0 k1 k2 f0 f1 f2
    obtain ⟨k0, k1, k2, f0, f1, f2⟩ := own_cells3 hT.2.1
    have HO := Lib.hid hT.2.1
    have HB := Lib.hid (And.intro hT.2.2.1 (And.intro hT.2.2.2.1 hT.2.2.2.2))
    have HK : Hid (pLim b = bd (nx (pU 32) (nx (pAmong [0, 1]) (.ok b))) fun l => .ok ((⟨a, 0, false⟩ : Lim), l)) := by
      unfold Hid
      rw [← bd_ok b pLim]
      unfold pLim
      rw [(nx_seq (pAmong [0, 1]) _ (.ok b) _ HV0.out).2, (nx_seq (pU 32) _ _ a HV1.out).2, if_neg hx1]
    have HF := Lib.hid (end_cases _ HT.out.1.err b (⟨a, 0, false⟩ : Lim))
    have HE : Hid ((∃ l, nx (pU 32) (nx (pAmong [0, 1]) (.ok b)) = .ok l) → limOf (pLim b) = (⟨a, 0, false⟩ : Lim)) := by
      rintro ⟨l, e⟩; rw [HK.out, e]; rfl
    have HE2 : Hid ((∃ e, nx (pU 32) (nx (pAmong [0, 1]) (.ok b)) = .error e) → limOf (pLim b) = ⟨0, 0, false⟩) := by
      rintro ⟨l, e⟩; rw [HK.out, e]; rfl
    rw [← HK.out, ← HN.out] at HF
    clear HK hT hb5 HT HV0 HV1
    generalize nx (pU 32) (nx (pAmong [0, 1]) (.ok b)) = sE at *
    rcases HF.out with ⟨h1, h2, h3, h4⟩ | ⟨h1, h2, h3, h4⟩
    · have HZ := Lib.hid (And.intro (HE.out h1) (And.intro h3 h4))
      rw [h2]
      clear h1 h3 h4 HF HE HE2 h2
      generalize readS (n, ([] : List Value)).1 sE = rd at *
      go_wp2
      have hW := own_put3 HO.out (.int .u32 a) (.int .u32 0) (.bool false)
      have hC := chg3 w5 g2 (.int .u32 a) (.int .u32 0) (.bool false)
      show bodyPost _ _ _ _ _ (put3 w5 g2 (.int .u32 a) (.int .u32 0) (.bool false))
      generalize put3 w5 g2 (.int .u32 a) (.int .u32 0) (.bool false) = W2 at *
      clear k0 k1 k2 f0 f1 f2
      obtain ⟨k0, k1, k2, -, -, -⟩ := own_cells3 hW
      refine bodyPost_ret (by simp [results, Tryz.results123, go_sem, k0, k1, k2]; try rfl) rfl ?_
      obtain ⟨z1, z2, z3⟩ := HZ.out
      have hBB := HB.out
      exact ⟨by rw [z1, ← z3, z2]; rfl, hBB.2.2.trans (hC.below hBB.2.2.size fun i hi e => by omega)⟩
    · have HZ := Lib.hid (And.intro (HE2.out h1) (And.intro h3 h4))
      have hne : (errS sE != 0) = true := by simpa using h2
      clear h1 h3 h4 HF HE HE2 h2
      generalize errS sE = ee at *
      generalize readS (n, ([] : List Value)).1 sE = rd at *
      go_wp2
      have hW := own_put3 HO.out (.int .u32 0) (.int .u32 0) (.bool false)
      have hC := chg3 w5 g2 (.int .u32 0) (.int .u32 0) (.bool false)
      show bodyPost _ _ _ _ _ (put3 w5 g2 (.int .u32 0) (.int .u32 0) (.bool false))
      generalize put3 w5 g2 (.int .u32 0) (.int .u32 0) (.bool false) = W2 at *
      clear k0 k1 k2 f0 f1 f2
      obtain ⟨k0, k1, k2, -, -, -⟩ := own_cells3 hW
      refine bodyPost_ret (by simp [results, Tryz.results123, go_sem, k0, k1, k2]; try rfl) rfl ?_
      obtain ⟨z1, z2, z3⟩ := HZ.out
      have hBB := HB.out
      exact ⟨by rw [z1, z2, z3]; rfl, hBB.2.2.trans (hC.below hBB.2.2.size fun i hi e => by omega)⟩
end Go.Proofs.YtadgiekiiicmfaaGreatDoor
