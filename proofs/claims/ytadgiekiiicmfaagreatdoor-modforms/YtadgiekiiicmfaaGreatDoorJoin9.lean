/- Texts joined: CodeNest, CodeIn, ModGd. -/
import Derived.Test.YtadgiekiiicmfaaGreatDoorJoin7
import Derived.Test.YtadgiekiiicmfaaGreatDoorJoin5
import Derived.Test.YtadgiekiiicmfaaGreatDoorJoin6
/- code's source: what blocks are open. -/
namespace Go.Proofs.YtadgiekiiicmfaaGreatDoor
open Go.RowKit
set_option maxRecDepth 100000
set_option linter.unusedVariables false

/-- A source in g: its reader, what is open, whether the end has come. -/
def NsAt (w : World) (g N : Nat) (s : St) (ov : Value) (o : List Int) (over : Bool) : Prop := RdrAt w g 224 (N, [ov, .bool over]) s ∧ OwnI w (g + 1) ov o ∧ o.length ≤ 1000000
def nstS (op : Int) (o : List Int) (s : St) : St := match nestP op o with
  | .error e => failS e s
  | .ok _ => s
def NestPost (op : Int) (g N : Nat) (s : St) (ov : Value) (o : List Int) (w : World) (e : Ending) (w' : World) : Prop :=
  ∃ u ov' o' over', e = .returned u ∧ NsAt w' g N (nstS op o s) ov' o' over' ∧ (∀ r, nestP op o = .ok r → o' = r.1 ∧ over' = r.2) ∧ Chg (fun k => k = g ∨ ov.ownBlock = some k) w w' ∧ (∀ k, ov'.ownBlock = some k → ov.ownBlock = some k ∨ w.heap.size ≤ k)
theorem RdrAt.own {w : World} {g : Nat} {t : TypeId} {tl : RTl} {s : St} (h : RdrAt w g t tl s) : ∃ A n c r e, Own w g t (.slice A n c :: .int .i64 r :: .int .i64 e :: tl.2) := by
  cases s with
  | ok l => obtain ⟨A, c, r, h1, _⟩ := h; exact ⟨A, _, c, r, 0, h1⟩
  | error e => exact ⟨none, 0, 0, 0, e, h.1⟩
theorem RdrAt.tail {w : World} {g N : Nat} {t : TypeId} {L L' : List Value} {s : St} (h : RdrAt w g t (N, L) s) (j : Nat) (u : Value) (hL : L' = L.set j u) : RdrAt (w.setCell ⟨g, 3 + j, none⟩ u) g t (N, L') s := by
  have hc := chgSet w g (3 + j) u
  have e : ∀ a b c : Value, (a :: b :: c :: L).set (3 + j) u = a :: b :: c :: L' := fun a b c => by
    rw [hL, show 3 + j = j + 1 + 1 + 1 from by omega]; rfl
  cases s with
  | ok l =>
    obtain ⟨A, c, r, h1, h2, h5⟩ := h
    refine ⟨A, c, r, ?_, h2.chg hc fun k _ hk e => by omega, h5⟩
    have := h1.set (3 + j) u
    rwa [e] at this
  | error x =>
    refine ⟨?_, h.2⟩
    have := h.1.set (3 + j) u
    rwa [e] at this
theorem own_cells5 {w : World} {g : Nat} {t : TypeId} {a b c d e : Value} {tl : List Value} (h : Own w g t (a :: b :: c :: d :: e :: tl)) : w.cell? ⟨g, 3, none⟩ = some d ∧ w.cell? ⟨g, 4, none⟩ = some e ∧ w.frozen? ⟨g, 3, none⟩ = false ∧ w.frozen? ⟨g, 4, none⟩ = false :=
  ⟨h.cell 3, h.cell 4, h.frozen 3, h.frozen 4⟩
theorem nst_ok {op : Int} {o : List Int} {s : St} {r : List Int × Bool} (h : nestP op o = .ok r) : nstS op o s = s := by unfold nstS; rw [h]
theorem nst_no {op : Int} {o : List Int} {s : St} {e : Int} (h : nestP op o = .error e) : nstS op o s = failS e s := by unfold nstS; rw [h]

set_option maxHeartbeats 1000000 in
theorem cnest_other (op : Int) (g N : Nat) (s : St) (ov : Value) (o : List Int) (over : Bool) (w : World) (h : NsAt w g N s ov o false) (h2 : op ≠ 2) (h3 : op ≠ 3) (h4 : op ≠ 4) (h5 : op ≠ 5) (h11 : op ≠ 11) :
    Calls Tryz.prog 189 #[.pointer (some ⟨g, 0, none⟩), .int .i64 op] w (NestPost op g N s ov o w) := by
  have hp : nestP op o = .ok (o, false) := by unfold nestP; rw [if_neg (by omega), if_neg h5, if_neg h11]
  have HP := Lib.hid hp
  have HH := Lib.hid h
  obtain ⟨A, n, c, r, e, ho⟩ := h.1.own
  obtain ⟨c3, c4, f3, f4⟩ := own_cells5 ho
  obtain ⟨A1, k1, rfl, -, -, -⟩ := h.2.1.rdI
  clear h ho hp
  have e2 : (op == 2) = false := by simpa using h2
  have e3 : (op == 3) = false := by simpa using h3
  have e4 : (op == 4) = false := by simpa using h4
  have e5 : (op == 5) = false := by simpa using h5
  have e11 : (op == 11) = false := by simpa using h11
  clear h2 h3 h4 h5 h11
  generalize o.length = q at *
  go_enter Tryz.func189, Tryz.ntmps189
  go_wp2
  go_end0
  refine ⟨_, _, o, false, rfl, by rw [nst_ok HP.out]; exact HH.out, fun r hr => ?_, Chg.refl _ _, fun k hk => .inl hk⟩
  rw [HP.out] at hr
  injection hr with hr
  subst hr
  exact ⟨rfl, rfl⟩

/-- A slice of ints of the call's own that is not empty: where it lies. -/
theorem OwnI.spot {w : World} {base : Nat} {v : Value} {l : List Int} (h : OwnI w base v l) (hp : 0 < l.length) : ∃ g c, v = .slice (some ⟨g, 0, none⟩) l.length c ∧ base ≤ g ∧ g < w.heap.size ∧ l.length ≤ c ∧ c ≤ maxLen ∧ (∀ i, i < l.length → w.cell? ⟨g, i, none⟩ = some (.int .i64 (l.getD i 0)) ∧ w.frozen? ⟨g, i, none⟩ = false) := by
  have hlt := fun g hg => owns_lt (g := g) h hg
  rcases h.2 with ⟨_, h0⟩ | ⟨g, cap, cur, rfl, hg, hh, hn, hm, hs, ht⟩
  · omega
  · refine ⟨g, cap, rfl, hg, hlt g rfl, hn, hm, fun i hi => ⟨?_, World.ownsRow.frozenAt h i⟩⟩
    rw [World.ownsRow.cellAt h i (by omega), List.getElem?_map, List.getElem?_eq_getElem hi]
    simp [List.getD_eq_getElem?_getD, List.getElem?_eq_getElem hi]
theorem OwnI.store {w : World} {base g c : Nat} {l : List Int} (h : OwnI w base (.slice (some ⟨g, 0, none⟩) l.length c) l) (j : Nat) (z : Int) : OwnI (w.setCell ⟨g, j, none⟩ (.int .i64 z)) base (.slice (some ⟨g, 0, none⟩) l.length c) (l.set j z) := by
  have := World.ownsRow.stored h j (.int .i64 z)
  unfold OwnI
  rw [List.length_set, List.map_set]
  exact this.1
theorem OwnI.pop {w : World} {base g c : Nat} {l : List Int} {z : Int} (h : OwnI w base (.slice (some ⟨g, 0, none⟩) (l ++ [z]).length c) (l ++ [z])) : OwnI w base (.slice (some ⟨g, 0, none⟩) l.length c) l := by
  unfold OwnI at h ⊢
  rw [List.length_append, List.length_singleton, List.map_append] at h
  exact ownsRow_pop (by simp) h
theorem cutI_h (b n cap : Nat) (hi : Int) (h : Nat) (hh : hi = h) (h2 : h ≤ cap) (hc : 0 < cap) (W : World) : (Instr.sliceAt 170 (.slice (some ⟨b, 0, none⟩) n cap) none (some (.int .i64 hi)) none).run Tryz.prog W = .ok (.slice (some ⟨b, 0, none⟩) h cap) W := by
  subst hh
  have hu := under_ints
  have hu' : Tryz.prog.underlying 170 = some (.slice (Tryz.prog.elem 170)) := by rw [elem_of hu]; exact hu
  rw [run_sliceAt_slice W 170 _ _ _ _ hu', run_slice_h W 170 (some ⟨b, 0, none⟩) n cap hu' .i64 h (by omega) (by omega), run_sz hu (sz := 1) (by kernel_rfl)]
  simp [Result.andThen, sliced, show ¬ cap = 0 from by omega, Addr.add]

theorem last_of (o : List Int) : o = [] ∨ ∃ p z, o = p ++ [z] := by
  rcases List.eq_nil_or_concat o with h | ⟨p, z, h⟩
  · exact .inl h
  · exact .inr ⟨p, z, by rw [h]; simp⟩
theorem last_get (p : List Int) (z : Int) : (p ++ [z]).getD p.length 0 = z := by simp [List.getD_eq_getElem?_getD]
theorem set_last (p : List Int) (z y : Int) : (p ++ [z]).set p.length y = p ++ [y] := by simp

theorem OwnI.far {w w' : World} {g : Nat} {v : Value} {l : List Int} (h : OwnI w (g + 1) v l) (hc : Chg (fun k => k = g) w w') : OwnI w' (g + 1) v l := h.chg hc fun k hk e => by have := owns_ge h hk; omega
set_option maxHeartbeats 1000000 in
theorem cnest_else (g N : Nat) (s : St) (ov : Value) (o : List Int) (w : World) (h : NsAt w g N s ov o false) :
    Calls Tryz.prog 189 #[.pointer (some ⟨g, 0, none⟩), .int .i64 5] w (NestPost 5 g N s ov o w) := by
  have HH := Lib.hid h
  obtain ⟨A, n, c, r, e, ho⟩ := h.1.own
  obtain ⟨c3, c4, f3, f4⟩ := own_cells5 ho
  have HF := Lib.hid (rfail_any g _ _ s 2 w h.1 (by omega) (by omega))
  rcases last_of o with rfl | ⟨p, z, rfl⟩
  · have HP : Hid (nestP 5 [] = .error 2) := rfl
    obtain ⟨A1, k1, rfl, -, -, -⟩ := h.2.1.rdI
    clear h ho
    simp only [List.length_nil] at *
    go_enter Tryz.func189, Tryz.ntmps189
    go_wp2_with fail
    refine HF.out.mono ?_
    rintro e w2 ⟨⟨u, rfl⟩, h2, hc⟩
    have HC := Lib.hid (And.intro h2 hc)
    clear h2 hc
    go_wp2
    go_end0
    refine ⟨_, _, [], false, rfl, by rw [nst_no HP.out]; exact ⟨HC.out.1, HH.out.2.1.far HC.out.2, by simp⟩, fun r hr => ?_, HC.out.2.mono fun k _ e => .inl e, fun k hk => .inl hk⟩
    rw [HP.out] at hr; cases hr
  · obtain ⟨b, k1, hov, hgb, hbw, hk, hkm, hcell⟩ := h.2.1.spot (by simp)
    obtain ⟨cz, fz⟩ := hcell p.length (by simp)
    rw [last_get] at cz
    have hlen : (p ++ [z]).length = p.length + 1 := by simp
    have hm := h.2.2
    rw [hlen] at hov hm hk
    subst hov
    have hidx : wrap64 (((p.length + 1 : Nat) : Int) - 1) = p.length := by unfold wrap64; omega
    have HL := Lib.hid hlen
    by_cases hz : z = 4
    · subst hz
      have HP : Hid (nestP 5 (p ++ [4]) = .ok (p ++ [5], false)) := by unfold Hid nestP; simp
      clear h ho hcell hlen
      generalize hq : p.length = q at *
      have HQ := Lib.hid hq
      clear hq
      go_enter Tryz.func189, Tryz.ntmps189
      go_wp2
      go_end0
      obtain rfl := HQ.out
      have hst := HH.out.2.1
      rw [← HL.out] at hst
      have h5 := hst.store p.length 5
      rw [set_last, HL.out] at h5
      have hc := chgSet w b p.length (.int .i64 5)
      refine ⟨_, _, p ++ [5], false, rfl, by rw [nst_ok HP.out]; exact ⟨HH.out.1.chg hc (fun k hk e => by omega), h5, by simp; omega⟩, fun r hr => ?_, hc.mono fun k _ e => .inr (by subst e; rfl), fun k hk => .inl hk⟩
      rw [HP.out] at hr; injection hr with hr; subst hr; exact ⟨rfl, rfl⟩
    · have HP : Hid (nestP 5 (p ++ [z]) = .error 2) := by unfold Hid nestP; simp [hz]
      have hne : (z != 4) = true := by simpa using hz
      clear h ho hcell hlen hz
      generalize hq : p.length = q at *
      have HQ := Lib.hid hq
      clear hq
      go_enter Tryz.func189, Tryz.ntmps189
      go_wp2_with fail
      refine HF.out.mono ?_
      rintro e w2 ⟨⟨u, rfl⟩, h2, hc⟩
      have HC := Lib.hid (And.intro h2 hc)
      clear h2 hc
      go_wp2
      go_end0
      refine ⟨_, _, p ++ [z], false, rfl, by rw [nst_no HP.out]; exact ⟨HC.out.1, HH.out.2.1.far HC.out.2, HH.out.2.2⟩, fun r hr => ?_, HC.out.2.mono fun k _ e => .inl e, fun k hk => .inl hk⟩
      rw [HP.out] at hr; cases hr
set_option maxHeartbeats 1000000 in
theorem cnest_end (g N : Nat) (s : St) (ov : Value) (o : List Int) (w : World) (h : NsAt w g N s ov o false) :
    Calls Tryz.prog 189 #[.pointer (some ⟨g, 0, none⟩), .int .i64 11] w (NestPost 11 g N s ov o w) := by
  have HH := Lib.hid h
  obtain ⟨A, n, c, r, e, ho⟩ := h.1.own
  obtain ⟨c3, c4, f3, f4⟩ := own_cells5 ho
  rcases last_of o with rfl | ⟨p, z, rfl⟩
  · have HP : Hid (nestP 11 [] = .ok ([], true)) := rfl
    obtain ⟨A1, k1, rfl, -, -, -⟩ := h.2.1.rdI
    clear h ho
    simp only [List.length_nil] at *
    go_enter Tryz.func189, Tryz.ntmps189
    go_wp2
    go_end0
    have hc := chgSet w g 4 (.bool true)
    refine ⟨_, _, [], true, rfl, by rw [nst_ok HP.out]; exact ⟨HH.out.1.tail 1 (.bool true) rfl, HH.out.2.1.far hc, by simp⟩, fun r hr => ?_, hc.mono fun k _ e => .inl e, fun k hk => .inl hk⟩
    rw [HP.out] at hr; injection hr with hr; subst hr; exact ⟨rfl, rfl⟩
  · obtain ⟨b, k1, hov, hgb, hbw, hk, hkm, hcell⟩ := h.2.1.spot (by simp)
    have hlen : (p ++ [z]).length = p.length + 1 := by simp
    have hm := h.2.2
    rw [hlen] at hov hm hk
    subst hov
    have hidx : wrap64 (((p.length + 1 : Nat) : Int) - 1) = p.length := by unfold wrap64; omega
    have HL := Lib.hid hlen
    have HP : Hid (nestP 11 (p ++ [z]) = .ok (p, false)) := by unfold Hid nestP; simp
    have hcut := cutI_h b (p.length + 1) k1 p.length p.length rfl (by omega) (by omega)
    clear h ho hcell hlen
    generalize hq : p.length = q at *
    have HQ := Lib.hid hq
    clear hq
    go_enter Tryz.func189, Tryz.ntmps189
    go_wp2
    go_end0
    obtain rfl := HQ.out
    have hst := HH.out.2.1
    rw [← HL.out] at hst
    have h5 := hst.pop
    have hc := chgSet w g 3 (.slice (some ⟨b, 0, none⟩) p.length k1)
    refine ⟨_, .slice (some ⟨b, 0, none⟩) p.length k1, p, false, rfl, by rw [nst_ok HP.out]; exact ⟨HH.out.1.tail 0 _ rfl, h5.far hc, by omega⟩, fun r hr => ?_, hc.mono fun k _ e => .inl e, fun k hk => .inl hk⟩
    rw [HP.out] at hr; injection hr with hr; subst hr; exact ⟨rfl, rfl⟩
set_option maxHeartbeats 1000000 in
theorem cnest_open (op : Int) (hop : op = 2 ∨ op = 3 ∨ op = 4) (g N : Nat) (s : St) (ov : Value) (o : List Int) (w : World) (h : NsAt w g N s ov o false) (hol : o.length ≤ 100000) :
    Calls Tryz.prog 189 #[.pointer (some ⟨g, 0, none⟩), .int .i64 op] w (NestPost op g N s ov o w) := by
  have HH := Lib.hid h
  obtain ⟨A, n, c, r, e, ho⟩ := h.1.own
  have HO := Lib.hid ho
  obtain ⟨c3, c4, f3, f4⟩ := own_cells5 ho
  have hgw := h.1.lt
  obtain ⟨A1, k1, rfl, hk1, hk2, -⟩ := h.2.1.rdI
  have HP1 : Hid (¬ 32 < o.length + 1 → nestP op o = .ok (o ++ [op], false)) := fun hh => by unfold nestP; rw [if_pos hop, if_neg hh]
  have HP2 : Hid (32 < o.length + 1 → nestP op o = .error 4) := fun hh => by unfold nestP; rw [if_pos hop, if_pos hh]
  have HOP := Lib.hid hop
  have key : ∀ W1 v1, OwnI W1 (g + 1) v1 (o ++ [op]) → Grew (.slice A1 o.length k1) w v1 W1 → ∃ A2 k2, v1 = .slice A2 (o.length + 1) k2 ∧ (∃ A n c r e, Own W1 g 224 [.slice A n c, .int .i64 r, .int .i64 e, .slice A1 o.length k1, .bool false]) ∧ RdrAt (W1.setCell ⟨g, 3, none⟩ v1) g 224 (N, [v1, .bool false]) s ∧ OwnI (W1.setCell ⟨g, 3, none⟩ v1) (g + 1) v1 (o ++ [op]) ∧ Chg (fun k => k = g ∨ Value.ownBlock (.slice A1 o.length k1) = some k) w (W1.setCell ⟨g, 3, none⟩ v1) ∧ (∀ k, v1.ownBlock = some k → Value.ownBlock (.slice A1 o.length k1) = some k ∨ w.heap.size ≤ k) := by
    intro W1 v1 h1 h2
    obtain ⟨A2, k2, e2, -, -, -⟩ := h1.rdI
    have hge := fun k hk => owns_ge (g := k) h.2.1 hk
    have hr : RdrAt W1 g 224 (N, [.slice A1 o.length k1, .bool false]) s := h.1.chg h2.1 fun k hk e => by have := hge k e; omega
    refine ⟨A2, k2, by rw [e2]; simp, hr.own, hr.tail 0 v1 rfl, h1.far (chgSet _ _ _ _), (h2.1.mono fun k _ e => .inr e).trans ((chgSet _ _ _ _).mono fun k _ e => .inl e) fun k _ e => e, h2.2⟩
  have HK := Lib.hid key
  clear key h ho hk1 hk2 c4 f4
  have HOW := Lib.hid HH.out.2.1
  generalize hq : o.length = q at *
  have HQ := Lib.hid hq
  clear hq
  by_cases hb : 32 < q + 1
  · have hb' : (32 : Int) < (q : Int) + 1 := by omega
    have HP := Lib.hid (HP2.out hb)
    clear HP1 HP2 hb
    rcases hop with rfl | rfl | rfl
    all_goals
      go_enter Tryz.func189, Tryz.ntmps189
      go_wp2_with (at_builtin; refine wpList_appI1 rfl (.tmp 20) (.tmp 22) rfl (g + 1) (.slice A1 q k1) o rfl HOW.out _ rfl (by have := HQ.out; omega) (by omega) ?_; intro v1 w3 hv1 hw1; have HV := Lib.hid (HK.out w3 v1 hv1 hw1); clear hv1 hw1; obtain ⟨A2, k2, rfl, ⟨A', n', c', r', e', ho'⟩, -⟩ := HV.out; clear c3 f3; obtain ⟨c3, -, f3, -⟩ := own_cells5 ho'; clear ho')
      obtain ⟨A9, k9, -, -, p1, p2, p3, p4⟩ := HV.out
      have H9 := Lib.hid (And.intro p1 (And.intro p2 (And.intro p3 p4)))
      clear p1 p2 p3 p4 HV
      refine (rfail_any g _ _ s 4 _ H9.out.1 (by omega) (by omega)).mono ?_
      rintro e w2 ⟨⟨u, rfl⟩, h2, hc⟩
      have HC := Lib.hid (And.intro h2 hc)
      clear h2 hc
      go_wp2
      go_end0
      refine ⟨_, .slice A2 (q + 1) k2, _, false, rfl, by rw [nst_no HP.out]; exact ⟨HC.out.1, H9.out.2.1.far HC.out.2, by have := HQ.out; simp; omega⟩, fun r hr => ?_, H9.out.2.2.1.trans HC.out.2 fun k _ e => .inl e, H9.out.2.2.2⟩
      rw [HP.out] at hr; cases hr
  · have hb' : ¬ (32 : Int) < (q : Int) + 1 := by omega
    have HP := Lib.hid (HP1.out hb)
    clear HP1 HP2 hb
    rcases hop with rfl | rfl | rfl
    all_goals
      go_enter Tryz.func189, Tryz.ntmps189
      go_wp2_with (at_builtin; refine wpList_appI1 rfl (.tmp 20) (.tmp 22) rfl (g + 1) (.slice A1 q k1) o rfl HOW.out _ rfl (by have := HQ.out; omega) (by omega) ?_; intro v1 w3 hv1 hw1; have HV := Lib.hid (HK.out w3 v1 hv1 hw1); clear hv1 hw1; obtain ⟨A2, k2, rfl, ⟨A', n', c', r', e', ho'⟩, -⟩ := HV.out; clear c3 f3; obtain ⟨c3, -, f3, -⟩ := own_cells5 ho'; clear ho')
      go_end0
      obtain ⟨A9, k9, -, -, p1, p2, p3, p4⟩ := HV.out
      refine ⟨_, .slice A2 (q + 1) k2, _, false, rfl, by rw [nst_ok HP.out]; exact ⟨p1, p2, by have := HQ.out; simp; omega⟩, fun r hr => ?_, p3, p4⟩
      rw [HP.out] at hr; injection hr with hr; subst hr; exact ⟨rfl, rfl⟩
theorem cnest_any (op : Int) (g N : Nat) (s : St) (ov : Value) (o : List Int) (w : World) (h : NsAt w g N s ov o false) (hol : o.length ≤ 100000) :
    Calls Tryz.prog 189 #[.pointer (some ⟨g, 0, none⟩), .int .i64 op] w (NestPost op g N s ov o w) := by
  by_cases h2 : op = 2 ∨ op = 3 ∨ op = 4
  · exact cnest_open op h2 g N s ov o w h hol
  by_cases h5 : op = 5
  · subst h5; exact cnest_else g N s ov o w h
  by_cases h11 : op = 11
  · subst h11; exact cnest_end g N s ov o w h
  exact cnest_other op g N s ov o false w h (by omega) (by omega) (by omega) h5 h11
end Go.Proofs.YtadgiekiiicmfaaGreatDoor

/- code's source: an instruction, with what is open. -/
namespace Go.Proofs.YtadgiekiiicmfaaGreatDoor
open Go.RowKit
set_option maxRecDepth 100000
set_option linter.unusedVariables false

def insV (x : Ins) (A : Option Addr) (c : Nat) : Value := .agg #[.int .i64 x.op, .int .u32 x.a, .int .u32 x.b, .int .u64 x.n, .slice A x.l.length c, .int .i64 x.t]
def InPost (g N : Nat) (s : St) (ov : Value) (o : List Int) (w : World) (e : Ending) (w' : World) : Prop :=
  ∃ x A c ov' o' over', e = .returned (insV x A c) ∧ LabX (fun k => w.heap.size ≤ k ∧ ov'.ownBlock ≠ some k) w' x A c ∧ InsOk x ∧ NsAt w' g N (nx (pSt o) s) ov' o' over' ∧ (∀ r l', bd s (pSt o) = .ok (r, l') → r = (x, o', over')) ∧ Chg (fun k => k = g ∨ ov.ownBlock = some k) w w' ∧ (∀ k, ov'.ownBlock = some k → ov.ownBlock = some k ∨ w.heap.size ≤ k)
def put6 (w : World) (g : Nat) (a : Array Value) : World := ((((((w.setCell ⟨g, 0, none⟩ (a.getD 0 undef)).setCell ⟨g, 1, none⟩ (a.getD 1 undef)).setCell ⟨g, 2, none⟩ (a.getD 2 undef)).setCell ⟨g, 3, none⟩ (a.getD 3 undef)).setCell ⟨g, 4, none⟩ (a.getD 4 undef)).setCell ⟨g, 5, none⟩ (a.getD 5 undef))
theorem chg6 (w : World) (g : Nat) (a : Array Value) : Chg (fun k => k = g) w (put6 w g a) :=
  (((((chgSet w g 0 _).trans (chgSet _ g 1 _) fun _ _ e => e).trans (chgSet _ g 2 _) fun _ _ e => e).trans (chgSet _ g 3 _) fun _ _ e => e).trans (chgSet _ g 4 _) fun _ _ e => e).trans (chgSet _ g 5 _) fun _ _ e => e
theorem own_put6 {w : World} {g : Nat} {t : TypeId} {b0 b1 b2 b3 b4 b5 : Value} (h : Own w g t [b0, b1, b2, b3, b4, b5]) (a0 a1 a2 a3 a4 a5 : Value) : Own (put6 w g #[a0, a1, a2, a3, a4, a5]) g t [a0, a1, a2, a3, a4, a5] :=
  (((((h.set 0 a0).set 1 a1).set 2 a2).set 3 a3).set 4 a4).set 5 a5

theorem kd_imm (x : Int) : 0 ≤ (kd x).1 ∧ (kd x).1 ≤ 8 ∧ 0 ≤ (kd x).2 ∧ (kd x).2 ≤ 5 := by
  unfold kd
  split
  · simp
  · split
    · simp
    · split
      · simp
      · split
        · unfold kf; split
          · simp
          · split <;> simp
        · unfold kb
          split; · simp
          split; · simp
          split; · simp
          split; · simp
          split; · simp
          split; · simp
          split; · simp
          split <;> simp
theorem in_bad {s : St} {op : Int} {o : List Int} (h : ∀ a l', bd s pOp = .ok (a, l') → op = a) (hk : (kd op).2 ≠ 0) : nx (pSt o) s = failS (kd op).2 (nx pOp s) ∧ ∀ r l', bd s (pSt o) ≠ .ok (r, l') := by
  cases s with
  | error e => exact ⟨rfl, fun a l' h => by cases h⟩
  | ok l =>
    simp only [nx_ok, bd_ok, pSt, pIn, seq] at h ⊢
    cases hp : pOp l with
    | error e => simp [failS]
    | ok r =>
      have := h r.1 r.2 (by rw [hp])
      subst this
      simp [hk, failS]
theorem in_good {s : St} {op : Int} {o : List Int} {x : Ins} {o' : List Int} {over' : Bool} (h : ∀ a l', bd s pOp = .ok (a, l') → op = a) (hk : (kd op).2 = 0) (hx : ∀ a l', bd (nx pOp s) (pBh (kd op).1 op) = .ok (a, l') → x = a) (hop : x.op = op) (hn : ∀ r, nestP op o = .ok r → o' = r.1 ∧ over' = r.2) :
    nx (pSt o) s = nstS op o (nx (pBh (kd op).1 op) (nx pOp s)) ∧ ∀ r l', bd s (pSt o) = .ok (r, l') → r = (x, o', over') := by
  subst hop
  cases s with
  | error e => refine ⟨?_, fun a l' h => by cases h⟩; simp only [nx_error]; unfold nstS; split <;> rfl
  | ok l =>
    simp only [nx_ok, bd_ok, pSt, pIn, seq] at h hx ⊢
    cases hp : pOp l with
    | error e => refine ⟨?_, fun a l' h => by cases h⟩; simp only [bd_error, nx_error]; unfold nstS; split <;> rfl
    | ok r =>
      have e := h r.1 r.2 (by rw [hp])
      rw [hp] at hx
      simp only [bd_ok, ← e, hk, if_true, nx_ok] at hx ⊢
      cases hq : pBh (kd x.op).1 x.op r.2 with
      | error e => refine ⟨?_, fun a l' h => by cases h⟩; simp only [bd_error]; unfold nstS; split <;> rfl
      | ok q =>
        have e2 := hx q.1 q.2 (by rw [hq])
        simp only [bd_ok, ← e2]
        unfold nstS
        cases hz : nestP x.op o with
        | error e => exact ⟨rfl, fun a l' h => by cases h⟩
        | ok z =>
          obtain ⟨h1, h2⟩ := hn z hz
          refine ⟨rfl, fun r l' h => ?_⟩
          simp only [bd_ok] at h
          injection h with h
          injection h with h _
          rw [← h, h1, h2]

set_option maxHeartbeats 4000000 in
theorem cinstr_any (g N : Nat) (s : St) (ov : Value) (o : List Int) (w : World) (h : NsAt w g N s ov o false) (hol : o.length ≤ 100000) :
    Calls Tryz.prog 176 #[.pointer (some ⟨g, 0, none⟩)] w (InPost g N s ov o w) := by
  have HH := Lib.hid h
  have hgw := h.1.lt
  have H1 : Hid (NsAt (w.alloc (.cells #[.int .i64 0, .int .u32 0, .int .u32 0, .int .u64 0, .slice none 0 0, .int .i64 0] 76)) g N s ov o false ∧ Own (w.alloc (.cells #[.int .i64 0, .int .u32 0, .int .u32 0, .int .u64 0, .slice none 0 0, .int .i64 0] 76)) w.heap.size 76 [.int .i64 0, .int .u32 0, .int .u32 0, .int .u64 0, .slice none 0 0, .int .i64 0]) := by
    have hb : Below w.heap.size w (w.alloc (.cells #[.int .i64 0, .int .u32 0, .int .u32 0, .int .u64 0, .slice none 0 0, .int .i64 0] 76)) := (Below.refl _ _).alloc (Nat.le_refl _) _
    exact ⟨⟨h.1.later hb, h.2.1.later hb, h.2.2⟩, Own.new w _ _⟩
  clear h
  go_enter Tryz.func176, Tryz.ntmps176
  go_wp2_with fail
  refine (cop_any g _ _ s _ H1.out.1.1).mono ?_
  rintro e w1 ⟨op, rfl, op0, op1, h2, h3, h4⟩
  generalize hgx : w.heap.size = gx at *
  have H2 : Hid (BhAt (w1.setCell ⟨gx, 0, none⟩ (.int .i64 op)) g 224 (N, [ov, .bool false]) (nx pOp s) gx (insC ⟨op, 0, 0, 0, [], 0⟩ none 0) ∧ OwnI (w1.setCell ⟨gx, 0, none⟩ (.int .i64 op)) (g + 1) ov o ∧ Chg (fun k => k = g) w (w1.setCell ⟨gx, 0, none⟩ (.int .i64 op)) ∧ gx ≤ w1.heap.size) := by
    have ho := H1.out.2.chg h4 (by omega)
    have hx : BhAt w1 g 224 (N, [ov, .bool false]) (nx pOp s) gx (insC ⟨0, 0, 0, 0, [], 0⟩ none 0) := ⟨h2, ho, hgw⟩
    have hc : Chg (fun k => k = g) w w1 := (Chg.alloc (S := fun k => k = g) w _).trans h4 fun k _ e => e
    have hc2 := chgSet w1 gx 0 (.int .i64 op)
    have hn : ∀ k, ov.ownBlock = some k → k ≠ gx := fun k hk => by have := owns_lt HH.out.2.1 hk; omega
    exact ⟨hx.set 0 _, ((H1.out.1.2.1.far h4).chg hc2 fun k hk e => hn k hk e), hc.trans hc2 fun k hk e => by omega, by have := hc.size; omega⟩
  have H3 := Lib.hid h3
  have ho := H1.out.2.chg h4 (by omega)
  obtain ⟨c0, c1, c2, c3, c4, c5, f0, f1, f2, f3, f4, f5⟩ := own_cells6 ho
  clear ho h2 h3 h4 H1
  by_cases hk : (kd op).2 = 0
  · have HK := Lib.hid hk
    have hkb := kd_imm op
    go_wp2_with (go_at_call 187; refine (kind_any op _).mono ?_; unfold pr; rintro e w' ⟨rfl, rfl⟩; rw [hk])
    refine (cbehind_any op g _ _ _ gx _ H2.out.1 (kd op).1 (by omega) (by omega)).mono ?_
    rintro e w2 ⟨u, x, A, c, rfl, h2, h3, h4, h5, h6, hc⟩
    have hc2 : Chg (fun k => k = g) w w2 := H2.out.2.2.1.trans hc fun k hk e => by omega
    have hn : ∀ k, ov.ownBlock = some k → g < k ∧ k < gx := fun k hk => by have := owns_lt HH.out.2.1 hk; have := owns_ge HH.out.2.1 hk; omega
    have hN : NsAt w2 g N (nx (pBh (kd op).1 op) (nx pOp s)) ov o false := ⟨h2.1, H2.out.2.1.chg hc fun k hk e => by have := hn k hk; omega, HH.out.2.2⟩
    have hwz : gx < (w1.setCell ⟨gx, 0, none⟩ (.int .i64 op)).heap.size := H2.out.1.2.1.lt
    have HB := Lib.hid (And.intro h2 (And.intro (h3.mono (Y := fun k => gx < k) fun k _ hk => Nat.lt_of_lt_of_le hwz hk) (And.intro h4 (And.intro h6 (And.intro hc2 hN)))))
    obtain ⟨d0, d1, d2, d3, d4, d5, -, -, -, -, -, -⟩ := own_cells6 h2.2.1
    have HX := Lib.hid h5
    clear h2 h3 h4 h6 hc hc2 hN hwz c0 c1 c2 c3 c4 c5 f0 f1 f2 f3 f4 f5 d1 d2 d3 d4 d5
    rw [h5] at d0
    clear h5 hkb hk
    go_wp2_with fail
    refine (cnest_any op g N _ ov o w2 HB.out.2.2.2.2.2 hol).mono ?_
    rintro e w3 ⟨u2, ov', o', over', rfl, n1, n2, n3, n4⟩
    have hlt := HB.out.1.2.1.lt
    have hgn : ¬ (gx = g ∨ ov.ownBlock = some gx) := by rintro (e | e); · omega
                                                        · have := hn gx e; omega
    have ho := HB.out.1.2.1.chg n3 hgn
    have hL := (HB.out.2.1.mono (Y := fun k => gx < k ∧ ov'.ownBlock ≠ some k) fun k hk hx => ⟨hx, fun e => by
      rcases n4 k e with h | h
      · have := hn k h; omega
      · omega⟩).chg n3 fun k _ hk => by
      have := hk.1
      rintro (e | e)
      · omega
      · have := hn k e; omega
    have HD := Lib.hid (And.intro n1 (And.intro n4 (And.intro ((HB.out.2.2.2.2.1.mono fun k _ e => .inl e).trans n3 fun k hk e => e) (And.intro ho hL))))
    have HI := Lib.hid (in_good (o := o) H3.out HK.out HB.out.2.2.2.1 HX.out n2)
    obtain ⟨c0, c1, c2, c3, c4, c5, f0, f1, f2, f3, f4, f5⟩ := own_cells6 ho
    have HN := Lib.hid (And.intro hn hlt)
    have HOK := Lib.hid HB.out.2.2.1
    clear n1 n2 n3 n4 ho hL d0 hlt hgn hn HB H2 HH H3
    generalize hlq : x.l.length = lq at *
    have HLQ := Lib.hid hlq
    clear hlq
    go_wp2
    have hW := own_put6 HD.out.2.2.2.1 (.int .i64 x.op) (.int .u32 x.a) (.int .u32 x.b) (.int .u64 x.n) (.slice A x.l.length c) (.int .i64 x.t)
    have hC := chg6 w3 gx #[.int .i64 x.op, .int .u32 x.a, .int .u32 x.b, .int .u64 x.n, .slice A x.l.length c, .int .i64 x.t]
    obtain rfl := HLQ.out
    show bodyPost _ _ _ _ _ (put6 w3 gx #[.int .i64 x.op, .int .u32 x.a, .int .u32 x.b, .int .u64 x.n, .slice A x.l.length c, .int .i64 x.t])
    generalize put6 w3 gx #[.int .i64 x.op, .int .u32 x.a, .int .u32 x.b, .int .u64 x.n, .slice A x.l.length c, .int .i64 x.t] = W at *
    clear c0 c1 c2 c3 c4 c5 f0 f1 f2 f3 f4 f5
    obtain ⟨k0, k1, k2, k3, k4, k5, -, -, -, -, -, -⟩ := own_cells6 hW
    refine bodyPost_ret (by simp [results, Tryz.results176, go_sem, k0, k1, k2, k3, k4, k5]; try rfl) rfl ?_
    obtain ⟨q1, q2, q3, q4, q5⟩ := HD.out
    refine ⟨x, A, c, ov', o', over', rfl, ?_, HOK.out, ⟨?_, ?_, q1.2.2⟩, HI.out.2, q3.trans hC fun k hk e => by omega, fun k hk => ?_⟩
    · exact (q5.chg hC fun k _ hk e => by have := hk.1; omega).mono fun k _ hk => ⟨by have := hk.1; omega, hk.2⟩
    · rw [HI.out.1]; exact q1.1.chg hC fun k hk e => by omega
    · exact q1.2.1.chg hC fun k hk e => by
        rcases q2 k hk with h | h
        · have := HN.out.1 k h; omega
        · have := HN.out.2; omega
    · rcases q2 k hk with h | h
      · exact .inl h
      · have := HN.out.2; exact .inr (by omega)
  · have HK := Lib.hid hk
    have hke : ((kd op).2 != 0) = true := by simpa using hk
    have hkb := kd_imm op
    go_wp2_with (go_at_call 187; refine (kind_any op _).mono ?_; unfold pr; rintro e w' ⟨rfl, rfl⟩)
    refine (rfail_any g _ _ _ (kd op).2 _ H2.out.1.1 (by omega) (by omega)).mono ?_
    rintro e w2 ⟨⟨u, rfl⟩, h2, hc⟩
    have HB := Lib.hid (And.intro (H2.out.1.step h2 hc) (And.intro (H2.out.2.1.far hc) hc))
    clear h2 hc c0 c1 c2 c3 c4 c5 f0 f1 f2 f3 f4 f5
    obtain ⟨c0, c1, c2, c3, c4, c5, f0, f1, f2, f3, f4, f5⟩ := own_cells6 HB.out.1.2.1
    have HI := Lib.hid (in_bad (o := o) H3.out hk)
    simp only [List.length_nil] at c4
    clear hkb hk
    generalize (kd op).2 = ke at *
    generalize (kd op).1 = ki at *
    go_wp2
    have hW := own_put6 HB.out.1.2.1 (.int .i64 op) (.int .u32 0) (.int .u32 0) (.int .u64 0) (.slice none 0 0) (.int .i64 0)
    have hC := chg6 w2 gx #[.int .i64 op, .int .u32 0, .int .u32 0, .int .u64 0, .slice none 0 0, .int .i64 0]
    show bodyPost _ _ _ _ _ (put6 w2 gx #[.int .i64 op, .int .u32 0, .int .u32 0, .int .u64 0, .slice none 0 0, .int .i64 0])
    generalize put6 w2 gx #[.int .i64 op, .int .u32 0, .int .u32 0, .int .u64 0, .slice none 0 0, .int .i64 0] = W at *
    clear c0 c1 c2 c3 c4 c5 f0 f1 f2 f3 f4 f5
    obtain ⟨k0, k1, k2, k3, k4, k5, -, -, -, -, -, -⟩ := own_cells6 hW
    refine bodyPost_ret (by simp [results, Tryz.results176, go_sem, k0, k1, k2, k3, k4, k5]; try rfl) rfl ?_
    have hc2 : Chg (fun k => k = g) w W := (H2.out.2.2.1.trans HB.out.2.2 fun k hk e => e).trans hC fun k hk e => by omega
    refine ⟨⟨op, 0, 0, 0, [], 0⟩, none, 0, ov, o, false, rfl, LabX.nil _ _ rfl, ⟨by simp, by simp, by simp, by simp, by simp, by simp, by simp, by simp, IsU32.nil, by simp⟩, ⟨?_, HB.out.2.1.chg hC fun k hk e => ?_, HH.out.2.2⟩, fun r l' h => (HI.out.2 r l' h).elim, hc2.mono fun k _ e => .inl e, fun k hk => .inl hk⟩
    · rw [HI.out.1]; exact HB.out.1.1.chg hC fun k hk e => by omega
    · have := owns_lt HH.out.2.1 hk; omega
end Go.Proofs.YtadgiekiiicmfaaGreatDoor

/- What is read is a front of the bytes, and errors are numbers from 1 to 100. No function of the program. -/
namespace Go.Proofs.YtadgiekiiicmfaaGreatDoor
open Go.RowKit
set_option maxRecDepth 100000
set_option linter.unusedVariables false

structure Gd {α : Type} (p : PR α) : Prop where
  suf : ∀ l a l', p l = .ok (a, l') → ∃ m, l' = l.drop m
  err : ∀ l x, p l = .error x → 0 < x ∧ x ≤ 100
section
variable {α β : Type} {p q : PR α} {f : α → PR β}
theorem Gd.pure (x : α) : Gd (fun l => .ok (x, l) : PR α) := ⟨fun l a l' h => ⟨0, by simp only [Except.ok.injEq, Prod.mk.injEq] at h; simp [h.2]⟩, fun l x h => by cases h⟩
theorem Gd.fail (e : Int) (h0 : 0 < e) (h1 : e ≤ 100) : Gd (fun _ => .error e : PR α) := ⟨(fun l a l' h => by cases h), (fun l x h => by injection h with h; subst h; exact ⟨h0, h1⟩)⟩
theorem Gd.seq (hp : Gd p) (hf : ∀ a, Gd (f a)) : Gd (Go.Proofs.YtadgiekiiicmfaaGreatDoor.seq p f) := by
  refine ⟨fun l b l' h => ?_, fun l x h => ?_⟩
  · unfold Go.Proofs.YtadgiekiiicmfaaGreatDoor.seq at h
    cases hl : p l with
    | error e => rw [hl] at h; cases h
    | ok r =>
      rw [hl] at h
      obtain ⟨m, hm⟩ := hp.suf l r.1 r.2 hl
      obtain ⟨k, hk⟩ := (hf r.1).suf _ _ _ h
      exact ⟨m + k, by rw [hk, hm, List.drop_drop]⟩
  · unfold Go.Proofs.YtadgiekiiicmfaaGreatDoor.seq at h
    cases hl : p l with
    | error e => rw [hl] at h; injection h with h; subst h; exact hp.err l e hl
    | ok r => rw [hl] at h; exact (hf r.1).err _ _ h
theorem Gd.ite {c : Prop} [Decidable c] (hp : Gd p) (hq : Gd q) : Gd (if c then p else q) := by split <;> assumption
theorem Gd.iteL {c : List Int → Prop} [∀ l, Decidable (c l)] (hp : Gd p) (hq : Gd q) : Gd (fun l => if c l then p l else q l) := by
  refine ⟨fun l a l' h => ?_, fun l x h => ?_⟩
  · split at h
    · exact hp.suf _ _ _ h
    · exact hq.suf _ _ _ h
  · split at h
    · exact hp.err _ _ h
    · exact hq.err _ _ h
theorem Gd.test {c : Prop} [Decidable c] (x : α) (e : Int) (h0 : 0 < e) (h1 : e ≤ 100) : Gd (fun l => if c then .ok (x, l) else .error e : PR α) := Gd.iteL (c := fun _ => c) (Gd.pure x) (Gd.fail e h0 h1)
theorem Gd.test' {c : Prop} [Decidable c] (x : α) (e : Int) (h0 : 0 < e) (h1 : e ≤ 100) : Gd (fun l => if c then .error e else .ok (x, l) : PR α) := Gd.iteL (c := fun _ => c) (Gd.fail e h0 h1) (Gd.pure x)
/-- All that is left behind is what was not read. -/
theorem Gd.drop (hp : Gd p) {l l' : List Int} {a : α} (h : p l = .ok (a, l')) : l.drop (l.length - l'.length) = l' ∧ l'.length ≤ l.length := by
  obtain ⟨m, rfl⟩ := hp.suf l a l' h
  rw [List.length_drop]
  refine ⟨?_, by omega⟩
  rcases Nat.le_total m l.length with hm | hm
  · rw [show l.length - (l.length - m) = m from by omega]
  · rw [show l.length - (l.length - m) = l.length from by omega, List.drop_length, List.drop_eq_nil_of_le hm]
theorem Gd.kp (hp : Gd p) (s : St) (hs : ∀ e, s = .error e → 0 < e ∧ e ≤ 100) : ∀ e, Go.Proofs.YtadgiekiiicmfaaGreatDoor.nx p s = .error e → 0 < e ∧ e ≤ 100 := fun e h => by
  cases s with
  | error y => injection h with h; subst h; exact hs _ rfl
  | ok l =>
    rw [nx_ok] at h
    cases hl : p l with
    | error y => rw [hl] at h; injection h with h; subst h; exact hp.err _ _ hl
    | ok r => rw [hl] at h; cases h
end
theorem gd_byte : Gd pByte := by
  refine ⟨fun l a l' h => ?_, fun l x h => ?_⟩
  · cases l with
    | nil => cases h
    | cons x t => simp only [pByte, Except.ok.injEq, Prod.mk.injEq] at h; exact ⟨1, by simp [h.2]⟩
  · cases l with
    | nil => injection h with h; subst h; omega
    | cons y t => cases h
theorem gd_bytes (n : Nat) : Gd (pBytes n) := by
  refine ⟨fun l a l' h => ?_, fun l x h => ?_⟩
  · unfold pBytes at h
    split at h
    · simp only [Except.ok.injEq, Prod.mk.injEq] at h; exact ⟨n, h.2.symm⟩
    · cases h
  · unfold pBytes at h
    split at h
    · cases h
    · injection h with h; subst h; omega
theorem gd_U (bits : Int) (h0 : 1 ≤ bits) (h1 : bits ≤ 64) : Gd (pU bits) := by
  refine ⟨fun l a l' h => ?_, fun l x h => ?_⟩
  · unfold pU at h
    split at h
    · simp only [Except.ok.injEq, Prod.mk.injEq] at h; exact ⟨_, h.2.symm⟩
    · cases h
  · unfold pU at h
    split at h
    · cases h
    · injection h with h; subst h
      rename_i hn
      rcases rdU_cases bits h0 h1 l with e | e | ⟨u, m, e, -⟩
      · rw [e]; decide
      · rw [e]; decide
      · rw [e] at hn; exact absurd rfl hn
theorem gd_S (bits : Int) (h0 : 1 ≤ bits) (h1 : bits ≤ 64) : Gd (pS bits) := by
  refine ⟨fun l a l' h => ?_, fun l x h => ?_⟩
  · unfold pS at h
    split at h
    · simp only [Except.ok.injEq, Prod.mk.injEq] at h; exact ⟨_, h.2.symm⟩
    · cases h
  · unfold pS at h
    split at h
    · cases h
    · injection h with h; subst h
      rename_i hn
      rcases rdS_cases bits h0 h1 l with e | e | ⟨u, m, e, -⟩
      · rw [e]; decide
      · rw [e]; decide
      · rw [e] at hn; exact absurd rfl hn
theorem gd_count (m : Int) : Gd (pCount m) := (gd_U 32 (by omega) (by omega)).seq fun v => Gd.test' v 4 (by omega) (by omega)
theorem gd_valE (t : Int) (h : valE t ≠ 0) : 0 < valE t ∧ valE t ≤ 100 := by rcases valE_cases t with e | e | e <;> rw [e] at h ⊢ <;> first | exact absurd rfl h | omega
theorem gd_val : Gd pVal := gd_byte.seq fun x => by
  refine ⟨fun l a l' h => ?_, fun l y h => ?_⟩
  · split at h
    · simp only [Except.ok.injEq, Prod.mk.injEq] at h; exact ⟨0, by simp [h.2]⟩
    · cases h
  · split at h
    · cases h
    · injection h with h; subst h; rename_i hn; exact gd_valE x hn
theorem gd_among (ps : List Int) : Gd (pAmong ps) := gd_byte.seq fun x => Gd.test x 2 (by omega) (by omega)
theorem gd_V : ∀ (n : Nat) (acc : List Int), Gd (pV n acc)
  | 0, acc => Gd.pure acc
  | n + 1, acc => gd_val.seq fun x => gd_V n (acc ++ [x])
theorem gd_vals : Gd pVals := (gd_count 8).seq fun n => gd_V _ _
theorem gd_fn : Gd pFn := (gd_among _).seq fun _ => gd_vals.seq fun ps => gd_vals.seq fun rs => Gd.pure (ps, rs)
theorem gd_lim : Gd pLim := (gd_among _).seq fun k => (gd_U 32 (by omega) (by omega)).seq fun a => Gd.ite ((gd_U 32 (by omega) (by omega)).seq fun b => Gd.pure _) (Gd.pure _)
theorem gd_zero : Gd pZero := gd_byte.seq fun b => Gd.test 0 2 (by omega) (by omega)
theorem gd_nm (op i : Int) : Gd (pNm op i) := Gd.ite (gd_U 32 (by omega) (by omega)) gd_zero
theorem gd_op : Gd pOp := gd_byte.seq fun b => Gd.ite ((gd_U 32 (by omega) (by omega)).seq fun n => Gd.test' _ 2 (by omega) (by omega)) (Gd.pure b)
theorem gd_al : Gd pAl := (gd_U 32 (by omega) (by omega)).seq fun n => Gd.test' n 2 (by omega) (by omega)
theorem gd_bl : Gd pBl := by
  refine ⟨fun l a l' h => ?_, fun l x h => ?_⟩
  · unfold pBl at h
    cases hl : pS 33 l with
    | error e => rw [hl] at h; cases h
    | ok r =>
      rw [hl] at h
      obtain ⟨m, hm⟩ := (gd_S 33 (by omega) (by omega)).suf l r.1 r.2 hl
      have hr : r = (a, l') := by
        simp only [bd_ok] at h
        split at h
        · injection h
        · split at h
          · cases h
          · split at h
            · injection h
            · split at h
              · injection h
              · cases h
      subst hr
      exact ⟨m, hm⟩
  · unfold pBl at h
    cases hl : pS 33 l with
    | error e => rw [hl] at h; injection h with h; subst h; exact (gd_S 33 (by omega) (by omega)).err l e hl
    | ok r =>
      rw [hl] at h
      simp only [bd_ok] at h
      split at h
      · cases h
      · split at h
        · injection h with h; subst h; omega
        · split at h
          · cases h
          · split at h
            · cases h
            · rename_i hn
              injection h with h; subst h; exact gd_valE _ hn
theorem gd_lb : ∀ (n : Nat) (acc : List Int), Gd (pLb n acc)
  | 0, acc => Gd.pure acc
  | n + 1, acc => (gd_U 32 (by omega) (by omega)).seq fun x => gd_lb n (acc ++ [x])
theorem gd_labels : Gd pLabels := (gd_count 600).seq fun n => gd_lb _ _
theorem gd_ty (op : Int) : Gd (pTy op) := Gd.ite ((gd_U 32 (by omega) (by omega)).seq fun n => Gd.iteL (c := fun _ => n = 1) gd_val (Gd.fail 2 (by omega) (by omega))) (gd_val.seq fun t => Gd.test t 2 (by omega) (by omega))
theorem gd_bh (imm op : Int) : Gd (pBh imm op) := by
  unfold pBh
  refine Gd.ite ((gd_nm _ _).seq fun a => Gd.pure _) (Gd.ite ((gd_nm _ _).seq fun a => (gd_nm _ _).seq fun b => Gd.pure _) (Gd.ite ((gd_S 32 (by omega) (by omega)).seq fun a => Gd.pure _) (Gd.ite ((gd_S 64 (by omega) (by omega)).seq fun a => Gd.pure _)
    (Gd.ite (gd_al.seq fun a => (gd_U 32 (by omega) (by omega)).seq fun b => Gd.pure _) (Gd.ite (gd_bl.seq fun a => Gd.pure _) (Gd.ite (gd_labels.seq fun a => (gd_U 32 (by omega) (by omega)).seq fun b => Gd.pure _) (Gd.ite ((gd_ty op).seq fun a => Gd.pure _) (Gd.pure _))))))))
theorem gd_in : Gd pIn := gd_op.seq fun op => by
  split
  · exact gd_bh _ _
  · rename_i hn
    have := kd_imm op
    exact Gd.fail _ (by omega) (by omega)
theorem gd_st (o : List Int) : Gd (pSt o) := gd_in.seq fun x => by
  cases hn : nestP x.op o with
  | ok r => simp only [bd_ok]; exact Gd.pure _
  | error e =>
    simp only [bd_error]
    refine Gd.fail e ?_ ?_ <;>
    · unfold nestP at hn
      split at hn
      · split at hn
        · injection hn with hn; omega
        · cases hn
      · split at hn
        · split at hn
          · cases hn
          · injection hn with hn; omega
        · split at hn
          · split at hn <;> cases hn
          · cases hn
theorem gd_body : ∀ (n : Nat) (o : List Int) (acc : List Ins), Gd (pBody n o acc)
  | 0, _, _ => Gd.fail 4 (by omega) (by omega)
  | n + 1, o, acc => (gd_st o).seq fun r => Gd.ite (Gd.pure _) (gd_body n _ _)
theorem gd_code : Gd pCode := gd_body _ _ _
theorem gd_sized : Gd pSized := (gd_U 32 (by omega) (by omega)).seq fun n => gd_bytes _
end Go.Proofs.YtadgiekiiicmfaaGreatDoor
