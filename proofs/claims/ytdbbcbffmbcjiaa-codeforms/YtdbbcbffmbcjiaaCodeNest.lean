/- code's source: what blocks are open. -/
import Derived.Test.YtdbbcbffmbcjiaaCodeBh
import Derived.Test.YtdbbcbffmbcjiaaInts
namespace Go.Proofs.Ytdbbcbffmbcjiaa
open Go.RowKit
set_option maxRecDepth 100000
set_option linter.unusedVariables false

/-- A source in g: its reader, what is open, whether the end has come. -/
def NsAt (w : World) (g N : Nat) (s : St) (ov : Value) (o : List Int) (over : Bool) : Prop := RdrAt w g 49 (N, [ov, .bool over]) s ∧ OwnI w (g + 1) ov o ∧ o.length ≤ 1000000
def nstS (op : Int) (o : List Int) (s : St) : St := match nestP op o with
  | .error e => failS e s
  | .ok _ => s
def NestPost (op : Int) (g N : Nat) (s : St) (ov : Value) (o : List Int) (w : World) (e : Ending) (w' : World) : Prop :=
  ∃ u ov' o' over', e = .returned u ∧ NsAt w' g N (nstS op o s) ov' o' over' ∧ (∀ r, nestP op o = .ok r → o' = r.1 ∧ over' = r.2) ∧ Chg (fun k => k = g ∨ ov.ownBlock = some k) w w' ∧ (∀ k, ov'.ownBlock = some k → ov.ownBlock = some k ∨ w.heap.size ≤ k)
theorem RdrAt.own {w : World} {g : Nat} {t : TypeId} {tl : RTl} {s : St} (h : RdrAt w g t tl s) : ∃ A n c r e, Own w g t (.slice A n c :: .int .i64 r :: .int .i64 e :: tl.2) := by
  cases s with
  | ok l => obtain ⟨A, c, r, h1, _⟩ := h; exact ⟨A, _, c, r, 0, h1⟩
  | error e => exact ⟨none, 0, 0, 0, e, h.1⟩
theorem RdrAt.tail {w : World} {g N : Nat} {t : TypeId} {L L' : List Value} {s : St} (h : RdrAt w g t (N, L) s) (j : Nat) (u : Value) (hL : L' = L.set j u) : RdrAt (w.setCell ⟨g, 3 + j, none⟩ u) g t (N, L') s := by
  have hc := chgSet w g (3 + j) u
  have e : ∀ a b c : Value, (a :: b :: c :: L).set (3 + j) u = a :: b :: c :: L' := fun a b c => by
    rw [hL, show 3 + j = j + 1 + 1 + 1 from by omega]; rfl
  cases s with
  | ok l =>
    obtain ⟨A, c, r, h1, h2, h5⟩ := h
    refine ⟨A, c, r, ?_, h2.chg hc fun k _ hk e => by omega, h5⟩
    have := h1.set (3 + j) u
    rwa [e] at this
  | error x =>
    refine ⟨?_, h.2⟩
    have := h.1.set (3 + j) u
    rwa [e] at this
theorem own_cells5 {w : World} {g : Nat} {t : TypeId} {a b c d e : Value} {tl : List Value} (h : Own w g t (a :: b :: c :: d :: e :: tl)) : w.cell? ⟨g, 3, none⟩ = some d ∧ w.cell? ⟨g, 4, none⟩ = some e ∧ w.frozen? ⟨g, 3, none⟩ = false ∧ w.frozen? ⟨g, 4, none⟩ = false :=
  ⟨h.cell 3, h.cell 4, h.frozen 3, h.frozen 4⟩
theorem nst_ok {op : Int} {o : List Int} {s : St} {r : List Int × Bool} (h : nestP op o = .ok r) : nstS op o s = s := by unfold nstS; rw [h]
theorem nst_no {op : Int} {o : List Int} {s : St} {e : Int} (h : nestP op o = .error e) : nstS op o s = failS e s := by unfold nstS; rw [h]

set_option maxHeartbeats 1000000 in
theorem cnest_other (op : Int) (g N : Nat) (s : St) (ov : Value) (o : List Int) (over : Bool) (w : World) (h : NsAt w g N s ov o false) (h2 : op ≠ 2) (h3 : op ≠ 3) (h4 : op ≠ 4) (h5 : op ≠ 5) (h11 : op ≠ 11) :
    Calls Try.prog 35 #[.pointer (some ⟨g, 0, none⟩), .int .i64 op] w (NestPost op g N s ov o w) := by
  have hp : nestP op o = .ok (o, false) := by unfold nestP; rw [if_neg (by omega), if_neg h5, if_neg h11]
  have HP := Lib.hid hp
  have HH := Lib.hid h
  obtain ⟨A, n, c, r, e, ho⟩ := h.1.own
  obtain ⟨c3, c4, f3, f4⟩ := own_cells5 ho
  obtain ⟨A1, k1, rfl, -, -, -⟩ := h.2.1.rdI
  clear h ho hp
  have e2 : (op == 2) = false := by simpa using h2
  have e3 : (op == 3) = false := by simpa using h3
  have e4 : (op == 4) = false := by simpa using h4
  have e5 : (op == 5) = false := by simpa using h5
  have e11 : (op == 11) = false := by simpa using h11
  clear h2 h3 h4 h5 h11
  generalize o.length = q at *
  go_enter Try.func35, Try.ntmps35
  go_wp2
  go_end0
  refine ⟨_, _, o, false, rfl, by rw [nst_ok HP.out]; exact HH.out, fun r hr => ?_, Chg.refl _ _, fun k hk => .inl hk⟩
  rw [HP.out] at hr
  injection hr with hr
  subst hr
  exact ⟨rfl, rfl⟩

/-- A slice of ints of the call's own that is not empty: where it lies. -/
theorem OwnI.spot {w : World} {base : Nat} {v : Value} {l : List Int} (h : OwnI w base v l) (hp : 0 < l.length) : ∃ g c, v = .slice (some ⟨g, 0, none⟩) l.length c ∧ base ≤ g ∧ g < w.heap.size ∧ l.length ≤ c ∧ c ≤ maxLen ∧ (∀ i, i < l.length → w.cell? ⟨g, i, none⟩ = some (.int .i64 (l.getD i 0)) ∧ w.frozen? ⟨g, i, none⟩ = false) := by
  have hlt := fun g hg => owns_lt (g := g) h hg
  rcases h.2 with ⟨_, h0⟩ | ⟨g, cap, cur, rfl, hg, hh, hn, hm, hs, ht⟩
  · omega
  · refine ⟨g, cap, rfl, hg, hlt g rfl, hn, hm, fun i hi => ⟨?_, World.ownsRow.frozenAt h i⟩⟩
    rw [World.ownsRow.cellAt h i (by omega), List.getElem?_map, List.getElem?_eq_getElem hi]
    simp [List.getD_eq_getElem?_getD, List.getElem?_eq_getElem hi]
theorem OwnI.store {w : World} {base g c : Nat} {l : List Int} (h : OwnI w base (.slice (some ⟨g, 0, none⟩) l.length c) l) (j : Nat) (z : Int) : OwnI (w.setCell ⟨g, j, none⟩ (.int .i64 z)) base (.slice (some ⟨g, 0, none⟩) l.length c) (l.set j z) := by
  have := World.ownsRow.stored h j (.int .i64 z)
  unfold OwnI
  rw [List.length_set, List.map_set]
  exact this.1
theorem OwnI.pop {w : World} {base g c : Nat} {l : List Int} {z : Int} (h : OwnI w base (.slice (some ⟨g, 0, none⟩) (l ++ [z]).length c) (l ++ [z])) : OwnI w base (.slice (some ⟨g, 0, none⟩) l.length c) l := by
  unfold OwnI at h ⊢
  rw [List.length_append, List.length_singleton, List.map_append] at h
  exact ownsRow_pop (by simp) h
theorem cutI_h (b n cap : Nat) (hi : Int) (h : Nat) (hh : hi = h) (h2 : h ≤ cap) (hc : 0 < cap) (W : World) : (Instr.sliceAt 47 (.slice (some ⟨b, 0, none⟩) n cap) none (some (.int .i64 hi)) none).run Try.prog W = .ok (.slice (some ⟨b, 0, none⟩) h cap) W := by
  subst hh
  have hu := under_ints
  have hu' : Try.prog.underlying 47 = some (.slice (Try.prog.elem 47)) := by rw [elem_of hu]; exact hu
  rw [run_sliceAt_slice W 47 _ _ _ _ hu', run_slice_h W 47 (some ⟨b, 0, none⟩) n cap hu' .i64 h (by omega) (by omega), run_sz hu (sz := 1) (by kernel_rfl)]
  simp [Result.andThen, sliced, show ¬ cap = 0 from by omega, Addr.add]

theorem last_of (o : List Int) : o = [] ∨ ∃ p z, o = p ++ [z] := by
  rcases List.eq_nil_or_concat o with h | ⟨p, z, h⟩
  · exact .inl h
  · exact .inr ⟨p, z, by rw [h]; simp⟩
theorem last_get (p : List Int) (z : Int) : (p ++ [z]).getD p.length 0 = z := by simp [List.getD_eq_getElem?_getD]
theorem set_last (p : List Int) (z y : Int) : (p ++ [z]).set p.length y = p ++ [y] := by simp

theorem OwnI.far {w w' : World} {g : Nat} {v : Value} {l : List Int} (h : OwnI w (g + 1) v l) (hc : Chg (fun k => k = g) w w') : OwnI w' (g + 1) v l := h.chg hc fun k hk e => by have := owns_ge h hk; omega
set_option maxHeartbeats 1000000 in
theorem cnest_else (g N : Nat) (s : St) (ov : Value) (o : List Int) (w : World) (h : NsAt w g N s ov o false) :
    Calls Try.prog 35 #[.pointer (some ⟨g, 0, none⟩), .int .i64 5] w (NestPost 5 g N s ov o w) := by
  have HH := Lib.hid h
  obtain ⟨A, n, c, r, e, ho⟩ := h.1.own
  obtain ⟨c3, c4, f3, f4⟩ := own_cells5 ho
  have HF := Lib.hid (rfail_any g _ _ s 2 w h.1 (by omega) (by omega))
  rcases last_of o with rfl | ⟨p, z, rfl⟩
  · have HP : Hid (nestP 5 [] = .error 2) := rfl
    obtain ⟨A1, k1, rfl, -, -, -⟩ := h.2.1.rdI
    clear h ho
    simp only [List.length_nil] at *
    go_enter Try.func35, Try.ntmps35
    go_wp2_with fail
    refine HF.out.mono ?_
    rintro e w2 ⟨⟨u, rfl⟩, h2, hc⟩
    have HC := Lib.hid (And.intro h2 hc)
    clear h2 hc
    go_wp2
    go_end0
    refine ⟨_, _, [], false, rfl, by rw [nst_no HP.out]; exact ⟨HC.out.1, HH.out.2.1.far HC.out.2, by simp⟩, fun r hr => ?_, HC.out.2.mono fun k _ e => .inl e, fun k hk => .inl hk⟩
    rw [HP.out] at hr; cases hr
  · obtain ⟨b, k1, hov, hgb, hbw, hk, hkm, hcell⟩ := h.2.1.spot (by simp)
    obtain ⟨cz, fz⟩ := hcell p.length (by simp)
    rw [last_get] at cz
    have hlen : (p ++ [z]).length = p.length + 1 := by simp
    have hm := h.2.2
    rw [hlen] at hov hm hk
    subst hov
    have hidx : wrap64 (((p.length + 1 : Nat) : Int) - 1) = p.length := by unfold wrap64; omega
    have HL := Lib.hid hlen
    by_cases hz : z = 4
    · subst hz
      have HP : Hid (nestP 5 (p ++ [4]) = .ok (p ++ [5], false)) := by unfold Hid nestP; simp
      clear h ho hcell hlen
      generalize hq : p.length = q at *
      have HQ := Lib.hid hq
      clear hq
      go_enter Try.func35, Try.ntmps35
      go_wp2
      go_end0
      obtain rfl := HQ.out
      have hst := HH.out.2.1
      rw [← HL.out] at hst
      have h5 := hst.store p.length 5
      rw [set_last, HL.out] at h5
      have hc := chgSet w b p.length (.int .i64 5)
      refine ⟨_, _, p ++ [5], false, rfl, by rw [nst_ok HP.out]; exact ⟨HH.out.1.chg hc (fun k hk e => by omega), h5, by simp; omega⟩, fun r hr => ?_, hc.mono fun k _ e => .inr (by subst e; rfl), fun k hk => .inl hk⟩
      rw [HP.out] at hr; injection hr with hr; subst hr; exact ⟨rfl, rfl⟩
    · have HP : Hid (nestP 5 (p ++ [z]) = .error 2) := by unfold Hid nestP; simp [hz]
      have hne : (z != 4) = true := by simpa using hz
      clear h ho hcell hlen hz
      generalize hq : p.length = q at *
      have HQ := Lib.hid hq
      clear hq
      go_enter Try.func35, Try.ntmps35
      go_wp2_with fail
      refine HF.out.mono ?_
      rintro e w2 ⟨⟨u, rfl⟩, h2, hc⟩
      have HC := Lib.hid (And.intro h2 hc)
      clear h2 hc
      go_wp2
      go_end0
      refine ⟨_, _, p ++ [z], false, rfl, by rw [nst_no HP.out]; exact ⟨HC.out.1, HH.out.2.1.far HC.out.2, HH.out.2.2⟩, fun r hr => ?_, HC.out.2.mono fun k _ e => .inl e, fun k hk => .inl hk⟩
      rw [HP.out] at hr; cases hr
set_option maxHeartbeats 1000000 in
theorem cnest_end (g N : Nat) (s : St) (ov : Value) (o : List Int) (w : World) (h : NsAt w g N s ov o false) :
    Calls Try.prog 35 #[.pointer (some ⟨g, 0, none⟩), .int .i64 11] w (NestPost 11 g N s ov o w) := by
  have HH := Lib.hid h
  obtain ⟨A, n, c, r, e, ho⟩ := h.1.own
  obtain ⟨c3, c4, f3, f4⟩ := own_cells5 ho
  rcases last_of o with rfl | ⟨p, z, rfl⟩
  · have HP : Hid (nestP 11 [] = .ok ([], true)) := rfl
    obtain ⟨A1, k1, rfl, -, -, -⟩ := h.2.1.rdI
    clear h ho
    simp only [List.length_nil] at *
    go_enter Try.func35, Try.ntmps35
    go_wp2
    go_end0
    have hc := chgSet w g 4 (.bool true)
    refine ⟨_, _, [], true, rfl, by rw [nst_ok HP.out]; exact ⟨HH.out.1.tail 1 (.bool true) rfl, HH.out.2.1.far hc, by simp⟩, fun r hr => ?_, hc.mono fun k _ e => .inl e, fun k hk => .inl hk⟩
    rw [HP.out] at hr; injection hr with hr; subst hr; exact ⟨rfl, rfl⟩
  · obtain ⟨b, k1, hov, hgb, hbw, hk, hkm, hcell⟩ := h.2.1.spot (by simp)
    have hlen : (p ++ [z]).length = p.length + 1 := by simp
    have hm := h.2.2
    rw [hlen] at hov hm hk
    subst hov
    have hidx : wrap64 (((p.length + 1 : Nat) : Int) - 1) = p.length := by unfold wrap64; omega
    have HL := Lib.hid hlen
    have HP : Hid (nestP 11 (p ++ [z]) = .ok (p, false)) := by unfold Hid nestP; simp
    have hcut := cutI_h b (p.length + 1) k1 p.length p.length rfl (by omega) (by omega)
    clear h ho hcell hlen
    generalize hq : p.length = q at *
    have HQ := Lib.hid hq
    clear hq
    go_enter Try.func35, Try.ntmps35
    go_wp2
    go_end0
    obtain rfl := HQ.out
    have hst := HH.out.2.1
    rw [← HL.out] at hst
    have h5 := hst.pop
    have hc := chgSet w g 3 (.slice (some ⟨b, 0, none⟩) p.length k1)
    refine ⟨_, .slice (some ⟨b, 0, none⟩) p.length k1, p, false, rfl, by rw [nst_ok HP.out]; exact ⟨HH.out.1.tail 0 _ rfl, h5.far hc, by omega⟩, fun r hr => ?_, hc.mono fun k _ e => .inl e, fun k hk => .inl hk⟩
    rw [HP.out] at hr; injection hr with hr; subst hr; exact ⟨rfl, rfl⟩
set_option maxHeartbeats 1000000 in
theorem cnest_open (op : Int) (hop : op = 2 ∨ op = 3 ∨ op = 4) (g N : Nat) (s : St) (ov : Value) (o : List Int) (w : World) (h : NsAt w g N s ov o false) (hol : o.length ≤ 100000) :
    Calls Try.prog 35 #[.pointer (some ⟨g, 0, none⟩), .int .i64 op] w (NestPost op g N s ov o w) := by
  have HH := Lib.hid h
  obtain ⟨A, n, c, r, e, ho⟩ := h.1.own
  have HO := Lib.hid ho
  obtain ⟨c3, c4, f3, f4⟩ := own_cells5 ho
  have hgw := h.1.lt
  obtain ⟨A1, k1, rfl, hk1, hk2, -⟩ := h.2.1.rdI
  have HP1 : Hid (¬ 32 < o.length + 1 → nestP op o = .ok (o ++ [op], false)) := fun hh => by unfold nestP; rw [if_pos hop, if_neg hh]
  have HP2 : Hid (32 < o.length + 1 → nestP op o = .error 4) := fun hh => by unfold nestP; rw [if_pos hop, if_pos hh]
  have HOP := Lib.hid hop
  have key : ∀ W1 v1, OwnI W1 (g + 1) v1 (o ++ [op]) → Grew (.slice A1 o.length k1) w v1 W1 → ∃ A2 k2, v1 = .slice A2 (o.length + 1) k2 ∧ (∃ A n c r e, Own W1 g 49 [.slice A n c, .int .i64 r, .int .i64 e, .slice A1 o.length k1, .bool false]) ∧ RdrAt (W1.setCell ⟨g, 3, none⟩ v1) g 49 (N, [v1, .bool false]) s ∧ OwnI (W1.setCell ⟨g, 3, none⟩ v1) (g + 1) v1 (o ++ [op]) ∧ Chg (fun k => k = g ∨ Value.ownBlock (.slice A1 o.length k1) = some k) w (W1.setCell ⟨g, 3, none⟩ v1) ∧ (∀ k, v1.ownBlock = some k → Value.ownBlock (.slice A1 o.length k1) = some k ∨ w.heap.size ≤ k) := by
    intro W1 v1 h1 h2
    obtain ⟨A2, k2, e2, -, -, -⟩ := h1.rdI
    have hge := fun k hk => owns_ge (g := k) h.2.1 hk
    have hr : RdrAt W1 g 49 (N, [.slice A1 o.length k1, .bool false]) s := h.1.chg h2.1 fun k hk e => by have := hge k e; omega
    refine ⟨A2, k2, by rw [e2]; simp, hr.own, hr.tail 0 v1 rfl, h1.far (chgSet _ _ _ _), (h2.1.mono fun k _ e => .inr e).trans ((chgSet _ _ _ _).mono fun k _ e => .inl e) fun k _ e => e, h2.2⟩
  have HK := Lib.hid key
  clear key h ho hk1 hk2 c4 f4
  have HOW := Lib.hid HH.out.2.1
  generalize hq : o.length = q at *
  have HQ := Lib.hid hq
  clear hq
  by_cases hb : 32 < q + 1
  · have hb' : (32 : Int) < (q : Int) + 1 := by omega
    have HP := Lib.hid (HP2.out hb)
    clear HP1 HP2 hb
    rcases hop with rfl | rfl | rfl
    all_goals
      go_enter Try.func35, Try.ntmps35
      go_wp2_with (at_builtin; refine wpList_appI1 rfl (.tmp 20) (.tmp 22) rfl (g + 1) (.slice A1 q k1) o rfl HOW.out _ rfl (by have := HQ.out; omega) (by omega) ?_; intro v1 w3 hv1 hw1; have HV := Lib.hid (HK.out w3 v1 hv1 hw1); clear hv1 hw1; obtain ⟨A2, k2, rfl, ⟨A', n', c', r', e', ho'⟩, -⟩ := HV.out; clear c3 f3; obtain ⟨c3, -, f3, -⟩ := own_cells5 ho'; clear ho')
      obtain ⟨A9, k9, -, -, p1, p2, p3, p4⟩ := HV.out
      have H9 := Lib.hid (And.intro p1 (And.intro p2 (And.intro p3 p4)))
      clear p1 p2 p3 p4 HV
      refine (rfail_any g _ _ s 4 _ H9.out.1 (by omega) (by omega)).mono ?_
      rintro e w2 ⟨⟨u, rfl⟩, h2, hc⟩
      have HC := Lib.hid (And.intro h2 hc)
      clear h2 hc
      go_wp2
      go_end0
      refine ⟨_, .slice A2 (q + 1) k2, _, false, rfl, by rw [nst_no HP.out]; exact ⟨HC.out.1, H9.out.2.1.far HC.out.2, by have := HQ.out; simp; omega⟩, fun r hr => ?_, H9.out.2.2.1.trans HC.out.2 fun k _ e => .inl e, H9.out.2.2.2⟩
      rw [HP.out] at hr; cases hr
  · have hb' : ¬ (32 : Int) < (q : Int) + 1 := by omega
    have HP := Lib.hid (HP1.out hb)
    clear HP1 HP2 hb
    rcases hop with rfl | rfl | rfl
    all_goals
      go_enter Try.func35, Try.ntmps35
      go_wp2_with (at_builtin; refine wpList_appI1 rfl (.tmp 20) (.tmp 22) rfl (g + 1) (.slice A1 q k1) o rfl HOW.out _ rfl (by have := HQ.out; omega) (by omega) ?_; intro v1 w3 hv1 hw1; have HV := Lib.hid (HK.out w3 v1 hv1 hw1); clear hv1 hw1; obtain ⟨A2, k2, rfl, ⟨A', n', c', r', e', ho'⟩, -⟩ := HV.out; clear c3 f3; obtain ⟨c3, -, f3, -⟩ := own_cells5 ho'; clear ho')
      go_end0
      obtain ⟨A9, k9, -, -, p1, p2, p3, p4⟩ := HV.out
      refine ⟨_, .slice A2 (q + 1) k2, _, false, rfl, by rw [nst_ok HP.out]; exact ⟨p1, p2, by have := HQ.out; simp; omega⟩, fun r hr => ?_, p3, p4⟩
      rw [HP.out] at hr; injection hr with hr; subst hr; exact ⟨rfl, rfl⟩
theorem cnest_any (op : Int) (g N : Nat) (s : St) (ov : Value) (o : List Int) (w : World) (h : NsAt w g N s ov o false) (hol : o.length ≤ 100000) :
    Calls Try.prog 35 #[.pointer (some ⟨g, 0, none⟩), .int .i64 op] w (NestPost op g N s ov o w) := by
  by_cases h2 : op = 2 ∨ op = 3 ∨ op = 4
  · exact cnest_open op h2 g N s ov o w h hol
  by_cases h5 : op = 5
  · subst h5; exact cnest_else g N s ov o w h
  by_cases h11 : op = 11
  · subst h11; exact cnest_end g N s ov o w h
  exact cnest_other op g N s ov o false w h (by omega) (by omega) (by omega) h5 h11
end Go.Proofs.Ytdbbcbffmbcjiaa
