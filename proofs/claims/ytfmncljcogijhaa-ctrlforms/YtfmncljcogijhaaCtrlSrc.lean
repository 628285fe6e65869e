/- Package ctrl: what its calls come to. -/
import Derived.Test.YtfmncljcogijhaaCtrlMath
import Derived.Deep.RegionWith
namespace Go.Proofs.Ytfmncljcogijhaa
open Go.RowKit
set_option maxRecDepth 100000
set_option linter.unusedVariables false

/-- append(s, z), of ints, whatever the slice's type is called. -/
theorem wpList_appI1T {t : TypeId} (hu : Try.prog.underlying t = some (.slice 3)) {ops : Array Oper} {rest : List Oper} {o : Oper} {a : Act} {Q : Exit → Act → World → Prop} {w : World} (hgd : o.guard = none) (s x : Operand)
    (ho : o.op = .call { callee := .builtin .append, args := #[s, x], argTypes := #[t, t] }) (base : Nat) (v : Value) (l : List Int) (hs : a.eval s = v) (hown : OwnI w base v l)
    (z : Int) (hx : a.eval x = .slice (some ⟨w.heap.size, 0, none⟩) 1 1) (hlen : l.length + 1 ≤ 1000000000) (hbase : base ≤ w.heap.size)
    (h : ∀ v' w', OwnI w' base v' (l ++ [z]) → Grew v w v' w' → wpList Try.prog ops Q rest (a.put o.dst v') w') : wpList Try.prog ops Q (o :: rest) a (w.alloc (.cells #[.int .i64 z] 3)) := by
  have hb : Below w.heap.size w (w.alloc (.cells #[.int .i64 z] 3)) := (Below.refl _ _).alloc (Nat.le_refl _) _
  refine wpList_appG hu int_info rfl (by omega) hgd s x ho base v l.length _ hs (OwnI.later hown hb) _ 1 1 [.int .i64 z] hx (by simp) (rdI_lit w [z]) (fun u hu => by simp only [List.mem_singleton] at hu; subst hu; rfl) (by simp only [maxLen]; omega) (by omega) (by simp; omega) fun v' w' h1 h2 h3 => ?_
  have hg := Grew.of_grown h2 h3
  refine h v' w' ?_ (hg.before hb fun k hk => owns_lt hown hk)
  unfold OwnI
  simpa using h1

theorem under_stack : Try.prog.underlying 57 = some (.slice 3) := Try.underlying57
/-- A body in block g: its five cells, the second one a stack. -/
def StkAt (w : World) (g : Nat) (lv mv dv bv : Value) (o : List Int) : Prop := ∃ ov, Own w g 59 [lv, ov, mv, dv, bv] ∧ OwnI w (g + 1) ov o
def StkPost (g : Nat) (lv mv dv bv : Value) (o : List Int) (w : World) (e : Ending) (w' : World) : Prop := (∃ u, e = .returned u) ∧ StkAt w' g lv mv dv bv o ∧ Below g w w'
theorem below_chg {S : Nat → Prop} {B : Nat} {w w' : World} (h : Chg S w w') (hB : B ≤ w.heap.size) (hs : ∀ k, S k → B ≤ k) : Below B w w' := h.below hB fun i hi e => by have := hs i e; omega

set_option maxHeartbeats 1000000 in
theorem kpush_any (g : Nat) (lv mv dv bv : Value) (o : List Int) (z : Int) (w : World) (h : StkAt w g lv mv dv bv o) (hl : o.length ≤ 100000) :
    Calls Try.prog 39 #[.pointer (some ⟨g, 1, none⟩), .int .i64 z] w (StkPost g lv mv dv bv (o ++ [z]) w) := by
  obtain ⟨ov, ho, hi⟩ := h
  have HO := Lib.hid (And.intro ho hi)
  have hgw := ho.lt
  have c1 : w.cell? ⟨g, 1, none⟩ = some ov := ho.cell 1
  have f1 : w.frozen? ⟨g, 1, none⟩ = false := ho.frozen 1
  obtain ⟨A1, k1, rfl, hk1, hk2, -⟩ := hi.rdI
  have key : ∀ W1 v1, OwnI W1 (g + 1) v1 (o ++ [z]) → Grew (.slice A1 o.length k1) w v1 W1 → ∃ A2 n2 k2, v1 = .slice A2 n2 k2 ∧ W1.frozen? ⟨g, 1, none⟩ = false ∧ (W1.cell? ⟨g, 1, none⟩ = some (.slice A1 o.length k1)) ∧ StkAt (W1.setCell ⟨g, 1, none⟩ v1) g lv mv dv bv (o ++ [z]) ∧ Below g w (W1.setCell ⟨g, 1, none⟩ v1) := by
    intro W1 v1 h1 h2
    have hge := fun k hk => owns_ge (g := k) hi hk
    have hr := ho.chg h2.1 fun e => by have := hge g e; omega
    obtain ⟨A2, k2, e2, -, -, -⟩ := h1.rdI
    refine ⟨A2, _, k2, e2, hr.frozen 1, hr.cell 1, ⟨v1, hr.set 1 v1, h1.far (chgSet _ _ _ _)⟩, ?_⟩
    exact (below_chg h2.1 (by omega) fun k e => by have := hge k e; omega).trans (below_chg (chgSet _ g 1 v1) (by have := h2.1.size; omega) fun k e => by omega)
  have HK := Lib.hid key
  clear key ho hk1 hk2
  have HQ := Lib.hid (And.intro hi hl)
  clear hi hl
  generalize hq : o.length = q at *
  have HQ2 := Lib.hid hq
  clear hq
  go_enter Try.func39, Try.ntmps39
  go_wp2_with (at_builtin; refine wpList_appI1T under_stack rfl (.tmp 7) (.tmp 9) rfl (g + 1) (.slice A1 q k1) o rfl HQ.out.1 _ rfl (by have := HQ.out.2; have := HQ2.out; omega) (by omega) ?_; intro v1 w3 hv1 hw1; obtain ⟨A2, n2, k2, rfl, f1', c1', p1, p2⟩ := HK.out w3 v1 hv1 hw1; have HV := Lib.hid (And.intro p1 p2); clear hv1 hw1 p1 p2 c1 f1)
  go_end0
  exact ⟨⟨_, rfl⟩, HV.out.1, HV.out.2⟩

theorem ktop_nil (A : Option Addr) (k : Nat) (w : World) : Calls Try.prog 40 #[.slice A 0 k] w fun e w' => e = .returned (.tuple #[.int .i64 0, .bool false]) ∧ w = w' := by
  go_enter Try.func40, Try.ntmps40
  go_wp2
  go_returns
  exact ⟨rfl, rfl⟩
theorem ktop_any (p : List Int) (z : Int) (q : Nat) (b k : Nat) (w : World) (hq : p.length = q) (hl : q ≤ 100000) (hz : w.cell? ⟨b, q, none⟩ = some (.int .i64 z)) :
    Calls Try.prog 40 #[.slice (some ⟨b, 0, none⟩) (q + 1) k] w fun e w' => e = .returned (.tuple #[.int .i64 z, .bool true]) ∧ w = w' := by
  have hidx : wrap64 (((q + 1 : Nat) : Int) - 1) = q := by unfold wrap64; omega
  have hne : (((q + 1 : Nat) : Int) == 0) = false := by simp; omega
  clear hq
  go_enter Try.func40, Try.ntmps40
  go_wp2
  go_returns
  exact ⟨rfl, rfl⟩

theorem cutT_h {t : TypeId} (hu : Try.prog.underlying t = some (.slice 3)) (b n cap : Nat) (hi : Int) (h : Nat) (hh : hi = h) (h2 : h ≤ cap) (hc : 0 < cap) (W : World) : (Instr.sliceAt t (.slice (some ⟨b, 0, none⟩) n cap) none (some (.int .i64 hi)) none).run Try.prog W = .ok (.slice (some ⟨b, 0, none⟩) h cap) W := by
  subst hh
  have hu' : Try.prog.underlying t = some (.slice (Try.prog.elem t)) := by rw [elem_of hu]; exact hu
  rw [run_sliceAt_slice W t _ _ _ _ hu', run_slice_h W t (some ⟨b, 0, none⟩) n cap hu' .i64 h (by omega) (by omega), run_sz hu (sz := 1) (by kernel_rfl)]
  simp [Result.andThen, sliced, show ¬ cap = 0 from by omega, Addr.add]
set_option maxHeartbeats 1000000 in
theorem kpop_any (g : Nat) (lv mv dv bv : Value) (p : List Int) (z : Int) (w : World) (h : StkAt w g lv mv dv bv (p ++ [z])) (hl : p.length ≤ 100000) :
    Calls Try.prog 41 #[.pointer (some ⟨g, 1, none⟩)] w (StkPost g lv mv dv bv p w) := by
  obtain ⟨ov, ho, hi⟩ := h
  have HO := Lib.hid (And.intro ho hi)
  have hgw := ho.lt
  have c1 : w.cell? ⟨g, 1, none⟩ = some ov := ho.cell 1
  have f1 : w.frozen? ⟨g, 1, none⟩ = false := ho.frozen 1
  obtain ⟨b, k1, hov, hgb, hbw, hk, hkm, hcell⟩ := hi.spot (by simp)
  have hlen : (p ++ [z]).length = p.length + 1 := by simp
  rw [hlen] at hov hk
  subst hov
  have hidx : wrap64 (((p.length + 1 : Nat) : Int) - 1) = p.length := by unfold wrap64; omega
  have HL := Lib.hid hlen
  have hcut := cutT_h under_stack b (p.length + 1) k1 p.length p.length rfl (by omega) (by omega)
  clear ho hi hcell hlen
  generalize hq : p.length = q at *
  have HQ := Lib.hid hq
  clear hq
  go_enter Try.func41, Try.ntmps41
  go_wp2
  go_region
  go_wp2
  go_end0
  obtain rfl := HQ.out
  obtain ⟨ho, hi⟩ := HO.out
  rw [← HL.out] at hi
  have h5 := hi.pop
  have hc := (chgSet w g 1 (.slice (some ⟨b, 0, none⟩) p.length k1)).drew
  exact ⟨⟨_, rfl⟩, ⟨_, ho.set 1 _, h5.far hc⟩, (below_chg (chgSet w g 1 (.slice (some ⟨b, 0, none⟩) p.length k1)) (by omega) fun k e => by omega).drew⟩

theorem under_bmap : Try.prog.underlying 31 = some (.map 3 53) := Try.underlying31
theorem under_int : Try.prog.underlying 3 = some (.int .i64) := Try.underlying3
theorem zero_block (w : World) : (zeroValue 53).run Try.prog w = .ok (.agg #[.int .i64 0, .int .i64 0]) w := by rfl
/-- ctrl's body in block g: what it has of the blocks. -/
def BdAt (w : World) (g mb : Nat) (lv : Value) (s : BS) : Prop :=
  StkAt w g lv (.map (some mb)) (.int .i64 s.d) (.bool s.over) s.o ∧ MapAt w mb .i64 (fw 0 s.f) s.n ∧ mb < g ∧ s.o.length ≤ 100000 ∧ s.n ≤ 100000 ∧ s.d ≤ 100000
def BdPost (g mb : Nat) (lv : Value) (s : BS) (r : Value) (w : World) (e : Ending) (w' : World) : Prop := e = .returned r ∧ BdAt w' g mb lv s ∧ Below mb w w'
theorem i64_wf {z : Int} (h1 : -9223372036854775808 ≤ z) (h2 : z ≤ 9223372036854775807) : (Lit.int .i64 z).wf = true := by
  have a : IntKind.i64.min = -9223372036854775808 := by rfl
  have b : IntKind.i64.max = 9223372036854775807 := by rfl
  simp [Lit.wf]; omega

set_option maxHeartbeats 1000000 in
theorem kbegin_any (g mb : Nat) (lv : Value) (s : BS) (z : Nat) (w : World) (h : BdAt w g mb lv s) (hz : z ≤ 50000) (h1 : s.o.length ≤ 50000) (h2 : s.n ≤ 50000) :
    Calls Try.prog 32 #[.pointer (some ⟨g, 0, none⟩), .int .i64 z] w (fun e w' => ∃ r, BdPost g mb lv (begB z s) r w e w') := by
  obtain ⟨⟨ov, ho, hi⟩, hm, hmg, hol, hnl, hdl⟩ := h
  have HH := Lib.hid (And.intro ho (And.intro hi hm))
  have hgw := ho.lt
  obtain ⟨c0, c1, c2, c3, f1, f2, f3⟩ : w.cell? ⟨g, 0, none⟩ = some lv ∧ w.cell? ⟨g, 1, none⟩ = some ov ∧ w.cell? ⟨g, 2, none⟩ = some (.map (some mb)) ∧ w.cell? ⟨g, 3, none⟩ = some (.int .i64 s.d) ∧ w.frozen? ⟨g, 1, none⟩ = false ∧ w.frozen? ⟨g, 2, none⟩ = false ∧ w.frozen? ⟨g, 3, none⟩ = false := ⟨ho.cell 0, ho.cell 1, ho.cell 2, ho.cell 3, ho.frozen 1, ho.frozen 2, ho.frozen 3⟩
  have HZ := Lib.hid (i64_wf (z := (z : Int)) (by omega) (by omega))
  have HB := Lib.hid (And.intro hmg (And.intro hol (And.intro hnl (And.intro hdl (And.intro hz (And.intro h1 h2))))))
  clear ho hi hm hmg hol hnl hdl h1 h2 c1 c3 f1 f3
  go_enter Try.func32, Try.ntmps32
  go_wp2_with (at_mapUpdate; refine wpList_store rfl (.tmp 7) (.tmp 8) (.tmp 9) _ _ _ rfl .i64 under_int under_bmap mb s.n (fw 0 s.f) rfl HH.out.2.2 (by have := HB.out; simp only [maxLen]; omega) z rfl HZ.out (vw 0 (-1, none)) rfl ?_; intro w1 hm1 hc1 hs1; have H1 := Lib.hid (And.intro hm1 (And.intro hc1 hs1)); clear hm1 hc1 hs1)
  have hS : StkAt w1 g lv (.map (some mb)) (.int .i64 s.d) (.bool s.over) s.o := ⟨ov, HH.out.1.chg H1.out.2.1 (by have := HB.out; omega), HH.out.2.1.chg H1.out.2.1 fun k hk e => by have := owns_ge HH.out.2.1 hk; have := HB.out; omega⟩
  refine (kpush_any g lv _ _ _ s.o z w1 hS (by have := HB.out; omega)).mono ?_
  clear hS c0 c2 f2
  rintro e w2 ⟨⟨u, rfl⟩, ⟨ov2, ho, hi⟩, hb2⟩
  have H2 := Lib.hid (And.intro ho (And.intro hi hb2))
  have hgw2 := ho.lt
  obtain ⟨c0, c1, c2, c3, f1, f2, f3⟩ : w2.cell? ⟨g, 0, none⟩ = some lv ∧ w2.cell? ⟨g, 1, none⟩ = some ov2 ∧ w2.cell? ⟨g, 2, none⟩ = some (.map (some mb)) ∧ w2.cell? ⟨g, 3, none⟩ = some (.int .i64 s.d) ∧ w2.frozen? ⟨g, 1, none⟩ = false ∧ w2.frozen? ⟨g, 2, none⟩ = false ∧ w2.frozen? ⟨g, 3, none⟩ = false := ⟨ho.cell 0, ho.cell 1, ho.cell 2, ho.cell 3, ho.frozen 1, ho.frozen 2, ho.frozen 3⟩
  obtain ⟨A2, k2, rfl, hk2, -, -⟩ := hi.rdI
  clear ho hi hb2 HZ hk2
  have hlen : (s.o ++ [(z : Int)]).length = s.o.length + 1 := by simp
  rw [hlen] at c1
  go_wp2
  go_region
  go_wp2
  all_goals
    go_end0
    obtain ⟨ho, hi, hb2⟩ := H2.out
    have hB := HB.out
    have hc := (chgSet w2 g 3 (.int .i64 ((max s.d (s.o.length + 1) : Nat) : Int))).drew
    have hm2 : MapAt w2 mb .i64 (fw 0 (updE s.f z (-1, none))) (cntE s.f z s.n) := by
      have := H1.out.1
      rw [upd_fw, updN_fw] at this
      exact this.chg (S := fun k => g ≤ k) ⟨hb2.os, hb2.tape, hb2.output, hb2.size, fun k hk hn => hb2.block k (by omega)⟩ (by omega)
    have hf := (hi.far hc)
    have hres : BdAt (w2.setCell ⟨g, 3, none⟩ (.int .i64 ((max s.d (s.o.length + 1) : Nat) : Int))).drew g mb lv (begB z s) ∧ Below mb w (w2.setCell ⟨g, 3, none⟩ (.int .i64 ((max s.d (s.o.length + 1) : Nat) : Int))).drew := by
      refine ⟨⟨⟨_, ho.set 3 _, hf⟩, hm2.chg hc (by omega), hB.1, by simp [begB]; omega, ?_, ?_⟩, ?_⟩
      · have := cntE_le s.f z s.n; simp only [begB]; omega
      · simp only [begB, Nat.max_le]; omega
      · exact (below_chg H1.out.2.1 (by omega) fun k e => by omega).trans ((hb2.mono (by omega)).trans (below_chg hc (by omega) fun k e => by omega))
    have hmx : ((max s.d (s.o.length + 1) : Nat) : Int) = max (s.d : Int) (s.o.length + 1) := by omega
    rw [hmx] at hres
    refine ⟨_, rfl, ?_⟩
    first
    | (rw [Int.max_eq_right (by omega)] at hres; exact hres)
    | (rw [Int.max_eq_left (by omega)] at hres; exact hres)

theorem own_body {w : World} {g : Nat} {a b c d e : Value} (h : Own w g 59 [a, b, c, d, e]) : w.cell? ⟨g, 0, none⟩ = some a ∧ w.cell? ⟨g, 1, none⟩ = some b ∧ w.cell? ⟨g, 2, none⟩ = some c ∧ w.cell? ⟨g, 3, none⟩ = some d ∧ w.cell? ⟨g, 4, none⟩ = some e ∧ w.frozen? ⟨g, 1, none⟩ = false ∧ w.frozen? ⟨g, 2, none⟩ = false ∧ w.frozen? ⟨g, 3, none⟩ = false ∧ w.frozen? ⟨g, 4, none⟩ = false := ⟨h.cell 0, h.cell 1, h.cell 2, h.cell 3, h.cell 4, h.frozen 1, h.frozen 2, h.frozen 3, h.frozen 4⟩
theorem fw_get (f : Int → Option (Int × Option Int)) (k : Int) : (fw 0 f k).getD (.agg #[.int .i64 0, .int .i64 0]) = .agg #[.int .i64 (elseE f k), .int .i64 (((f k).getD (0, none)).2.getD 0)] := by
  unfold fw elseE vw; cases f k <;> rfl
set_option maxHeartbeats 1000000 in
theorem kpart_none (g mb : Nat) (lv : Value) (s : BS) (z : Nat) (w : World) (h : BdAt w g mb lv s) (ho0 : s.o = []) :
    Calls Try.prog 33 #[.pointer (some ⟨g, 0, none⟩), .int .i64 z] w (BdPost g mb lv s (.bool false) w) := by
  have HH := Lib.hid h
  obtain ⟨⟨ov, ho, hi⟩, hm, hmg, hol, hnl, hdl⟩ := h
  obtain ⟨c0, c1, c2, c3, c4, f1, f2, f3, f4⟩ := own_body ho
  obtain ⟨A, k, rfl, -, -, -⟩ := hi.rdI
  clear ho hi hm hmg hol hnl hdl
  have hl0 : s.o.length = 0 := by rw [ho0]; rfl
  rw [hl0] at c1
  clear ho0 hl0
  go_enter Try.func33, Try.ntmps33
  go_wp2_with fail
  refine (ktop_nil A k w).mono ?_
  rintro e w2 ⟨rfl, rfl⟩
  go_wp2
  go_ret
  exact ⟨rfl, HH.out, Below.refl _ _⟩
/-- The last that is open: where it lies. -/
theorem bd_last {w : World} {g mb : Nat} {lv : Value} {s : BS} (h : BdAt w g mb lv s) {p : List Int} {z : Int} (he : s.o = p ++ [z]) : ∃ b k1, Own w g 59 [lv, .slice (some ⟨b, 0, none⟩) (p.length + 1) k1, .map (some mb), .int .i64 s.d, .bool s.over] ∧ w.cell? ⟨b, p.length, none⟩ = some (.int .i64 z) ∧ p.length ≤ 100000 := by
  obtain ⟨⟨ov, ho, hi⟩, hm, hmg, hol, hnl, hdl⟩ := h
  rw [he] at hi hol
  obtain ⟨b, k1, hov, hgb, hbw, hk, hkm, hcell⟩ := hi.spot (by simp)
  obtain ⟨cz, fz⟩ := hcell p.length (by simp)
  rw [last_get] at cz
  have hlen : (p ++ [z]).length = p.length + 1 := by simp
  rw [hlen] at hov
  subst hov
  exact ⟨b, k1, ho, cz, by simp at hol; omega⟩
/-- What instruction i is. -/
theorem op_at {X : Nat → Prop} {w : World} {A : Option Addr} {c n : Nat} {is : List IV} (h : RdN X w (.slice A n c) is) {z : Int} (h0 : 0 ≤ z) (h1 : z < is.length) : ∃ b o, A = some ⟨b, o, none⟩ ∧ w.cell? ⟨b, o + z.toNat * 6, none⟩ = some (.int .i64 ((is.map fun i => i.x.op).getD z.toNat 0)) ∧ n = is.length := by
  have hlt : z.toNat < is.length := by omega
  obtain ⟨b, o, rfl, -, -, g1, -⟩ := h.at_ (List.getElem?_eq_getElem hlt)
  obtain ⟨A', c', e, -⟩ := h
  injection e with _ e _
  refine ⟨b, o, rfl, ?_, e⟩
  rw [g1]; simp [List.getD_eq_getElem?_getD, List.getElem?_eq_getElem hlt]
theorem field_block0 (el en : Int) (W : World) : (Instr.field 53 (.agg #[.int .i64 el, .int .i64 en]) 0).run Try.prog W = .ok (.int .i64 el) W := by rfl
set_option maxHeartbeats 1000000 in
theorem kpart_bad (g mb : Nat) (A : Option Addr) (n c : Nat) (is : List IV) (s : BS) (z : Nat) (p : List Int) (k : Int) (w : World) (h : BdAt w g mb (.slice A n c) s) (he : s.o = p ++ [k]) (hl : RdN (· < mb) w (.slice A n c) is) (hk0 : 0 ≤ k) (hk1 : k < is.length) (hn : is.length ≤ 50000)
    (hb : ¬ (is.map fun i => i.x.op).getD k.toNat 0 = 4 ∨ ¬ elseE s.f k = -1) :
    Calls Try.prog 33 #[.pointer (some ⟨g, 0, none⟩), .int .i64 z] w (BdPost g mb (.slice A n c) s (.bool false) w) := by
  have HH := Lib.hid h
  obtain ⟨b, k1, ho, cz, hpl⟩ := bd_last h he
  obtain ⟨c0, c1, c2, c3, c4, f1, f2, f3, f4⟩ := own_body ho
  obtain ⟨b2, o2, rfl, cop, hnn⟩ := op_at hl hk0 hk1
  have hlook := h.2.1.look under_int under_bmap (zero_block w) k (i64_wf (by omega) (by omega)) false
  rw [fw_get] at hlook
  simp only [Bool.false_eq_true, if_false] at hlook
  subst hnn
  obtain ⟨j, rfl⟩ := Int.eq_ofNat_of_zero_le hk0
  rw [Int.toNat_natCast] at cop hb
  have hj : j < is.length := by omega
  clear ho h hl he
  generalize hop : (is.map fun i => i.x.op).getD j 0 = op at *
  generalize elseE s.f (j : Int) = el at *
  generalize (((s.f (j : Int)).getD (0, none)).2.getD 0) = en at *
  generalize is.length = n at *
  have hfl := field_block0 el en w
  have HP := ktop_any p j p.length b k1 w rfl hpl cz
  generalize p.length = q at *
  have HP := Lib.hid HP
  clear cz hop
  have hz0 : (0 : Int) ≤ j := by omega
  by_cases h4 : op = 4
  · subst h4
    have h5 : (el != -1) = true := by rcases hb with h | h; exact absurd rfl h; simpa using h
    clear hb
    go_enter Try.func33, Try.ntmps33
    go_wp2_with fail
    refine HP.out.mono ?_
    rintro e w2 ⟨rfl, rfl⟩
    go_wp2
    go_ret
    exact ⟨rfl, HH.out, Below.refl _ _⟩
  · have h5 : (op != 4) = true := by simpa using h4
    clear hb h4
    go_enter Try.func33, Try.ntmps33
    go_wp2_with fail
    refine HP.out.mono ?_
    rintro e w2 ⟨rfl, rfl⟩
    go_wp2
    go_ret
    exact ⟨rfl, HH.out, Below.refl _ _⟩

theorem below_store {B mb : Nat} {w w' : World} (h : Chg (fun k => k = mb) w w') (hB : B ≤ mb) (hw : mb ≤ w.heap.size) : Below B w w' := below_chg h (by omega) fun k e => by omega
set_option maxHeartbeats 1000000 in
theorem kpart_ok (g mb : Nat) (A : Option Addr) (n c : Nat) (is : List IV) (s : BS) (z : Nat) (p : List Int) (k : Int) (w : World) (h : BdAt w g mb (.slice A n c) s) (he : s.o = p ++ [k]) (hl : RdN (· < mb) w (.slice A n c) is) (hk0 : 0 ≤ k) (hk1 : k < is.length) (hn : is.length ≤ 50000)
    (hb : (is.map fun i => i.x.op).getD k.toNat 0 = 4) (hb2 : elseE s.f k = -1) (hz : z ≤ 50000) (hsn : s.n ≤ 50000) :
    Calls Try.prog 33 #[.pointer (some ⟨g, 0, none⟩), .int .i64 z] w (BdPost g mb (.slice A n c) ⟨s.o, updE s.f k (z, none), cntE s.f k s.n, s.d, s.over⟩ (.bool true) w) := by
  have HH := Lib.hid (And.intro h (And.intro hz hsn))
  obtain ⟨b, k1, ho, cz, hpl⟩ := bd_last h he
  have hgw := ho.lt
  obtain ⟨c0, c1, c2, c3, c4, f1, f2, f3, f4⟩ := own_body ho
  obtain ⟨b2, o2, rfl, cop, hnn⟩ := op_at hl hk0 hk1
  have hlook := h.2.1.look under_int under_bmap (zero_block w) k (i64_wf (by omega) (by omega)) false
  rw [fw_get, hb2] at hlook
  simp only [Bool.false_eq_true, if_false] at hlook
  subst hnn
  rw [hb] at cop
  have HWF := Lib.hid (i64_wf (z := k) (by omega) (by omega))
  obtain ⟨j, rfl⟩ := Int.eq_ofNat_of_zero_le hk0
  rw [Int.toNat_natCast] at cop hb
  have hj : j < is.length := by omega
  clear ho h hl he hb hb2 hz hsn
  generalize (((s.f (j : Int)).getD (0, none)).2.getD 0) = en at *
  generalize is.length = n at *
  have hfl := field_block0 (-1) en w
  have HP := ktop_any p j p.length b k1 w rfl hpl cz
  generalize p.length = q at *
  have HP := Lib.hid HP
  clear cz
  have hz0 : (0 : Int) ≤ j := by omega
  go_enter Try.func33, Try.ntmps33
  go_wp2_with fail
  refine HP.out.mono ?_
  rintro e w2 ⟨rfl, rfl⟩
  go_wp2_with (at_mapUpdate; refine wpList_store rfl (.tmp 41) (.tmp 42) (.tmp 44) _ _ _ rfl .i64 under_int under_bmap mb s.n (fw 0 s.f) rfl HH.out.1.2.1 (by have := HH.out.2.2; simp only [maxLen]; omega) (j : Int) rfl HWF.out (vw 0 (z, none)) rfl ?_; intro w1 hm1 hc1 hs1; have H1 := Lib.hid (And.intro hm1 (And.intro hc1 hs1)); clear hm1 hc1 hs1)
  go_ret
  obtain ⟨⟨⟨ov, ho, hi⟩, hm, hmg, hol, hnl, hdl⟩, hz, hsn⟩ := HH.out
  obtain ⟨hm1, hc1, hs1⟩ := H1.out
  rw [upd_fw, updN_fw] at hm1
  have := cntE_le s.f (j : Int) s.n
  exact ⟨rfl, ⟨⟨ov, ho.chg hc1 (by omega), hi.chg hc1 fun k hk e => by have := owns_ge hi hk; omega⟩, hm1, hmg, hol, by simp only; omega, hdl⟩, below_store hc1 (Nat.le_refl _) (by omega)⟩

theorem kend_none (g mb : Nat) (lv : Value) (s : BS) (z : Nat) (w : World) (h : BdAt w g mb lv s) (ho0 : s.o = []) :
    Calls Try.prog 34 #[.pointer (some ⟨g, 0, none⟩), .int .i64 z] w (fun e w' => ∃ r, BdPost g mb lv ⟨s.o, s.f, s.n, s.d, true⟩ r w e w') := by
  have HH := Lib.hid h
  obtain ⟨⟨ov, ho, hi⟩, hm, hmg, hol, hnl, hdl⟩ := h
  obtain ⟨c0, c1, c2, c3, c4, f1, f2, f3, f4⟩ := own_body ho
  have hgw := ho.lt
  have HO := Lib.hid (And.intro ho hi)
  obtain ⟨A, k, rfl, -, -, -⟩ := hi.rdI
  clear ho hi hm hmg hol hnl hdl
  have hl0 : s.o.length = 0 := by rw [ho0]; rfl
  rw [hl0] at c1
  clear ho0 hl0
  go_enter Try.func34, Try.ntmps34
  go_wp2_with fail
  refine (ktop_nil A k w).mono ?_
  rintro e w2 ⟨rfl, rfl⟩
  go_wp2
  refine bodyPost_ret (results_none rfl _ _ _) rfl ?_
  have hc := chgSet w g 4 (.bool true)
  obtain ⟨_, hm, hmg, hol, hnl, hdl⟩ := HH.out
  exact ⟨_, rfl, ⟨⟨_, HO.out.1.set 4 _, HO.out.2.far hc⟩, hm.chg hc (by omega), hmg, hol, hnl, hdl⟩, below_chg hc (by omega) fun k e => by omega⟩

set_option maxHeartbeats 1000000 in
theorem kend_some (g mb : Nat) (lv : Value) (s : BS) (z : Nat) (p : List Int) (k : Int) (w : World) (h : BdAt w g mb lv s) (he : s.o = p ++ [k]) (hk0 : 0 ≤ k) (hk1 : k < 50000) (hz : z ≤ 50000) (hsn : s.n ≤ 50000) :
    Calls Try.prog 34 #[.pointer (some ⟨g, 0, none⟩), .int .i64 z] w (fun e w' => ∃ r, BdPost g mb lv ⟨p, updE s.f k (elseE s.f k, some (z : Int)), cntE s.f k s.n, s.d, s.over⟩ r w e w') := by
  obtain ⟨b, k1, ho, cz, hpl⟩ := bd_last h he
  have hgw := ho.lt
  obtain ⟨c0, c1, c2, c3, c4, f1, f2, f3, f4⟩ := own_body ho
  have hwf := i64_wf (z := k) (by omega) (by omega)
  have hlook := h.2.1.look under_int under_bmap (zero_block w) k hwf false
  have hlook2 := (h.2.1.drew).look under_int under_bmap (zero_block _) k hwf false
  rw [fw_get] at hlook hlook2
  simp only [Bool.false_eq_true, if_false] at hlook hlook2
  have hfl := field_block0 (elseE s.f k) (((s.f k).getD (0, none)).2.getD 0)
  obtain ⟨w1, hst, hm1, hc1, hs1⟩ := (h.2.1.drew).store under_int under_bmap (by simp only [maxLen]; omega) k hwf (vw 0 (elseE s.f k, some (z : Int)))
  rw [upd_fw, updN_fw] at hm1
  have hc1 : Chg (fun k => k = mb) w w1 := Chg.undrew hc1
  have HP := Lib.hid (ktop_any p k p.length b k1 w rfl hpl cz)
  have HH := Lib.hid (And.intro h (And.intro he (And.intro hm1 (And.intro hc1 (And.intro hs1 (And.intro hpl (And.intro hz hsn)))))))
  clear h he hm1 hc1 hs1 cz hpl ho
  simp only [vw, Option.getD_some] at hst
  generalize elseE s.f k = el at *
  generalize (((s.f k).getD (0, none)).2.getD 0) = en at *
  generalize hq : p.length = q at *
  clear hq
  go_enter Try.func34, Try.ntmps34
  go_wp2_with fail
  refine HP.out.mono ?_
  rintro e w2 ⟨rfl, rfl⟩
  go_wp2
  go_region
  go_wp2_with fail
  obtain ⟨hB, he, hm1, hc1, hs1, hpl, hz, hsn⟩ := HH.out
  obtain ⟨⟨ov, ho, hi⟩, hm, hmg, hol, hnl, hdl⟩ := hB
  have hS : StkAt w1 g lv (.map (some mb)) (.int .i64 s.d) (.bool s.over) (p ++ [k]) := by
    rw [← he]
    exact ⟨ov, ho.chg hc1 (by omega), hi.chg hc1 fun k hk e => by have := owns_ge hi hk; omega⟩
  have hlp : p.length ≤ 100000 := by rw [he] at hol; simp at hol; omega
  refine (kpop_any g lv _ _ _ p k w1 hS hlp).mono ?_
  rintro e w3 ⟨⟨u, rfl⟩, h3, hb3⟩
  have H3 := Lib.hid (And.intro hm1 (And.intro h3 (And.intro hb3 (And.intro hc1 (And.intro hlp (And.intro hmg (And.intro hdl hs1)))))))
  clear hm1 h3 hb3 hc1 hlp hmg hdl hs1
  go_wp2
  go_end0
  obtain ⟨hm1, h3, hb3, hc1, hlp, hmg, hdl, hs1⟩ := H3.out
  have := cntE_le s.f k s.n
  exact ⟨_, rfl, ⟨h3, hm1.chg (S := fun k => g ≤ k) ⟨hb3.os, hb3.tape, hb3.output, hb3.size, fun k hk hn => hb3.block k (by omega)⟩ (by omega), hmg, hlp, by simp only; omega, hdl⟩, (below_store hc1 (Nat.le_refl _) (by omega)).trans (hb3.mono (by omega))⟩
end Go.Proofs.Ytfmncljcogijhaa
