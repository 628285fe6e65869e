/- Texts joined: RefIn7, RefInA. -/
import Derived.Test.YtdbbcbffmbcjiaaRefIn
import Derived.Deep.Cut
import Derived.Deep.CutBlock
import Derived.Deep.RegionLaw
/- The document's reader of instructions: br_table; and all kinds together. (Written by gen_RefIn7.py.) -/
namespace Go.Proofs.Ytdbbcbffmbcjiaa
open Go.RowKit
set_option maxRecDepth 100000
set_option linter.unusedVariables false

theorem step_appQ1 {ops : Array Oper} {o : Oper} {a : Act} {K : Act → World → Prop} {Q : Exit → Act → World → Prop} {E : Prop} {w : World} (hgd : o.guard = none) (s x : Operand)
    (ho : o.op = .call { callee := .builtin .append, args := #[s, x], argTypes := #[41, 41] }) (base : Nat) (v : Value) (l : List Int) (hs : a.eval s = v) (hown : OwnQ w base v l)
    (z : Int) (hx : a.eval x = .slice (some ⟨w.heap.size, 0, none⟩) 1 1) (hz0 : 0 ≤ z) (hz1 : z < 4294967296) (hlen : l.length + 1 ≤ 1000000000) (hbase : base ≤ w.heap.size)
    (h : ∀ v' w', OwnQ w' base v' (l ++ [z]) → Grew v w v' w' → K (a.put o.dst v') w') :
    if Region.wanted o (yielded ops a.tmps) = true then Oper.wp Try.prog o a (w.alloc (.cells #[.int .u32 z] 39)) K Q else E := by
  have hw : Region.wanted o (yielded ops a.tmps) = true := by simp [Region.wanted, hgd]
  rw [if_pos hw]
  have hb : Below w.heap.size w (w.alloc (.cells #[.int .u32 z] 39)) := (Below.refl _ _).alloc (Nat.le_refl _) _
  have hr := rdQ_lit w [z] (IsU32.one hz0 hz1)
  have hown' := hown.later hb
  obtain ⟨v', w', hrun, g1, g2, g3⟩ := run_appG (ty := o.type) under_nums32 num32_info rfl (by omega) (w.alloc (.cells #[.int .u32 z] 39)) base v l.length _ hown' _ 1 1 ([z].map (Value.int .u32)) (by simp) hr.2 (fun u hu => by obtain ⟨y, _, rfl⟩ := List.mem_map.1 hu; rfl) (by simp only [maxLen]; omega) (by omega) (by simp; omega)
  refine Lib.wp_append_run _ s x _ _ ho _ _ hs hx v' w' hrun (h v' w' (by unfold OwnQ; simpa using g1) ((Grew.of_grown g2 g3).before hb fun k hk => ?_))
  exact owns_lt hown hk
theorem lb_state {s4 sk : St} {nn k : Nat} {y : List Int} (hVc : ∀ a l', bd s4 (pCount 600) = .ok (a, l') → (nn : Int) = a) (e3 : bd (nx (pCount 600) s4) (pLb nn []) = bd sk (pLb (nn - k) y)) (h : (∃ l, sk = .ok l ∧ k = nn) ∨ ∃ e, sk = .error e) :
    (∀ a l', bd s4 pLabels = .ok (a, l') → y = a) ∧ nx pLabels s4 = sk := by
  obtain ⟨e1, e2⟩ := nx_seq (pCount 600) (fun n => pLb n.toNat []) s4 (nn : Int) hVc
  rw [Int.toNat_natCast] at e1 e2
  have e4 : bd sk (pLb (nn - k) y) = bd sk fun l => .ok (y, l) := by
    rcases h with ⟨l, rfl, rfl⟩ | ⟨e, rfl⟩
    · rw [Nat.sub_self]; rfl
    · rfl
  unfold pLabels
  rw [e2, e3, e4]
  refine ⟨fun a l' h => ?_, ?_⟩
  · cases sk with
    | error e => cases h
    | ok l => injection h with h; injection h
  · rw [e1]
    show bd (bd (nx (pCount 600) s4) (pLb nn [])) _ = _
    rw [e3, e4]
    cases sk <;> rfl

set_option maxHeartbeats 8000000 in
theorem rin7 (g : Nat) (b l1 : List Int) (w : World) (h : RfAt5 w g (.ok b)) (hp : pOp b = .ok (14, l1)) (hk : kd 14 = (7, 0)) :
    Calls Try.prog 37 #[.pointer (some ⟨g, 0, none⟩)] w (RInPost g (.ok b) w) := by
  have HE := Lib.hid (in_eq hp hk)
  have HP := Lib.hid hp
  have HK := Lib.hid hk
  have HR0 : Hid (RfAt5 (w.alloc (.cells #[.int .i64 0, .int .u32 0, .int .u32 0, .int .u64 0, .slice none 0 0, .int .i64 0] 43)) g (.ok b) ∧ Own (w.alloc (.cells #[.int .i64 0, .int .u32 0, .int .u32 0, .int .u64 0, .slice none 0 0, .int .i64 0] 43)) w.heap.size 43 zC ∧ g < w.heap.size ∧ Chg (fun k => k = g) w (w.alloc (.cells #[.int .i64 0, .int .u32 0, .int .u32 0, .int .u64 0, .slice none 0 0, .int .i64 0] 43))) :=
    ⟨h.later ((Below.refl _ _).alloc (Nat.le_refl _) _), Own.new w _ _, h.lt, Chg.alloc _ _⟩
  clear h hp hk
  go_enter Try.func37, Try.ntmps37
  go_wp2_with fail
  refine (fop5_any g _ _ HR0.out.1).mono ?_
  rintro e w1 ⟨x, rfl, x0, x1, h2, h3, h4⟩
  have hx := h3 14 l1 (by rw [bd_ok]; exact HP.out)
  subst hx
  rw [nx_ok, HP.out] at h2
  simp only [bd_ok] at h2
  have HT : Hid (F3 w g w1.heap.size w.heap.size (.ok l1) (insC ⟨14, 0, 0, 0, [], 0⟩ none 0) (w1.alloc (.cells #[.int .i64 14, .int .u32 0, .int .u32 0, .int .u64 0, .slice none 0 0, .int .i64 0] 43))) := by
    have hb := (Below.refl w1.heap.size w1).alloc (Nat.le_refl _) (.cells #[.int .i64 14, .int .u32 0, .int .u32 0, .int .u64 0, .slice none 0 0, .int .i64 0] 43)
    have hg := HR0.out.2.2.1
    have hl := (HR0.out.2.1.chg h4 (by omega)).lt
    exact ⟨h2.later hb, Own.new w1 _ _, (HR0.out.2.1.chg h4 (by omega)).later hb, hg, hl, Nat.le_refl _, (HR0.out.2.2.2.trans h4 fun k _ e => e).trans (Chg.alloc (S := fun k => k = g) w1 _) fun k _ e => e⟩
  have hE0 := HT.out.1.own0
  clear h2 h3 h4 HR0 HP
  go_wp2_with (go_at_call 51; refine (refKind_any 14 _).mono ?_; unfold pr; rw [HK.out]; rintro e w' ⟨rfl, rfl⟩)
  refine (ffail05_any g l1 _ HT.out.1).mono ?_
  rintro e w2 ⟨⟨u, rfl⟩, h2, hc⟩
  have HT2 := Lib.hid (HT.out.step h2 hc)
  have hgi := HT.out.2.2.2.2.1
  clear h2 hc HT hE0
  have HT := Lib.hid HT2.out
  clear HT2
  obtain ⟨c0, c1, c2, c3, c4, c5, f0, f1, f2, f3, f4, f5⟩ := own_cells6 HT.out.2.1
  simp only [List.length_nil] at c4
  generalize w1.heap.size = gi at *
  generalize hgr : w.heap.size = gr at *
  have HGR := Lib.hid hgr
  clear hgr
  go_wp2_with fail
  refine (fU325_any g _ _ HT.out.1).mono ?_
  rintro e w3 ⟨nx0, rfl, n0, n1, h2, h3, h4⟩
  obtain ⟨nn, rfl⟩ : ∃ nn : Nat, nx0 = nn := ⟨nx0.toNat, by omega⟩
  have HT2 : Hid (F3 w g gi gr (nx (pU 32) (.ok l1)) [.int .i64 14, .int .u32 0, .int .u32 0, .int .u64 0, .slice none 0 0, .int .i64 0] w3) := HT.out.step h2 h4
  have HV := Lib.hid h3
  clear h2 h3 h4 HT c0 c1 c2 c3 c4 c5 f0 f1 f2 f3 f4 f5
  have HT := Lib.hid HT2.out
  clear HT2
  go_upto_if 121 with fail
  go_cut [6] from 8 (fun s6 wx => s6 = .int .u32 nn ∧ Hid (F3 w g gi gr (nx (pCount 600) (.ok l1)) [.int .i64 14, .int .u32 0, .int .u32 0, .int .u64 0, .slice none 0 0, .int .i64 0] wx ∧ (∀ a l', bd (.ok l1) (pCount 600) = .ok (a, l') → (nn : Int) = a) ∧ ∀ l, nx (pCount 600) (.ok l1) = .ok l → nn ≤ 600))
  case first =>
    by_cases hx : (600 : Int) < nn
    · have hk := count_fail5 hx HV.out
      go_wp2_with fail
      refine (ffail5_any g _ 4 _ HT.out.1 (by omega) (by omega)).mono ?_
      rintro e W ⟨⟨u, rfl⟩, h2, h4⟩
      rw [← hk.1] at h2
      have hT := Lib.hid (HT.out.step h2 h4)
      have HKK := Lib.hid hk
      clear h2 h4 hk
      go_wp2_with fail
      go_meet
      obtain ⟨_, e, he1, he2⟩ := HKK.out
      exact ⟨rfl, hT.out, (fun a l' h => by rw [he2] at h; cases h), (fun l h => by rw [he1] at h; cases h)⟩
    · have hk := Lib.hid (count_ok5 hx HV.out)
      go_wp2_with fail
      go_meet
      exact ⟨rfl, by rw [hk.out.1]; exact HT.out, hk.out.2, fun l h => by omega⟩
  case rest =>
    obtain ⟨rfl, HC⟩ := hcut
    clear HT HV
    go_upto_block 1 with fail
    go_cut [7] from 8 (fun s7 wx => ∃ (y : List Int) (B : Option Addr) (len d : Nat), Hid (y.length = len ∧ F3 w g gi gr (nx pLabels (.ok l1)) [.int .i64 14, .int .u32 0, .int .u32 0, .int .u64 0, .slice B len d, .int .i64 0] wx ∧ RdQ (fun k => gi < k) wx B y ∧ len ≤ d ∧ d ≤ maxLen ∧ (∀ a l', bd (.ok l1) pLabels = .ok (a, l') → y = a) ∧ y.length ≤ 1000))
    case first =>
      go_wp2
      go_loopw [7] (fun i wr => ∃ (y : List Int) (k : Nat) (sk : St) (v : Value), k ≤ nn ∧ i = .int .u32 k ∧ Hid (F3 w g gi gr sk [.int .i64 14, .int .u32 0, .int .u32 0, .int .u64 0, v, .int .i64 0] wr ∧ OwnQ wr (gi + 1) v y ∧ IsU32 y ∧ y.length = k ∧ (∀ l, sk = .ok l → nn ≤ 600) ∧ bd (nx (pCount 600) (.ok l1)) (pLb nn []) = bd sk (pLb (nn - k) y) ∧ y.length ≤ 1000)) (fun i _ => nn - (intOf i).toNat)
      case atStart => exact ⟨[], 0, _, .slice none 0 0, by omega, rfl, HC.out.1, OwnQ.nil _ _, IsU32.nil, rfl, HC.out.2.2, rfl, by simp⟩
      case round =>
        obtain ⟨y, k, sk, v, hk, rfl, HX⟩ := hrel
        obtain ⟨ee, hee, hes⟩ := HX.out.1.1.cellE
        obtain ⟨c0, c1, c2, c3, c4, c5, f0, f1, f2, f3, f4, f5⟩ := own_cells6 HX.out.1.2.1
        obtain ⟨B, d, rfl, hd1, hd2, hr⟩ := HX.out.2.1.rdQ HX.out.2.2.1
        generalize hlen : y.length = len at *
        have HLEN := Lib.hid hlen
        have HL := Lib.hid (And.intro (hr.mono (Y := fun k => gi < k) (fun k _ e => by have := owns_ge HX.out.2.1 e; omega)) (And.intro hd1 hd2))
        clear hlen hr hd1 hd2
        by_cases hgo : k < nn ∧ ee = 0
        · obtain ⟨hlt, rfl⟩ := hgo
          have hlt2 : (k : Int) < nn := by omega
          have HD : Hid (F3 w g gi gr sk [.int .i64 14, .int .u32 0, .int .u32 0, .int .u64 0, .slice B len d, .int .i64 0] wr.drew ∧ OwnQ wr.drew (gi + 1) (.slice B len d) y) := ⟨HX.out.1.later ((Below.refl _ _).drew), HX.out.2.1.later ((Below.refl _ _).drew)⟩
          have HA : Hid (nn ≤ 600) := by
            rcases hes with ⟨_, l, hl⟩ | ⟨h, _⟩
            · exact HX.out.2.2.2.2.1 l hl
            · exact absurd rfl h
          clear c0 c1 c2 c3 c5 f0 f1 f2 f3 f5 HL hes
          go_wp2
          go_region_law (first | (refine step_appQ1 rfl (.tmp 140) (.tmp 145) rfl (gi + 1) (.slice B len d) y (by simp [Act.eval]) H3.out.2.1 z (by simp [Act.eval]) z0 (by omega) (by have := HA.out; have := HX.out.2.2.2.1; have := HLEN.out; omega) (by omega) ?_; intro v5 w7 hv5 hw5; have hT7 := H3.out.1.2.1.chg hw5.1 (fun e => by have := owns_ge H3.out.2.1 e; omega); have e5 := hT7.cell 4; have e6 := hT7.frozen 4; simp only [List.getElem?_cons_succ, List.getElem?_cons_zero] at e5; obtain ⟨B5, d5, rfl, hd51, hd52, hr5⟩ := hv5.rdQ H3.out.2.2.1; have H7 := Lib.hid (And.intro hv5 (And.intro hw5 (And.intro hT7 (And.intro hd51 (And.intro hd52 hr5))))); clear hv5 hw5 hT7 hd51 hd52 hr5; generalize hlen5 : (y ++ [z]).length = len5 at *; have HLEN5 := Lib.hid hlen5; clear hlen5) | (go_simp; go_at_call 66; refine (fU325_any g sk _ HD.out.1.1).mono ?_; rintro e wU ⟨z, rfl, z0, z1, h2, h3, h4⟩; have hT := HD.out.1.step h2 h4; have d5 := hT.2.1.cell 4; have d6 := hT.2.1.frozen 4; have hg5 := hT.2.1.lt; simp only [List.getElem?_cons_succ, List.getElem?_cons_zero] at d5; have H3 : Hid (F3 w g gi gr (nx (pU 32) sk) [.int .i64 14, .int .u32 0, .int .u32 0, .int .u64 0, .slice B len d, .int .i64 0] wU ∧ OwnQ wU (gi + 1) (.slice B len d) y ∧ IsU32 (y ++ [z]) ∧ bd (nx (pCount 600) (.ok l1)) (pLb nn []) = bd (nx (pU 32) sk) (pLb (nn - (k + 1)) (y ++ [z]))) := ⟨hT, HD.out.2.chg h4 (fun i hi e => by have := owns_ge HD.out.2 hi; have := HX.out.1.2.2.2.1; have := HX.out.1.2.2.2.2.1; omega), HX.out.2.2.1.app (IsU32.one z0 (by omega)), by rw [HX.out.2.2.2.2.2.1, show nn - k = nn - (k + 1) + 1 from by omega]; exact (nx_seq (pU 32) (fun x => pLb (nn - (k + 1)) (y ++ [x])) sk z h3).2⟩; clear h2 h3 h4 hT))
          all_goals simp only [Exit.inBlock, Exit.then]
          all_goals go_wp2
          all_goals
            have hR7 := (H3.out.1.grew H7.out.2.1 (fun k hk => by have := owns_ge H3.out.2.1 hk; omega)).set 4 (.slice B5 len5 d5)
            refine ⟨⟨y ++ [z], k + 1, _, .slice B5 len5 d5, by omega, by go_num, hR7, H7.out.1.chg (chgSet _ gi _ _) (fun k hk e => by have := owns_ge H7.out.1 hk; omega), H3.out.2.2.1, ?_, ?_, H3.out.2.2.2, ?_⟩, ?_⟩
            · have := HX.out.2.2.2.1; have := HLEN.out; simp; omega
            · intro l _; exact HA.out
            · have := HX.out.2.2.2.1; have := HLEN.out; have := HA.out; simp; omega
            · simp [intOf]; omega
        · have fwd2 : ∀ P : Prop, (¬ (k : Int) < nn → P) → ((k : Int) < nn → (ee == 0) = false → P) → P := fun P h1 h2 => by
            by_cases h : (k : Int) < nn
            · exact h2 h (by have : ee ≠ 0 := fun e => hgo ⟨by omega, e⟩; simpa using this)
            · exact h1 h
          have HV3 : Hid ((∀ a l', bd (.ok l1) pLabels = .ok (a, l') → y = a) ∧ nx pLabels (.ok l1) = sk) := by
            refine lb_state HC.out.2.1 HX.out.2.2.2.2.2.1 ?_
            rcases hes with ⟨h0, l, hl⟩ | ⟨h0, hl⟩
            · refine .inl ⟨l, hl, ?_⟩
              rcases Nat.lt_or_ge k nn with h | h
              · exact absurd ⟨h, h0⟩ hgo
              · omega
            · exact .inr ⟨_, hl⟩
          clear hes hgo
          apply fwd2
          all_goals intros
          all_goals clear fwd2
          all_goals
            go_wp2_with fail
            go_meet
            exact ⟨y, B, len, d, HLEN.out, by rw [HV3.out.2]; exact HX.out.1, HL.out.1, HL.out.2.1, HL.out.2.2, HV3.out.1, by rw [HLEN.out]; exact HX.out.2.2.2.2.2.2⟩
    case rest =>
      obtain ⟨y, B, len, d, HE2⟩ := hcut
      have HT := Lib.hid HE2.out.2.1
      have HL := Lib.hid (And.intro HE2.out.2.2.1 (And.intro HE2.out.2.2.2.1 (And.intro HE2.out.2.2.2.2.1 HE2.out.2.2.2.2.2.2)))
      have HLEN := Lib.hid HE2.out.1
      have HV3 := Lib.hid HE2.out.2.2.2.2.2.1
      clear HC HE2
      obtain ⟨c0, c1, c2, c3, c4, c5, f0, f1, f2, f3, f4, f5⟩ := own_cells6 HT.out.2.1
      go_wp2_with fail
      refine (fU325_any g _ _ HT.out.1).mono ?_
      rintro e w9 ⟨q, rfl, q0, q1, h2, h3, h4⟩
      have HL2 := Lib.hid (And.intro (HL.out.1.chg h4 (fun k _ hk e => by have := HT.out.2.2.2.1; have := HT.out.2.2.2.2.1; omega)) HL.out.2)
      have HT2 : Hid (F3 w g gi gr (nx (pU 32) (nx pLabels (.ok l1))) [.int .i64 14, .int .u32 q, .int .u32 0, .int .u64 0, .slice B len d, .int .i64 0] (w9.setCell ⟨gi, 1, none⟩ (.int .u32 q))) := (HT.out.step h2 h4).set 1 (.int .u32 q)
      have HV4 := Lib.hid h3
      have hT9 := HT.out.step h2 h4
      clear h2 h3 h4 c0 c1 c2 c3 c4 c5 f0 f1 f2 f3 f4 f5 HL
      obtain ⟨c0, c1, c2, c3, c4, c5, f0, f1, f2, f3, f4, f5⟩ := own_cells6 hT9.2.1
      clear hT9
      have HT := Lib.hid HT2.out
      clear HT2
      obtain ⟨r0, r1, r2, r3, r4, r5, s0, s1, s2, s3, s4, s5⟩ := own_cells6 HT.out.2.2.1
      have hgg : ¬ gi = gr := by omega
      have hgg2 : ¬ gr = gi := by omega
      go_wp2
      have hW0 := HT.out
      have hW := own_put6 hW0.2.2.1 (.int .i64 14) (.int .u32 q) (.int .u32 0) (.int .u64 0) (.slice B len d) (.int .i64 0)
      have hC := chg6 (w9.setCell ⟨gi, 1, none⟩ (.int .u32 q)) gr #[.int .i64 14, .int .u32 q, .int .u32 0, .int .u64 0, .slice B len d, .int .i64 0]
      have hRF := hW0.1.chg hC (fun k hk e => by have := hW0.2.2.2.1; omega)
      have hCH := hW0.2.2.2.2.2.2.trans hC fun k hk e => by have := hW0.2.2.2.2.2.1; omega
      have HZ := Lib.hid (And.intro hRF (And.intro hCH hC))
      clear hRF hCH
      show bodyPost _ _ _ _ _ (put6 (w9.setCell ⟨gi, 1, none⟩ (.int .u32 q)) gr #[.int .i64 14, .int .u32 q, .int .u32 0, .int .u64 0, .slice B len d, .int .i64 0])
      generalize put6 (w9.setCell ⟨gi, 1, none⟩ (.int .u32 q)) gr #[.int .i64 14, .int .u32 q, .int .u32 0, .int .u64 0, .slice B len d, .int .i64 0] = WE at *
      clear c0 c1 c2 c3 c4 c5 f0 f1 f2 f3 f4 f5 r0 r1 r2 r3 r4 r5 s0 s1 s2 s3 s4 s5
      obtain ⟨k0, k1, k2, k3, k4, k5, -, -, -, -, -, -⟩ := own_cells6 hW
      refine bodyPost_ret (by simp [results, Try.results37, go_sem, k0, k1, k2, k3, k4, k5]; try rfl) rfl ?_
      have hkey : nx (pBh 7 14) (.ok l1) = nx (pU 32) (nx pLabels (.ok l1)) ∧ ∀ z l', bd (.ok l1) (pBh 7 14) = .ok (z, l') → ⟨14, q, 0, 0, y, 0⟩ = z := by
        rw [pBh7]; exact bh_two (f := fun ls a => (⟨14, a, 0, 0, ls, 0⟩ : Ins)) HV3.out HV4.out
      obtain rfl := HLEN.out
      have hL9 := ((HL2.out.1.2.chg (chgSet w9 gi 1 (.int .u32 q)) (fun k _ hk e => by omega)).chg HZ.out.2.2 (fun k _ hk e => by have := hW0.2.2.2.2.1; omega))
      exact ⟨⟨14, q, 0, 0, y, 0⟩, B, d, rfl, by rw [HE.out.1, hkey.1]; exact HZ.out.1, ⟨hL9.mono (fun k _ hk => by have := hW0.2.2.2.2.1; have := hW0.2.2.2.2.2.1; omega), HL2.out.2.1, HL2.out.2.2.1⟩, ⟨q0, by simp; omega, by simp, by simp, by simp, by simp, by simp, by simp, HL2.out.1.1, HL2.out.2.2.2⟩, fun a l' h => hkey.2 a l' (by rw [← HE.out.2]; exact h), HZ.out.2.1⟩
end Go.Proofs.Ytdbbcbffmbcjiaa

/- The document's reader of instructions: all kinds together. (Written by gen_RefInA.py.) -/
namespace Go.Proofs.Ytdbbcbffmbcjiaa
open Go.RowKit
set_option maxRecDepth 100000
set_option linter.unusedVariables false

theorem in_dead {s : St} {e0 : Int} (h : nx pOp s = .error e0) : nx pIn s = .error e0 ∧ ∀ a l', bd s pIn ≠ .ok (a, l') := by
  cases s with
  | error e => exact ⟨h, fun a l' h => by cases h⟩
  | ok l =>
    simp only [nx_ok, bd_ok, pIn, seq] at h ⊢
    cases hp : pOp l with
    | error e' => rw [hp] at h; exact ⟨h, fun a l' h => by cases h⟩
    | ok r => rw [hp] at h; cases h
theorem in_none {b l1 : List Int} {op : Int} (hp : pOp b = .ok (op, l1)) (hk : (kd op).2 ≠ 0) : nx pIn (.ok b) = .error (kd op).2 ∧ ∀ a l', bd (.ok b) pIn ≠ .ok (a, l') := by
  simp only [nx_ok, bd_ok, pIn, seq, hp]
  rw [if_neg hk]
  exact ⟨rfl, fun a l' h => by cases h⟩
theorem kd_zero {op : Int} (hk : (kd op).2 ≠ 0) : (kd op).1 = 0 := by
  unfold kd at hk ⊢
  split
  · rfl
  · split
    · rfl
    · split
      · rename_i h1 h2 h3; rw [if_neg h1, if_neg h2, if_pos h3] at hk; simp at hk
      · split
        · rename_i h1 h2 h3 h4
          rw [if_neg h1, if_neg h2, if_neg h3, if_pos h4] at hk
          unfold kf at hk ⊢
          split
          · rename_i h5; rw [if_pos h5] at hk; simp at hk
          · split
            · rename_i h5 h6; rw [if_neg h5, if_pos h6] at hk; simp at hk
            · rfl
        · rename_i h1 h2 h3 h4
          rw [if_neg h1, if_neg h2, if_neg h3, if_neg h4] at hk
          revert hk
          unfold kb
          repeat (split; · simp)
          simp
set_option maxHeartbeats 4000000 in
theorem rinE (g : Nat) (s : St) (e0 : Int) (w : World) (h : RfAt5 w g s) (hd : nx pOp s = .error e0) :
    Calls Try.prog 37 #[.pointer (some ⟨g, 0, none⟩)] w (RInPost g s w) := by
  have HE := Lib.hid (in_dead hd)
  have HD := Lib.hid hd
  have HR0 : Hid (RfAt5 (w.alloc (.cells #[.int .i64 0, .int .u32 0, .int .u32 0, .int .u64 0, .slice none 0 0, .int .i64 0] 43)) g s ∧ Own (w.alloc (.cells #[.int .i64 0, .int .u32 0, .int .u32 0, .int .u64 0, .slice none 0 0, .int .i64 0] 43)) w.heap.size 43 zC ∧ g < w.heap.size ∧ Chg (fun k => k = g) w (w.alloc (.cells #[.int .i64 0, .int .u32 0, .int .u32 0, .int .u64 0, .slice none 0 0, .int .i64 0] 43))) :=
    ⟨h.later ((Below.refl _ _).alloc (Nat.le_refl _) _), Own.new w _ _, h.lt, Chg.alloc _ _⟩
  clear h hd
  go_enter Try.func37, Try.ntmps37
  go_wp2_with fail
  refine (fop5_any g _ _ HR0.out.1).mono ?_
  rintro e w1 ⟨x, rfl, x0, x1, h2, h3, h4⟩
  rw [HD.out] at h2
  have HT : Hid (F3 w g w1.heap.size w.heap.size (.error e0) (insC ⟨x, 0, 0, 0, [], 0⟩ none 0) (w1.alloc (.cells #[.int .i64 x, .int .u32 0, .int .u32 0, .int .u64 0, .slice none 0 0, .int .i64 0] 43))) := by
    have hb := (Below.refl w1.heap.size w1).alloc (Nat.le_refl _) (.cells #[.int .i64 x, .int .u32 0, .int .u32 0, .int .u64 0, .slice none 0 0, .int .i64 0] 43)
    have hg := HR0.out.2.2.1
    have hl := (HR0.out.2.1.chg h4 (by omega)).lt
    exact ⟨h2.later hb, Own.new w1 _ _, (HR0.out.2.1.chg h4 (by omega)).later hb, hg, hl, Nat.le_refl _, (HR0.out.2.2.2.trans h4 fun k _ e => e).trans (Chg.alloc (S := fun k => k = g) w1 _) fun k _ e => e⟩
  have hE0 := HT.out.1.own1
  have hee := HT.out.1.err e0 rfl
  have hne : (e0 != 0) = true := by simp; omega
  have hgi := HT.out.2.2.2.2.1
  clear h2 h3 h4 HR0 hee HD
  obtain ⟨c0, c1, c2, c3, c4, c5, f0, f1, f2, f3, f4, f5⟩ := own_cells6 HT.out.2.1
  obtain ⟨r0, r1, r2, r3, r4, r5, s0, s1, s2, s3, s4, s5⟩ := own_cells6 HT.out.2.2.1
  simp only [List.length_nil] at c4
  have hgg : ¬ w1.heap.size = w.heap.size := by omega
  have hgg2 : ¬ w.heap.size = w1.heap.size := by omega
  go_upto_region 2 with fail
  generalize hWW : w1.alloc (.cells #[.int .i64 x, .int .u32 0, .int .u32 0, .int .u64 0, .slice none 0 0, .int .i64 0] 43) = WW at *
  generalize w1.heap.size = gi at *
  generalize hgr : w.heap.size = gr at *
  have HGR := Lib.hid hgr
  clear hgr hWW
  go_wp2
  have hW0 := HT.out
  have hW := own_put6 hW0.2.2.1 (.int .i64 x) (.int .u32 0) (.int .u32 0) (.int .u64 0) (.slice none 0 0) (.int .i64 0)
  have hC := chg6 WW gr #[.int .i64 x, .int .u32 0, .int .u32 0, .int .u64 0, .slice none 0 0, .int .i64 0]
  have hRF := hW0.1.chg hC (fun k hk e => by have := hW0.2.2.2.1; omega)
  have hCH := hW0.2.2.2.2.2.2.trans hC fun k hk e => by have := hW0.2.2.2.2.2.1; omega
  have HZ := Lib.hid (And.intro hRF (And.intro hCH hC))
  clear hRF hCH
  show bodyPost _ _ _ _ _ (put6 WW gr #[.int .i64 x, .int .u32 0, .int .u32 0, .int .u64 0, .slice none 0 0, .int .i64 0])
  generalize put6 WW gr #[.int .i64 x, .int .u32 0, .int .u32 0, .int .u64 0, .slice none 0 0, .int .i64 0] = WE at *
  clear c0 c1 c2 c3 c4 c5 f0 f1 f2 f3 f4 f5 r0 r1 r2 r3 r4 r5 s0 s1 s2 s3 s4 s5
  obtain ⟨k0, k1, k2, k3, k4, k5, -, -, -, -, -, -⟩ := own_cells6 hW
  refine bodyPost_ret (by simp [results, Try.results37, go_sem, k0, k1, k2, k3, k4, k5]; try rfl) rfl ?_
  exact ⟨⟨x, 0, 0, 0, [], 0⟩, none, 0, rfl, by rw [HE.out.1]; exact HZ.out.1, LabX.nil _ _ rfl, ok0, fun a l' h => (HE.out.2 a l' h).elim, HZ.out.2.1⟩
set_option maxHeartbeats 4000000 in
theorem rinN (g : Nat) (b l1 : List Int) (op : Int) (w : World) (h : RfAt5 w g (.ok b)) (hp : pOp b = .ok (op, l1)) (hk : (kd op).2 ≠ 0) :
    Calls Try.prog 37 #[.pointer (some ⟨g, 0, none⟩)] w (RInPost g (.ok b) w) := by
  have HE := Lib.hid (in_none hp hk)
  have HP := Lib.hid hp
  have HK := Lib.hid (kd_zero hk)
  have hkb := kd_imm op
  have HKB : Hid (0 < (kd op).2 ∧ (kd op).2 ≤ 100) := by unfold Hid; omega
  have HR0 : Hid (RfAt5 (w.alloc (.cells #[.int .i64 0, .int .u32 0, .int .u32 0, .int .u64 0, .slice none 0 0, .int .i64 0] 43)) g (.ok b) ∧ Own (w.alloc (.cells #[.int .i64 0, .int .u32 0, .int .u32 0, .int .u64 0, .slice none 0 0, .int .i64 0] 43)) w.heap.size 43 zC ∧ g < w.heap.size ∧ Chg (fun k => k = g) w (w.alloc (.cells #[.int .i64 0, .int .u32 0, .int .u32 0, .int .u64 0, .slice none 0 0, .int .i64 0] 43))) :=
    ⟨h.later ((Below.refl _ _).alloc (Nat.le_refl _) _), Own.new w _ _, h.lt, Chg.alloc _ _⟩
  clear h hp hk hkb
  go_enter Try.func37, Try.ntmps37
  go_wp2_with fail
  refine (fop5_any g _ _ HR0.out.1).mono ?_
  rintro e w1 ⟨x, rfl, x0, x1, h2, h3, h4⟩
  have hx := h3 op l1 (by rw [bd_ok]; exact HP.out)
  subst hx
  rw [nx_ok, HP.out] at h2
  simp only [bd_ok] at h2
  have HT : Hid (F3 w g w1.heap.size w.heap.size (.ok l1) (insC ⟨x, 0, 0, 0, [], 0⟩ none 0) (w1.alloc (.cells #[.int .i64 x, .int .u32 0, .int .u32 0, .int .u64 0, .slice none 0 0, .int .i64 0] 43))) := by
    have hb := (Below.refl w1.heap.size w1).alloc (Nat.le_refl _) (.cells #[.int .i64 x, .int .u32 0, .int .u32 0, .int .u64 0, .slice none 0 0, .int .i64 0] 43)
    have hg := HR0.out.2.2.1
    have hl := (HR0.out.2.1.chg h4 (by omega)).lt
    exact ⟨h2.later hb, Own.new w1 _ _, (HR0.out.2.1.chg h4 (by omega)).later hb, hg, hl, Nat.le_refl _, (HR0.out.2.2.2.trans h4 fun k _ e => e).trans (Chg.alloc (S := fun k => k = g) w1 _) fun k _ e => e⟩
  have hE0 := HT.out.1.own0
  clear h2 h3 h4 HR0 HP
  go_wp2_with (go_at_call 51; refine (refKind_any x _).mono ?_; unfold pr; rw [HK.out]; rintro e w' ⟨rfl, rfl⟩)
  refine (ffail5_any g _ (kd x).2 _ HT.out.1 HKB.out.1 HKB.out.2).mono ?_
  simp only [failS]
  rintro e w2 ⟨⟨u, rfl⟩, h2, hc⟩
  have HT2 := Lib.hid (HT.out.step h2 hc)
  have hgi := HT.out.2.2.2.2.1
  clear h2 hc HT hE0
  have HT := Lib.hid HT2.out
  clear HT2
  obtain ⟨c0, c1, c2, c3, c4, c5, f0, f1, f2, f3, f4, f5⟩ := own_cells6 HT.out.2.1
  obtain ⟨r0, r1, r2, r3, r4, r5, s0, s1, s2, s3, s4, s5⟩ := own_cells6 HT.out.2.2.1
  simp only [List.length_nil] at c4
  generalize w1.heap.size = gi at *
  generalize hgr : w.heap.size = gr at *
  have HGR := Lib.hid hgr
  clear hgr
  have hgg : ¬ gi = gr := by omega
  have hgg2 : ¬ gr = gi := by omega
  go_wp2
  have hW0 := HT.out
  have hW := own_put6 hW0.2.2.1 (.int .i64 x) (.int .u32 0) (.int .u32 0) (.int .u64 0) (.slice none 0 0) (.int .i64 0)
  have hC := chg6 w2 gr #[.int .i64 x, .int .u32 0, .int .u32 0, .int .u64 0, .slice none 0 0, .int .i64 0]
  have hRF := hW0.1.chg hC (fun k hk e => by have := hW0.2.2.2.1; omega)
  have hCH := hW0.2.2.2.2.2.2.trans hC fun k hk e => by have := hW0.2.2.2.2.2.1; omega
  have HZ := Lib.hid (And.intro hRF (And.intro hCH hC))
  clear hRF hCH
  show bodyPost _ _ _ _ _ (put6 w2 gr #[.int .i64 x, .int .u32 0, .int .u32 0, .int .u64 0, .slice none 0 0, .int .i64 0])
  generalize put6 w2 gr #[.int .i64 x, .int .u32 0, .int .u32 0, .int .u64 0, .slice none 0 0, .int .i64 0] = WE at *
  clear c0 c1 c2 c3 c4 c5 f0 f1 f2 f3 f4 f5 r0 r1 r2 r3 r4 r5 s0 s1 s2 s3 s4 s5
  obtain ⟨k0, k1, k2, k3, k4, k5, -, -, -, -, -, -⟩ := own_cells6 hW
  refine bodyPost_ret (by simp [results, Try.results37, go_sem, k0, k1, k2, k3, k4, k5]; try rfl) rfl ?_
  exact ⟨⟨x, 0, 0, 0, [], 0⟩, none, 0, rfl, by rw [HE.out.1]; exact HZ.out.1, LabX.nil _ _ rfl, ok0, fun a l' h => (HE.out.2 a l' h).elim, HZ.out.2.1⟩

theorem kd8 {op : Int} (hk : kd op = (8, 0)) : op = 28 ∨ op = 208 := by
  unfold kd at hk
  split at hk
  · simp at hk
  · split at hk
    · simp at hk
    · split at hk
      · simp at hk
      · split at hk
        · unfold kf at hk; split at hk
          · simp at hk
          · split at hk <;> simp at hk
        · unfold kb at hk
          repeat (split at hk; · first | (simp at hk; done) | assumption)
          simp at hk
theorem kd7 {op : Int} (hk : kd op = (7, 0)) : op = 14 := by
  unfold kd at hk
  split at hk
  · simp at hk
  · split at hk
    · simp at hk
    · split at hk
      · simp at hk
      · split at hk
        · unfold kf at hk; split at hk
          · simp at hk
          · split at hk <;> simp at hk
        · unfold kb at hk
          repeat (split at hk; · first | (simp at hk; done) | assumption)
          simp at hk
theorem rin_any (g : Nat) (s : St) (w : World) (h : RfAt5 w g s) : Calls Try.prog 37 #[.pointer (some ⟨g, 0, none⟩)] w (RInPost g s w) := by
  cases s with
  | error e => exact rinE g _ e w h rfl
  | ok b =>
    cases hp : pOp b with
    | error e => exact rinE g _ e w h (by rw [nx_ok, hp]; rfl)
    | ok r =>
      obtain ⟨op, l1⟩ := r
      by_cases hk : (kd op).2 = 0
      · have hb := kd_imm op
        obtain ⟨imm, hi⟩ : ∃ imm, kd op = (imm, 0) := ⟨(kd op).1, by rw [← hk]⟩
        rw [hi] at hb
        simp only [] at hb
        rcases show imm = 0 ∨ imm = 1 ∨ imm = 2 ∨ imm = 3 ∨ imm = 4 ∨ imm = 5 ∨ imm = 6 ∨ imm = 7 ∨ imm = 8 from by omega with rfl | rfl | rfl | rfl | rfl | rfl | rfl | rfl | rfl
        · exact rin0 g b l1 op w h hp hi
        · by_cases h1 : op = 63
          · subst h1; exact rin1_63 g b l1 w h hp hi
          by_cases h2 : op = 64
          · subst h2; exact rin1_64 g b l1 w h hp hi
          by_cases h3 : op = 64523
          · subst h3; exact rin1_64523 g b l1 w h hp hi
          exact rin1 g b l1 op w h hp hi h1 h2 h3
        · by_cases h1 : op = 64522
          · subst h1; exact rin2_64522 g b l1 w h hp hi
          by_cases h2 : op = 64520
          · subst h2; exact rin2_64520 g b l1 w h hp hi
          exact rin2 g b l1 op w h hp hi h1 h2
        · exact rin3 g b l1 op w h hp hi
        · exact rin4 g b l1 op w h hp hi
        · exact rin5 g b l1 op w h hp hi
        · exact rin6 g b l1 op w h hp hi
        · obtain rfl := kd7 hi
          exact rin7 g b l1 w h hp hi
        · rcases kd8 hi with rfl | rfl
          · exact rin8_28 g b l1 w h hp hi
          · exact rin8_208 g b l1 w h hp hi
      · exact rinN g b l1 op w h hp hk
end Go.Proofs.Ytdbbcbffmbcjiaa
