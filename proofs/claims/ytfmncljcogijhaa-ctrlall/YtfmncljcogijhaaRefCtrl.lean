/- The document's Blocks, Depth, SameBlocks. -/
import Derived.Test.YtfmncljcogijhaaCtrlSrc2
namespace Go.Proofs.Ytfmncljcogijhaa
open Go.RowKit
set_option maxRecDepth 100000
set_option linter.unusedVariables false

theorem meet_open {ops : List Int} {k : Int} {op : Int} (h : op = 2 ∨ op = 3 ∨ op = 4) (s : BS) : meetB ops k op s = some (begB k s) := by unfold meetB; rw [if_pos h]
theorem meet_else0 {ops : List Int} {k : Int} {s : BS} (h : s.o = []) : meetB ops k 5 s = none := by unfold meetB; simp [h]
theorem meet_end0 {ops : List Int} {k : Int} {s : BS} (h : s.o = []) : meetB ops k 11 s = some ⟨s.o, s.f, s.n, s.d, true⟩ := by
  unfold meetB
  rw [if_neg (by omega), if_neg (by omega), if_pos rfl]
  have hgl : s.o.getLast? = none := by rw [h]; rfl
  rw [hgl]
theorem meet_end1 {ops : List Int} {k : Int} {s : BS} {p : List Int} {z : Int} (h : s.o = p ++ [z]) : meetB ops k 11 s = some ⟨p, updE s.f z (elseE s.f z, some k), cntE s.f z s.n, s.d, s.over⟩ := by
  unfold meetB
  rw [if_neg (by omega), if_neg (by omega), if_pos rfl]
  have hgl : s.o.getLast? = some z := by rw [h]; simp
  have hdl : s.o.dropLast = p := by rw [h]; simp
  rw [hgl, hdl]
theorem meet_else1 {ops : List Int} {k : Int} {s : BS} {p : List Int} {z : Int} (h : s.o = p ++ [z]) (h1 : ops.getD z.toNat 0 = 4) (h2 : elseE s.f z = -1) : meetB ops k 5 s = some ⟨s.o, updE s.f z (k, none), cntE s.f z s.n, s.d, s.over⟩ := by
  unfold meetB
  rw [if_neg (by omega), if_pos rfl]
  have hgl : s.o.getLast? = some z := by rw [h]; simp
  rw [hgl]
  exact if_neg (by rintro (h | h); exact h h1; exact h h2)
theorem meet_else2 {ops : List Int} {k : Int} {s : BS} {p : List Int} {z : Int} (h : s.o = p ++ [z]) (h1 : ops.getD z.toNat 0 ≠ 4 ∨ elseE s.f z ≠ -1) : meetB ops k 5 s = none := by
  unfold meetB
  rw [if_neg (by omega), if_pos rfl]
  have hgl : s.o.getLast? = some z := by rw [h]; simp
  rw [hgl]
  exact if_pos h1
theorem meet_skip {ops : List Int} {k op : Int} {s : BS} (h1 : ¬ (op = 2 ∨ op = 3 ∨ op = 4)) (h2 : op ≠ 5) (h3 : op ≠ 11) : meetB ops k op s = some s := by unfold meetB; rw [if_neg h1, if_neg h2, if_neg h3]
theorem fw_get1 {f : Int → Option (Int × Option Int)} {k e : Int} (h : f k = some (e, none)) : (fw (-1) f k).getD (.agg #[.int .i64 0, .int .i64 0]) = .agg #[.int .i64 e, .int .i64 (-1)] ∧ elseE f k = e := by
  unfold fw elseE vw; rw [h]; exact ⟨rfl, rfl⟩

/-- As far as the document went. -/
def RfAtB (w wr : World) (ops : List Int) (k : Nat) (s : BS) (v : Value) : Prop :=
  stB ops k = some s ∧ s.over = false ∧ OwnI wr (w.heap.size + 1) v s.o ∧ MapAt wr w.heap.size .i64 (fw (-1) s.f) s.n ∧ Below w.heap.size w wr
set_option maxHeartbeats 4000000 in
theorem rblocks_any (A : Option Addr) (n c : Nat) (is : List IV) (w : World) (hl : RdN (· < w.heap.size) w (.slice A n c) is) (hnn : n = is.length) (hn : n ≤ 5000) :
    Calls Try.prog 9 #[.slice A n c] w (BlkPost (resB (opsOf is)) w) := by
  have HL := Lib.hid (And.intro hl hnn)
  have hmk := fun W => run_makeMap (P := Try.prog) 31 W
  have hol : (opsOf is).length = n := by rw [opsOf_len, hnn]
  have HO := Lib.hid hol
  clear hl hnn hol
  generalize hops : opsOf is = ops at *
  have HOP := Lib.hid hops
  clear hops
  go_enter Try.func9, Try.ntmps9
  go_wp2
  clear hmk
  go_loopw [5, 6] (fun v i wr => ∃ (k : Nat) (s : BS), k ≤ n ∧ i = .int .i64 k ∧ w.heap.size < wr.heap.size ∧ Hid (RfAtB w wr ops k s v)) (fun _ i _ => n - (intOf i).toNat)
  case atStart => exact ⟨0, bs0, Nat.zero_le _, rfl, by simp, rfl, rfl, OwnI.nil _ _, MapAt.made _ _, (Below.refl _ _).alloc (Nat.le_refl _) _⟩
  case round =>
    obtain ⟨k, s, hk, rfl, hsz, HX⟩ := hrel
    have hinv := stB_inv _ _ _ HX.out.1
    have HI := Lib.hid hinv
    have hk0 : 0 ≤ k := Nat.zero_le _
    have HN : Hid (stB ops (k + 1) = none → k < n → resB ops = none) := fun h1 h2 => resB_none h1 (by rw [HO.out]; omega)
    have HS := Lib.hid (stB_step HX.out.1 HX.out.2.1)
    have hlr : RdN (· < w.heap.size) wr (.slice A n c) is := HL.out.1.chg (S := fun k => w.heap.size ≤ k) ⟨HX.out.2.2.2.2.os, HX.out.2.2.2.2.tape, HX.out.2.2.2.2.output, HX.out.2.2.2.2.size, fun k hk hn => HX.out.2.2.2.2.block k (by omega)⟩ (fun k hk hx => by omega)
    have HLR := Lib.hid hlr
    clear hlr
    by_cases hlt : k < n
    · have hlt2 : (k : Int) < n := by omega
      have hlt3 : (k : Int) < is.length := by rw [← HL.out.2]; omega
      obtain ⟨b2, o2, rfl, cop, -⟩ := op_at HLR.out (z := (k : Int)) (by omega) hlt3
      rw [Int.toNat_natCast] at cop
      change wr.cell? ⟨b2, o2 + k * 6, none⟩ = some (.int .i64 ((opsOf is).getD k 0)) at cop
      rw [HOP.out] at cop
      clear hlt3
      generalize hop : ops.getD k 0 = op at *
      clear hop hinv
      obtain ⟨h1, h2, hov, hm, hb⟩ := HX.out
      obtain ⟨Ao, ko, rfl, hk1, hk2, -⟩ := hov.rdI
      by_cases h234 : op = 2 ∨ op = 3 ∨ op = 4
      · have HS2 := Lib.hid (HS.out.trans (meet_open h234 s))
        have HWF := Lib.hid (i64_wf (z := (k : Int)) (by omega) (by omega))
        have HBD : Hid (s.o.length ≤ 5000 ∧ s.n ≤ 5000) := by have := HI.out.d0; have := HI.out.d1; have := HI.out.n; constructor <;> omega
        have HV := Lib.hid (And.intro hov hm)
        clear HN HS h1 h2 hov hm hk1 hk2
        have HB := Lib.hid hb
        clear hb
        generalize hq : s.o.length = q at *
        have HQ := Lib.hid hq
        clear hq
        rcases h234 with rfl | rfl | rfl
        all_goals
          go_wp2_with (first
          | (at_builtin; refine wpList_appI1 rfl (.tmp 31) (.tmp 33) rfl (w.heap.size + 1) (.slice Ao q ko) s.o rfl HV.out.1 _ rfl (by have := HBD.out; have := HQ.out; omega) (by omega) ?_; intro v1 w3 hv1 hw1; have hm3 := HV.out.2.chg hw1.1 (fun e => by have := owns_ge HV.out.1 e; omega); have hb3 := HB.out.trans (below_chg hw1.1 (B := w.heap.size) (by omega) fun k e => by have := owns_ge HV.out.1 e; omega); have hs3 := hw1.1.size; obtain ⟨A3, k3, rfl, -, -, -⟩ := hv1.rdI; have H3 := Lib.hid (And.intro hv1 (And.intro hm3 (And.intro hb3 hs3))); clear hv1 hw1 hm3 hb3 hs3)
          | (at_mapUpdate; refine wpList_store rfl (.tmp 35) (.tmp 36) (.tmp 37) _ _ _ rfl .i64 under_int under_bmap w.heap.size s.n (fw (-1) s.f) rfl H3.out.2.1 (by have := HBD.out.2; simp only [maxLen]; omega) (k : Int) rfl HWF.out (vw (-1) (-1, none)) rfl ?_; intro w4 hm4 hc4 hs4; have H4 := Lib.hid (And.intro hm4 (And.intro hc4 hs4)); clear hm4 hc4 hs4))
          refine ⟨⟨k + 1, _, by omega, by go_num, ?_, HS2.out, ?_, ?_, ?_, ?_⟩, ?_⟩
          · have := H3.out.2.2.2; have := H4.out.2.2; omega
          · exact HX.out.2.1
          · have hh := H3.out.1.chg H4.out.2.1 fun j hj e => by have := owns_ge H3.out.1 hj; omega
            simp only [List.length_append, List.length_singleton] at hh
            exact hh
          · have := H4.out.1; rw [upd_fw, updN_fw] at this; exact this
          · exact H3.out.2.2.1.trans (below_chg H4.out.2.1 (B := w.heap.size) (by have := H3.out.2.2.2; omega) fun j e => by omega)
          · simp [intOf]; omega
      by_cases h5 : op = 5
      · subst h5
        rcases last_of s.o with he | ⟨p, z, he⟩
        · have HR := Lib.hid (HN.out (HS.out.trans (meet_else0 he)) hlt)
          have hl0 : s.o.length = 0 := by rw [he]; rfl
          have HB := Lib.hid hb
          clear HN HS h1 h2 hov hm hk1 hk2 hb he h234
          rw [hl0]
          clear hl0
          go_wp2
          go_returns
          rw [HR.out]
          exact ⟨_, rfl, rfl, HB.out⟩
        · obtain ⟨z0, z1, e, hfz, he1⟩ := HI.out.o z (by rw [he]; simp)
          obtain ⟨j, rfl⟩ := Int.eq_ofNat_of_zero_le z0
          obtain ⟨bo, k1, hov2, hgb, hbw, -, -, hcell⟩ := hov.spot (by rw [he]; simp)
          obtain ⟨cz, fz⟩ := hcell p.length (by rw [he]; simp)
          have hlen : s.o.length = p.length + 1 := by rw [he]; simp
          rw [he, last_get] at cz
          injection hov2 with e1 _ e2
          subst e1; subst e2
          have hpl : p.length < 5000 := by have := HI.out.d0; have := HI.out.d1; omega
          have hidx : wrap64 (((p.length + 1 : Nat) : Int) - 1) = p.length := by unfold wrap64; omega
          have hne : (((p.length + 1 : Nat) : Int) == 0) = false := by simp; omega
          obtain ⟨b3, o3, e3, cop2, -⟩ := op_at HLR.out (z := (j : Int)) (by omega) (by rw [← HL.out.2]; omega)
          rw [Int.toNat_natCast] at cop2
          injection e3 with e3; injection e3 with e3 e4
          subst e3; subst e4
          change wr.cell? ⟨b2, o2 + j * 6, none⟩ = some (.int .i64 ((opsOf is).getD j 0)) at cop2
          rw [HOP.out] at cop2
          have hb2 := World.block_lt_of_cell? wr _ cop
          have hbo := hbw
          have hwf := i64_wf (z := (j : Int)) (by omega) (by omega)
          have hlook := hm.look under_int under_bmap (zero_block _) j hwf false
          obtain ⟨hg1, hg2⟩ := fw_get1 hfz
          rw [hg1] at hlook
          simp only [Bool.false_eq_true, if_false] at hlook
          have HB := Lib.hid hb
          have HV := Lib.hid (And.intro hov hm)
          have HE := Lib.hid (And.intro he (And.intro hg2 hwf))
          have hj2 : (0 : Int) ≤ j := by omega
          have hjn : (j : Int) < n := by omega
          have hkn : k ≤ 5000 := by omega
          clear h1 h2 hov hm hk1 hk2 hb h234 hcell fz he hgb z1 hfz hg1 hg2 hwf
          rw [hlen] at HV ⊢
          generalize hop4 : ops.getD j 0 = op4 at *
          generalize hq : p.length = q at *
          clear hlen
          by_cases h4 : op4 = 4
          · subst h4
            by_cases hee : 0 ≤ e
            · have HR := Lib.hid (HN.out (HS.out.trans (meet_else2 HE.out.1 (.inr (by rw [HE.out.2.1]; omega)))) hlt)
              clear HN HS hop4
              go_wp2
              go_returns
              rw [HR.out]
              exact ⟨_, rfl, rfl, HB.out.trans (((Below.refl _ _).alloc (Nat.le_refl _) _).mono HB.out.size)⟩
            · obtain rfl : e = -1 := by omega
              have HS2 := Lib.hid (HS.out.trans (meet_else1 HE.out.1 (by rw [Int.toNat_natCast]; exact hop4) HE.out.2.1))
              clear HN HS hop4
              go_wp2_with (at_mapUpdate; refine wpList_store rfl (.tmp 66) (.tmp 67) (.tmp 68) _ _ _ rfl .i64 under_int under_bmap w.heap.size s.n (fw (-1) s.f) rfl (HV.out.2.chg (Chg.alloc (S := fun _ => False) wr _) id) (by have := HI.out.n; simp only [maxLen]; omega) (j : Int) rfl HE.out.2.2 (vw (-1) (k, none)) rfl ?_; intro w4 hm4 hc4 hs4; have hs4 : wr.heap.size ≤ w4.heap.size := Nat.le_trans (Chg.alloc (S := fun _ => False) wr _).size (Nat.le_of_eq hs4.symm); have H4 := Lib.hid (And.intro hm4 (And.intro hc4 hs4)); clear hm4 hc4 hs4)
              have hca : Chg (fun i => i = w.heap.size ∨ wr.heap.size ≤ i) wr w4 := ((Chg.alloc (S := fun _ => False) wr (.cells #[.int .i64 k, .int .i64 (-1)] 53)).mono fun i _ e => e.elim).trans (H4.out.2.1.mono fun i _ e => .inl e) fun i _ e => e
              refine ⟨⟨k + 1, _, by omega, by go_num, by (have := H4.out.2.2; omega), HS2.out, HX.out.2.1, ?_, ?_, ?_⟩, ?_⟩
              · exact HV.out.1.chg hca fun i hi e => by have := owns_ge HV.out.1 hi; have := owns_lt HV.out.1 hi; omega
              · have := H4.out.1; rw [upd_fw, updN_fw] at this; exact this
              · exact HB.out.trans (below_chg hca (B := w.heap.size) (by omega) fun i e => by omega)
              · simp [intOf]; omega
          · have HR := Lib.hid (HN.out (HS.out.trans (meet_else2 HE.out.1 (.inl (by rw [Int.toNat_natCast, hop4]; exact h4)))) hlt)
            have h4b : (op4 != 4) = true := by simpa using h4
            clear HN HS hop4 h4
            go_wp2
            go_returns
            rw [HR.out]
            exact ⟨_, rfl, rfl, HB.out.trans (((Below.refl _ _).alloc (Nat.le_refl _) _).mono HB.out.size)⟩
      by_cases h11 : op = 11
      · subst h11
        rcases last_of s.o with he | ⟨p, z, he⟩
        · have HS2 := Lib.hid (HS.out.trans (meet_end0 he))
          have hl0 : s.o.length = 0 := by rw [he]; rfl
          have HB := Lib.hid hb
          have HM := Lib.hid hm
          have hwk : wrap64 ((n : Int) - 1) = (n : Int) - 1 := by unfold wrap64; omega
          clear HS h1 h2 hov hm hk1 hk2 hb he h234
          rw [hl0]
          clear hl0
          by_cases hkn : k + 1 = n
          · have hne : ((k : Int) != (n : Int) - 1) = false := by simp; omega
            have HR : Hid (resB ops = some ⟨s.o, s.f, s.n, s.d, true⟩) := by unfold Hid resB; rw [HO.out, ← hkn, HS2.out]; rfl
            have HF := Lib.hid (fw_closed HR.out (-1))
            clear hkn HN
            go_wp2
            go_returns
            rw [HR.out]
            refine ⟨_, rfl, ⟨_, rfl, Nat.le_refl _, ?_⟩, HB.out⟩
            rw [← HF.out]
            exact HM.out
          · have hne : ((k : Int) != (n : Int) - 1) = true := by simp; omega
            have HR : Hid (resB ops = none) := resB_none (j := k + 1 + 1) (stB_over HS2.out rfl) (by rw [HO.out]; omega)
            clear hkn HN
            go_wp2
            go_returns
            rw [HR.out]
            exact ⟨_, rfl, rfl, HB.out⟩
        · obtain ⟨z0, z1, e, hfz, he1⟩ := HI.out.o z (by rw [he]; simp)
          obtain ⟨j, rfl⟩ := Int.eq_ofNat_of_zero_le z0
          obtain ⟨bo, k1, hov2, hgb, hbw, -, -, hcell⟩ := hov.spot (by rw [he]; simp)
          obtain ⟨cz, fz⟩ := hcell p.length (by rw [he]; simp)
          have hlen : s.o.length = p.length + 1 := by rw [he]; simp
          rw [he, last_get] at cz
          injection hov2 with e1 _ e2
          subst e1; subst e2
          have hpl : p.length < 5000 := by have := HI.out.d0; have := HI.out.d1; omega
          have hidx : wrap64 (((p.length + 1 : Nat) : Int) - 1) = p.length := by unfold wrap64; omega
          have hcut := cutI_h bo (p.length + 1) ko p.length p.length rfl (by omega) (by omega)
          have hne : (((p.length + 1 : Nat) : Int) == 0) = false := by simp; omega
          have hb2 := World.block_lt_of_cell? wr _ cop
          have hbo := hbw
          have hwf := i64_wf (z := (j : Int)) (by omega) (by omega)
          have hlook := hm.look under_int under_bmap (zero_block _) j hwf false
          obtain ⟨hg1, hg2⟩ := fw_get1 hfz
          rw [hg1] at hlook
          simp only [Bool.false_eq_true, if_false] at hlook
          have HB := Lib.hid hb
          have HV := Lib.hid (And.intro hov hm)
          have HE := Lib.hid (And.intro he (And.intro hg2 hwf))
          have hj2 : (0 : Int) ≤ j := by omega
          have hjn : (j : Int) < n := by omega
          have hkn : k ≤ 5000 := by omega
          clear h1 h2 hov hm hk1 hk2 hb h234 hcell fz he hgb z1 hfz hg1 hg2 hwf
          rw [hlen] at HV ⊢
          have HS2 := Lib.hid (HS.out.trans (meet_end1 HE.out.1))
          generalize hq : p.length = q at *
          have HQ := Lib.hid hq
          clear hlen HN HS hq
          go_wp2_with (at_mapUpdate; refine wpList_store rfl (.tmp 92) (.tmp 93) (.tmp 94) _ _ _ rfl .i64 under_int under_bmap w.heap.size s.n (fw (-1) s.f) rfl (HV.out.2.chg (Chg.alloc (S := fun _ => False) wr _) id) (by have := HI.out.n; simp only [maxLen]; omega) (j : Int) rfl HE.out.2.2 (vw (-1) (e, some (k : Int))) rfl ?_; intro w4 hm4 hc4 hs4; have hs4 : wr.heap.size ≤ w4.heap.size := Nat.le_trans (Chg.alloc (S := fun _ => False) wr _).size (Nat.le_of_eq hs4.symm); have H4 := Lib.hid (And.intro hm4 (And.intro hc4 hs4)); clear hm4 hc4 hs4)
          have hca : Chg (fun i => i = w.heap.size ∨ wr.heap.size ≤ i) wr w4 := ((Chg.alloc (S := fun _ => False) wr (.cells #[.int .i64 e, .int .i64 k] 53)).mono fun i _ e => e.elim).trans (H4.out.2.1.mono fun i _ e => .inl e) fun i _ e => e
          refine ⟨⟨k + 1, _, by omega, by go_num, by (have := H4.out.2.2; omega), HS2.out, HX.out.2.1, ?_, ?_, ?_⟩, ?_⟩
          · have h9 := HV.out.1
            rw [HE.out.1, ← HQ.out] at h9
            have h8 := OwnI.pop (l := p) (by simpa using h9)
            rw [HQ.out] at h8
            exact h8.chg hca fun i hi e => by have := owns_ge h8 hi; have := owns_lt h8 hi; omega
          · have := H4.out.1; rw [upd_fw, updN_fw] at this; rw [HE.out.2.1]; exact this
          · exact HB.out.trans (below_chg hca (B := w.heap.size) (by omega) fun i e => by omega)
          · simp [intOf]; omega
      · have HS2 := Lib.hid (HS.out.trans (meet_skip h234 h5 h11))
        have HV := Lib.hid (And.intro hov (And.intro hm hb))
        have e5 : (op == 5) = false := by simpa using h5
        have e11 : (op == 11) = false := by simpa using h11
        clear HN HS h1 h2 hov hm hk1 hk2 hb h5 h11
        generalize s.o.length = q at *
        by_cases h2 : (2 : Int) ≤ op
        · have h4 : ¬ op ≤ 4 := by omega
          clear h234
          go_wp2
          refine ⟨⟨k + 1, _, by omega, by go_num, hsz, HS2.out, HX.out.2.1, HV.out.1, HV.out.2.1, HV.out.2.2⟩, ?_⟩
          simp [intOf]; omega
        · clear h234
          go_wp2
          refine ⟨⟨k + 1, _, by omega, by go_num, hsz, HS2.out, HX.out.2.1, HV.out.1, HV.out.2.1, HV.out.2.2⟩, ?_⟩
          simp [intOf]; omega
    · obtain rfl : k = n := by omega
      have HR : Hid (resB ops = none) := by unfold Hid resB; rw [HO.out, HX.out.1]; simp only; rw [HX.out.2.1]; rfl
      have HB := Lib.hid HX.out.2.2.2.2
      clear HN HS hinv
      go_wp2
      go_returns
      rw [HR.out]
      exact ⟨_, rfl, rfl, HB.out⟩
end Go.Proofs.Ytfmncljcogijhaa
